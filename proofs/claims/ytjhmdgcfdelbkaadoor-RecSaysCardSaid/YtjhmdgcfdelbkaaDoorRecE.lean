/- Layer 5's 'awake'; fixed calls of package rec. -/
import Derived.Test.YtjhmdgcfdelbkaaDoorRecD
import Derived.Lib.SlBytesConst
import Derived.Lib.SmallJoins
set_option linter.unusedVariables false
namespace Go.Proofs.YtjhmdgcfdelbkaaDoor
open Go.RowKit

theorem own_rd {w : World} {B g cap : Nat} {l : List UInt8} (h : w.ownsRow B 5 1 (.slice (some ⟨g, 0, none⟩) l.length cap) l.length (Lib.byteCells l)) : Rd w (some ⟨g, 0, none⟩) l ∧ l.length ≤ cap := by
  obtain ⟨A9, c9, h9, h8, r9⟩ := Bts.of_own h
  injection h9 with h9 _ h7
  subst h9 h7
  exact ⟨r9, h8⟩
theorem k_put1 (Ab : Option Addr) (cb : Nat) (w : World) (hrb : Rd w Ab [97, 98]) (ht : Hid (Steps w)) (hp : 0 < w.heap.size) :
    Calls Tryd.prog 5 #[.slice none 0 0, .agg #[.int .i64 1, .slice Ab 2 cb]] w fun e w' => ∃ g cap, e = .returned (.tuple #[.slice (some ⟨g, 0, none⟩) 18 cap, .int .i64 0]) ∧ Rd w' (some ⟨g, 0, none⟩) (putR 1 [97, 98]) ∧ 18 ≤ cap ∧ Below w.heap.size w w' := by
  refine (put_any none [] 0 1 Ab [97, 98] cb w Rd.nil hrb (by decide) (by decide) (by decide) ht.out hp).mono ?_
  rintro e w' ⟨g, cap, rfl, hown, hb⟩
  have h := own_rd hown
  have e1 : (([] : List UInt8) ++ putR 1 [97, 98]).length = 18 := by decide +kernel
  rw [e1] at h ⊢
  exact ⟨g, cap, rfl, h.1, h.2, hb⟩
theorem k_get1 (g cap : Nat) (w : World) (hr : Rd w (some ⟨g, 0, none⟩) (putR 1 [97, 98])) (hc : 18 ≤ cap) (ht : Hid (Steps w)) (hp : 0 < w.heap.size) :
    Calls Tryd.prog 7 #[.slice (some ⟨g, 0, none⟩) 18 cap] w fun e w' => ∃ A cap', e = .returned (.tuple #[.agg #[.int .i64 1, .slice A 2 cap'], .int .i64 18, .int .i64 0]) ∧ Rd w' A [97, 98] ∧ Below w.heap.size w w' := by
  have e1 : (putR 1 [97, 98]).length = 18 := by decide +kernel
  have h := get_whole g 0 (putR 1 [97, 98]) cap 2 1 w hr (by rw [e1]; exact hc) (by show _ = _; decide +kernel) (by decide) (by rw [e1]; decide) (by rw [e1]; decide) (by show _ = _; decide +kernel) (by decide) (by decide) ht.out hp (crcAdd 0 ((putR 1 [97, 98]).take 14)) (crcAdd 0 ((putR 1 [97, 98]).take 14)) 14 18 ⟨rfl, rfl⟩ rfl (by show _ = _; decide +kernel)
  rw [e1] at h
  refine h.mono ?_
  rintro e w' ⟨_, h2, hb⟩
  obtain ⟨A, cap', rfl, hr'⟩ := h2 rfl
  have e2 : ((putR 1 [97, 98]).drop 12).take 2 = [97, 98] := by decide +kernel
  rw [e2] at hr'
  exact ⟨A, cap', rfl, hr', hb⟩
theorem row2 (w : World) : Rd (w.alloc (.cells #[.int .u8 97, .int .u8 98] 5 (2, 3))) (some ⟨w.heap.size, 0, none⟩) [97, 98] := Rd.of_bts (e := 5) ⟨#[.int .u8 97, .int .u8 98], (2, 3), by simp [World.alloc, -World.alloc_eq], .inl (Nat.le_refl _), fun j hj => by
  have : j < 2 := hj
  match j, this with
  | 0, _ => rfl
  | 1, _ => rfl⟩
theorem rd_back {w : World} {A : Option Addr} {l : List UInt8} (h : Rd w A l) (h0 : 0 < l.length) (cap : Nat) :
    (convert 22 9 (.slice A l.length cap)).run Tryd.prog w = .ok (.string ⟨l.toArray⟩) w := by
  obtain ⟨b, o, rfl, _, hc⟩ := h h0
  refine run_convert_bytes_back w 22 9 5 ⟨b, o, none⟩ cap l Tryd.underlying22 Tryd.underlying5 Tryd.underlying9 fun j hj => ?_
  have e : (⟨b, o, none⟩ : Addr).add j = ⟨b, o + j, none⟩ := by unfold Addr.add; split <;> simp_all
  rw [e]
  exact hc j hj

set_option maxRecDepth 100000 in
set_option maxHeartbeats 1000000 in
theorem rec_awake (w : World) (ht : Steps w) (hp : 0 < w.heap.size) : Calls Tryd.prog 4 #[] w fun e w' => e = .returned (.bool true) ∧ Below w.heap.size w w' := by
  have kc := fun (w : World) (C : Array Value) (n c g : Nat) (hg : g = w.heap.size) => Joins.run_convert_bytes_const_at (P := Tryd.prog) w 22 5 C n c g hg Tryd.underlying22 Tryd.underlying5
  have HT := Lib.hid ht
  clear ht
  go_enter Tryd.func4, Tryd.ntmps4
  have r2 := row2 w
  have b0 := (Below.refl w.heap.size w).alloc (Nat.le_refl _) (.cells #[.int .u8 97, .int .u8 98] 5 (2, 3))
  have h1 := Lib.hid (k_put1 _ 2 _ r2 (Lib.hid (HT.out.below b0 hp)) (Nat.lt_of_lt_of_le hp b0.size))
  go_wp2_with fail
  refine h1.out.mono ?_
  rintro e w1 ⟨g, cap, rfl, hP, hcap, c1⟩
  have b1 := b0.trans (c1.mono b0.size)
  have h2 := Lib.hid (k_get1 g cap w1 hP hcap (Lib.hid (HT.out.below b1 hp)) (Nat.lt_of_lt_of_le hp b1.size))
  clear hP h1 r2
  go_wp2_with fail
  refine h2.out.mono ?_
  rintro e w2 ⟨A, cap', rfl, hA, c2⟩
  have b2 := b1.trans (c2.mono b1.size)
  have b3 := b2.alloc b2.size (.cells #[.int .i64 1, .slice A 2 cap'] 24)
  have hbk := rd_back (hA.below ((Below.refl w2.heap.size w2).alloc (Nat.le_refl _) (.cells #[.int .i64 1, .slice A 2 cap'] 24))) (by decide) cap'
  have hbk : (convert 22 9 (.slice A 2 cap')).run Tryd.prog (w2.alloc (.cells #[.int .i64 1, .slice A 2 cap'] 24)) = .ok (.string ⟨#[97, 98]⟩) (w2.alloc (.cells #[.int .i64 1, .slice A 2 cap'] 24)) := hbk
  clear hA h2
  go_wp2
  go_ret
  exact ⟨rfl, b3⟩
end Go.Proofs.YtjhmdgcfdelbkaaDoor
