/- The walk of the law RecKnown. -/
import Derived.Test.YtpmipnhfbmbjeaaDoorRecE
set_option linter.unusedVariables false
namespace Go.Proofs.YtpmipnhfbmbjeaaDoor
open Go.RowKit

theorem rd_new (w : World) (l : List UInt8) (C : Array Value) (hC : ∀ j (h : j < l.length), C[j]? = some (.int .u8 (l[j].toNat : Int))) : Rd (w.alloc (.cells C 5)) (some ⟨w.heap.size, 0, none⟩) l :=
  Rd.of_bts (e := 5) ⟨C, (0, 0), by simp [World.alloc, -World.alloc_eq], .inr rfl, hC⟩
theorem row1 (w : World) : Rd (w.alloc (.cells #[.int .u8 120] 5 (1, 2))) (some ⟨w.heap.size, 0, none⟩) [120] := Rd.of_bts (e := 5) ⟨#[.int .u8 120], (1, 2), by simp [World.alloc, -World.alloc_eq], .inl (Nat.le_refl _), fun j hj => by
  have : j < 1 := hj
  match j, this with
  | 0, _ => rfl⟩
theorem k_put7 (A : Option Addr) (c : Nat) (w : World) (hr : Rd w A [120]) (ht : Hid (Steps w)) (hp : 0 < w.heap.size) :
    Calls Tryd.prog 8 #[.slice A 1 c, .agg #[.int .i64 7, .slice none 0 0]] w fun e w' => ∃ g cap, e = .returned (.tuple #[.slice (some ⟨g, 0, none⟩) 17 cap, .int .i64 0]) ∧ Rd w' (some ⟨g, 0, none⟩) (120 :: putR 7 []) ∧ 17 ≤ cap ∧ Below w.heap.size w w' := by
  refine (put_any A [120] c 7 none [] 0 w hr Rd.nil (by decide) (by decide) (by decide) ht.out hp).mono ?_
  rintro e w' ⟨g, cap, rfl, hown, hb⟩
  have h := own_rd hown
  have e1 : ([120] ++ putR 7 []).length = 17 := by decide +kernel
  rw [e1] at h ⊢
  exact ⟨g, cap, rfl, h.1, h.2, hb⟩
theorem k_put0 (w : World) : Calls Tryd.prog 8 #[.slice none 0 0, .agg #[.int .i64 0, .slice none 0 0]] w fun e w' => e = .returned (.tuple #[.slice none 0 0, .int .i64 1]) ∧ Below w.heap.size w w' :=
  put_bad none [] 0 0 none 0 0 w (by decide)
theorem k_get0 (w : World) : Calls Tryd.prog 9 #[.slice none 0 0] w fun e w' => e = .returned (.tuple #[.agg #[.int .i64 0, .slice none 0 0], .int .i64 0, .int .i64 8]) ∧ Below w.heap.size w w' :=
  get_more1 none [] 0 w (by decide)
theorem k_getA (g : Nat) (w : World) (hr : Rd w (some ⟨g, 0, none⟩) [255, 0, 0, 0]) : Calls Tryd.prog 9 #[.slice (some ⟨g, 0, none⟩) 4 4] w fun e w' => e = .returned (.tuple #[.agg #[.int .i64 0, .slice none 0 0], .int .i64 0, .int .i64 3]) ∧ Below w.heap.size w w' :=
  get_form1 g 0 [255, 0, 0, 0] 4 w hr (by decide) (by decide) (by decide)
theorem k_getB (g : Nat) (w : World) (hr : Rd w (some ⟨g, 0, none⟩) [0, 0, 0, 0]) : Calls Tryd.prog 9 #[.slice (some ⟨g, 0, none⟩) 4 4] w fun e w' => e = .returned (.tuple #[.agg #[.int .i64 0, .slice none 0 0], .int .i64 0, .int .i64 8]) ∧ Below w.heap.size w w' :=
  get_more2 g 0 [0, 0, 0, 0] 4 w hr (by decide) (by decide) (by decide) (by decide)
def Y7 : List UInt8 := (putR 7 []).set 15 ((putR 7 []).getD 15 0 + 1)
theorem k_getC (g c : Nat) (w : World) (hr : Rd w (some ⟨g, 0, none⟩) Y7) (hc : 16 ≤ c) (ht : Hid (Steps w)) (hp : 0 < w.heap.size) : Calls Tryd.prog 9 #[.slice (some ⟨g, 0, none⟩) 16 c] w fun e w' => e = .returned (.tuple #[.agg #[.int .i64 0, .slice none 0 0], .int .i64 0, .int .i64 3]) ∧ Below w.heap.size w w' := by
  have e1 : Y7.length = 16 := by decide +kernel
  have h := get_whole g 0 Y7 c 0 7 w hr (by rw [e1]; exact hc) (by show _ = _; decide +kernel) (by decide) (by rw [e1]; decide) (by rw [e1]; decide) (by show _ = _; decide +kernel) (by decide) (by decide) ht.out hp (crcAdd 0 (Y7.take 12)) (beN ((Y7.drop 12).take 4)) 12 16 ⟨rfl, rfl⟩ rfl rfl
  rw [e1] at h
  refine h.mono ?_
  rintro e w' ⟨h1, _, hb⟩
  exact ⟨h1 (by decide +kernel), hb⟩
theorem k_get7 (g o c : Nat) (w : World) (hr : Rd w (some ⟨g, o, none⟩) (putR 7 [])) (hc : 16 ≤ c) (ht : Hid (Steps w)) (hp : 0 < w.heap.size) :
    Calls Tryd.prog 9 #[.slice (some ⟨g, o, none⟩) 16 c] w fun e w' => ∃ A cap', e = .returned (.tuple #[.agg #[.int .i64 7, .slice A 0 cap'], .int .i64 16, .int .i64 0]) ∧ Below w.heap.size w w' := by
  have e1 : (putR 7 []).length = 16 := by decide +kernel
  have h := get_whole g o (putR 7 []) c 0 7 w hr (by rw [e1]; exact hc) (by show _ = _; decide +kernel) (by decide) (by rw [e1]; decide) (by rw [e1]; decide) (by show _ = _; decide +kernel) (by decide) (by decide) ht.out hp (crcAdd 0 ((putR 7 []).take 12)) (crcAdd 0 ((putR 7 []).take 12)) 12 16 ⟨rfl, rfl⟩ rfl (by show _ = _; decide +kernel)
  rw [e1] at h
  refine h.mono ?_
  rintro e w' ⟨_, h2, hb⟩
  obtain ⟨A, cap', rfl, _⟩ := h2 rfl
  exact ⟨A, cap', rfl, hb⟩
theorem k_size1 (A : Option Addr) (c : Nat) (w : World) : Calls Tryd.prog 11 #[.agg #[.int .i64 1, .slice A 3 c]] w fun e w' => e = .returned (.int .i64 19) ∧ Below w.heap.size w w' := size_any 1 A 3 c w
theorem k_size0 (w : World) : Calls Tryd.prog 11 #[.agg #[.int .i64 0, .slice none 0 0]] w fun e w' => e = .returned (.int .i64 0) ∧ Below w.heap.size w w' := size_any 0 none 0 0 w

set_option maxRecDepth 100000 in
set_option maxHeartbeats 1000000 in
theorem k_scan (g c : Nat) (w : World) (hr : Rd w (some ⟨g, 1, none⟩) (putR 7 [])) (hc : 16 ≤ c) (ht : Hid (Steps w)) (hp : 0 < w.heap.size) :
    Calls Tryd.prog 10 #[.slice (some ⟨g, 1, none⟩) 16 c, .int .i64 6] w fun e w' => e = .returned (.tuple #[.slice none 0 0, .int .i64 0]) ∧ Below w.heap.size w w' := by
  have h7 := Lib.hid (k_get7 g 1 c w hr hc ht hp)
  have o1 : (16 : Int) ≤ (c : Int) := by omega
  have o2 : ¬ c = 0 := by omega
  go_enter Tryd.func10, Tryd.ntmps10
  go_wp2
  go_loopw [4, 5, 6] (fun l n want wr => l = .slice none 0 0 ∧ n = .int .i64 0 ∧ want = .int .i64 6 ∧ wr = w) (fun _ _ _ _ => 0)
  case atStart => exact ⟨rfl, rfl, rfl, rfl⟩
  case round =>
    obtain ⟨rfl, rfl, rfl, rfl⟩ := hrel
    go_wp2_with fail
    refine h7.out.mono ?_
    rintro e w2 ⟨A, cap', rfl, c2⟩
    have b3 := c2.alloc c2.size (.cells #[.int .i64 7, .slice A 0 cap'] 28)
    go_wp2
    go_ret2
    exact ⟨rfl, b3⟩
end Go.Proofs.YtpmipnhfbmbjeaaDoor
