/- Package rec: Get, every way in one contract. -/
import Derived.Test.YtjhmdgcfdelbkaaDoorRecN
import Derived.Test.YtjhmdgcfdelbkaaDoorRow
import Derived.Deep.RegionHeld3
set_option linter.unusedVariables false
set_option linter.unusedSimpArgs false
namespace Go.Proofs.YtjhmdgcfdelbkaaDoor
open Go.RowKit

theorem TB.setCell {w : World} {A : Option Addr} {l : List UInt8} (h : TB w A l) (p : Addr) (v : Value) (hne : ∀ a', A = some a' → a'.block ≠ p.block) : TB (w.setCell p v) A l := fun hp => by
  obtain ⟨b, o, cur, fz, hA, hh, hc⟩ := h hp
  refine ⟨b, o, cur, fz, hA, ?_, hc⟩
  have hb : ¬ p.block = b := fun e => hne _ hA e.symm
  simp only [World.setCell, Array.getElem?_modify, hb, if_false]
  exact hh
theorem clone_tb (a : Addr) (l : List UInt8) (c : Nat) (w : World) (h : Rd w (some a) l) (hl : l.length ≤ 140737488355328) :
    Calls Tryd.prog 18 #[.slice (some a) l.length c] w fun e w' => ∃ A cap, e = .returned (.slice A l.length cap) ∧ l.length ≤ cap ∧ TB w' A l ∧ Below w.heap.size w w' ∧ (∀ a', A = some a' → w.heap.size ≤ a'.block) := by
  refine (Tryd.bytes_Clone_at a l.length c (l.map fun c => (c.toNat : Int)) w (by simp) hl (fun i hi => ?_)).mono ?_
  · obtain ⟨b, o, hA, _, hc⟩ := h (by omega)
    injection hA with hA
    subst hA
    rw [addp, hc i hi]
    simp [List.getD, hi]
  · rintro e w' ⟨v', rfl, hown, hne, hb⟩
    have e : (l.map fun c => (c.toNat : Int)).map (Value.int .u8) = Lib.byteCells l := by simp [Lib.byteCells]
    rw [e] at hown
    obtain ⟨A, cap, rfl, hcap, _, hr⟩ := TB.of_own hown
    refine ⟨A, cap, rfl, hcap, hr, hb, fun a' ha => ?_⟩
    subst ha
    rcases hown.2 with ⟨h0, _⟩ | ⟨g', cap', cur, hv, hg, _⟩
    · cases h0
    · injection hv with h1
      injection h1 with h1
      subst h1
      exact hg
set_option maxRecDepth 100000 in
set_option maxHeartbeats 4000000 in
theorem get_wholeT (g o : Nat) (l : List UInt8) (c sz x : Nat) (w : World) (hr : Rd w (some ⟨g, o, none⟩) l) (hc : l.length ≤ c) (hsz : Hid (beN (l.take 4) = sz)) (hsm : sz ≤ 200000) (hsh : 16 + sz ≤ l.length) (hll : l.length ≤ 1000000) (hx : Hid (beN ((l.drop 4).take 8) = x)) (hx1 : 1 ≤ x) (hx2 : x < 9223372036854775808) (ht : Steps w) (hp : 0 < w.heap.size)
    (y1 y2 E F : Nat) (HE : Hid (E = 12 + sz ∧ F = E + 4)) (hy1 : Hid (crcAdd 0 (l.take E) = y1)) (hy2 : Hid (beN ((l.drop E).take 4) = y2)) :
    Calls Tryd.prog 7 #[.slice (some ⟨g, o, none⟩) l.length c] w fun e w' => (y1 ≠ y2 → e = .returned (.tuple #[noRec, .int .i64 0, .int .i64 3])) ∧ (y1 = y2 → ∃ g' cap, e = .returned (.tuple #[.agg #[.int .i64 (x : Int), .slice g' sz cap], .int .i64 ((16 + sz : Nat) : Int), .int .i64 0]) ∧ sz ≤ cap ∧ TB w' g' ((l.drop 12).take sz)) ∧ Below w.heap.size w w' := by
  have HT := Lib.hid ht
  clear ht
  have h4' : ¬ (l.length : Int) < 4 := by omega
  have b := (Below.refl w.heap.size w).alloc (Nat.le_refl _) (.cells #[.int .i64 0, .slice none 0 0] 24)
  have s1 := b.size
  have hrb := hr.below b
  have hn := number_any _ (l.take 4) c _ (Rd.take hrb 4) (by rw [List.length_take]; omega)
  rw [List.length_take, Nat.min_eq_left (by omega), hsz.out] at hn
  have HN := Lib.hid hn
  have hn2 := number_any _ ((l.drop 4).take 8) (c - 4) _ (Rd.win hrb 4 8) (by rw [List.length_take]; omega)
  rw [List.length_take, List.length_drop, Nat.min_eq_left (by omega), hx.out] at hn2
  have HN2 := Lib.hid hn2
  have hE1 : E = 12 + sz := HE.out.1
  have hF1 : F = E + 4 := HE.out.2
  have e1 : (12 : Int) + (sz : Int) = (E : Int) := by omega
  have e2 : (E : Int) + 4 = (F : Int) := by omega
  have e3 : F - E = 4 := by omega
  have e4 : E - 12 = sz := by omega
  have hEl : E + 4 ≤ l.length := by omega
  have o1 : (4 : Int) ≤ (c : Int) := by omega
  have o2 : ¬ (l.length : Int) < (F : Int) := by omega
  have o3 : (sz : Int) ≤ 200000 := by omega
  have o4 : (12 : Int) ≤ (c : Int) := by omega
  have o5 : (F : Int) ≤ (c : Int) := by omega
  have o6 : ¬ c = 4 := by omega
  have o7 : ¬ c = 12 := by omega
  have o8 : ¬ c = E := by omega
  have p1 : (E : Int) ≤ (F : Int) := by omega
  have p2 : (E : Int) ≤ (c : Int) := by omega
  have p3 : (0 : Int) ≤ (E : Int) := by omega
  have p4 : (12 : Int) ≤ (E : Int) := by omega
  have p5 : decide ((x : Int) < 1) = false := by simp; omega
  have p6 : y1 < 4294967296 := by rw [← hy1.out]; exact crcAdd_lt 0 _ (by decide)
  have p7 : IntKind.u64.wrap (y1 : Int) = y1 := by simp [IntKind.wrap, IntKind.bits, IntKind.signed]; omega
  have hcl := clone_tb ⟨g, o + 12, none⟩ ((l.drop 12).take sz) (c - 12)
  have hcl0 : ((l.drop 12).take sz).length = sz := by rw [List.length_take, List.length_drop]; omega
  rw [hcl0] at hcl
  have HCL := Lib.hid hcl
  clear hn hn2 hE1 hF1 hsh hcl hcl0
  go_enter Tryd.func7, Tryd.ntmps7
  go_wp2_with fail
  refine HN.out.mono ?_
  rintro e w1 ⟨rfl, rfl⟩
  go_wp2_with fail
  refine HN2.out.mono ?_
  rintro e w1 ⟨rfl, rfl⟩
  go_wp2_with fail
  go_region_held3 (fun W => Below w.heap.size w W) (first | assumption | exact Below.alloc ‹_› (Below.size ‹_›) _ | exact Below.drew ‹_›) (first
    | (go_at_call 14; with_reducible refine (of_at w g o c E y1 l hr (by omega) hll HT hp hy1 _ _ ?_ (by assumption)).mono ?_; (focus (simp only [cellL, drewL, sizeL, sizeD]; first | (simp; done) | (simp; omega))); rintro e w5 ⟨rfl, rfl⟩)
    | (go_at_call 17; with_reducible refine (num_at w g o c E y2 l hr hEl hy2 _ (by assumption)).mono ?_; rintro e w5 ⟨rfl, rfl⟩))
  have t9 : Below w.heap.size w ((w.alloc (.cells #[.int .i64 0, .slice none 0 0] 24)).alloc (.cells #[.slice (some ⟨g, o, none⟩) E c] 22)).drew := (b.alloc s1 _).drew
  by_cases hyy : y1 = y2
  · have n1 : ((y1 : Int) != (y2 : Int)) = false := ne_f hyy
    have HYY := Lib.hid hyy
    clear hyy
    go_wp2_with fail
    refine (HCL.out _ (Rd.win (hr.below t9) 12 sz) (by omega)).mono ?_
    rintro e w9 ⟨A9, cap9, rfl, hcap9, hr9, c9, hA9⟩
    have t10 := t9.trans (c9.mono t9.size)
    have k0 : w9.cell? ⟨w.heap.size, 0, none⟩ = some (.int .i64 0) := (c9.cell (p := ⟨w.heap.size, 0, none⟩) (by simp; omega)).trans (by (focus (simp only [cellL, drewL, sizeL, sizeD]; first | (simp; done) | (simp; omega))))
    have k1 : w9.cell? ⟨w.heap.size, 1, none⟩ = some (.slice none 0 0) := (c9.cell (p := ⟨w.heap.size, 1, none⟩) (by simp; omega)).trans (by (focus (simp only [cellL, drewL, sizeL, sizeD]; first | (simp; done) | (simp; omega))))
    have f0 : w9.frozen? ⟨w.heap.size, 0, none⟩ = false := (c9.frozen (p := ⟨w.heap.size, 0, none⟩) (by simp; omega)).trans (by simp)
    have f1 : w9.frozen? ⟨w.heap.size, 1, none⟩ = false := (c9.frozen (p := ⟨w.heap.size, 1, none⟩) (by simp; omega)).trans (by simp)
    have h2 : w.heap.size < ((w.alloc (.cells #[.int .i64 0, .slice none 0 0] 24)).alloc (.cells #[.slice (some ⟨g, o, none⟩) E c] 22)).drew.heap.size := by
      simp only [sizeD, sizeL]
      omega
    have hne : ∀ a', A9 = some a' → a'.block ≠ w.heap.size := by
      intro a' ha
      have h3 := hA9 a' ha
      omega
    clear h2
    have HNE := Lib.hid hne
    clear hne hA9
    go_wp2
    refine bodyPost_ret (v := .tuple #[.agg #[.int .i64 (x : Int), .slice A9 sz cap9], .int .i64 (F : Int), .int .i64 0]) (by simp [results, Tryd.results7, go_sem, k0, k1]) rfl ⟨fun h => absurd HYY.out h, fun _ => ⟨A9, cap9, ?_, hcap9, (hr9.setCell _ _ HNE.out).setCell _ _ HNE.out⟩, (t10.setCell (p := ⟨w.heap.size, 0, none⟩) (Nat.le_refl _) _).setCell (p := ⟨w.heap.size, 1, none⟩) (Nat.le_refl _) _⟩
    have : (F : Int) = ((16 + sz : Nat) : Int) := by have := HE.out; omega
    rw [this]
  · have n1 : ((y1 : Int) != (y2 : Int)) = true := ne_t hyy
    have HYY := Lib.hid hyy
    clear hyy
    go_wp2
    refine bodyPost_ret (v := .tuple #[noRec, .int .i64 0, .int .i64 3]) (by simp [results, Tryd.results7, noRec, go_sem]) rfl ⟨fun _ => rfl, fun h => absurd h HYY.out, t9⟩

def getSz (l : List UInt8) : Nat := beN (l.take 4)
def getNum (l : List UInt8) : Nat := beN ((l.drop 4).take 8)
def getBody (l : List UInt8) : List UInt8 := (l.drop 12).take (getSz l)
/-- What Get answers. -/
def getE (l : List UInt8) : Int :=
  if l.length < 4 then 8 else if 200000 < getSz l then 3 else if l.length < 16 + getSz l then 8
  else if 9223372036854775808 ≤ getNum l ∨ getNum l < 1 then 3 else if crcAdd 0 (l.take (12 + getSz l)) = beN ((l.drop (12 + getSz l)).take 4) then 0 else 3
def GetPost (l : List UInt8) (w : World) (e : Ending) (w' : World) : Prop :=
  Below w.heap.size w w' ∧ ((getE l ≠ 0 ∧ e = .returned (.tuple #[.agg #[.int .i64 0, .slice none 0 0], .int .i64 0, .int .i64 (getE l)])) ∨
    (getE l = 0 ∧ ∃ A cap, e = .returned (.tuple #[.agg #[.int .i64 (getNum l : Int), .slice A (getBody l).length cap], .int .i64 ((16 + (getBody l).length : Nat) : Int), .int .i64 0]) ∧ (getBody l).length ≤ cap ∧ TB w' A (getBody l)))
theorem getE_0 {l : List UInt8} (h : getE l = 0) : 16 + getSz l ≤ l.length ∧ getSz l ≤ 200000 ∧ (getBody l).length = getSz l ∧ 1 ≤ getNum l ∧ getNum l < 9223372036854775808 := by
  unfold getE at h
  split at h
  · exact absurd h (by decide)
  · split at h
    · exact absurd h (by decide)
    · split at h
      · exact absurd h (by decide)
      · split at h
        · exact absurd h (by decide)
        · refine ⟨by omega, by omega, ?_, by omega, by omega⟩
          unfold getBody
          rw [List.length_take, List.length_drop]; omega
set_option maxHeartbeats 1000000 in
theorem get_any (A : Option Addr) (l : List UInt8) (c : Nat) (w : World) (hr : Rd w A l) (hc : l.length ≤ c) (hll : l.length ≤ 1000000) (ht : Steps w) (hp : 0 < w.heap.size) :
    Calls Tryd.prog 7 #[.slice A l.length c] w (GetPost l w) := by
  by_cases h4 : l.length < 4
  · have e : getE l = 8 := by unfold getE; rw [if_pos h4]
    refine (get_more1 A l c w h4).mono ?_
    rintro e' w' ⟨rfl, b⟩
    exact ⟨b, .inl ⟨by rw [e]; decide, by rw [e]; rfl⟩⟩
  obtain ⟨g, o, rfl, _, _⟩ := hr (by omega)
  by_cases hbig : 200000 < getSz l
  · have e : getE l = 3 := by unfold getE; rw [if_neg h4, if_pos hbig]
    refine (get_form1 g o l c w hr hc (by omega) hbig).mono ?_
    rintro e' w' ⟨rfl, b⟩
    exact ⟨b, .inl ⟨by rw [e]; decide, by rw [e]; rfl⟩⟩
  by_cases hsh : l.length < 16 + getSz l
  · have e : getE l = 8 := by unfold getE; rw [if_neg h4, if_neg hbig, if_pos hsh]
    refine (get_more2 g o l c w hr hc (by omega) (by unfold getSz at hbig; omega) hsh).mono ?_
    rintro e' w' ⟨rfl, b⟩
    exact ⟨b, .inl ⟨by rw [e]; decide, by rw [e]; rfl⟩⟩
  have hx64 : getNum l < 18446744073709551616 := by
    have h1 := beN_lt ((l.drop 4).take 8)
    have h2 : ((l.drop 4).take 8).length = 8 := by rw [List.length_take, List.length_drop]; omega
    rw [h2] at h1
    exact h1
  by_cases hneg : 9223372036854775808 ≤ getNum l ∨ getNum l < 1
  · have e : getE l = 3 := by unfold getE; rw [if_neg h4, if_neg hbig, if_neg hsh, if_pos hneg]
    have hw : IntKind.i64.wrap (getNum l : Int) = if 9223372036854775808 ≤ getNum l then (getNum l : Int) - 18446744073709551616 else (getNum l : Int) := by
      rw [IntKind.wrap_i64]; split <;> omega
    refine (get_neg g o l c (getSz l) (getNum l) w hr hc rfl (by omega) (by omega) hll rfl _ hw (by split <;> omega) (12 + getSz l) (12 + getSz l + 4) ⟨rfl, rfl⟩).mono ?_
    rintro e' w' ⟨rfl, b⟩
    exact ⟨b, .inl ⟨by rw [e]; decide, by rw [e]; rfl⟩⟩
  refine (get_wholeT g o l c (getSz l) (getNum l) w hr hc rfl (by omega) (by omega) hll rfl (by omega) (by omega) ht hp (crcAdd 0 (l.take (12 + getSz l))) (beN ((l.drop (12 + getSz l)).take 4)) (12 + getSz l) (12 + getSz l + 4) ⟨rfl, rfl⟩ rfl rfl).mono ?_
  rintro e' w' ⟨h1, h2, b⟩
  by_cases hy : crcAdd 0 (l.take (12 + getSz l)) = beN ((l.drop (12 + getSz l)).take 4)
  · have e : getE l = 0 := by unfold getE; rw [if_neg h4, if_neg hbig, if_neg hsh, if_neg hneg, if_pos hy]
    obtain ⟨g', cap, rfl, hcap, htb⟩ := h2 hy
    have hb := (getE_0 e).2.2.1
    refine ⟨b, .inr ⟨e, g', cap, by rw [hb], by rw [hb]; exact hcap, htb⟩⟩
  · have e : getE l = 3 := by unfold getE; rw [if_neg h4, if_neg hbig, if_neg hsh, if_neg hneg, if_neg hy]
    refine ⟨b, .inl ⟨by rw [e]; decide, by rw [h1 hy, e]; rfl⟩⟩
end Go.Proofs.YtjhmdgcfdelbkaaDoor
