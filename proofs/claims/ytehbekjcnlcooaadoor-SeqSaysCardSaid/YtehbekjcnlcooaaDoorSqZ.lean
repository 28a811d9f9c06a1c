/- The law's helpers of layer 9: own, sets, longs. -/
import Derived.Test.YtehbekjcnlcooaaDoorSqI
import Derived.Deep.QuietTactic
import Derived.BigQuiet
set_option linter.unusedVariables false
namespace Go.Proofs.YtehbekjcnlcooaaDoor
open Go.RowKit

theorem rspanInfo : (Tryd.prog.info? 59).map (fun i => (i.zero, i.size, i.bytes)) = some (some (.agg #[.int .i64 0, .int .i64 0]), 2, 16) := by kernel_rfl
theorem SpR.keepsRow9 : KeepsRow SpR 59 := fun w w' cs x row h hg hr => h
theorem grown_u2 {wa w2 : World} {row : Option Nat} {v : Value} (hg : wa.grownBy w2 row) (u : Nat) (hne : row ≠ some u) (hlt : u < wa.heap.size) (c : wa.cell? ⟨u, 0, none⟩ = some v) (f : wa.frozen? ⟨u, 0, none⟩ = false) :
    w2.cell? ⟨u, 0, none⟩ = some v ∧ w2.frozen? ⟨u, 0, none⟩ = false :=
  ⟨(hg.cell_far ⟨u, 0, none⟩ hlt (Ne.symm hne)).trans c, (hg.frozen_far ⟨u, 0, none⟩ hlt (Ne.symm hne)).trans f⟩

set_option maxRecDepth 100000 in
theorem longs_any (A A2 : Option Addr) (l m : List Int) (c1 c2 : Nat) (w : World) (h1 : RdR IntR 1 w A l) (h2 : RdR IntR 1 w A2 m) (hl1 : l.length ≤ c1) (hc1 : c1 ≤ maxLen) (hl2 : m.length ≤ c2) (hc2 : c2 ≤ maxLen) :
    Calls Tryd.prog 15 #[.slice A l.length c1, .slice A2 m.length c2] w fun e w' => e = .returned (.bool (decide (l = m))) ∧ Below w.heap.size w w' := by
  have hm1 : c1 ≤ 9223372036854775807 := hc1
  have hm2 : c2 ≤ 9223372036854775807 := hc2
  by_cases hle : l.length = m.length
  · have hne : ((l.length : Int) != (m.length : Int)) = false := by simp [hle]
    have HD := Lib.hid (show ∀ (k : Nat) (hk : k < l.length) (hk2 : k < m.length), l[k] ≠ m[k] → decide (l = m) = false from fun k hk hk2 h => by
      rw [decide_eq_false_iff_not]
      rintro rfl
      exact h rfl)
    have HE := Lib.hid (show l.take l.length = m.take l.length → decide (l = m) = true from fun h => by
      rw [decide_eq_true_iff]
      rw [List.take_length, hle, List.take_length] at h
      exact h)
    have HL := Lib.hid hle
    clear hle
    go_enter Tryd.func15, Tryd.ntmps15
    go_wp2
    go_loopw [5] (fun i wr => ∃ k : Nat, k ≤ l.length ∧ i = .int .i64 (k : Int) ∧ (∃ n, wr = w.drewN n) ∧ l.take k = m.take k) (fun i _ => l.length - (intOf i).toNat)
    case atStart => exact ⟨0, Nat.zero_le _, rfl, ⟨0, rfl⟩, rfl⟩
    case round =>
      obtain ⟨k, hk, rfl, hw, hp⟩ := hrel
      by_cases hlt : k < l.length
      · have hlt2 : k < m.length := by rw [← HL.out]; exact hlt
        have e1 : (k : Int) < (l.length : Int) := by omega
        have e2 : (k : Int) < (m.length : Int) := by omega
        obtain ⟨b, o, rfl, hb, _⟩ := id h1 (by omega)
        obtain ⟨b2, o2, rfl, hb2, _⟩ := id h2 (by omega)
        have d1 := int_cell h1 k hlt
        have d2 := int_cell h2 k hlt2
        have HX := Lib.hid (HD.out k hlt hlt2)
        have HT := Lib.hid (show l[k] = m[k] → l.take (k + 1) = m.take (k + 1) from fun h => by
          rw [List.take_succ_eq_append_getElem hlt, List.take_succ_eq_append_getElem hlt2, hp, h])
        clear hp
        obtain ⟨nn, rfl⟩ := hw
        generalize l[k] = x at d1 HX HT
        generalize m[k] = y at d2 HX HT
        have d1' : (w.drewN nn).cell? ⟨b, o + k, none⟩ = some (.int .i64 x) := d1
        have d2' : (w.drewN nn).cell? ⟨b2, o2 + k, none⟩ = some (.int .i64 y) := d2
        clear h1 h2
        by_cases hxy : x = y
        · have hxx : (x != y) = false := by simp [hxy]
          go_wp2_with fail
          go_quiet (fail)
          go_wp2
          go_roundw
          case rel => exact ⟨k + 1, by omega, by go_num, ⟨_, rfl⟩, HT.out hxy⟩
          case measure => simp [intOf]; omega
        · have hxx : (x != y) = true := by simp [hxy]
          go_wp2_with fail
          go_quiet (fail)
          go_wp2
          go_ret
          rw [HX.out hxy]
          exact ⟨rfl, below_drewN (below_drewN (Below.refl _ w) _) _⟩
      · obtain rfl : k = l.length := by omega
        obtain ⟨nn, rfl⟩ := hw
        have HT := Lib.hid (HE.out hp)
        clear hp
        go_wp2
        go_ret
        rw [HT.out]
        exact ⟨rfl, below_drewN (Below.refl _ w) _⟩
  · have hne : ((l.length : Int) != (m.length : Int)) = true := by simp; omega
    have hd : decide (l = m) = false := by
      rw [decide_eq_false_iff_not]
      rintro rfl
      exact hle rfl
    rw [hd]
    go_enter Tryd.func15, Tryd.ntmps15
    go_wp2
    go_ret
    exact ⟨rfl, by first | exact Below.refl _ w | exact below_drewN (Below.refl _ w) _⟩

set_option maxRecDepth 100000 in
set_option maxHeartbeats 1000000 in
theorem sets_any (A A2 : Option Addr) (l m : List (Int × Int)) (c1 c2 : Nat) (w : World) (h1 : RdR SpR 2 w A l) (h2 : RdR SpR 2 w A2 m) (hl1 : l.length ≤ c1) (hc1 : c1 ≤ maxLen) (hl2 : m.length ≤ c2) (hc2 : c2 ≤ maxLen) :
    Calls Tryd.prog 8 #[.agg #[.slice A l.length c1], .agg #[.slice A2 m.length c2]] w fun e w' => e = .returned (.bool (decide (l = m))) ∧ Below w.heap.size w w' := by
  have hm1 : c1 ≤ 9223372036854775807 := hc1
  have hm2 : c2 ≤ 9223372036854775807 := hc2
  obtain ⟨W, hW⟩ : ∃ W, W = (w.alloc (.cells #[.slice A l.length c1] 24)).alloc (.cells #[.slice A2 m.length c2] 34) := ⟨_, rfl⟩
  have hb0 : Below w.heap.size w W := hW ▸ ((Below.refl _ w).alloc (Nat.le_refl _) _).alloc (by simp) _
  have k0 : W.cell? ⟨w.heap.size, 0, none⟩ = some (.slice A l.length c1) := hW ▸ (keep0 _ _ _ (by simp)).trans (new0 w _ _ _)
  have k1 : W.cell? ⟨w.heap.size + 1, 0, none⟩ = some (.slice A2 m.length c2) := by
    rw [hW]
    simp
  have h1' := h1.below SpR.keeps hb0 (Nat.le_refl _)
  have h2' := h2.below SpR.keeps hb0 (Nat.le_refl _)
  have HW := Lib.hid hW
  clear h1 h2 hW
  by_cases hle : l.length = m.length
  · have hne : ((l.length : Int) != (m.length : Int)) = false := by simp [hle]
    have HD := Lib.hid (show ∀ (k : Nat) (hk : k < l.length) (hk2 : k < m.length), l[k] ≠ m[k] → decide (l = m) = false from fun k hk hk2 h => by
      rw [decide_eq_false_iff_not]
      rintro rfl
      exact h rfl)
    have HE := Lib.hid (show l.take l.length = m.take l.length → decide (l = m) = true from fun h => by
      rw [decide_eq_true_iff]
      rw [List.take_length, hle, List.take_length] at h
      exact h)
    have HL := Lib.hid hle
    clear hle
    go_enter Tryd.func8, Tryd.ntmps8
    go_wp2
    go_loopw [5] (fun i wr => ∃ k : Nat, k ≤ l.length ∧ i = .int .i64 (k : Int) ∧ (∃ n, wr = W.drewN n) ∧ l.take k = m.take k) (fun i _ => l.length - (intOf i).toNat)
    case atStart => exact ⟨0, Nat.zero_le _, rfl, ⟨0, by rw [HW.out]; rfl⟩, rfl⟩
    case round =>
      obtain ⟨k, hk, rfl, hw, hp⟩ := hrel
      obtain ⟨nn, rfl⟩ := hw
      have k0' : (W.drewN nn).cell? ⟨w.heap.size, 0, none⟩ = some (.slice A l.length c1) := k0
      have k1' : (W.drewN nn).cell? ⟨w.heap.size + 1, 0, none⟩ = some (.slice A2 m.length c2) := k1
      by_cases hlt : k < l.length
      · have hlt2 : k < m.length := by rw [← HL.out]; exact hlt
        have e1 : (k : Int) < (l.length : Int) := by omega
        have e2 : (k : Int) < (m.length : Int) := by omega
        obtain ⟨b, o, rfl, hb, _⟩ := id h1' (by omega)
        obtain ⟨b2, o2, rfl, hb2, _⟩ := id h2' (by omega)
        obtain ⟨d1, d3⟩ := rd_agg h1' k hlt
        obtain ⟨d2, d4⟩ := rd_agg h2' k hlt2
        have HX := Lib.hid (HD.out k hlt hlt2)
        have HT := Lib.hid (show l[k] = m[k] → l.take (k + 1) = m.take (k + 1) from fun h => by
          rw [List.take_succ_eq_append_getElem hlt, List.take_succ_eq_append_getElem hlt2, hp, h])
        clear hp
        generalize l[k] = x at d1 d3 HX HT
        generalize m[k] = y at d2 d4 HX HT
        obtain ⟨x1, x2⟩ := x
        obtain ⟨y1, y2⟩ := y
        have d1' : (W.drewN nn).cell? ⟨b, o + k * 2, none⟩ = some (.int .i64 x1) := d1
        have d3' : (W.drewN nn).cell? ⟨b, o + k * 2 + 1, none⟩ = some (.int .i64 x2) := d3
        have d2' : (W.drewN nn).cell? ⟨b2, o2 + k * 2, none⟩ = some (.int .i64 y1) := d2
        have d4' : (W.drewN nn).cell? ⟨b2, o2 + k * 2 + 1, none⟩ = some (.int .i64 y2) := d4
        clear h1' h2'
        by_cases hxy : x1 = y1
        · have hxx : (x1 != y1) = false := by simp [hxy]
          by_cases hxz : x2 = y2
          · have hxx2 : (x2 != y2) = false := by simp [hxz]
            go_wp2_with fail
            go_quiet (fail)
            go_wp2
            go_roundw
            case rel => exact ⟨k + 1, by omega, by go_num, ⟨_, rfl⟩, HT.out (by rw [hxy, hxz])⟩
            case measure => simp [intOf]; omega
          · have hxx2 : (x2 != y2) = true := by simp [hxz]
            go_wp2_with fail
            go_quiet (fail)
            go_wp2
            go_ret
            rw [HX.out (fun h => hxz (by injection h))]
            exact ⟨rfl, below_drewN (below_drewN hb0 _) _⟩
        · have hxx : (x1 != y1) = true := by simp [hxy]
          go_wp2_with fail
          go_quiet (fail)
          go_wp2
          go_ret
          rw [HX.out (fun h => hxy (by injection h))]
          exact ⟨rfl, below_drewN (below_drewN hb0 _) _⟩
      · obtain rfl : k = l.length := by omega
        have HT := Lib.hid (HE.out hp)
        have e2 : ¬ ((l.length : Int) < (m.length : Int)) := by rw [HL.out]; omega
        clear hp
        go_wp2
        go_ret
        rw [HT.out]
        exact ⟨rfl, below_drewN hb0 _⟩
  · have hne : ((l.length : Int) != (m.length : Int)) = true := by simp; omega
    have hd : decide (l = m) = false := by
      rw [decide_eq_false_iff_not]
      rintro rfl
      exact hle rfl
    rw [hd]
    go_enter Tryd.func8, Tryd.ntmps8
    go_wp2
    go_ret
    rw [← HW.out]
    exact ⟨rfl, hb0⟩
end Go.Proofs.YtehbekjcnlcooaaDoor
