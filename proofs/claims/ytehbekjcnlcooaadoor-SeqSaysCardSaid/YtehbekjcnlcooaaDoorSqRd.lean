/- Merged: SqRd, SqRe, SqRf, SqRg. -/
import Derived.Test.YtehbekjcnlcooaaDoorSqZ
import Derived.Deep.QuietTactic
import Derived.BigQuiet
import Derived.Test.YtehbekjcnlcooaaDoorSqP
import Derived.StillTailTactics
import Derived.Test.YtehbekjcnlcooaaDoorSqRc
import Derived.Test.YtehbekjcnlcooaaDoorSqX
import Derived.Test.YtehbekjcnlcooaaDoorSqT
import Derived.Test.YtehbekjcnlcooaaDoorSqC
set_option linter.unusedVariables false
/- The reference's GoodSet and HasSet (chapter 9). -/
namespace Go.Proofs.YtehbekjcnlcooaaDoor
open Go.RowKit

def BPost (b : Bool) (w : World) (e : Ending) (w' : World) : Prop := e = .returned (.bool b) ∧ Below w.heap.size w w'
set_option maxRecDepth 100000 in
set_option maxHeartbeats 1000000 in
theorem good_r (A : Option Addr) (xs : List (Int × Int)) (cap : Nat) (w : World) (hr : RdR SpR 2 w A xs) (hlc : xs.length ≤ cap) (hcm : cap ≤ maxLen) :
    Calls Tryd.prog 32 #[.agg #[.slice A xs.length cap]] w (BPost (validF xs) w) := by
  have hcm' : cap ≤ 9223372036854775807 := hcm
  have HV := Lib.hid (show validF xs = (decide (1 ≤ xs.length ∧ xs.length ≤ 100) && xs.all okS) from rfl)
  obtain ⟨W, hW⟩ : ∃ W, W = w.alloc (.cells #[.slice A xs.length cap] 34) := ⟨_, rfl⟩
  have hb0 : Below w.heap.size w W := hW ▸ (Below.refl _ w).alloc (Nat.le_refl _) _
  have hsW : W.heap.size = w.heap.size + 1 := by rw [hW]; simp
  have q0 : W.cell? ⟨w.heap.size, 0, none⟩ = some (.slice A xs.length cap) := hW ▸ new0 w _ _ _
  have hr1 := hr.below SpR.keeps hb0 (Nat.le_refl _)
  have HW := Lib.hid hW
  generalize validF xs = R at HV ⊢
  clear hr hW
  go_enter Tryd.func32, Tryd.ntmps32
  go_wp2
  go_loopw [3] (fun i wr => ∃ k : Nat, k ≤ xs.length ∧ i = .int .i64 (k : Int) ∧ Below W.heap.size W wr ∧ Hid ((xs.take k).all okS = true)) (fun i _ => xs.length - (intOf i).toNat)
  case atStart =>
    rw [← HW.out]
    exact ⟨0, Nat.zero_le _, rfl, Below.refl _ _, rfl⟩
  case round =>
    obtain ⟨k, hk, rfl, hB, HA⟩ := hrel
    have hsz := hB.size
    have k0 := (hB.cell (p := ⟨w.heap.size, 0, none⟩) (show w.heap.size < W.heap.size by omega)).trans q0
    have hBw := hb0.trans (hB.mono (by omega))
    by_cases hlt : k < xs.length
    · have e1 : (k : Int) < (xs.length : Int) := by omega
      obtain ⟨b, o, rfl, hb, _⟩ := id hr1 (by omega)
      obtain ⟨d1, d2⟩ := rd_agg hr1 k hlt
      rw [← hB.cell (p := ⟨b, o + k * 2, none⟩) hb] at d1
      rw [← hB.cell (p := ⟨b, o + k * 2 + 1, none⟩) hb] at d2
      have hbw : b < wr.heap.size := Nat.lt_of_lt_of_le hb hsz
      have HX := Lib.hid (show okS xs[k] = decide (0 ≤ min xs[k].1 xs[k].2 ∧ max xs[k].1 xs[k].2 ≤ 4294967295) from rfl)
      have HN := Lib.hid (take_all_succ okS xs k hlt)
      have HM := Lib.hid (show okS xs[k] = false → R = false from fun h => by
        rw [HV.out, List.all_eq_false.2 ⟨xs[k], List.getElem_mem hlt, by simp [h]⟩]
        simp)
      generalize xs[k] = x at d1 d2 HX HN HM
      obtain ⟨x1, x2⟩ := x
      have hal : Below W.heap.size W (wr.alloc (.cells #[.int .i64 x1, .int .i64 x2] 59)) := hB.alloc hsz _
      have hale : Below w.heap.size w (wr.alloc (.cells #[.int .i64 x1, .int .i64 x2] 59)) := hBw.alloc (by omega) _
      clear hr1
      by_cases t1 : x1 < 0
      · have hno := HM.out (by rw [HX.out]; simp only [decide_eq_false_iff_not]; omega)
        have HNO := Lib.hid hno
        clear hno
        go_wp2
        go_ret
        exact ⟨ret_bool HNO.out.symm, hale⟩
      by_cases t2 : x2 < 0
      · have hno := HM.out (by rw [HX.out]; simp only [decide_eq_false_iff_not]; omega)
        have HNO := Lib.hid hno
        clear hno
        go_wp2
        go_ret
        exact ⟨ret_bool HNO.out.symm, hale⟩
      by_cases t3 : 4294967295 < x1
      · have hno := HM.out (by rw [HX.out]; simp only [decide_eq_false_iff_not]; omega)
        have HNO := Lib.hid hno
        clear hno
        go_wp2
        go_ret
        exact ⟨ret_bool HNO.out.symm, hale⟩
      by_cases t4 : 4294967295 < x2
      · have hno := HM.out (by rw [HX.out]; simp only [decide_eq_false_iff_not]; omega)
        have HNO := Lib.hid hno
        clear hno
        go_wp2
        go_ret
        exact ⟨ret_bool HNO.out.symm, hale⟩
      go_wp2
      go_roundw
      case rel =>
        refine ⟨k + 1, by omega, by go_num, hal, ?_⟩
        show _ = _
        rw [HN.out, HA.out, HX.out]
        simp only [Bool.true_and, decide_eq_true_eq]
        omega
      case measure => simp [intOf]; omega
    · obtain rfl : k = xs.length := by omega
      have hall := HA.out
      rw [List.take_length] at hall
      have HR : Hid (R = decide (1 ≤ xs.length ∧ xs.length ≤ 100)) := by
        show _ = _
        rw [HV.out, hall, Bool.and_true]
      clear hall hr1
      by_cases h1 : 1 ≤ xs.length
      · have e2 : (1 : Int) ≤ (xs.length : Int) := by omega
        by_cases h2 : xs.length ≤ 100
        · have e3 : (xs.length : Int) ≤ 100 := by omega
          have hR : R = true := by rw [HR.out]; exact decide_eq_true ⟨h1, h2⟩
          have HRR := Lib.hid hR
          clear hR
          go_wp2
          go_ret
          exact ⟨ret_bool HRR.out.symm, hBw⟩
        · have e3 : ¬ (xs.length : Int) ≤ 100 := by omega
          have hR : R = false := by rw [HR.out]; exact decide_eq_false (by omega)
          have HRR := Lib.hid hR
          clear hR
          go_wp2
          go_ret
          exact ⟨ret_bool HRR.out.symm, hBw⟩
      · have e2 : ¬ (1 : Int) ≤ (xs.length : Int) := by omega
        have hR : R = false := by rw [HR.out]; exact decide_eq_false (by omega)
        have HRR := Lib.hid hR
        clear hR
        go_wp2
        go_ret
        exact ⟨ret_bool HRR.out.symm, hBw⟩

theorem take_any_succ {α} (p : α → Bool) (l : List α) (k : Nat) (h : k < l.length) : (l.take (k + 1)).any p = ((l.take k).any p || p l[k]) := by
  rw [List.take_succ_eq_append_getElem h, List.any_append]
  simp
set_option maxRecDepth 100000 in
set_option maxHeartbeats 4000000 in
theorem has_r (A : Option Addr) (xs : List (Int × Int)) (cap : Nat) (n last : Int) (w : World) (hr : RdR SpR 2 w A xs) (hlc : xs.length ≤ cap) (hcm : cap ≤ maxLen) :
    Calls Tryd.prog 14 #[.agg #[.slice A xs.length cap], .int .i64 n, .int .i64 last] w (BPost (hasF xs n last) w) := by
  have hcm' : cap ≤ 9223372036854775807 := hcm
  have HV := Lib.hid (show hasF xs n last = (decide (1 ≤ n) && validF xs && xs.any (hitF last n)) from rfl)
  obtain ⟨W, hW⟩ : ∃ W, W = w.alloc (.cells #[.slice A xs.length cap] 34) := ⟨_, rfl⟩
  have hb0 : Below w.heap.size w W := hW ▸ (Below.refl _ w).alloc (Nat.le_refl _) _
  have hsW : W.heap.size = w.heap.size + 1 := by rw [hW]; simp
  have q0 : W.cell? ⟨w.heap.size, 0, none⟩ = some (.slice A xs.length cap) := hW ▸ new0 w _ _ _
  have hr1 := hr.below SpR.keeps hb0 (Nat.le_refl _)
  have hgood := good_r A xs cap W hr1 hlc hcm
  by_cases h1 : n < 1
  · have hR : hasF xs n last = false := by rw [HV.out, decide_eq_false (by omega)]; rfl
    rw [hR]
    clear hgood hr1 hr hR
    go_enter Tryd.func14, Tryd.ntmps14
    go_wp2
    go_ret
    rw [← hW]
    exact ⟨rfl, hb0⟩
  rw [hW] at hgood
  have HW := Lib.hid hW
  clear hr hW
  cases hq : validF xs with
  | false =>
    have hR : hasF xs n last = false := by rw [HV.out, hq]; simp
    rw [hq] at hgood
    rw [hR]
    clear hr1 hR hq
    go_enter Tryd.func14, Tryd.ntmps14
    go_wp2_with ((with_reducible refine hgood.mono ?_))
    rw [← HW.out]
    rintro _ w1 ⟨rfl, b1⟩
    go_wp2
    go_ret
    exact ⟨rfl, hb0.trans (b1.mono (by omega))⟩
  | true =>
    rw [hq] at hgood
    have HR : Hid (hasF xs n last = xs.any (hitF last n)) := by
      show _ = _
      rw [HV.out, hq, decide_eq_true (by omega)]
      rfl
    generalize hasF xs n last = R at HR ⊢
    clear hq HV
    go_enter Tryd.func14, Tryd.ntmps14
    go_wp2_with ((with_reducible refine hgood.mono ?_))
    rw [← HW.out]
    rintro _ w1 ⟨rfl, b1⟩
    have hB1 := hb0.trans (b1.mono (by omega))
    have k0 := (b1.cell (p := ⟨w.heap.size, 0, none⟩) (show w.heap.size < W.heap.size by omega)).trans q0
    have hr2 := hr1.below SpR.keeps b1 (Nat.le_refl _)
    clear hr1 b1 q0 hb0
    go_wp2
    go_loopw [7] (fun i wr => ∃ k : Nat, k ≤ xs.length ∧ i = .int .i64 (k : Int) ∧ (∃ m, wr = w1.drewN m) ∧ Hid ((xs.take k).any (hitF last n) = false)) (fun i _ => xs.length - (intOf i).toNat)
    case atStart => exact ⟨0, Nat.zero_le _, rfl, ⟨0, rfl⟩, rfl⟩
    case round =>
      obtain ⟨k, hk, rfl, ⟨m, rfl⟩, HA⟩ := hrel
      have k0' : (w1.drewN m).cell? ⟨w.heap.size, 0, none⟩ = some (.slice A xs.length cap) := k0
      by_cases hlt : k < xs.length
      · have e1 : (k : Int) < (xs.length : Int) := by omega
        obtain ⟨b, o, rfl, hb, _⟩ := id hr2 (by omega)
        obtain ⟨d1, d2⟩ := rd_agg hr2 k hlt
        have HN := Lib.hid (take_any_succ (hitF last n) xs k hlt)
        have HM := Lib.hid (show hitF last n xs[k] = true → R = true from fun h => by
          rw [HR.out]; exact List.any_eq_true.2 ⟨xs[k], List.getElem_mem hlt, h⟩)
        generalize xs[k] = x at d1 d2 HN HM
        obtain ⟨x1, x2⟩ := x
        have HH := Lib.hid (show hitF last n (x1, x2) = decide (min (actF x1 last) (actF x2 last) ≤ n ∧ n ≤ max (actF x1 last) (actF x2 last)) from rfl)
        have d1' : (w1.drewN m).cell? ⟨b, o + k * 2, none⟩ = some (.int .i64 x1) := d1
        have d2' : (w1.drewN m).cell? ⟨b, o + k * 2 + 1, none⟩ = some (.int .i64 x2) := d2
        clear hr2 HR hgood
        by_cases z1 : x1 = 0
        · have y1 : (x1 == 0) = true := by simpa using z1
          have HP : Hid (actF x1 last = last) := by show _ = _; unfold actF; rw [if_pos z1]
          have Z1 := Lib.hid z1
          clear z1
          by_cases z2 : x2 = 0
          · have y2 : (x2 == 0) = true := by simpa using z2
            have HQ : Hid (actF x2 last = last) := by show _ = _; unfold actF; rw [if_pos z2]
            clear z2
            by_cases c1 : last ≤ n
            · by_cases c2 : n ≤ last
              · have hyes := HM.out (by rw [HH.out, HP.out, HQ.out]; simp only [decide_eq_true_eq]; omega)
                have HY := Lib.hid hyes
                clear hyes
                go_wp2_with fail
                go_quiet (fail)
                go_wp2
                go_ret
                exact ⟨ret_bool HY.out.symm, by first | exact below_drewN (below_drewN hB1 _) _ | exact below_drewN hB1 _⟩
              · have c3 : last ≤ n := by omega
                by_cases c4 : n ≤ last
                · exfalso
                  omega
                · have hno : hitF last n (x1, x2) = false := by rw [HH.out, HP.out, HQ.out]; simp only [decide_eq_false_iff_not]; omega
                  have HY := Lib.hid hno
                  clear hno
                  go_wp2_with fail
                  go_quiet (fail)
                  go_wp2
                  go_roundw
                  case rel => exact ⟨k + 1, by omega, by go_num, ⟨m + nq, by first | rfl | rw [World.drewN_drewN]⟩, by show _ = _; rw [HN.out, HA.out, HY.out]; rfl⟩
                  case measure => simp [intOf]; omega
            · have c4 : n ≤ last := by omega
              by_cases c3 : last ≤ n
              · exfalso
                omega
              · have hno : hitF last n (x1, x2) = false := by rw [HH.out, HP.out, HQ.out]; simp only [decide_eq_false_iff_not]; omega
                have HY := Lib.hid hno
                clear hno
                go_wp2_with fail
                go_quiet (fail)
                go_wp2
                go_roundw
                case rel => exact ⟨k + 1, by omega, by go_num, ⟨m + nq, by first | rfl | rw [World.drewN_drewN]⟩, by show _ = _; rw [HN.out, HA.out, HY.out]; rfl⟩
                case measure => simp [intOf]; omega
          · have y2 : (x2 == 0) = false := by simpa using z2
            have HQ : Hid (actF x2 last = x2) := by show _ = _; unfold actF; rw [if_neg z2]
            clear z2
            by_cases c1 : last ≤ n
            · by_cases c2 : n ≤ x2
              · have hyes := HM.out (by rw [HH.out, HP.out, HQ.out]; simp only [decide_eq_true_eq]; omega)
                have HY := Lib.hid hyes
                clear hyes
                go_wp2_with fail
                go_quiet (fail)
                go_wp2
                go_ret
                exact ⟨ret_bool HY.out.symm, by first | exact below_drewN (below_drewN hB1 _) _ | exact below_drewN hB1 _⟩
              · have c3 : x2 ≤ n := by omega
                by_cases c4 : n ≤ last
                · have hyes := HM.out (by rw [HH.out, HP.out, HQ.out]; simp only [decide_eq_true_eq]; omega)
                  have HY := Lib.hid hyes
                  clear hyes
                  go_wp2_with fail
                  go_quiet (fail)
                  go_wp2
                  go_ret
                  exact ⟨ret_bool HY.out.symm, by first | exact below_drewN (below_drewN hB1 _) _ | exact below_drewN hB1 _⟩
                · have hno : hitF last n (x1, x2) = false := by rw [HH.out, HP.out, HQ.out]; simp only [decide_eq_false_iff_not]; omega
                  have HY := Lib.hid hno
                  clear hno
                  go_wp2_with fail
                  go_quiet (fail)
                  go_wp2
                  go_roundw
                  case rel => exact ⟨k + 1, by omega, by go_num, ⟨m + nq, by first | rfl | rw [World.drewN_drewN]⟩, by show _ = _; rw [HN.out, HA.out, HY.out]; rfl⟩
                  case measure => simp [intOf]; omega
            · have c4 : n ≤ last := by omega
              by_cases c3 : x2 ≤ n
              · have hyes := HM.out (by rw [HH.out, HP.out, HQ.out]; simp only [decide_eq_true_eq]; omega)
                have HY := Lib.hid hyes
                clear hyes
                go_wp2_with fail
                go_quiet (fail)
                go_wp2
                go_ret
                exact ⟨ret_bool HY.out.symm, by first | exact below_drewN (below_drewN hB1 _) _ | exact below_drewN hB1 _⟩
              · have hno : hitF last n (x1, x2) = false := by rw [HH.out, HP.out, HQ.out]; simp only [decide_eq_false_iff_not]; omega
                have HY := Lib.hid hno
                clear hno
                go_wp2_with fail
                go_quiet (fail)
                go_wp2
                go_roundw
                case rel => exact ⟨k + 1, by omega, by go_num, ⟨m + nq, by first | rfl | rw [World.drewN_drewN]⟩, by show _ = _; rw [HN.out, HA.out, HY.out]; rfl⟩
                case measure => simp [intOf]; omega
        · have y1 : (x1 == 0) = false := by simpa using z1
          have HP : Hid (actF x1 last = x1) := by show _ = _; unfold actF; rw [if_neg z1]
          have Z1 := Lib.hid z1
          clear z1
          by_cases z2 : x2 = 0
          · have y2 : (x2 == 0) = true := by simpa using z2
            have HQ : Hid (actF x2 last = last) := by show _ = _; unfold actF; rw [if_pos z2]
            clear z2
            by_cases c1 : x1 ≤ n
            · by_cases c2 : n ≤ last
              · have hyes := HM.out (by rw [HH.out, HP.out, HQ.out]; simp only [decide_eq_true_eq]; omega)
                have HY := Lib.hid hyes
                clear hyes
                go_wp2_with fail
                go_quiet (fail)
                go_wp2
                go_ret
                exact ⟨ret_bool HY.out.symm, by first | exact below_drewN (below_drewN hB1 _) _ | exact below_drewN hB1 _⟩
              · have c3 : last ≤ n := by omega
                by_cases c4 : n ≤ x1
                · have hyes := HM.out (by rw [HH.out, HP.out, HQ.out]; simp only [decide_eq_true_eq]; omega)
                  have HY := Lib.hid hyes
                  clear hyes
                  go_wp2_with fail
                  go_quiet (fail)
                  go_wp2
                  go_ret
                  exact ⟨ret_bool HY.out.symm, by first | exact below_drewN (below_drewN hB1 _) _ | exact below_drewN hB1 _⟩
                · have hno : hitF last n (x1, x2) = false := by rw [HH.out, HP.out, HQ.out]; simp only [decide_eq_false_iff_not]; omega
                  have HY := Lib.hid hno
                  clear hno
                  go_wp2_with fail
                  go_quiet (fail)
                  go_wp2
                  go_roundw
                  case rel => exact ⟨k + 1, by omega, by go_num, ⟨m + nq, by first | rfl | rw [World.drewN_drewN]⟩, by show _ = _; rw [HN.out, HA.out, HY.out]; rfl⟩
                  case measure => simp [intOf]; omega
            · have c4 : n ≤ x1 := by omega
              by_cases c3 : last ≤ n
              · have hyes := HM.out (by rw [HH.out, HP.out, HQ.out]; simp only [decide_eq_true_eq]; omega)
                have HY := Lib.hid hyes
                clear hyes
                go_wp2_with fail
                go_quiet (fail)
                go_wp2
                go_ret
                exact ⟨ret_bool HY.out.symm, by first | exact below_drewN (below_drewN hB1 _) _ | exact below_drewN hB1 _⟩
              · have hno : hitF last n (x1, x2) = false := by rw [HH.out, HP.out, HQ.out]; simp only [decide_eq_false_iff_not]; omega
                have HY := Lib.hid hno
                clear hno
                go_wp2_with fail
                go_quiet (fail)
                go_wp2
                go_roundw
                case rel => exact ⟨k + 1, by omega, by go_num, ⟨m + nq, by first | rfl | rw [World.drewN_drewN]⟩, by show _ = _; rw [HN.out, HA.out, HY.out]; rfl⟩
                case measure => simp [intOf]; omega
          · have y2 : (x2 == 0) = false := by simpa using z2
            have HQ : Hid (actF x2 last = x2) := by show _ = _; unfold actF; rw [if_neg z2]
            clear z2
            by_cases c1 : x1 ≤ n
            · by_cases c2 : n ≤ x2
              · have hyes := HM.out (by rw [HH.out, HP.out, HQ.out]; simp only [decide_eq_true_eq]; omega)
                have HY := Lib.hid hyes
                clear hyes
                go_wp2_with fail
                go_quiet (fail)
                go_wp2
                go_ret
                exact ⟨ret_bool HY.out.symm, by first | exact below_drewN (below_drewN hB1 _) _ | exact below_drewN hB1 _⟩
              · have c3 : x2 ≤ n := by omega
                by_cases c4 : n ≤ x1
                · have hyes := HM.out (by rw [HH.out, HP.out, HQ.out]; simp only [decide_eq_true_eq]; omega)
                  have HY := Lib.hid hyes
                  clear hyes
                  go_wp2_with fail
                  go_quiet (fail)
                  go_wp2
                  go_ret
                  exact ⟨ret_bool HY.out.symm, by first | exact below_drewN (below_drewN hB1 _) _ | exact below_drewN hB1 _⟩
                · have hno : hitF last n (x1, x2) = false := by rw [HH.out, HP.out, HQ.out]; simp only [decide_eq_false_iff_not]; omega
                  have HY := Lib.hid hno
                  clear hno
                  go_wp2_with fail
                  go_quiet (fail)
                  go_wp2
                  go_roundw
                  case rel => exact ⟨k + 1, by omega, by go_num, ⟨m + nq, by first | rfl | rw [World.drewN_drewN]⟩, by show _ = _; rw [HN.out, HA.out, HY.out]; rfl⟩
                  case measure => simp [intOf]; omega
            · have c4 : n ≤ x1 := by omega
              by_cases c3 : x2 ≤ n
              · have hyes := HM.out (by rw [HH.out, HP.out, HQ.out]; simp only [decide_eq_true_eq]; omega)
                have HY := Lib.hid hyes
                clear hyes
                go_wp2_with fail
                go_quiet (fail)
                go_wp2
                go_ret
                exact ⟨ret_bool HY.out.symm, by first | exact below_drewN (below_drewN hB1 _) _ | exact below_drewN hB1 _⟩
              · have hno : hitF last n (x1, x2) = false := by rw [HH.out, HP.out, HQ.out]; simp only [decide_eq_false_iff_not]; omega
                have HY := Lib.hid hno
                clear hno
                go_wp2_with fail
                go_quiet (fail)
                go_wp2
                go_roundw
                case rel => exact ⟨k + 1, by omega, by go_num, ⟨m + nq, by first | rfl | rw [World.drewN_drewN]⟩, by show _ = _; rw [HN.out, HA.out, HY.out]; rfl⟩
                case measure => simp [intOf]; omega
      · obtain rfl : k = xs.length := by omega
        have hall := HA.out
        rw [List.take_length, ← HR.out] at hall
        have HRR := Lib.hid hall
        clear hall hr2
        go_wp2
        go_ret
        exact ⟨ret_bool HRR.out.symm, below_drewN hB1 _⟩
end Go.Proofs.YtehbekjcnlcooaaDoor

/- The reference's PickSet (chapter 9). -/
namespace Go.Proofs.YtehbekjcnlcooaaDoor
open Go.RowKit

def PkPost (L : List Int) (w : World) (e : Ending) (w' : World) : Prop := ∃ v, e = .returned v ∧ SlR IntR 2 1 w' w.heap.size v L ∧ Below w.heap.size w w'
theorem max_snoc (l : List Int) (a : Int) (k : Nat) (h : k < l.length) : (l.take (k + 1)).foldl max a = max ((l.take k).foldl max a) l[k] := by
  rw [List.take_succ_eq_append_getElem h, List.foldl_append]
  rfl
set_option maxRecDepth 100000 in
set_option maxHeartbeats 2000000 in
theorem pick_r (A : Option Addr) (xs : List (Int × Int)) (cap : Nat) (A2 : Option Addr) (l : List Int) (cap2 : Nat) (w : World) (hr : RdR SpR 2 w A xs) (hlc : xs.length ≤ cap) (hcm : cap ≤ maxLen)
    (hr2 : RdR IntR 1 w A2 l) (hlc2 : l.length ≤ cap2) (hcm2 : cap2 ≤ maxLen) (hll : l.length ≤ 1000000) :
    Calls Tryd.prog 17 #[.agg #[.slice A xs.length cap], .slice A2 l.length cap2] w (PkPost (pickF xs l) w) := by
  obtain ⟨i0, hi0, hz0, hz1, hz2⟩ := info_parts intInfo
  have hm2 : cap2 ≤ 9223372036854775807 := hcm2
  by_cases h0 : l.length = 0
  · have hl0 : l = [] := List.eq_nil_of_length_eq_zero h0
    subst hl0
    go_enter Tryd.func17, Tryd.ntmps17
    go_wp2
    go_ret
    exact ⟨_, rfl, SlR.nil, (Below.refl _ w).alloc (Nat.le_refl _) _⟩
  have h0' : ((l.length : Int) == 0) = false := by rw [beq_eq_false_iff_ne]; omega
  obtain ⟨b, o, rfl, hb, _⟩ := id hr2 (by omega)
  have hc := fun i hi => int_cell hr2 i hi
  have hcall := fun n last W (hW : Below w.heap.size w W) => has_r A xs cap n last W (hr.below SpR.keeps hW (Nat.le_refl _)) hlc hcm
  have HF := Lib.hid (show pickF xs l = l.filter fun n => hasF xs n (Lib.maxOf l) from rfl)
  have HMX := Lib.hid (show Lib.maxOf l = l.foldl max (l.headD 0) from rfl)
  obtain ⟨W, hW⟩ : ∃ W, W = w.alloc (.cells #[.slice A xs.length cap] 34) := ⟨_, rfl⟩
  have hb0 : Below w.heap.size w W := hW ▸ (Below.refl _ w).alloc (Nat.le_refl _) _
  have hsW : W.heap.size = w.heap.size + 1 := by rw [hW]; simp
  have q0 : W.cell? ⟨w.heap.size, 0, none⟩ = some (.slice A xs.length cap) := hW ▸ new0 w _ _ _
  have HW := Lib.hid hW
  have HH : Hid (∃ t, l = l.headD 0 :: t) := by
    cases l with
    | nil => exact absurd rfl h0
    | cons a t => exact ⟨t, rfl⟩
  have hd0 : w.cell? ⟨b, o, none⟩ = some (.int .i64 (l.headD 0)) := by
    have h := hc 0 (by omega)
    rw [Nat.add_zero] at h
    rw [h]
    obtain ⟨t, ht⟩ := HH.out
    congr 2
    rw [List.headD_eq_head?_getD, List.head?_eq_getElem?, List.getElem?_eq_getElem (by omega)]
    rfl
  have hd0' : W.cell? ⟨b, o, none⟩ = some (.int .i64 (l.headD 0)) := (hb0.cell (p := ⟨b, o, none⟩) hb).trans hd0
  have e0 : (0 : Int) < (l.length : Int) := by omega
  generalize l.headD 0 = a0 at HMX hd0' hd0 HH
  generalize Lib.maxOf l = last at HF HMX
  clear hr hr2 hW hd0 HH
  go_enter Tryd.func17, Tryd.ntmps17
  go_upto_region 4 with (fail)
  rw [← HW.out]
  go_wp2
  go_loopw [6, 7] (fun v i wr => ∃ k : Nat, k ≤ l.length ∧ i = .int .i64 (k : Int) ∧ v = .int .i64 ((l.take k).foldl max a0) ∧ wr = W) (fun _ i _ => l.length - (intOf i).toNat)
  case atStart => exact ⟨0, Nat.zero_le _, rfl, rfl, rfl⟩
  case round =>
    obtain ⟨k, hk, rfl, rfl, rfl⟩ := hrel
    by_cases hlt : k < l.length
    · have e1 : (k : Int) < (l.length : Int) := by omega
      have d := hc k hlt
      rw [← hb0.cell (p := ⟨b, o + k, none⟩) hb] at d
      have HN := Lib.hid (max_snoc l a0 k hlt)
      generalize l[k] = x at d HN
      generalize (l.take k).foldl max a0 = m at HN ⊢
      by_cases t : m < x
      · have HT := Lib.hid t
        go_wp2
        go_roundw
        case rel => exact ⟨k + 1, by omega, by go_num, by rw [HN.out]; congr 1; have := HT.out; omega, (by first | rfl | trivial)⟩
        case measure => simp [intOf]; omega
      · have HT := Lib.hid t
        go_wp2
        go_roundw
        case rel => exact ⟨k + 1, by omega, by go_num, by rw [HN.out]; congr 1; have := HT.out; omega, (by first | rfl | trivial)⟩
        case measure => simp [intOf]; omega
    · obtain rfl : k = l.length := by omega
      rw [List.take_length, ← HMX.out]
      clear hd0' HMX
      go_wp2
      go_loopw [5, 8] (fun v i wx => ∃ (k : Nat), k ≤ l.length ∧ i = .int .i64 (k : Int) ∧ Below w.heap.size w wx ∧ wx.cell? ⟨w.heap.size, 0, none⟩ = some (.slice A xs.length cap) ∧ SlR IntR 2 1 wx (w.heap.size + 1) v ((l.take k).filter fun n => hasF xs n last)) (fun _ i _ => l.length - (intOf i).toNat)
      case atStart => exact ⟨0, Nat.zero_le _, rfl, hb0, q0, SlR.nil⟩
      case round =>
        obtain ⟨k, hk, rfl, hB, kt, hs⟩ := hrel
        have hsz := hB.size
        by_cases hlt2 : k < l.length
        · have e1 : (k : Int) < (l.length : Int) := by omega
          have d := hc k hlt2
          rw [← hB.cell (p := ⟨b, o + k, none⟩) hb] at d
          have HN := Lib.hid (filter_snoc (fun n => hasF xs n last) l k hlt2)
          generalize l[k] = x at d HN
          have hcx := hcall x last
          have hbw : b < wr.heap.size := Nat.lt_of_lt_of_le hb hsz
          have lt0 := World.block_lt_of_cell? wr _ kt
          go_wp2_with fail
          go_still_tail 6, (by kernel_rfl)
          change wpList _ _ _ _ _ wr.drew
          go_wp2_with ((with_reducible refine (hcx wr.drew hB.drew).mono ?_))
          rintro _ w2 ⟨rfl, b2⟩
          have hb2 : Below wr.heap.size wr w2 := (Below.drew (Below.refl _ wr)).trans b2
          clear b2
          have hB2 := hB.trans (hb2.mono hsz)
          have kt2 : w2.cell? ⟨w.heap.size, 0, none⟩ = some (.slice A xs.length cap) := (hb2.cell (p := ⟨w.heap.size, 0, none⟩) lt0).trans kt
          have hs2 := hs.below IntR.keeps hb2 (Nat.le_refl _)
          have hsz2 := hB2.size
          have ht2 := World.block_lt_of_cell? w2 _ kt2
          have d2 := (hb2.cell (p := ⟨b, o + k, none⟩) hbw).trans d
          have hbw2 : b < w2.heap.size := Nat.lt_of_lt_of_le hbw hb2.size
          cases hq : hasF xs x last with
          | false =>
            have HQ := Lib.hid hq
            clear hq
            go_wp2
            go_roundw
            case rel =>
              refine ⟨k + 1, by omega, by go_num, hB2, kt2, ?_⟩
              rw [HN.out, HQ.out]
              simpa using hs2
            case measure => simp [intOf]; omega
          | true =>
            have HQ := Lib.hid hq
            clear hq
            obtain ⟨cells, how, hel⟩ := hs2
            have hfl : ((l.take k).filter fun n => hasF xs n last).length ≤ k := Nat.le_trans (List.length_filter_le _ _) (by rw [List.length_take]; omega)
            generalize ((l.take k).filter fun n => hasF xs n last) = ys at how hel hfl HN
            have h63 : ys.length + 1 ≤ maxLen := by unfold maxLen; omega
            have h47 : (ys.length + 1) * 8 ≤ 140737488355328 := by omega
            have how1 := how.alloc (.cells #[.int .i64 x] 2)
            have hel1 := hel.below IntR.keeps ((Below.refl _ w2).alloc (Nat.le_refl _) (.cells #[.int .i64 x] 2)) (Nat.le_refl _)
            have hB3 := hB2.alloc hsz2 (.cells #[.int .i64 x] 2)
            have kt3 := (keep0 w2 (.cells #[.int .i64 x] 2) _ ht2).trans kt2
            have hnc : ∀ j u, [Value.int .i64 x][j]? = some u → (w2.alloc (.cells #[.int .i64 x] 2)).cell? ((⟨w2.heap.size, 0, none⟩ : Addr).add j) = some u := World.news_of_block (cs := #[.int .i64 x]) (t := 2) (fr := (0, 0)) (heap_alloc_new w2 _)
            have hsb : w.heap.size + 1 ≤ (w2.alloc (.cells #[.int .i64 x] 2)).heap.size := by have : w.heap.size < w2.heap.size := ht2; simp; omega
            go_wp2_with (at_builtin; refine wpList_append_own _ rfl _ _ 25 rfl (w.heap.size + 1) 2 i0 (.int .i64 0) 1 8 Tryd.underlying25 hi0 hz0 hz1 hz2 rfl (by decide) _ ys.length cells rfl how1 ⟨w2.heap.size, 0, none⟩ 1 1 [.int .i64 x] rfl rfl hnc (by intro u hu; simp at hu; subst hu; rfl) h63 h47 hsb ?_)
            intro v3 w3 hown3 g3 _
            have hs3 := SlR.push IntR.keepsRow how1 hel1 rfl (show IntR _ [.int .i64 x] x from rfl) hown3 g3
            have hB4 := hB3.grown g3 (by omega) (fun k hk => by have := (how1.lt k hk).1; omega)
            have kt4 : w3.cell? ⟨w.heap.size, 0, none⟩ = some (.slice A xs.length cap) := (g3.cell_far ⟨w.heap.size, 0, none⟩ (World.block_lt_of_cell? _ _ kt3) (fun h => by have h9 : w.heap.size + 1 ≤ w.heap.size := (how1.lt _ h.symm).1; omega)).trans kt3
            clear how how1 hel hel1 hown3 g3 kt3 hB3 hnc hsb
            go_wp2
            go_roundw
            case rel =>
              refine ⟨k + 1, by omega, by go_num, hB4, kt4, ?_⟩
              rw [HN.out, HQ.out]
              simpa using hs3
            case measure => simp [intOf]; omega
        · obtain rfl : k = l.length := by omega
          rw [List.take_length] at hs
          go_wp2
          go_ret
          obtain ⟨cells, h1, h2⟩ := hs
          exact ⟨_, rfl, by rw [HF.out]; exact ⟨cells, ownk_mono h1 (by omega), h2⟩, hB⟩
end Go.Proofs.YtehbekjcnlcooaaDoor

/- The reference's ShowSet (chapter 9). -/
namespace Go.Proofs.YtehbekjcnlcooaaDoor
open Go.RowKit

def StrPost (s : ByteArray) (w : World) (e : Ending) (w' : World) : Prop := e = .returned (.string s) ∧ Below w.heap.size w w'
theorem star_p (n : Int) (h0 : 0 ≤ n) (h1 : n ≤ 4294967295) (w : World) : Calls Tryd.prog 33 #[.int .i64 n] w (StrPost ⟨(showN n).toArray⟩ w) := star_r n h0 h1 w
def joinK (xs : List (Int × Int)) (k : Nat) : List UInt8 := Lib.join ((xs.take k).map showS) [44]
theorem join_snoc : ∀ (l : List (List UInt8)) (x : List UInt8), l ≠ [] → Lib.join (l ++ [x]) [44] = Lib.join l [44] ++ 44 :: x
  | [], _, h => absurd rfl h
  | [a], x, _ => by simp [Lib.join, List.intercalate]
  | a :: b :: t, x, _ => by
    have ih := join_snoc (b :: t) x (by simp)
    have e : ∀ l : List (List UInt8), Lib.join (a :: b :: l) [44] = a ++ 44 :: Lib.join (b :: l) [44] := fun l => by simp [Lib.join, List.intercalate]
    rw [List.cons_append, List.cons_append, e, e]
    rw [List.cons_append] at ih
    rw [ih]
    simp
theorem joinK_zero (xs : List (Int × Int)) (h : 0 < xs.length) : joinK xs 1 = showS xs[0] := by
  unfold joinK
  rw [List.take_succ_eq_append_getElem h]
  simp [Lib.join_one]
theorem joinK_succ (xs : List (Int × Int)) (k : Nat) (h : k + 1 < xs.length) : joinK xs (k + 2) = joinK xs (k + 1) ++ 44 :: showS xs[k + 1] := by
  unfold joinK
  rw [List.take_succ_eq_append_getElem h, List.map_append]
  exact join_snoc _ _ (by intro e; have := congrArg List.length e; rw [List.length_map, List.length_take, List.length_nil] at this; omega)
theorem joinK_len (xs : List (Int × Int)) (k : Nat) (h : xs.all okS = true) : (joinK xs k).length ≤ 44 * k + 43 := by
  have h1 := join_len (xs.take k) (by rw [List.all_eq_true] at h ⊢; exact fun x hx => h x (List.mem_of_mem_take hx))
  rw [List.length_take] at h1
  unfold joinK
  omega

set_option maxRecDepth 100000 in
set_option maxHeartbeats 4000000 in
theorem show_r (A : Option Addr) (xs : List (Int × Int)) (cap : Nat) (w : World) (hr : RdR SpR 2 w A xs) (hlc : xs.length ≤ cap) (hcm : cap ≤ maxLen) :
    Calls Tryd.prog 13 #[.agg #[.slice A xs.length cap]] w (StrPost ⟨(showSet xs).toArray⟩ w) := by
  have hcm' : cap ≤ 9223372036854775807 := hcm
  obtain ⟨W, hW⟩ : ∃ W, W = w.alloc (.cells #[.slice A xs.length cap] 34) := ⟨_, rfl⟩
  have hb0 : Below w.heap.size w W := hW ▸ (Below.refl _ w).alloc (Nat.le_refl _) _
  have hsW : W.heap.size = w.heap.size + 1 := by rw [hW]; simp
  have q0 : W.cell? ⟨w.heap.size, 0, none⟩ = some (.slice A xs.length cap) := hW ▸ new0 w _ _ _
  have hr1 := hr.below SpR.keeps hb0 (Nat.le_refl _)
  have hgood := good_r A xs cap W hr1 hlc hcm
  rw [hW] at hgood
  have HW := Lib.hid hW
  clear hr hW
  cases hq : validF xs with
  | false =>
    have hF : showSet xs = [] := by unfold showSet; rw [hq]; rfl
    rw [hq] at hgood
    rw [hF]
    clear hF hr1 hq
    go_enter Tryd.func13, Tryd.ntmps13
    go_wp2_with ((with_reducible refine hgood.mono ?_))
    rw [← HW.out]
    rintro _ w1 ⟨rfl, b1⟩
    go_wp2
    go_ret
    exact ⟨rfl, hb0.trans (b1.mono (by omega))⟩
  | true =>
    rw [hq] at hgood
    have hF : showSet xs = joinK xs xs.length := by unfold showSet joinK; rw [hq, List.take_length]; rfl
    obtain ⟨hn, hok⟩ : (1 ≤ xs.length ∧ xs.length ≤ 100) ∧ xs.all okS = true := by
      unfold validF at hq
      simpa using hq
    have HL := Lib.hid (fun k => joinK_len xs k hok)
    have HOK : Hid (∀ i (h : i < xs.length), okS xs[i] = true) := fun i h => List.all_eq_true.1 hok _ (List.getElem_mem h)
    rw [hF]
    clear hF hq hok
    go_enter Tryd.func13, Tryd.ntmps13
    go_wp2_with ((with_reducible refine hgood.mono ?_))
    rw [← HW.out]
    rintro _ w1 ⟨rfl, b1⟩
    have hB1 := hb0.trans (b1.mono (by omega))
    have k0 := (b1.cell (p := ⟨w.heap.size, 0, none⟩) (show w.heap.size < W.heap.size by omega)).trans q0
    have hr2 := hr1.below SpR.keeps b1 (Nat.le_refl _)
    have hs1 := b1.size
    clear hr1 b1 q0 hb0 hgood
    go_wp2
    go_loopw [3, 4] (fun v i wr => ∃ (k : Nat) (S : ByteArray), k ≤ xs.length ∧ i = .int .i64 (k : Int) ∧ v = .string S ∧ Hid (S = ⟨(joinK xs k).toArray⟩) ∧ Below w1.heap.size w1 wr) (fun _ i _ => xs.length - (intOf i).toNat)
    case atStart => exact ⟨0, _, Nat.zero_le _, rfl, rfl, rfl, Below.refl _ _⟩
    case round =>
      obtain ⟨k, S, hk, rfl, rfl, HS, hB⟩ := hrel
      have hsz := hB.size
      have kt := (hB.cell (p := ⟨w.heap.size, 0, none⟩) (show w.heap.size < w1.heap.size by omega)).trans k0
      by_cases hlt : k < xs.length
      · have e1 : (k : Int) < (xs.length : Int) := by omega
        obtain ⟨b, o, rfl, hb, _⟩ := id hr2 (by omega)
        obtain ⟨d1, d2⟩ := rd_agg hr2 k hlt
        rw [← hB.cell (p := ⟨b, o + k * 2, none⟩) hb] at d1
        rw [← hB.cell (p := ⟨b, o + k * 2 + 1, none⟩) hb] at d2
        have hbw : b < wr.heap.size := Nat.lt_of_lt_of_le hb hsz
        have hox := HOK.out k hlt
        have hSz : S.size ≤ 5000 := by
          have h1 := HL.out k
          have h2 : S.size = (joinK xs k).length := by rw [HS.out]; show (joinK xs k).toArray.size = _; simp
          omega
        have HJ0 : Hid (∀ h0 : k = 0, joinK xs (k + 1) = showS xs[k]) := fun h0 => by subst h0; exact joinK_zero xs hlt
        have HJ1 : Hid (∀ j (h0 : k = j + 1), joinK xs (k + 1) = joinK xs k ++ 44 :: showS xs[k]) := fun j h0 => by subst h0; exact joinK_succ xs j hlt
        have HK0 : Hid (k = 0 → joinK xs k = []) := fun h0 => by subst h0; unfold joinK; simp [Lib.join_nil]
        generalize xs[k] = x at d1 d2 hox HJ0 HJ1
        obtain ⟨x1, x2⟩ := x
        unfold okS at hox
        simp only [decide_eq_true_eq] at hox
        have s1 := fun W => star_p x1 (by omega) (by omega) W
        have s2 := fun W => star_p x2 (by omega) (by omega) W
        have l1 := showN_len x1 (by omega) (by omega)
        have l2 := showN_len x2 (by omega) (by omega)
        have HSH := Lib.hid (show showS (x1, x2) = showN x1 ++ (if x1 = x2 then [] else 58 :: showN x2) from rfl)
        have z1 : (⟨(showN x1).toArray⟩ : ByteArray).size ≤ 21 := by show (showN x1).toArray.size ≤ 21; simpa using l1
        have z2 : (⟨(showN x2).toArray⟩ : ByteArray).size ≤ 21 := by show (showN x2).toArray.size ≤ 21; simpa using l2
        have E1 : Hid ((⟨(showN x1).toArray⟩ : ByteArray).data.toList = showN x1) := rfl
        have E2 : Hid ((⟨(showN x2).toArray⟩ : ByteArray).data.toList = showN x2) := rfl
        generalize (⟨(showN x1).toArray⟩ : ByteArray) = N1 at s1 z1 E1
        generalize (⟨(showN x2).toArray⟩ : ByteArray) = N2 at s2 z2 E2
        have c1 : (9223372036854775807 < S.size + 1) = False := by simp; omega
        have c2 : (IntKind.i64.max < (S.size : Int) + 1) = False := by simp [IntKind.max, IntKind.bits, IntKind.signed]; omega
        have c3 : (9223372036854775807 < S.size + N1.size) = False := by simp; omega
        have c4 : (IntKind.i64.max < (S.size : Int) + (N1.size : Int)) = False := by simp [IntKind.max, IntKind.bits, IntKind.signed]; omega
        have c5 : (9223372036854775807 < S.size + 1 + N1.size) = False := by simp; omega
        have c6 : (IntKind.i64.max < (S.size : Int) + 1 + (N1.size : Int)) = False := by simp [IntKind.max, IntKind.bits, IntKind.signed]; omega
        have c7 : (9223372036854775807 < S.size + N1.size + 1) = False := by simp; omega
        have c8 : (IntKind.i64.max < (S.size : Int) + (N1.size : Int) + 1) = False := by simp [IntKind.max, IntKind.bits, IntKind.signed]; omega
        have c9 : (9223372036854775807 < S.size + 1 + N1.size + 1) = False := by simp; omega
        have c10 : (IntKind.i64.max < (S.size : Int) + 1 + (N1.size : Int) + 1) = False := by simp [IntKind.max, IntKind.bits, IntKind.signed]; omega
        have c11 : (9223372036854775807 < S.size + N1.size + 1 + N2.size) = False := by simp; omega
        have c12 : (IntKind.i64.max < (S.size : Int) + (N1.size : Int) + 1 + (N2.size : Int)) = False := by simp [IntKind.max, IntKind.bits, IntKind.signed]; omega
        have c13 : (9223372036854775807 < S.size + 1 + N1.size + 1 + N2.size) = False := by simp; omega
        have c14 : (IntKind.i64.max < (S.size : Int) + 1 + (N1.size : Int) + 1 + (N2.size : Int)) = False := by simp [IntKind.max, IntKind.bits, IntKind.signed]; omega
        clear l1 l2 hr2 hox
        by_cases hxx : x1 = x2
        · have e2 : (x1 != x2) = false := by simpa using hxx
          have HXX := Lib.hid hxx
          clear hxx
          cases k with
          | zero =>
            have e3 : ¬ (0 : Int) < ((0 : Nat) : Int) := by omega
            rw [Nat.zero_mul, Nat.add_zero] at d1 d2
            go_wp2_with ((with_reducible refine (s1 _).mono ?_))
            rintro _ w2 ⟨rfl, b2⟩
            have hB2 := hB.trans (b2.mono hsz)
            have kt2 := (b2.cell (p := ⟨w.heap.size, 0, none⟩) (World.block_lt_of_cell? wr _ kt)).trans kt
            have p1 := (b2.cell (p := ⟨b, o, none⟩) hbw).trans d1
            have p2 := (b2.cell (p := ⟨b, o + 1, none⟩) hbw).trans d2
            go_wp2_with fail
            go_quiet (fail)
            go_wp2
            go_roundw
            case rel =>
              refine ⟨1, _, by omega, by go_num, rfl, ?_, by first | exact below_drewN hB2 _ | exact hB2⟩
              show _ = _
              apply ByteArray.ext
              apply Array.toList_inj.1
              simp only [ByteArray.data_append, Array.toList_append]
              rw [HS.out, E1.out, HJ0.out (by first | rfl | trivial), HSH.out, if_pos HXX.out]
              simp [HK0.out (by first | rfl | trivial)]
            case measure => simp [intOf]; omega
          | succ j =>
            have e3 : (0 : Int) < ((j + 1 : Nat) : Int) := by omega
            go_wp2_with ((with_reducible refine (s1 _).mono ?_))
            rintro _ w2 ⟨rfl, b2⟩
            have hB2 := hB.trans (b2.mono hsz)
            have kt2 := (b2.cell (p := ⟨w.heap.size, 0, none⟩) (World.block_lt_of_cell? wr _ kt)).trans kt
            have p1 := (b2.cell (p := ⟨b, o + (j + 1) * 2, none⟩) hbw).trans d1
            have p2 := (b2.cell (p := ⟨b, o + (j + 1) * 2 + 1, none⟩) hbw).trans d2
            go_wp2_with fail
            go_quiet (fail)
            go_wp2
            go_roundw
            case rel =>
              refine ⟨j + 1 + 1, _, by omega, by go_num, rfl, ?_, by first | exact below_drewN hB2 _ | exact hB2⟩
              show _ = _
              apply ByteArray.ext
              apply Array.toList_inj.1
              simp only [ByteArray.data_append, Array.toList_append]
              rw [HS.out, E1.out, HJ1.out j rfl, HSH.out, if_pos HXX.out]
              simp
            case measure => simp [intOf]; omega
        · have e2 : (x1 != x2) = true := by simpa using hxx
          have HXX := Lib.hid hxx
          clear hxx
          cases k with
          | zero =>
            have e3 : ¬ (0 : Int) < ((0 : Nat) : Int) := by omega
            rw [Nat.zero_mul, Nat.add_zero] at d1 d2
            go_wp2_with ((with_reducible refine (s1 _).mono ?_))
            rintro _ w2 ⟨rfl, b2⟩
            have hB2 := hB.trans (b2.mono hsz)
            have kt2 := (b2.cell (p := ⟨w.heap.size, 0, none⟩) (World.block_lt_of_cell? wr _ kt)).trans kt
            have p1 := (b2.cell (p := ⟨b, o, none⟩) hbw).trans d1
            have p2 := (b2.cell (p := ⟨b, o + 1, none⟩) hbw).trans d2
            go_wp2_with fail
            go_quiet (fail)
            go_wp2_with ((with_reducible refine (s2 _).mono ?_))
            rintro _ w3 ⟨rfl, b3⟩
            have hB3 : Below w1.heap.size w1 w3 := (below_drewN hB2 nq).trans (b3.mono (below_drewN hB2 nq).size)
            go_wp2
            go_roundw
            case rel =>
              refine ⟨1, _, by omega, by go_num, rfl, ?_, hB3⟩
              show _ = _
              apply ByteArray.ext
              apply Array.toList_inj.1
              simp only [ByteArray.data_append, Array.toList_append]
              rw [HS.out, E1.out, E2.out, HJ0.out (by first | rfl | trivial), HSH.out, if_neg HXX.out]
              simp [HK0.out (by first | rfl | trivial)]
            case measure => simp [intOf]; omega
          | succ j =>
            have e3 : (0 : Int) < ((j + 1 : Nat) : Int) := by omega
            go_wp2_with ((with_reducible refine (s1 _).mono ?_))
            rintro _ w2 ⟨rfl, b2⟩
            have hB2 := hB.trans (b2.mono hsz)
            have kt2 := (b2.cell (p := ⟨w.heap.size, 0, none⟩) (World.block_lt_of_cell? wr _ kt)).trans kt
            have p1 := (b2.cell (p := ⟨b, o + (j + 1) * 2, none⟩) hbw).trans d1
            have p2 := (b2.cell (p := ⟨b, o + (j + 1) * 2 + 1, none⟩) hbw).trans d2
            go_wp2_with fail
            go_quiet (fail)
            go_wp2_with ((with_reducible refine (s2 _).mono ?_))
            rintro _ w3 ⟨rfl, b3⟩
            have hB3 : Below w1.heap.size w1 w3 := (below_drewN hB2 nq).trans (b3.mono (below_drewN hB2 nq).size)
            go_wp2
            go_roundw
            case rel =>
              refine ⟨j + 1 + 1, _, by omega, by go_num, rfl, ?_, hB3⟩
              show _ = _
              apply ByteArray.ext
              apply Array.toList_inj.1
              simp only [ByteArray.data_append, Array.toList_append]
              rw [HS.out, E1.out, E2.out, HJ1.out j rfl, HSH.out, if_neg HXX.out]
              simp
            case measure => simp [intOf]; omega
      · obtain rfl : k = xs.length := by omega
        go_wp2
        go_ret
        exact ⟨by rw [HS.out]; rfl, hB1.trans (hB.mono hB1.size)⟩
end Go.Proofs.YtehbekjcnlcooaaDoor

/- The reference's OfSet (chapter 9): plain facts; rows of numbers appended. -/
namespace Go.Proofs.YtehbekjcnlcooaaDoor
open Go.RowKit

/-- The numbers of a list within the bounds, sorted, each once. -/
def DR (p r : List Int) : Prop := r.Pairwise (· < ·) ∧ ∀ n, n ∈ r ↔ n ∈ p ∧ okN n = true
theorem dr_nil : DR [] [] := ⟨.nil, by simp⟩
theorem dr_skip (l r : List Int) (k : Nat) (hk : k < l.length) (h : DR (l.take k) r) (hn : okN l[k] = false) : DR (l.take (k + 1)) r := by
  refine ⟨h.1, fun n => ?_⟩
  rw [List.take_succ_eq_append_getElem hk, h.2 n, List.mem_append, List.mem_singleton]
  constructor
  · rintro ⟨a, b⟩
    exact ⟨.inl a, b⟩
  · rintro ⟨a | a, b⟩
    · exact ⟨a, b⟩
    · rw [a, hn] at b
      cases b
theorem dr_same (l r : List Int) (k j : Nat) (hk : k < l.length) (hj : j < r.length) (h : DR (l.take k) r) (hn : r[j] = l[k]) : DR (l.take (k + 1)) r := by
  refine ⟨h.1, fun n => ?_⟩
  rw [List.take_succ_eq_append_getElem hk, List.mem_append, List.mem_singleton]
  constructor
  · intro a
    have := (h.2 n).1 a
    exact ⟨.inl this.1, this.2⟩
  · rintro ⟨a | a, b⟩
    · exact (h.2 n).2 ⟨a, b⟩
    · rw [a, ← hn]
      exact List.getElem_mem hj
theorem dr_ins (l r : List Int) (k j : Nat) (hk : k < l.length) (hj : j ≤ r.length) (h : DR (l.take k) r) (hn : okN l[k] = true) (h1 : ∀ i (hi : i < r.length), i < j → r[i] < l[k]) (h2 : ∀ hj' : j < r.length, l[k] < r[j]) :
    DR (l.take (k + 1)) ([] ++ r.take j ++ [l[k]] ++ r.drop j) := by
  have hp := h.1
  rw [← List.take_append_drop j r, List.pairwise_append] at hp
  obtain ⟨p1, p2, p3⟩ := hp
  have ha : ∀ y ∈ r.take j, y < l[k] := by
    intro y hy
    obtain ⟨i, hi, rfl⟩ := List.getElem_of_mem hy
    rw [List.length_take] at hi
    rw [List.getElem_take]
    exact h1 i (by omega) (by omega)
  have hb : ∀ y ∈ r.drop j, l[k] < y := by
    intro y hy
    obtain ⟨i, hi, rfl⟩ := List.getElem_of_mem hy
    rw [List.length_drop] at hi
    have hj' : j < r.length := by omega
    have h0 := h2 hj'
    rcases Nat.eq_zero_or_pos i with rfl | hpos
    · rw [List.getElem_drop]
      simpa using h0
    · have h3 : (r.drop j)[0]'(by rw [List.length_drop]; omega) < (r.drop j)[i] := List.pairwise_iff_getElem.1 p2 0 i _ _ hpos
      rw [List.getElem_drop] at h3
      simp only [Nat.add_zero] at h3
      omega
  refine ⟨?_, fun n => ?_⟩
  · rw [List.nil_append, List.pairwise_append]
    refine ⟨?_, p2, ?_⟩
    · rw [List.pairwise_append]
      exact ⟨p1, by simp, fun a h4 b h5 => by rw [List.mem_singleton] at h5; rw [h5]; exact ha a h4⟩
    · intro a h4 b h5
      rcases List.mem_append.1 h4 with h4 | h4
      · exact p3 a h4 b h5
      · rw [List.mem_singleton] at h4
        rw [h4]
        exact hb b h5
  · have hm := h.2 n
    rw [← List.take_append_drop j r, List.mem_append] at hm
    rw [List.take_succ_eq_append_getElem hk, List.nil_append, List.mem_append, List.mem_append, List.mem_append, List.mem_singleton]
    constructor
    · rintro ((a | a) | a)
      · have := hm.1 (.inl a)
        exact ⟨.inl this.1, this.2⟩
      · exact ⟨.inr a, by rw [a]; exact hn⟩
      · have := hm.1 (.inr a)
        exact ⟨.inl this.1, this.2⟩
    · rintro ⟨a | a, b⟩
      · rcases hm.2 ⟨a, b⟩ with c | c
        · exact .inl (.inl c)
        · exact .inr c
      · exact .inl (.inr a)
theorem uniq_sorted : ∀ (a b : List Int), a.Pairwise (· < ·) → b.Pairwise (· < ·) → (∀ n, n ∈ a ↔ n ∈ b) → a = b
  | [], [], _, _, _ => rfl
  | [], y :: b, _, _, h => absurd ((h y).2 (by simp)) (by simp)
  | x :: a, [], _, _, h => absurd ((h x).1 (by simp)) (by simp)
  | x :: a, y :: b, ha, hb, h => by
    rw [List.pairwise_cons] at ha hb
    have e : x = y := by
      have h1 := (h x).1 (by simp)
      have h2 := (h y).2 (by simp)
      rcases List.mem_cons.1 h1 with h1 | h1
      · exact h1
      · rcases List.mem_cons.1 h2 with h2 | h2
        · exact h2.symm
        · have := ha.1 y h2
          have := hb.1 x h1
          omega
    subst e
    rw [uniq_sorted a b ha.2 hb.2 fun n => ?_]
    constructor
    · intro hn
      have h1 := ha.1 n hn
      rcases List.mem_cons.1 ((h n).1 (by simp [hn])) with h2 | h2
      · omega
      · exact h2
    · intro hn
      have h1 := hb.1 n hn
      rcases List.mem_cons.1 ((h n).2 (by simp [hn])) with h2 | h2
      · omega
      · exact h2
theorem step_again (p : List Int) (ys : List (Int × Int)) (n : Int) (h : OfInv p ys) (hs : ∀ m ∈ p, m ≤ n) (hn : n ∈ p) : stepOf ys n = ys := by
  obtain ⟨y, hy, _, h2⟩ := (h.mem n).2 hn
  rcases List.eq_nil_or_concat ys with rfl | ⟨zs, ⟨a, b⟩, rfl⟩
  · cases hy
  · rw [List.concat_eq_append] at h hy ⊢
    have hb : b ∈ p := h.last (a, b) (by simp)
    have h3 := hs b hb
    have h4 : y.2 ≤ b := h.bd y hy (a, b) (by simp)
    have e : n = b := by omega
    rw [stepOf_snoc, if_pos (by omega), e]
theorem dd_ex : ∀ (n : Nat) (p : List Int), p.length = n → p.Pairwise (· ≤ ·) → ∃ q : List Int, q.Pairwise (· < ·) ∧ (∀ m, m ∈ q ↔ m ∈ p) ∧ p.foldl stepOf [] = q.foldl stepOf []
  | 0, p, h, _ => by
    obtain rfl := List.eq_nil_of_length_eq_zero h
    exact ⟨[], .nil, by simp, rfl⟩
  | k + 1, p, h, hp => by
    rcases List.eq_nil_or_concat p with rfl | ⟨p', n, rfl⟩
    · cases h
    rw [List.concat_eq_append] at h hp ⊢
    rw [List.pairwise_append] at hp
    obtain ⟨h1, _, h3⟩ := hp
    have hle : ∀ m ∈ p', m ≤ n := fun m hm => h3 m hm n (by simp)
    obtain ⟨q, q1, q2, q3⟩ := dd_ex k p' (by simpa using h) h1
    have e : (p' ++ [n]).foldl stepOf [] = stepOf (p'.foldl stepOf []) n := by rw [List.foldl_append]; rfl
    by_cases hn : n ∈ p'
    · refine ⟨q, q1, fun m => ?_, ?_⟩
      · rw [q2 m, List.mem_append, List.mem_singleton]
        constructor
        · exact .inl
        · rintro (a | a)
          · exact a
          · rw [a]; exact hn
      · rw [e, step_again p' _ n (ofInv_run p' h1) hle hn, q3]
    · refine ⟨q ++ [n], ?_, fun m => ?_, ?_⟩
      · rw [List.pairwise_append]
        refine ⟨q1, by simp, fun a ha b hb => ?_⟩
        rw [List.mem_singleton] at hb
        subst hb
        have h4 := (q2 a).1 ha
        have h5 := hle a h4
        rcases Int.lt_or_eq_of_le h5 with h6 | h6
        · exact h6
        · exact absurd (h6 ▸ h4) hn
      · rw [List.mem_append, List.mem_append, q2 m]
      · rw [e, q3, List.foldl_append]
        rfl
/-- The spans of the numbers sorted, each once, are those of the numbers. -/
theorem dr_of (l r : List Int) (h : DR l r) : r.foldl stepOf [] = ofF l := by
  have hs : ((l.mergeSort fun x y => decide (x ≤ y)).filter okN).Pairwise (· ≤ ·) := (sort_pair l).filter _
  obtain ⟨q, q1, q2, q3⟩ := dd_ex _ _ rfl hs
  have e : q = r := uniq_sorted q r q1 h.1 fun n => by
    rw [q2 n, h.2 n, List.mem_filter, sort_mem]
  unfold ofF runOf
  rw [q3, e]
def runK (r : List Int) (k : Nat) : List (Int × Int) := (r.take k).foldl stepOf []
theorem runK_zero (r : List Int) : runK r 0 = [] := rfl
theorem runK_succ (r : List Int) (k : Nat) (h : k < r.length) : runK r (k + 1) = stepOf (runK r k) r[k] := by
  unfold runK
  rw [List.take_succ_eq_append_getElem h, List.foldl_append]
  rfl
theorem runK_len (r : List Int) (k : Nat) : (runK r k).length ≤ k := by
  have key : ∀ (l : List Int) (ys : List (Int × Int)), (l.foldl stepOf ys).length ≤ ys.length + l.length := fun l => by
    induction l with
    | nil => intro ys; simp
    | cons x l ih =>
      intro ys
      rw [List.foldl_cons, List.length_cons]
      have h1 := ih (stepOf ys x)
      have h2 := stepOf_len ys x
      omega
  have h1 := key (r.take k) []
  rw [List.length_take] at h1
  unfold runK
  simp at h1
  omega
/-- The last span ends below the next number. -/
theorem runK_lt (r : List Int) (k : Nat) (hp : r.Pairwise (· < ·)) (h : k < r.length) (zs : List (Int × Int)) (a b : Int) (he : runK r k = zs ++ [(a, b)]) : b < r[k] ∧ b ∈ r := by
  have hp1 : (r.take k).Pairwise (· ≤ ·) := (hp.imp fun h => Int.le_of_lt h).take
  have i := ofInv_run _ hp1
  have hb : b ∈ r.take k := i.last (a, b) (by
    have : (r.take k).foldl stepOf [] = zs ++ [(a, b)] := he
    rw [this]
    simp)
  refine ⟨?_, List.mem_of_mem_take hb⟩
  obtain ⟨i, hi, e⟩ := List.getElem_of_mem hb
  rw [List.length_take] at hi
  rw [List.getElem_take] at e
  rw [← e]
  exact List.pairwise_iff_getElem.1 hp i k (by omega) h (by omega)
theorem dr_len (r : List Int) (k j : Nat) (x : Int) (h : r.length ≤ k) : ([] ++ r.take j ++ [x] ++ r.drop j).length ≤ k + 1 := by
  simp
  omega

def ints (l : List Int) : List Value := l.map (Value.int .i64)
theorem ints_len (l : List Int) : (ints l).length = l.length := by simp [ints]
theorem ints_app (l m : List Int) : ints (l ++ m) = ints l ++ ints m := by simp [ints]
section
variable {P : Program} (w : World)
theorem run_append_ints (base : Nat) (t ty e : TypeId) (i : TypeInfo) (ht : P.underlying t = some (.slice e)) (hi : P.info? e = some i) (hz : i.zero = some (.int .i64 0)) (hsize : i.size = 1) (hby : i.bytes = 8)
    (v : Value) (l1 : List Int) (hown : w.ownsRow base e 1 v l1.length (ints l1)) (A : Option Addr) (l2 : List Int) (c : Nat) (hr : RdR IntR 1 w A l2) (h63 : l1.length + l2.length ≤ 1000) (hbase : base ≤ w.heap.size) :
    ∃ v' w', (Builtin.append_ #[t, t] ty #[v, .slice A l2.length c]).run P w = .ok v' w' ∧ w'.ownsRow base e 1 v' (l1 ++ l2).length (ints (l1 ++ l2)) ∧ w.grownBy w' v.ownBlock ∧ (v'.ownBlock = v.ownBlock ∨ v'.ownBlock = some w.heap.size) := by
  rw [List.length_append, ints_app]
  have hm : l1.length + l2.length ≤ maxLen := by unfold maxLen; omega
  rcases A with _ | ad
  · have h2 : l2 = [] := by
      rcases Nat.eq_zero_or_pos l2.length with h0 | h0
      · exact List.eq_nil_of_length_eq_zero h0
      · obtain ⟨b, o, h, _⟩ := hr h0
        cases h
    subst h2
    refine ⟨v, w, ?_, by simpa [ints] using hown, World.grownBy.refl w _, .inl rfl⟩
    rcases hown.2 with ⟨rfl, h0⟩ | ⟨g, cap, cur, rfl, _, _, hnc, _⟩
    · have : l1 = [] := List.eq_nil_of_length_eq_zero h0
      subst this
      simp [Builtin.append_, run_underlying ht, sizeOf, typeInfo, hi, Builtin.lenOf, Builtin.firstCells]
    · simp [Builtin.append_, run_underlying ht, sizeOf, typeInfo, hi, Builtin.lenOf, Builtin.firstCells, hnc, storeCells]
  · have hcells : ∀ j u, (ints l2)[j]? = some u → w.cell? (ad.add j) = some u := by
      intro j u hu
      have hj : j < l2.length := by
        have := (List.getElem?_eq_some_iff.1 hu).1
        rwa [ints_len] at this
      obtain ⟨b, o, h, _, _⟩ := id hr (by omega)
      injection h with h
      subst h
      have e : (⟨b, o, none⟩ : Addr).add j = ⟨b, o + j, none⟩ := by unfold Addr.add; split <;> simp_all
      rw [e, int_cell hr j hj, ← hu]
      simp [ints, hj]
    obtain ⟨v', w', hrun, h2, h3, _, h5⟩ := run_append_own_at (P := P) w base t ty e i (.int .i64 0) 1 8 ht hi hz hsize hby rfl (by decide) v l1.length (ints l1) hown ad l2.length c (ints l2) (by rw [ints_len]; omega) hcells
      (by intro u hu; simp only [ints, List.mem_map] at hu; obtain ⟨x, _, rfl⟩ := hu; rfl) hm (by omega) hbase
    exact ⟨v', w', hrun, h2, h3, h5⟩
theorem step_append_ints {ops : Array Oper} {o : Oper} {a : Act} {K : Act → World → Prop} {Q : Exit → Act → World → Prop} {E : Prop} (hgd : o.guard = none) (s x : Operand) (t : TypeId)
    (ho : o.op = .call { callee := .builtin .append, args := #[s, x], argTypes := #[t, t] })
    (base : Nat) (e : TypeId) (i : TypeInfo) (ht : P.underlying t = some (.slice e)) (hi : P.info? e = some i) (hz : i.zero = some (.int .i64 0)) (hsize : i.size = 1) (hby : i.bytes = 8)
    (v : Value) (l1 : List Int) (hs : a.eval s = v) (hown : w.ownsRow base e 1 v l1.length (ints l1)) (A : Option Addr) (l2 : List Int) (n c : Nat) (hn : n = l2.length) (hx : a.eval x = .slice A n c) (hr : RdR IntR 1 w A l2) (h63 : l1.length + l2.length ≤ 1000) (hbase : base ≤ w.heap.size)
    (h : ∀ v' w', w'.ownsRow base e 1 v' (l1 ++ l2).length (ints (l1 ++ l2)) → w.grownBy w' v.ownBlock → (v'.ownBlock = v.ownBlock ∨ v'.ownBlock = some w.heap.size) → K (a.put o.dst v') w') :
    if Region.wanted o (yielded ops a.tmps) = true then Oper.wp P o a w K Q else E := by
  have hw : Region.wanted o (yielded ops a.tmps) = true := by simp [Region.wanted, hgd]
  rw [if_pos hw]
  subst hn
  obtain ⟨v', w', hrun, h2, h3, h4⟩ := run_append_ints (P := P) w base t o.type e i ht hi hz hsize hby v l1 hown A l2 c hr h63 hbase
  unfold Oper.wp execOp
  simp only [ho, resolve, invoke, builtin, Sem.run_bind, Sem.run_pure, Result.andThen_ok, List.map_toArray, List.map_cons, List.map_nil, hs, hx, hrun]
  exact h v' w' h2 h3 h4
end
theorem setCell_drewN (w : World) (n : Nat) (a : Addr) (v : Value) : (w.drewN n).setCell a v = (w.setCell a v).drewN n := rfl
theorem alloc_drewN (w : World) (n : Nat) (o : Obj) : (w.drewN n).alloc o = (w.alloc o).drewN n := rfl
theorem intInfo8 : (Tryd.prog.info? 2).map (fun i => (i.zero, i.size, i.bytes)) = some (some (.int .i64 0), 1, 8) := by kernel_rfl
theorem below_a1 (w : World) (o : Obj) : Below w.heap.size w (w.alloc o) := (Below.refl w.heap.size w).alloc (Nat.le_refl _) o
theorem below_d1 {B : Nat} {a w : World} (h : Below B a w) : Below B a w.drew := below_drewN h 1
section
variable {w : World} {A : Option Addr} {l : List Int} {B k n : Nat} {e : TypeId} {v : Value} {xs : List Value}
theorem rdi_drew (h : RdR IntR 1 w A l) (n : Nat) : RdR IntR 1 (w.drewN n) A l := h.below IntR.keeps (below_drewN (Below.refl _ _) n) (Nat.le_refl _)
theorem rdi_drew1 (h : RdR IntR 1 w A l) : RdR IntR 1 w.drew A l := rdi_drew h 1
theorem rdi_alloc (h : RdR IntR 1 w A l) (o : Obj) : RdR IntR 1 (w.alloc o) A l := h.below IntR.keeps (below_a1 w o) (Nat.le_refl _)
theorem owi_drew (h : w.ownsRow B e k v n xs) (m : Nat) : (w.drewN m).ownsRow B e k v n xs := ownk_below h (below_drewN (Below.refl _ _) m) (Nat.le_refl _)
theorem owi_drew1 (h : w.ownsRow B e k v n xs) : w.drew.ownsRow B e k v n xs := owi_drew h 1
theorem owi_alloc (h : w.ownsRow B e k v n xs) (o : Obj) : (w.alloc o).ownsRow B e k v n xs := ownk_below h (below_a1 w o) (Nat.le_refl _)
end
theorem owi_emptyN (w : World) (B : Nat) (e : TypeId) (b : Nat) (hb : w.heap.size = b) (hB : B ≤ w.heap.size) : (w.alloc (.cells #[] e)).ownsRow B e 1 (.slice (some ⟨b, 0, none⟩) 0 0) ([] : List Int).length (ints []) := by
  subst hb
  exact ⟨rfl, .inr ⟨w.heap.size, 0, #[], rfl, hB, by simp [World.alloc, -World.alloc_eq], Nat.le_refl _, by decide, rfl, rfl⟩⟩
theorem rdi_one {w : World} {b o : Nat} {x : Int} (hb : b < w.heap.size) (h : w.cell? ⟨b, o, none⟩ = some (.int .i64 x)) : RdR IntR 1 w (some ⟨b, o, none⟩) [x] := fun _ =>
  ⟨b, o, rfl, hb, fun i hi => by
    obtain rfl : i = 0 := by simpa using hi
    refine ⟨[.int .i64 x], rfl, rfl, fun j hj => ?_⟩
    obtain rfl : j = 0 := by simpa using hj
    exact h⟩
theorem rdi_litN (w : World) (x : Int) (b : Nat) (hb : w.heap.size = b) (C : Array Value) (hC : C = #[.int .i64 x]) : RdR IntR 1 (w.alloc (.cells C 2)) (some ⟨b, 0, none⟩) [x] := by
  subst hb hC
  exact rdi_one (by simp) (new0 w _ _ _)
theorem rdi_take {w : World} {A : Option Addr} {r : List Int} (h : RdR IntR 1 w A r) (j : Nat) : RdR IntR 1 w A (r.take j) := fun hp => by
  rw [List.length_take] at hp
  obtain ⟨b, o, rfl, hb, hc⟩ := h (by omega)
  refine ⟨b, o, rfl, hb, fun i hi => ?_⟩
  rw [List.getElem_take]
  exact hc i (by rw [List.length_take] at hi; omega)
theorem rdi_drop {w : World} {A : Option Addr} {r : List Int} {cap : Nat} (hc : r.length ≤ cap) (h : RdR IntR 1 w A r) (j : Nat) (hj : j ≤ r.length) : RdR IntR 1 w (if cap = j then A else A.map fun x => x.add j) (r.drop j) := fun hp => by
  rw [List.length_drop] at hp
  obtain ⟨b, o, rfl, hb, hc⟩ := h (by omega)
  have e : (⟨b, o, none⟩ : Addr).add j = ⟨b, o + j, none⟩ := by unfold Addr.add; split <;> simp_all
  rw [if_neg (by omega)]
  refine ⟨b, o + j, by rw [← e]; rfl, hb, fun i hi => ?_⟩
  rw [List.getElem_drop]
  obtain ⟨cs, h1, h2, h3⟩ := hc (j + i) (by rw [List.length_drop] at hi; omega)
  refine ⟨cs, h1, h2, fun q hq => ?_⟩
  have := h3 q hq
  rw [show o + j + 1 * i + q = o + 1 * (j + i) + q by omega]
  exact this
theorem keepi_b {B : Nat} {a w w' : World} {row : Option Nat} {G : Prop} (hg : w.grownBy w' row) (h : Below B a w) (hB : B ≤ w.heap.size) (hr : ∀ k, row = some k → B ≤ k) (next : Below B a w' → G) : G := next (h.grown hg hB hr)
theorem keepi_r {w w' : World} {g o : Nat} {x : Int} {row : Option Nat} {G : Prop} (hg : w.grownBy w' row) (h : RdR IntR 1 w (some ⟨g, o, none⟩) [x]) (hne : row ≠ some g) (next : RdR IntR 1 w' (some ⟨g, o, none⟩) [x] → G) : G := next (by
  obtain ⟨b, o', e, hb, _⟩ := id h (by simp)
  injection e with e
  injection e with e1 e2
  subst e1 e2
  have h1 := int_cell h 0 (by simp)
  simp only [Nat.add_zero, List.getElem_cons_zero] at h1
  have h2 := (hg.cell_far ⟨g, o, none⟩ hb (Ne.symm hne)).trans h1
  exact rdi_one (World.block_lt_of_cell? w' _ h2) h2)
/-- A row of spans whose last is (a, b): where it lies. -/
theorem last_spanG {e : TypeId} {w : World} {B : Nat} {v : Value} {zs : List (Int × Int)} {a b : Int} (h : SlR SpR e 2 w B v (zs ++ [(a, b)])) :
    ∃ g cap, v = .slice (some ⟨g, 0, none⟩) (zs.length + 1) cap ∧ zs.length + 1 ≤ cap ∧ cap ≤ maxLen ∧ B ≤ g ∧ g < w.heap.size ∧ w.cell? ⟨g, zs.length * 2 + 1, none⟩ = some (.int .i64 b) ∧ w.frozen? ⟨g, zs.length * 2 + 1, none⟩ = false ∧
      ∀ n, SlR SpR e 2 (w.setCell ⟨g, zs.length * 2 + 1, none⟩ (.int .i64 n)) B v (zs ++ [(a, n)]) := by
  obtain ⟨A, cap, hv, h1, h2, h3⟩ := h.shape
  obtain ⟨g, rfl, hg⟩ := h3 (by simp)
  have hl : (zs ++ [(a, b)]).length = zs.length + 1 := by simp
  rw [hl] at hv h1
  subst hv
  obtain ⟨cs, k1, k2, k3⟩ := h.at_ zs.length (by simp)
  have e9 : (zs ++ [(a, b)])[zs.length] = (a, b) := by simp
  rw [e9] at k1
  unfold SpR encS at k1
  subst k1
  have k4 := k3 1 (by simp)
  rw [Nat.mul_comm 2] at k4
  have hlt := World.block_lt_of_cell? w _ k4
  refine ⟨g, cap, rfl, h1, h2, hg, hlt, k4, ?_, fun n => ?_⟩
  · obtain ⟨cells, ⟨_, ⟨hv, _⟩ | ⟨g', cap', cur, hv, _, hh, _⟩⟩, _⟩ := h
    · cases hv
    · injection hv with e1
      injection e1 with e1
      injection e1 with e1
      subst e1
      simp [World.frozen?, hh]
  · have h5 := SlR.setEl h zs.length 1 (by simp) (by decide) (.int .i64 n) (a, n) (fun cs x w' h => h) (fun cs w' h6 h7 => by
      rw [e9] at h6
      unfold SpR encS at h6 ⊢
      rw [h6]
      rfl)
    have e2 : (zs ++ [(a, b)]).set zs.length (a, n) = zs ++ [(a, n)] := by simp
    rw [e2] at h5
    exact h5
theorem ownk_drewG {w : World} {B k n : Nat} {e : TypeId} {v : Value} {xs : List Value} (h : w.ownsRow B e k v n xs) (m : Nat) : (w.drewN m).ownsRow B e k v n xs := owi_drew h m
theorem SlR.drewG {e : TypeId} {w : World} {B : Nat} {v : Value} {xs : List (Int × Int)} (h : SlR SpR e 2 w B v xs) (n : Nat) : SlR SpR e 2 (w.drewN n) B v xs := h.below SpR.keeps (below_drewN (Below.refl _ _) n) (Nat.le_refl _)
end Go.Proofs.YtehbekjcnlcooaaDoor
