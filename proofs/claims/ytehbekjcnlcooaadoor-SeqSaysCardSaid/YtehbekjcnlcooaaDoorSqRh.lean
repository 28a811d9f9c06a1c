/- The reference's OfSet (chapter 9). -/
import Derived.Test.YtehbekjcnlcooaaDoorSqRd
import Derived.StillTailTactics
set_option linter.unusedVariables false
namespace Go.Proofs.YtehbekjcnlcooaaDoor
open Go.RowKit
attribute [local go_sem] setCell_drewN alloc_drewN

def OfRPost (xs : List (Int × Int)) (w : World) (e : Ending) (w' : World) : Prop := ∃ A2 cap2, e = .returned (.agg #[.slice A2 xs.length cap2]) ∧ RdR SpR 2 w' A2 xs ∧ xs.length ≤ cap2 ∧ cap2 ≤ maxLen ∧ Below w.heap.size w w'
set_option maxRecDepth 100000 in
set_option maxHeartbeats 4000000 in
theorem ofset_r (A : Option Addr) (l : List Int) (cap : Nat) (w : World) (hr : RdR IntR 1 w A l) (hlc : l.length ≤ cap) (hcm : cap ≤ maxLen) (h60 : l.length ≤ 60) :
    Calls Tryd.prog 18 #[.slice A l.length cap] w (OfRPost (ofF l) w) := by
  obtain ⟨i0, hi0, hz0, hz1, hz2⟩ := info_parts intInfo8
  obtain ⟨j0, hj0, hy0, hy1, hy2⟩ := info_parts rspanInfo
  have hcm' : cap ≤ 9223372036854775807 := hcm
  obtain ⟨W, hW⟩ : ∃ W, W = w.alloc (.cells #[.slice none 0 0] 34) := ⟨_, rfl⟩
  have hb0 : Below w.heap.size w W := hW ▸ (Below.refl _ w).alloc (Nat.le_refl _) _
  have hsW : W.heap.size = w.heap.size + 1 := by rw [hW]; simp
  have q0 : W.cell? ⟨w.heap.size, 0, none⟩ = some (.slice none 0 0) := hW ▸ new0 w _ _ _
  have g0 : W.frozen? ⟨w.heap.size, 0, none⟩ = false := by rw [hW]; simp
  have hr1 := hr.below IntR.keeps hb0 (Nat.le_refl _)
  have HW := Lib.hid hW
  clear hr hW
  go_enter Tryd.func18, Tryd.ntmps18
  go_wp2
  go_loopw [3, 4] (fun v i wr => ∃ (k : Nat) (r : List Int), k ≤ l.length ∧ i = .int .i64 (k : Int) ∧ Below W.heap.size W wr ∧ r.length ≤ k ∧ wr.ownsRow W.heap.size 2 1 v r.length (ints r) ∧ Hid (DR (l.take k) r)) (fun _ i _ => l.length - (intOf i).toNat)
  case atStart =>
    rw [← HW.out]
    exact ⟨0, [], Nat.zero_le _, rfl, Below.refl _ _, Nat.le_refl _, World.ownsRow_nil _ _ _ _, dr_nil⟩
  case round =>
    obtain ⟨k, r, hk, rfl, hB, hrk, hown, hdr⟩ := hrel
    have hsz := hB.size
    obtain ⟨A2, cap2, rfl, n1, n2, hrr⟩ := (ints_sl _ _ _ _ hown).rdq (by decide)
    have n2' : cap2 ≤ 9223372036854775807 := n2
    by_cases hlt : k < l.length
    · have e1 : (k : Int) < (l.length : Int) := by omega
      obtain ⟨b, o, rfl, hb, _⟩ := id hr1 (by omega)
      have d := int_cell hr1 k hlt
      rw [← hB.cell (p := ⟨b, o + k, none⟩) hb] at d
      have hbw : b < wr.heap.size := Nat.lt_of_lt_of_le hb hsz
      have HS := Lib.hid (dr_skip l r k hlt hdr.out)
      have HM := Lib.hid (fun j (hj : j < r.length) => dr_same l r k j hlt hj hdr.out)
      have HI := Lib.hid (fun j (hj : j ≤ r.length) => dr_ins l r k j hlt hj hdr.out)
      generalize l[k] = x at d HS HM HI
      have hr60 : r.length ≤ 59 := by omega
      by_cases t1 : x < 1
      · have hq : okN x = false := by unfold okN; simp; omega
        have HQ := Lib.hid hq
        clear hq
        go_wp2
        go_roundw
        case rel => exact ⟨k + 1, r, by omega, by go_num, hB, by omega, hown, HS.out HQ.out⟩
        case measure => simp [intOf]; omega
      by_cases t2 : 4294967295 < x
      · have hq : okN x = false := by unfold okN; simp; omega
        have HQ := Lib.hid hq
        clear hq
        go_wp2
        go_roundw
        case rel => exact ⟨k + 1, r, by omega, by go_num, hB, by omega, hown, HS.out HQ.out⟩
        case measure => simp [intOf]; omega
      have hq : okN x = true := by unfold okN; simp; omega
      have HQ := Lib.hid hq
      clear hq HS
      obtain ⟨w2, hw2⟩ : ∃ w2, w2 = wr := ⟨_, rfl⟩
      subst hw2
      go_wp2
      go_loopw [5] (fun jv wj => ∃ j : Nat, j ≤ r.length ∧ jv = .int .i64 (j : Int) ∧ (∃ n, wj = w2.drewN n) ∧ Hid (∀ i (hi : i < r.length), i < j → r[i] < x)) (fun jv _ => r.length - (intOf jv).toNat)
      case atStart => exact ⟨0, Nat.zero_le _, rfl, ⟨0, rfl⟩, fun i hi h => absurd h (by omega)⟩
      case round =>
        obtain ⟨j, hj, rfl, ⟨nn, rfl⟩, hlow⟩ := hrel
        by_cases hjl : j < r.length
        · have e2 : (j : Int) < (r.length : Int) := by omega
          obtain ⟨g, o2, rfl, hg, _⟩ := id hrr (by omega)
          have d2 := int_cell hrr j hjl
          have d' : (w2.drewN nn).cell? ⟨b, o + k, none⟩ = some (.int .i64 x) := d
          have d2' : (w2.drewN nn).cell? ⟨g, o2 + j, none⟩ = some (.int .i64 r[j]) := d2
          have HN : Hid (r[j] < x → ∀ i (hi : i < r.length), i < j + 1 → r[i] < x) := fun h i hi h2 => by
            by_cases hij : i = j
            · subst hij
              exact h
            · exact hlow.out i hi (by omega)
          have HMj := Lib.hid (HM.out j hjl)
          have HIj := Lib.hid (HI.out j hj)
          have HT : Hid (∀ y, r[j] = y → x < y → ∀ hj' : j < r.length, x < r[j]) := fun y h1 h2 _ => by rw [h1]; exact h2
          have hyy : Hid (∃ y, r[j] = y) := ⟨_, rfl⟩
          generalize hy : r[j] = y at d2 d2' HN HMj
          replace hy := Lib.hid hy
          by_cases c1 : y < x
          · go_wp2_with fail
            go_quiet (fail)
            go_wp2
            go_roundw
            case rel => exact ⟨j + 1, by omega, by go_num, ⟨nn + nq, by first | rfl | rw [World.drewN_drewN]⟩, HN.out c1⟩
            case measure => simp [intOf]; omega
          · have hjn : ((j : Int) == (r.length : Int)) = false := beq_false_of_ne (by omega)
            by_cases c2 : y = x
            · have c3 : (y != x) = false := by simp [c2]
              have C2 := Lib.hid c2
              clear c2
              go_wp2_with fail
              go_quiet (fail)
              have en : (w2.drewN nn).drewN nq = w2.drewN (nn + nq) := by first | rfl | rw [World.drewN_drewN]
              rw [en]
              clear en d' d2'
              generalize nn + nq = n3
              have d' : (w2.drewN n3).cell? ⟨b, o + k, none⟩ = some (.int .i64 x) := d
              have d2' : (w2.drewN n3).cell? ⟨g, o2 + j, none⟩ = some (.int .i64 y) := d2
              go_wp2_with fail
              go_quiet (fail)
              go_wp2
              go_roundw
              case rel => exact ⟨k + 1, r, by omega, by go_num, (by first | exact below_drewN (below_drewN hB _) _ | exact below_drewN hB _), by omega, (by first | exact owi_drew (owi_drew hown _) _ | exact owi_drew hown _), HMj.out C2.out⟩
              case measure => simp [intOf]; omega
            · have c3 : (y != x) = true := by simpa using c2
              have hxy : x < y := by omega
              have HIJ := Lib.hid (HIj.out HQ.out hlow.out (HT.out y hy.out hxy))
              clear c2 HT HIj HMj HN
              go_wp2_with fail
              go_quiet (fail)
              have en : (w2.drewN nn).drewN nq = w2.drewN (nn + nq) := by first | rfl | rw [World.drewN_drewN]
              rw [en]
              clear en
              generalize nn + nq = n3
              have d' : (w2.drewN n3).cell? ⟨b, o + k, none⟩ = some (.int .i64 x) := d
              have d2' : (w2.drewN n3).cell? ⟨g, o2 + j, none⟩ = some (.int .i64 y) := d2
              go_wp2_with fail
              go_quiet (fail)
              obtain ⟨w3, hw3⟩ : ∃ w3, w3 = (w2.drewN n3).drewN nq := ⟨_, rfl⟩
              rw [← hw3]
              have hb23 : Below w2.heap.size w2 w3 := hw3 ▸ below_drewN (below_drewN (Below.refl _ _) _) _
              clear hw3 d' d2'
              have hs3 := hb23.size
              have hB3 := hB.trans (hb23.mono hsz)
              have hz3 := hB3.size
              have d3 : w3.cell? ⟨b, o + k, none⟩ = some (.int .i64 x) := (hb23.cell (p := ⟨b, o + k, none⟩) hbw).trans d
              have hbw3 : b < w3.heap.size := by omega
              have da : (w3.alloc (.cells #[] 2)).cell? ⟨b, o + k, none⟩ = some (.int .i64 x) := ((below_a1 w3 (.cells #[] 2)).cell (p := ⟨b, o + k, none⟩) hbw3).trans d3
              have hr3 := hrr.below IntR.keeps hb23 (Nat.le_refl _)
              have hpk := rdi_take hr3 j
              have hpd := rdi_drop n1 hr3 j (by omega)
              have ead : (⟨g, o2, none⟩ : Addr).add j = ⟨g, o2 + j, none⟩ := by unfold Addr.add; split <;> simp_all
              simp only [Option.map_some, ead] at hpd
              clear ead
              have htk : (r.take j).length = j := by rw [List.length_take]; omega
              have hdk : (r.drop j).length = r.length - j := List.length_drop
              have HTK := Lib.hid htk
              have HDK := Lib.hid hdk
              clear htk hdk
              have hcj : (j : Int) ≤ (cap2 : Int) := by omega
              have hcr : (j : Int) ≤ (r.length : Int) := by omega
              go_wp2_with fail
              go_region_law (first | (refine step_append_ints _ rfl (.tmp 59) (.tmp 62) 25 rfl w3.heap.size 2 i0 Tryd.underlying25 hi0 hz0 hz1 hz2 (.slice (some ⟨w3.heap.size, 0, none⟩) 0 0) [] ?_ ?_ (some ⟨g, o2, none⟩) (r.take j) (j) cap2 HTK.out.symm ?_ ?_ ?_ ?_ (fun v5 w5 hown5 hg5 _ => ?_); (focus (simp [Act.eval]; done)); (focus ((repeat (first | (with_reducible (refine owi_emptyN _ _ _ _ ?_ ?_)) | (with_reducible refine owi_drew1 ?_) | (with_reducible refine owi_drew ?_ _) | (with_reducible refine owi_alloc ?_ _))); all_goals (first | omega | (simp <;> omega)))); (focus (simp [Act.eval]; done)); (focus ((repeat (first | (with_reducible exact hpk) | (with_reducible refine rdi_drew1 ?_) | (with_reducible refine rdi_drew ?_ _) | (with_reducible refine rdi_alloc ?_ _))); done)); (focus (simp only [List.length_nil]; rw [HTK.out]; omega)); (focus (first | omega | (simp <;> omega))); (refine keepi_b (B := w3.heap.size) (a := w3) hg5 ?_ ?_ ?_ (fun hb5 => ?_)); (focus ((repeat (first | (with_reducible exact Below.refl _ _) | (with_reducible refine below_d1 ?_) | (with_reducible refine below_drewN ?_ _) | (with_reducible refine Below.alloc ?_ ?_ _))); all_goals (first | omega | (simp <;> omega)))); (focus (first | omega | (simp <;> omega))); (focus (intro q hq; simp [Value.ownBlock] at hq; subst hq; simp <;> omega)); (have d5 := (hb5.cell (p := ⟨b, o + k, none⟩) hbw3).trans d3); (refine keepi_r (x := x) (o := 0) (g := w3.heap.size + 1) hg5 ?_ ?_ (fun hL5 => ?_)); (focus ((repeat (first | ((with_reducible refine rdi_litN _ x _ ?_ _ ?_); (focus (simp; done)); (focus (rfl))) | (with_reducible refine rdi_drew1 ?_) | (with_reducible refine rdi_drew ?_ _) | (with_reducible refine rdi_alloc ?_ _))); done)); (focus (simp [Value.ownBlock]; done))) | (refine step_append_ints _ rfl (.tmp 59) (.tmp 62) 25 rfl w3.heap.size 2 i0 Tryd.underlying25 hi0 hz0 hz1 hz2 (.slice (some ⟨w3.heap.size, 0, none⟩) 0 0) [] ?_ ?_ (some ⟨g, o2, none⟩) (r.take j) (j) cap2 HTK.out.symm ?_ ?_ ?_ ?_ (fun v5 w5 hown5 hg5 _ => ?_); (focus (simp [Act.eval]; done)); (focus ((repeat (first | (with_reducible (refine owi_emptyN _ _ _ _ ?_ ?_)) | (with_reducible refine owi_drew1 ?_) | (with_reducible refine owi_drew ?_ _) | (with_reducible refine owi_alloc ?_ _))); all_goals (first | omega | (simp <;> omega)))); (focus (simp [Act.eval]; done)); (focus ((repeat (first | (with_reducible exact hpk) | (with_reducible refine rdi_drew1 ?_) | (with_reducible refine rdi_drew ?_ _) | (with_reducible refine rdi_alloc ?_ _))); done)); (focus (simp only [List.length_nil]; rw [HTK.out]; omega)); (focus (first | omega | (simp <;> omega))); (refine keepi_b (B := w3.heap.size) (a := w3) hg5 ?_ ?_ ?_ (fun hb5 => ?_)); (focus ((repeat (first | (with_reducible exact Below.refl _ _) | (with_reducible refine below_d1 ?_) | (with_reducible refine below_drewN ?_ _) | (with_reducible refine Below.alloc ?_ ?_ _))); all_goals (first | omega | (simp <;> omega)))); (focus (first | omega | (simp <;> omega))); (focus (intro q hq; simp [Value.ownBlock] at hq; subst hq; simp <;> omega)); (have d5 := (hb5.cell (p := ⟨b, o + k, none⟩) hbw3).trans d3)) | (refine step_append_ints _ rfl (.tmp 59) (.tmp 62) 25 rfl w3.heap.size 2 i0 Tryd.underlying25 hi0 hz0 hz1 hz2 (.slice (some ⟨w3.heap.size + 1, 0, none⟩) 0 0) [] ?_ ?_ (some ⟨g, o2, none⟩) (r.take j) (j) cap2 HTK.out.symm ?_ ?_ ?_ ?_ (fun v5 w5 hown5 hg5 _ => ?_); (focus (simp [Act.eval]; done)); (focus ((repeat (first | (with_reducible (refine owi_emptyN _ _ _ _ ?_ ?_)) | (with_reducible refine owi_drew1 ?_) | (with_reducible refine owi_drew ?_ _) | (with_reducible refine owi_alloc ?_ _))); all_goals (first | omega | (simp <;> omega)))); (focus (simp [Act.eval]; done)); (focus ((repeat (first | (with_reducible exact hpk) | (with_reducible refine rdi_drew1 ?_) | (with_reducible refine rdi_drew ?_ _) | (with_reducible refine rdi_alloc ?_ _))); done)); (focus (simp only [List.length_nil]; rw [HTK.out]; omega)); (focus (first | omega | (simp <;> omega))); (refine keepi_b (B := w3.heap.size) (a := w3) hg5 ?_ ?_ ?_ (fun hb5 => ?_)); (focus ((repeat (first | (with_reducible exact Below.refl _ _) | (with_reducible refine below_d1 ?_) | (with_reducible refine below_drewN ?_ _) | (with_reducible refine Below.alloc ?_ ?_ _))); all_goals (first | omega | (simp <;> omega)))); (focus (first | omega | (simp <;> omega))); (focus (intro q hq; simp [Value.ownBlock] at hq; subst hq; simp <;> omega)); (have d5 := (hb5.cell (p := ⟨b, o + k, none⟩) hbw3).trans d3); (refine keepi_r (x := x) (o := 0) (g := w3.heap.size) hg5 ?_ ?_ (fun hL5 => ?_)); (focus ((repeat (first | ((with_reducible refine rdi_litN _ x _ ?_ _ ?_); (focus (simp; done)); (focus (rfl))) | (with_reducible refine rdi_drew1 ?_) | (with_reducible refine rdi_drew ?_ _) | (with_reducible refine rdi_alloc ?_ _))); done)); (focus (simp [Value.ownBlock]; done))) | (refine step_append_ints _ rfl (.tmp 63) (.tmp 68) 25 rfl w3.heap.size 2 i0 Tryd.underlying25 hi0 hz0 hz1 hz2 v5 ([] ++ r.take j) ?_ ?_ (some ⟨w3.heap.size + 1, 0, none⟩) [x] 1 1 rfl ?_ ?_ ?_ ?_ (fun v6 w6 hown6 hg6 _ => ?_); (focus (simp [Act.eval]; done)); (focus ((repeat (first | (with_reducible exact hown5) | (with_reducible refine owi_drew1 ?_) | (with_reducible refine owi_drew ?_ _) | (with_reducible refine owi_alloc ?_ _))); done)); (focus (simp [Act.eval]; done)); (focus ((repeat (first | (with_reducible exact hL5) | (with_reducible refine rdi_drew1 ?_) | (with_reducible refine rdi_drew ?_ _) | (with_reducible refine rdi_alloc ?_ _))); done)); (focus (simp only [List.length_append, List.length_nil, List.length_cons]; rw [HTK.out]; omega)); (have hs5 := hb5.size; focus (first | omega | (simp <;> omega))); (refine keepi_b (B := w3.heap.size) (a := w3) hg6 ?_ ?_ ?_ (fun hb6 => ?_)); (have hs5 := hb5.size; focus ((repeat (first | (with_reducible exact hb5) | (with_reducible refine below_d1 ?_) | (with_reducible refine below_drewN ?_ _) | (with_reducible refine Below.alloc ?_ ?_ _))); all_goals (first | omega | (simp <;> omega)))); (have hs5 := hb5.size; focus (first | omega | (simp <;> omega))); (focus (exact fun q hq => (hown5.lt q hq).1))) | (refine step_append_ints _ rfl (.tmp 63) (.tmp 68) 25 rfl w3.heap.size 2 i0 Tryd.underlying25 hi0 hz0 hz1 hz2 v5 ([] ++ r.take j) ?_ ?_ (some ⟨w3.heap.size, 0, none⟩) [x] 1 1 rfl ?_ ?_ ?_ ?_ (fun v6 w6 hown6 hg6 _ => ?_); (focus (simp [Act.eval]; done)); (focus ((repeat (first | (with_reducible exact hown5) | (with_reducible refine owi_drew1 ?_) | (with_reducible refine owi_drew ?_ _) | (with_reducible refine owi_alloc ?_ _))); done)); (focus (simp [Act.eval]; done)); (focus ((repeat (first | (with_reducible exact hL5) | (with_reducible refine rdi_drew1 ?_) | (with_reducible refine rdi_drew ?_ _) | (with_reducible refine rdi_alloc ?_ _))); done)); (focus (simp only [List.length_append, List.length_nil, List.length_cons]; rw [HTK.out]; omega)); (have hs5 := hb5.size; focus (first | omega | (simp <;> omega))); (refine keepi_b (B := w3.heap.size) (a := w3) hg6 ?_ ?_ ?_ (fun hb6 => ?_)); (have hs5 := hb5.size; focus ((repeat (first | (with_reducible exact hb5) | (with_reducible refine below_d1 ?_) | (with_reducible refine below_drewN ?_ _) | (with_reducible refine Below.alloc ?_ ?_ _))); all_goals (first | omega | (simp <;> omega)))); (have hs5 := hb5.size; focus (first | omega | (simp <;> omega))); (focus (exact fun q hq => (hown5.lt q hq).1))) | (refine step_append_ints _ rfl (.tmp 63) (.tmp 68) 25 rfl w3.heap.size 2 i0 Tryd.underlying25 hi0 hz0 hz1 hz2 v5 ([] ++ r.take j) ?_ ?_ (some ⟨w5.heap.size, 0, none⟩) [x] 1 1 rfl ?_ ?_ ?_ ?_ (fun v6 w6 hown6 hg6 _ => ?_); (focus (simp [Act.eval]; done)); (focus ((repeat (first | (with_reducible exact hown5) | (with_reducible refine owi_drew1 ?_) | (with_reducible refine owi_drew ?_ _) | (with_reducible refine owi_alloc ?_ _))); done)); (focus (simp [Act.eval]; done)); (focus ((repeat (first | ((with_reducible refine rdi_litN _ x _ ?_ _ ?_); (focus (simp; done)); (focus (rfl))) | (with_reducible refine rdi_drew1 ?_) | (with_reducible refine rdi_drew ?_ _) | (with_reducible refine rdi_alloc ?_ _))); done)); (focus (simp only [List.length_append, List.length_nil, List.length_cons]; rw [HTK.out]; omega)); (have hs5 := hb5.size; focus (first | omega | (simp <;> omega))); (refine keepi_b (B := w3.heap.size) (a := w3) hg6 ?_ ?_ ?_ (fun hb6 => ?_)); (have hs5 := hb5.size; focus ((repeat (first | (with_reducible exact hb5) | (with_reducible refine below_d1 ?_) | (with_reducible refine below_drewN ?_ _) | (with_reducible refine Below.alloc ?_ ?_ _))); all_goals (first | omega | (simp <;> omega)))); (have hs5 := hb5.size; focus (first | omega | (simp <;> omega))); (focus (exact fun q hq => (hown5.lt q hq).1))) | (refine step_append_ints _ rfl (.tmp 69) (.tmp 72) 25 rfl w3.heap.size 2 i0 Tryd.underlying25 hi0 hz0 hz1 hz2 v6 ([] ++ r.take j ++ [x]) ?_ ?_ (if cap2 = j then some ⟨g, o2, none⟩ else some ⟨g, o2 + j, none⟩) (r.drop j) (r.length - j) (cap2 - j) HDK.out.symm ?_ ?_ ?_ ?_ (fun v7 w7 hown7 hg7 _ => ?_); (focus (simp [Act.eval]; done)); (focus ((repeat (first | (with_reducible exact hown6) | (with_reducible refine owi_drew1 ?_) | (with_reducible refine owi_drew ?_ _) | (with_reducible refine owi_alloc ?_ _))); done)); (focus (simp [Act.eval]; done)); (focus ((repeat (first | (with_reducible exact (hpd.below IntR.keeps hb6 (Nat.le_refl _))) | (with_reducible refine rdi_drew1 ?_) | (with_reducible refine rdi_drew ?_ _) | (with_reducible refine rdi_alloc ?_ _))); done)); (focus (simp only [List.length_append, List.length_nil, List.length_cons]; rw [HTK.out, HDK.out]; omega)); (have hs6 := hb6.size; focus (first | omega | (simp <;> omega))); (refine keepi_b (B := w3.heap.size) (a := w3) hg7 ?_ ?_ ?_ (fun hb7 => ?_)); (have hs6 := hb6.size; focus ((repeat (first | (with_reducible exact hb6) | (with_reducible refine below_d1 ?_) | (with_reducible refine below_drewN ?_ _) | (with_reducible refine Below.alloc ?_ ?_ _))); all_goals (first | omega | (simp <;> omega)))); (have hs6 := hb6.size; focus (first | omega | (simp <;> omega))); (focus (exact fun q hq => (hown6.lt q hq).1))))
              all_goals (
                go_wp2
                go_roundw
                case rel => exact ⟨k + 1, _, by omega, by go_num, hB3.trans (hb7.mono hz3), dr_len r k _ x hrk, ownk_mono hown7 hz3, HIJ.out⟩
                case measure => first | (simp [intOf]; done) | (simp [intOf]; omega))
        · obtain rfl : j = r.length := by omega
          have hjn : ((r.length : Int) == (r.length : Int)) = true := by simp
          have HIJ := Lib.hid (HI.out r.length (Nat.le_refl _) HQ.out hlow.out (fun h => absurd h (Nat.lt_irrefl _)))
          clear HI HM
          go_wp2_with fail
          go_quiet (fail)
          have en : (w2.drewN nn).drewN nq = w2.drewN (nn + nq) := by first | rfl | rw [World.drewN_drewN]
          rw [en]
          clear en
          generalize nn + nq = n3
          have d' : (w2.drewN n3).cell? ⟨b, o + k, none⟩ = some (.int .i64 x) := d
          go_wp2_with fail
          go_quiet (fail)
          obtain ⟨w3, hw3⟩ : ∃ w3, w3 = (w2.drewN n3).drewN nq := ⟨_, rfl⟩
          rw [← hw3]
          have hb23 : Below w2.heap.size w2 w3 := hw3 ▸ below_drewN (below_drewN (Below.refl _ _) _) _
          clear hw3 d'
          have hs3 := hb23.size
          have hB3 := hB.trans (hb23.mono hsz)
          have hz3 := hB3.size
          have d3 : w3.cell? ⟨b, o + k, none⟩ = some (.int .i64 x) := (hb23.cell (p := ⟨b, o + k, none⟩) hbw).trans d
          have hbw3 : b < w3.heap.size := by omega
          have da : (w3.alloc (.cells #[] 2)).cell? ⟨b, o + k, none⟩ = some (.int .i64 x) := ((below_a1 w3 (.cells #[] 2)).cell (p := ⟨b, o + k, none⟩) hbw3).trans d3
          have hr3 := hrr.below IntR.keeps hb23 (Nat.le_refl _)
          have hpk := rdi_take hr3 r.length
          have hpd := rdi_drop n1 hr3 r.length (by omega)
          have htk : (r.take r.length).length = r.length := by rw [List.length_take]; omega
          have hdk : (r.drop r.length).length = r.length - r.length := List.length_drop
          have HTK := Lib.hid htk
          have HDK := Lib.hid hdk
          clear htk hdk
          have hcj : (r.length : Int) ≤ (cap2 : Int) := by omega
          go_wp2_with fail
          go_region_law (first | (refine step_append_ints _ rfl (.tmp 59) (.tmp 62) 25 rfl w3.heap.size 2 i0 Tryd.underlying25 hi0 hz0 hz1 hz2 (.slice (some ⟨w3.heap.size, 0, none⟩) 0 0) [] ?_ ?_ A2 (r.take r.length) (r.length) cap2 HTK.out.symm ?_ ?_ ?_ ?_ (fun v5 w5 hown5 hg5 _ => ?_); (focus (simp [Act.eval]; done)); (focus ((repeat (first | (with_reducible (refine owi_emptyN _ _ _ _ ?_ ?_)) | (with_reducible refine owi_drew1 ?_) | (with_reducible refine owi_drew ?_ _) | (with_reducible refine owi_alloc ?_ _))); all_goals (first | omega | (simp <;> omega)))); (focus (simp [Act.eval]; done)); (focus ((repeat (first | (with_reducible exact hpk) | (with_reducible refine rdi_drew1 ?_) | (with_reducible refine rdi_drew ?_ _) | (with_reducible refine rdi_alloc ?_ _))); done)); (focus (simp only [List.length_nil]; rw [HTK.out]; omega)); (focus (first | omega | (simp <;> omega))); (refine keepi_b (B := w3.heap.size) (a := w3) hg5 ?_ ?_ ?_ (fun hb5 => ?_)); (focus ((repeat (first | (with_reducible exact Below.refl _ _) | (with_reducible refine below_d1 ?_) | (with_reducible refine below_drewN ?_ _) | (with_reducible refine Below.alloc ?_ ?_ _))); all_goals (first | omega | (simp <;> omega)))); (focus (first | omega | (simp <;> omega))); (focus (intro q hq; simp [Value.ownBlock] at hq; subst hq; simp <;> omega)); (have d5 := (hb5.cell (p := ⟨b, o + k, none⟩) hbw3).trans d3); (refine keepi_r (x := x) (o := 0) (g := w3.heap.size + 1) hg5 ?_ ?_ (fun hL5 => ?_)); (focus ((repeat (first | ((with_reducible refine rdi_litN _ x _ ?_ _ ?_); (focus (simp; done)); (focus (rfl))) | (with_reducible refine rdi_drew1 ?_) | (with_reducible refine rdi_drew ?_ _) | (with_reducible refine rdi_alloc ?_ _))); done)); (focus (simp [Value.ownBlock]; done))) | (refine step_append_ints _ rfl (.tmp 59) (.tmp 62) 25 rfl w3.heap.size 2 i0 Tryd.underlying25 hi0 hz0 hz1 hz2 (.slice (some ⟨w3.heap.size, 0, none⟩) 0 0) [] ?_ ?_ A2 (r.take r.length) (r.length) cap2 HTK.out.symm ?_ ?_ ?_ ?_ (fun v5 w5 hown5 hg5 _ => ?_); (focus (simp [Act.eval]; done)); (focus ((repeat (first | (with_reducible (refine owi_emptyN _ _ _ _ ?_ ?_)) | (with_reducible refine owi_drew1 ?_) | (with_reducible refine owi_drew ?_ _) | (with_reducible refine owi_alloc ?_ _))); all_goals (first | omega | (simp <;> omega)))); (focus (simp [Act.eval]; done)); (focus ((repeat (first | (with_reducible exact hpk) | (with_reducible refine rdi_drew1 ?_) | (with_reducible refine rdi_drew ?_ _) | (with_reducible refine rdi_alloc ?_ _))); done)); (focus (simp only [List.length_nil]; rw [HTK.out]; omega)); (focus (first | omega | (simp <;> omega))); (refine keepi_b (B := w3.heap.size) (a := w3) hg5 ?_ ?_ ?_ (fun hb5 => ?_)); (focus ((repeat (first | (with_reducible exact Below.refl _ _) | (with_reducible refine below_d1 ?_) | (with_reducible refine below_drewN ?_ _) | (with_reducible refine Below.alloc ?_ ?_ _))); all_goals (first | omega | (simp <;> omega)))); (focus (first | omega | (simp <;> omega))); (focus (intro q hq; simp [Value.ownBlock] at hq; subst hq; simp <;> omega)); (have d5 := (hb5.cell (p := ⟨b, o + k, none⟩) hbw3).trans d3)) | (refine step_append_ints _ rfl (.tmp 59) (.tmp 62) 25 rfl w3.heap.size 2 i0 Tryd.underlying25 hi0 hz0 hz1 hz2 (.slice (some ⟨w3.heap.size + 1, 0, none⟩) 0 0) [] ?_ ?_ A2 (r.take r.length) (r.length) cap2 HTK.out.symm ?_ ?_ ?_ ?_ (fun v5 w5 hown5 hg5 _ => ?_); (focus (simp [Act.eval]; done)); (focus ((repeat (first | (with_reducible (refine owi_emptyN _ _ _ _ ?_ ?_)) | (with_reducible refine owi_drew1 ?_) | (with_reducible refine owi_drew ?_ _) | (with_reducible refine owi_alloc ?_ _))); all_goals (first | omega | (simp <;> omega)))); (focus (simp [Act.eval]; done)); (focus ((repeat (first | (with_reducible exact hpk) | (with_reducible refine rdi_drew1 ?_) | (with_reducible refine rdi_drew ?_ _) | (with_reducible refine rdi_alloc ?_ _))); done)); (focus (simp only [List.length_nil]; rw [HTK.out]; omega)); (focus (first | omega | (simp <;> omega))); (refine keepi_b (B := w3.heap.size) (a := w3) hg5 ?_ ?_ ?_ (fun hb5 => ?_)); (focus ((repeat (first | (with_reducible exact Below.refl _ _) | (with_reducible refine below_d1 ?_) | (with_reducible refine below_drewN ?_ _) | (with_reducible refine Below.alloc ?_ ?_ _))); all_goals (first | omega | (simp <;> omega)))); (focus (first | omega | (simp <;> omega))); (focus (intro q hq; simp [Value.ownBlock] at hq; subst hq; simp <;> omega)); (have d5 := (hb5.cell (p := ⟨b, o + k, none⟩) hbw3).trans d3); (refine keepi_r (x := x) (o := 0) (g := w3.heap.size) hg5 ?_ ?_ (fun hL5 => ?_)); (focus ((repeat (first | ((with_reducible refine rdi_litN _ x _ ?_ _ ?_); (focus (simp; done)); (focus (rfl))) | (with_reducible refine rdi_drew1 ?_) | (with_reducible refine rdi_drew ?_ _) | (with_reducible refine rdi_alloc ?_ _))); done)); (focus (simp [Value.ownBlock]; done))) | (refine step_append_ints _ rfl (.tmp 63) (.tmp 68) 25 rfl w3.heap.size 2 i0 Tryd.underlying25 hi0 hz0 hz1 hz2 v5 ([] ++ r.take r.length) ?_ ?_ (some ⟨w3.heap.size + 1, 0, none⟩) [x] 1 1 rfl ?_ ?_ ?_ ?_ (fun v6 w6 hown6 hg6 _ => ?_); (focus (simp [Act.eval]; done)); (focus ((repeat (first | (with_reducible exact hown5) | (with_reducible refine owi_drew1 ?_) | (with_reducible refine owi_drew ?_ _) | (with_reducible refine owi_alloc ?_ _))); done)); (focus (simp [Act.eval]; done)); (focus ((repeat (first | (with_reducible exact hL5) | (with_reducible refine rdi_drew1 ?_) | (with_reducible refine rdi_drew ?_ _) | (with_reducible refine rdi_alloc ?_ _))); done)); (focus (simp only [List.length_append, List.length_nil, List.length_cons]; rw [HTK.out]; omega)); (have hs5 := hb5.size; focus (first | omega | (simp <;> omega))); (refine keepi_b (B := w3.heap.size) (a := w3) hg6 ?_ ?_ ?_ (fun hb6 => ?_)); (have hs5 := hb5.size; focus ((repeat (first | (with_reducible exact hb5) | (with_reducible refine below_d1 ?_) | (with_reducible refine below_drewN ?_ _) | (with_reducible refine Below.alloc ?_ ?_ _))); all_goals (first | omega | (simp <;> omega)))); (have hs5 := hb5.size; focus (first | omega | (simp <;> omega))); (focus (exact fun q hq => (hown5.lt q hq).1))) | (refine step_append_ints _ rfl (.tmp 63) (.tmp 68) 25 rfl w3.heap.size 2 i0 Tryd.underlying25 hi0 hz0 hz1 hz2 v5 ([] ++ r.take r.length) ?_ ?_ (some ⟨w3.heap.size, 0, none⟩) [x] 1 1 rfl ?_ ?_ ?_ ?_ (fun v6 w6 hown6 hg6 _ => ?_); (focus (simp [Act.eval]; done)); (focus ((repeat (first | (with_reducible exact hown5) | (with_reducible refine owi_drew1 ?_) | (with_reducible refine owi_drew ?_ _) | (with_reducible refine owi_alloc ?_ _))); done)); (focus (simp [Act.eval]; done)); (focus ((repeat (first | (with_reducible exact hL5) | (with_reducible refine rdi_drew1 ?_) | (with_reducible refine rdi_drew ?_ _) | (with_reducible refine rdi_alloc ?_ _))); done)); (focus (simp only [List.length_append, List.length_nil, List.length_cons]; rw [HTK.out]; omega)); (have hs5 := hb5.size; focus (first | omega | (simp <;> omega))); (refine keepi_b (B := w3.heap.size) (a := w3) hg6 ?_ ?_ ?_ (fun hb6 => ?_)); (have hs5 := hb5.size; focus ((repeat (first | (with_reducible exact hb5) | (with_reducible refine below_d1 ?_) | (with_reducible refine below_drewN ?_ _) | (with_reducible refine Below.alloc ?_ ?_ _))); all_goals (first | omega | (simp <;> omega)))); (have hs5 := hb5.size; focus (first | omega | (simp <;> omega))); (focus (exact fun q hq => (hown5.lt q hq).1))) | (refine step_append_ints _ rfl (.tmp 63) (.tmp 68) 25 rfl w3.heap.size 2 i0 Tryd.underlying25 hi0 hz0 hz1 hz2 v5 ([] ++ r.take r.length) ?_ ?_ (some ⟨w5.heap.size, 0, none⟩) [x] 1 1 rfl ?_ ?_ ?_ ?_ (fun v6 w6 hown6 hg6 _ => ?_); (focus (simp [Act.eval]; done)); (focus ((repeat (first | (with_reducible exact hown5) | (with_reducible refine owi_drew1 ?_) | (with_reducible refine owi_drew ?_ _) | (with_reducible refine owi_alloc ?_ _))); done)); (focus (simp [Act.eval]; done)); (focus ((repeat (first | ((with_reducible refine rdi_litN _ x _ ?_ _ ?_); (focus (simp; done)); (focus (rfl))) | (with_reducible refine rdi_drew1 ?_) | (with_reducible refine rdi_drew ?_ _) | (with_reducible refine rdi_alloc ?_ _))); done)); (focus (simp only [List.length_append, List.length_nil, List.length_cons]; rw [HTK.out]; omega)); (have hs5 := hb5.size; focus (first | omega | (simp <;> omega))); (refine keepi_b (B := w3.heap.size) (a := w3) hg6 ?_ ?_ ?_ (fun hb6 => ?_)); (have hs5 := hb5.size; focus ((repeat (first | (with_reducible exact hb5) | (with_reducible refine below_d1 ?_) | (with_reducible refine below_drewN ?_ _) | (with_reducible refine Below.alloc ?_ ?_ _))); all_goals (first | omega | (simp <;> omega)))); (have hs5 := hb5.size; focus (first | omega | (simp <;> omega))); (focus (exact fun q hq => (hown5.lt q hq).1))) | (refine step_append_ints _ rfl (.tmp 69) (.tmp 72) 25 rfl w3.heap.size 2 i0 Tryd.underlying25 hi0 hz0 hz1 hz2 v6 ([] ++ r.take r.length ++ [x]) ?_ ?_ (if cap2 = r.length then A2 else (A2).map fun x => x.add (r.length)) (r.drop r.length) (r.length - r.length) (cap2 - r.length) HDK.out.symm ?_ ?_ ?_ ?_ (fun v7 w7 hown7 hg7 _ => ?_); (focus (simp [Act.eval]; done)); (focus ((repeat (first | (with_reducible exact hown6) | (with_reducible refine owi_drew1 ?_) | (with_reducible refine owi_drew ?_ _) | (with_reducible refine owi_alloc ?_ _))); done)); (focus (simp [Act.eval]; done)); (focus ((repeat (first | (with_reducible exact (hpd.below IntR.keeps hb6 (Nat.le_refl _))) | (with_reducible refine rdi_drew1 ?_) | (with_reducible refine rdi_drew ?_ _) | (with_reducible refine rdi_alloc ?_ _))); done)); (focus (simp only [List.length_append, List.length_nil, List.length_cons]; rw [HTK.out, HDK.out]; omega)); (have hs6 := hb6.size; focus (first | omega | (simp <;> omega))); (refine keepi_b (B := w3.heap.size) (a := w3) hg7 ?_ ?_ ?_ (fun hb7 => ?_)); (have hs6 := hb6.size; focus ((repeat (first | (with_reducible exact hb6) | (with_reducible refine below_d1 ?_) | (with_reducible refine below_drewN ?_ _) | (with_reducible refine Below.alloc ?_ ?_ _))); all_goals (first | omega | (simp <;> omega)))); (have hs6 := hb6.size; focus (first | omega | (simp <;> omega))); (focus (exact fun q hq => (hown6.lt q hq).1))))
          all_goals (
            go_wp2
            go_roundw
            case rel => exact ⟨k + 1, _, by omega, by go_num, hB3.trans (hb7.mono hz3), dr_len r k _ x hrk, ownk_mono hown7 hz3, HIJ.out⟩
            case measure => first | (simp [intOf]; done) | (simp [intOf]; omega))
    · obtain rfl : k = l.length := by omega
      have hd := hdr.out
      rw [List.take_length] at hd
      have HOF := Lib.hid (dr_of l r hd)
      have HPW := Lib.hid (runK_lt r)
      have HOK := Lib.hid (fun m (hm : m ∈ r) => ((hd.2 m).1 hm).2)
      have HPR := Lib.hid hd.1
      clear hdr hd hr1
      obtain ⟨w2, hw2⟩ : ∃ w2, w2 = wr := ⟨_, rfl⟩
      subst hw2
      have hu0 := below_a1 w2 (.cells #[.slice none 0 0] 34)
      go_wp2
      go_loopw [7] (fun i wx => ∃ (k : Nat) (uv : Value), k ≤ r.length ∧ i = .int .i64 (k : Int) ∧ Below w2.heap.size w2 wx ∧ wx.cell? ⟨w2.heap.size, 0, none⟩ = some uv ∧ wx.frozen? ⟨w2.heap.size, 0, none⟩ = false ∧ SlR SpR 59 2 wx (w2.heap.size + 1) uv (runK r k)) (fun i _ => r.length - (intOf i).toNat)
      case atStart => exact ⟨0, .slice none 0 0, Nat.zero_le _, rfl, hu0, new0 w2 _ _ _, frozen_new0 w2 _ _, SlR.nil⟩
      case round =>
        obtain ⟨k, uv, hk, rfl, hB2, kt, kf, hs⟩ := hrel
        have hsz2 := hB2.size
        have hut : w2.heap.size < wr.heap.size := World.block_lt_of_cell? wr _ kt
        by_cases hlt : k < r.length
        · have e1 : (k : Int) < (r.length : Int) := by omega
          obtain ⟨g, o2, rfl, hg, _⟩ := id hrr (by omega)
          have d := int_cell hrr k hlt
          rw [← hB2.cell (p := ⟨g, o2 + k, none⟩) hg] at d
          have hgw : g < wr.heap.size := by omega
          have HN := Lib.hid (runK_succ r k hlt)
          have HL := Lib.hid (fun zs a b (he : runK r k = zs ++ [(a, b)]) => runK_lt r k HPR.out hlt zs a b he)
          have hkl := runK_len r k
          have hk60 : (runK r k).length ≤ 59 := by omega
          clear hkl
          generalize r[k] = x at d HN HL
          rcases List.eq_nil_or_concat (runK r k) with he | ⟨zs, ⟨a, c⟩, he⟩
          · rw [he] at hs HN
            obtain ⟨A3, cap3, rfl, q1, q2, _⟩ := id hs.shape
            have q2' : cap3 ≤ 9223372036854775807 := q2
            clear he HL
            obtain ⟨ys, hys⟩ : ∃ ys : List (Int × Int), ys = [] := ⟨_, rfl⟩
            rw [← hys] at hs HN
            have HY : Hid (stepOf ys x = ys ++ [(x, x)]) := by show _ = _; rw [hys]; rfl
            have hyl : ys.length = 0 := by rw [hys]; rfl
            obtain ⟨cells, how, hel⟩ := hs
            rw [hyl] at how
            have HLY := Lib.hid hyl
            clear hys hyl
            go_wp2_with fail
            go_quiet (fail)
            obtain ⟨w4, hw4⟩ : ∃ w4, w4 = wr.drewN nq := ⟨_, rfl⟩
            rw [← hw4]
            have hb4 : Below wr.heap.size wr w4 := hw4 ▸ below_drewN (Below.refl _ _) _
            have kt4 : w4.cell? ⟨w2.heap.size, 0, none⟩ = some (Value.slice A3 0 cap3) := by rw [hw4]; exact kt
            have kf4 : w4.frozen? ⟨w2.heap.size, 0, none⟩ = false := by rw [hw4]; exact kf
            have d4 : w4.cell? ⟨g, o2 + k, none⟩ = some (.int .i64 x) := by rw [hw4]; exact d
            have hz4 : w4.heap.size = wr.heap.size := by rw [hw4]; rfl
            have HZ4 := Lib.hid hz4
            have hB4 := hB2.trans (hb4.mono hsz2)
            have how4 := ownk_below how hb4 (Nat.le_refl _)
            have hel4 := hel.below SpR.keeps hb4 (Nat.le_refl _)
            have hlu : w2.heap.size < w4.heap.size := by omega
            have hlg : g < w4.heap.size := by omega
            clear hw4 hz4 kt kf d how hel hB2
            have how1 := how4.alloc (.cells #[.int .i64 x, .int .i64 x] 59)
            have hel1 := hel4.below SpR.keeps (below_a1 w4 (.cells #[.int .i64 x, .int .i64 x] 59)) (Nat.le_refl _)
            have ku := (keep0 w4 (.cells #[.int .i64 x, .int .i64 x] 59) _ hlu).trans kt4
            have kfu := ((bcell (below_a1 w4 (.cells #[.int .i64 x, .int .i64 x] 59))).2 _ 0 hlu).trans kf4
            have hB5 := hB4.alloc hB4.size (.cells #[.int .i64 x, .int .i64 x] 59)
            have hsz5 : w2.heap.size ≤ (w4.alloc (.cells #[.int .i64 x, .int .i64 x] 59)).heap.size := hB5.size
            have how1L : (w4.alloc (.cells #[.int .i64 x, .int .i64 x] 59)).ownsRow (w2.heap.size + 1) 59 2 (Value.slice A3 0 cap3) ys.length cells := by rw [HLY.out]; exact how1
            have how1D := owi_drew1 how1L
            have hel1D := hel1.below SpR.keeps (below_d1 (Below.refl _ _)) (Nat.le_refl _)
            have hge : ∀ q, ((Value.slice A3 0 cap3)).ownBlock = some q → w2.heap.size + 1 ≤ q := fun q hq => (how4.lt q hq).1
            have hne : ((Value.slice A3 0 cap3)).ownBlock ≠ some w2.heap.size := fun h => by have := hge _ h; omega
            have hbase : ∀ q, ((Value.slice A3 0 cap3)).ownBlock = some q → w2.heap.size ≤ q := fun q hq => by have := hge q hq; omega
            have h63 : 0 + 1 ≤ maxLen := by unfold maxLen; omega
            have h47 : (0 + 1) * 16 ≤ 140737488355328 := by omega
            clear hge
            go_wp2_with fail
            go_region_law ((refine step_append_lies _ (by rfl) _ _ _ (by rfl) (w2.heap.size + 1) 59 j0 _ 2 16 Tryd.underlying32 hj0 hy0 hy1 hy2 rfl (by omega) (Value.slice A3 0 cap3) (0) cells (by rfl) how1 ⟨w4.heap.size, 0, none⟩ 1 1 [.int .i64 x, .int .i64 x] (by rfl) (by rfl) (World.news_of_block (cs := #[.int .i64 x, .int .i64 x]) (t := 59) (fr := (0, 0)) (heap_alloc_new w4 _)) (by simp [Value.oneCell']) (by omega) h63 h47 (by simp; omega) (w4.heap.size + 1) (by simp) ?_; intro gg capp w5 hown5 hgrow hat hlt5; obtain ⟨qu, qf⟩ := grown_u2 hgrow w2.heap.size hne (by simp; omega) ku kfu))
            all_goals (
              have hown5L : w5.ownsRow (w2.heap.size + 1) 59 2 (.slice (some ⟨gg, 0, none⟩) (0 + 1) capp) (ys.length + 1) (cells ++ [.int .i64 x, .int .i64 x]) := by rw [HLY.out]; exact hown5
              have hs5 := SlR.push SpR.keepsRow9 how1D hel1D rfl (show SpR _ [.int .i64 x, .int .i64 x] (x, x) from rfl) hown5L hgrow
              go_wp2
              go_roundw
              case rel =>
                refine ⟨k + 1, _, by omega, by go_num, ?_, (by first | exact World.cell?_setCell_same _ _ _ qu | exact World.cell?_setCell_same' _ _ _ (by rw [qu]; rfl)), by rw [World.frozen?_setCell]; exact qf, ?_⟩
                · first
                    | exact Below.setCell (hB5.grown hgrow hsz5 hbase) (Nat.le_refl _) _
                    | exact Below.setCell ((Below.drew hB5).grown hgrow hsz5 hbase) (Nat.le_refl _) _
                · rw [HN.out, HY.out]
                  exact SlR.setLow (fun _ _ _ _ h => h) hs5 (a := ⟨w2.heap.size, 0, none⟩) (show w2.heap.size < w2.heap.size + 1 by omega) _
              case measure => first | (simp [intOf]; done) | (simp [intOf]; omega))
          · rw [List.concat_eq_append] at he
            have hcx := HL.out zs a c he
            have hco := HOK.out c hcx.2
            unfold okN at hco
            simp only [decide_eq_true_eq] at hco
            have hcx1 := hcx.1
            rw [he] at hs HN hk60
            have hzl : zs.length ≤ 58 := by simp at hk60; omega
            clear HL hcx hk60 he
            obtain ⟨g3, cap3, rfl, q1, q2, hg3, hgl, cb, fb, hset⟩ := last_spanG hs
            have q2' : cap3 ≤ 9223372036854775807 := q2
            have z1 : (0 : Int) ≤ (zs.length : Int) := Int.natCast_nonneg _
            have zw : IntKind.i64.wrap (c + 1) = c + 1 := IntWalk.i64_in _ (by omega)
            by_cases t3 : c + 1 = x
            · have t4 : (c + 1 == x) = true := by simp [t3]
              have HC := Lib.hid t3
              clear t3
              go_wp2_with fail
              go_quiet (fail)
              obtain ⟨w4, hw4⟩ : ∃ w4, w4 = wr.drewN nq := ⟨_, rfl⟩
              rw [← hw4]
              have hb4 : Below wr.heap.size wr w4 := hw4 ▸ below_drewN (Below.refl _ _) _
              have kt4 : w4.cell? ⟨w2.heap.size, 0, none⟩ = some (.slice (some ⟨g3, 0, none⟩) (zs.length + 1) cap3) := by rw [hw4]; exact kt
              have kf4 : w4.frozen? ⟨w2.heap.size, 0, none⟩ = false := by rw [hw4]; exact kf
              have d4 : w4.cell? ⟨g, o2 + k, none⟩ = some (.int .i64 x) := by rw [hw4]; exact d
              have cb4 : w4.cell? ⟨g3, zs.length * 2 + 1, none⟩ = some (.int .i64 c) := by rw [hw4]; exact cb
              have fb4 : w4.frozen? ⟨g3, zs.length * 2 + 1, none⟩ = false := by rw [hw4]; exact fb
              have hB4 := hB2.trans (hb4.mono hsz2)
              have hset4 : SlR SpR 59 2 (w4.setCell ⟨g3, zs.length * 2 + 1, none⟩ (.int .i64 x)) (w2.heap.size + 1) (.slice (some ⟨g3, 0, none⟩) (zs.length + 1) cap3) (zs ++ [(a, x)]) := by rw [hw4]; exact (hset x).drewG nq
              have hne3 : w2.heap.size ≠ g3 := by omega
              have zx1 : IntKind.i64.wrap (zs.length : Int) = (zs.length : Int) := IntWalk.i64_in _ (by omega)
              have zx2 : IntKind.i64.wrap ((zs.length : Int) + 1 - 1) = (zs.length : Int) := by rw [IntWalk.i64_in _ (by omega)]; omega
              have zx3 : (zs.length : Int) < (zs.length : Int) + 1 := by omega
              clear hw4 kt kf d cb fb hset hs hB2
              go_wp2_with fail
              go_still_tail 10, (by kernel_rfl)
              change wpList _ _ _ _ _ w4.drew
              have kt5 : w4.drew.cell? ⟨w2.heap.size, 0, none⟩ = some (.slice (some ⟨g3, 0, none⟩) (zs.length + 1) cap3) := kt4
              have cb5 : w4.drew.cell? ⟨g3, zs.length * 2 + 1, none⟩ = some (.int .i64 c) := cb4
              have fb5 : w4.drew.frozen? ⟨g3, zs.length * 2 + 1, none⟩ = false := fb4
              go_wp2
              go_roundw
              case rel =>
                refine ⟨k + 1, _, by omega, by go_num, (below_d1 hB4).setCell (p := ⟨g3, zs.length * 2 + 1, none⟩) (show w2.heap.size ≤ g3 by omega) _, (World.cell?_setCell_far _ _ ⟨w2.heap.size, 0, none⟩ _ (Ne.symm hne3)).trans kt5, by show (w4.setCell ⟨g3, zs.length * 2 + 1, none⟩ (.int .i64 x)).frozen? ⟨w2.heap.size, 0, none⟩ = false; rw [World.frozen?_setCell]; exact kf4, ?_⟩
                rw [HN.out, stepOf_snoc, if_pos (by have := HC.out; omega)]
                exact hset4.drewG 1
              case measure => first | (simp [intOf]; done) | (simp [intOf]; omega)
            · have t4 : (c + 1 == x) = false := by simpa using t3
              have z2 : ((zs.length : Int) + 1 == 100) = false := by rw [beq_eq_false_iff_ne]; omega
              have HY : Hid (stepOf (zs ++ [(a, c)]) x = (zs ++ [(a, c)]) ++ [(x, x)]) := by
                show _ = _
                rw [stepOf_snoc, if_neg (by omega)]
              obtain ⟨ys, hys⟩ : ∃ ys, ys = zs ++ [(a, c)] := ⟨_, rfl⟩
              rw [← hys] at hs HN HY
              have hyl : ys.length = zs.length + 1 := by rw [hys]; simp
              obtain ⟨cells, how, hel⟩ := hs
              rw [hyl] at how
              have HLY := Lib.hid hyl
              clear hys hyl hset t3
              go_wp2_with fail
              go_quiet (fail)
              obtain ⟨w4, hw4⟩ : ∃ w4, w4 = wr.drewN nq := ⟨_, rfl⟩
              rw [← hw4]
              have hb4 : Below wr.heap.size wr w4 := hw4 ▸ below_drewN (Below.refl _ _) _
              have kt4 : w4.cell? ⟨w2.heap.size, 0, none⟩ = some (Value.slice (some ⟨g3, 0, none⟩) (zs.length + 1) cap3) := by rw [hw4]; exact kt
              have kf4 : w4.frozen? ⟨w2.heap.size, 0, none⟩ = false := by rw [hw4]; exact kf
              have d4 : w4.cell? ⟨g, o2 + k, none⟩ = some (.int .i64 x) := by rw [hw4]; exact d
              have hz4 : w4.heap.size = wr.heap.size := by rw [hw4]; rfl
              have HZ4 := Lib.hid hz4
              have hB4 := hB2.trans (hb4.mono hsz2)
              have how4 := ownk_below how hb4 (Nat.le_refl _)
              have hel4 := hel.below SpR.keeps hb4 (Nat.le_refl _)
              have hlu : w2.heap.size < w4.heap.size := by omega
              have hlg : g < w4.heap.size := by omega
              clear hw4 hz4 kt kf d how hel hB2
              have how1 := how4.alloc (.cells #[.int .i64 x, .int .i64 x] 59)
              have hel1 := hel4.below SpR.keeps (below_a1 w4 (.cells #[.int .i64 x, .int .i64 x] 59)) (Nat.le_refl _)
              have ku := (keep0 w4 (.cells #[.int .i64 x, .int .i64 x] 59) _ hlu).trans kt4
              have kfu := ((bcell (below_a1 w4 (.cells #[.int .i64 x, .int .i64 x] 59))).2 _ 0 hlu).trans kf4
              have hB5 := hB4.alloc hB4.size (.cells #[.int .i64 x, .int .i64 x] 59)
              have hsz5 : w2.heap.size ≤ (w4.alloc (.cells #[.int .i64 x, .int .i64 x] 59)).heap.size := hB5.size
              have how1L : (w4.alloc (.cells #[.int .i64 x, .int .i64 x] 59)).ownsRow (w2.heap.size + 1) 59 2 (Value.slice (some ⟨g3, 0, none⟩) (zs.length + 1) cap3) ys.length cells := by rw [HLY.out]; exact how1
              have how1D := owi_drew1 how1L
              have hel1D := hel1.below SpR.keeps (below_d1 (Below.refl _ _)) (Nat.le_refl _)
              have hge : ∀ q, ((Value.slice (some ⟨g3, 0, none⟩) (zs.length + 1) cap3)).ownBlock = some q → w2.heap.size + 1 ≤ q := fun q hq => (how4.lt q hq).1
              have hne : ((Value.slice (some ⟨g3, 0, none⟩) (zs.length + 1) cap3)).ownBlock ≠ some w2.heap.size := fun h => by have := hge _ h; omega
              have hbase : ∀ q, ((Value.slice (some ⟨g3, 0, none⟩) (zs.length + 1) cap3)).ownBlock = some q → w2.heap.size ≤ q := fun q hq => by have := hge q hq; omega
              have h63 : zs.length + 1 + 1 ≤ maxLen := by unfold maxLen; omega
              have h47 : (zs.length + 1 + 1) * 16 ≤ 140737488355328 := by omega
              clear hge
              go_wp2_with fail
              go_region_law ((refine step_append_lies _ (by rfl) _ _ _ (by rfl) (w2.heap.size + 1) 59 j0 _ 2 16 Tryd.underlying32 hj0 hy0 hy1 hy2 rfl (by omega) (Value.slice (some ⟨g3, 0, none⟩) (zs.length + 1) cap3) (zs.length + 1) cells (by rfl) how1 ⟨w4.heap.size, 0, none⟩ 1 1 [.int .i64 x, .int .i64 x] (by rfl) (by rfl) (World.news_of_block (cs := #[.int .i64 x, .int .i64 x]) (t := 59) (fr := (0, 0)) (heap_alloc_new w4 _)) (by simp [Value.oneCell']) (by omega) h63 h47 (by simp; omega) (w4.heap.size + 1) (by simp) ?_; intro gg capp w5 hown5 hgrow hat hlt5; obtain ⟨qu, qf⟩ := grown_u2 hgrow w2.heap.size hne (by simp; omega) ku kfu))
              all_goals (
                have hown5L : w5.ownsRow (w2.heap.size + 1) 59 2 (.slice (some ⟨gg, 0, none⟩) (zs.length + 1 + 1) capp) (ys.length + 1) (cells ++ [.int .i64 x, .int .i64 x]) := by rw [HLY.out]; exact hown5
                have hs5 := SlR.push SpR.keepsRow9 how1D hel1D rfl (show SpR _ [.int .i64 x, .int .i64 x] (x, x) from rfl) hown5L hgrow
                go_wp2
                go_roundw
                case rel =>
                  refine ⟨k + 1, _, by omega, by go_num, ?_, (by first | exact World.cell?_setCell_same _ _ _ qu | exact World.cell?_setCell_same' _ _ _ (by rw [qu]; rfl)), by rw [World.frozen?_setCell]; exact qf, ?_⟩
                  · first
                      | exact Below.setCell (hB5.grown hgrow hsz5 hbase) (Nat.le_refl _) _
                      | exact Below.setCell ((Below.drew hB5).grown hgrow hsz5 hbase) (Nat.le_refl _) _
                  · rw [HN.out, HY.out]
                    exact SlR.setLow (fun _ _ _ _ h => h) hs5 (a := ⟨w2.heap.size, 0, none⟩) (show w2.heap.size < w2.heap.size + 1 by omega) _
                case measure => first | (simp [intOf]; done) | (simp [intOf]; omega))
        · obtain rfl : k = r.length := by omega
          have eK : runK r r.length = ofF l := by unfold runK; rw [List.take_length, HOF.out]
          rw [eK] at hs
          obtain ⟨F, hF⟩ : ∃ F, F = ofF l := ⟨_, rfl⟩
          rw [← hF] at hs
          have HF := Lib.hid hF
          clear hF
          obtain ⟨A3, cap3, rfl, hl3, hm3, _⟩ := id (hs.rdq (by decide))
          obtain ⟨A4, cap4, hv, _, _, hr4⟩ := (SlR.setLow (fun _ _ _ _ h => h) hs (a := ⟨w.heap.size, 0, none⟩) (show w.heap.size < w2.heap.size + 1 by omega) (.slice A3 F.length cap3)).rdq (by decide)
          injection hv with e1 _ e3
          subst e1
          subst e3
          have hwl : w.heap.size < W.heap.size := by omega
          have cw := ((hB2.cell (p := ⟨w.heap.size, 0, none⟩) (show w.heap.size < w2.heap.size by omega)).trans (hB.cell (p := ⟨w.heap.size, 0, none⟩) hwl)).trans q0
          have fw := ((below_frz hB2 w.heap.size 0 (by omega)).trans (below_frz hB w.heap.size 0 hwl)).trans g0
          have hc1 := World.cell?_setCell_same' wr ⟨w.heap.size, 0, none⟩ (.slice A3 F.length cap3) (by rw [cw]; rfl)
          have hBw := (hb0.trans (hB.mono (by omega))).trans (hB2.mono (by omega))
          have hBs := hBw.setCell (p := ⟨w.heap.size, 0, none⟩) (Nat.le_refl _) (.slice A3 F.length cap3)
          go_wp2
          refine bodyPost_ret (v := .agg #[.slice A3 F.length cap3]) (by simp [results, Tryd.results18, go_sem, hc1]) rfl ?_
          rw [← HF.out]
          exact ⟨A3, cap3, rfl, hr4, hl3, hm3, hBs⟩
end Go.Proofs.YtehbekjcnlcooaaDoor
