/- CodeLines' walk. -/
import Derived.Test.YtehbmllbikkjfaaDoorCdLnA
set_option linter.unusedVariables false
namespace Go.Proofs.YtehbmllbikkjfaaDoor
open Go.RowKit
attribute [local go_sem] setCell_drewN alloc_drewN

set_option maxRecDepth 100000 in
set_option maxHeartbeats 4000000 in
theorem lines_walk (A : Option Addr) (l : List UInt8) (cap : Nat) (at_ : Int) (w : World) (hr : Rd w A l) (hc : l.length ≤ cap) (hcm : cap ≤ maxLen) (hw : (Lit.int .i64 at_).wf = true) :
    Calls Tryd.prog 6 #[.slice A l.length cap, .int .i64 at_] w fun e w' => e = .returned (.bool true) ∧ Below w.heap.size w w' := by
  obtain ⟨i0, hi0, hz0, hz1, hz2⟩ := info_parts u8Info
  have haw := Lib.hid (awake_t w)
  by_cases h1 : (200 : Int) < (l.length : Int)
  · go_enter Tryd.func6, Tryd.ntmps6
    go_wp2_with ((with_reducible refine haw.out.mono ?_))
    first | (rintro _ w0 rfl B0) | (rintro _ w0 ⟨rfl, B0⟩)
    go_wp2
    go_ret
    exact ⟨rfl, B0⟩
  by_cases h2 : at_ < 0
  · go_enter Tryd.func6, Tryd.ntmps6
    go_wp2_with ((with_reducible refine haw.out.mono ?_))
    first | (rintro _ w0 rfl B0) | (rintro _ w0 ⟨rfl, B0⟩)
    go_wp2
    go_ret
    exact ⟨rfl, B0⟩
  obtain ⟨m, rfl⟩ := Int.eq_ofNat_of_zero_le (by omega : 0 ≤ at_)
  have hl2 : l.length ≤ 200 := by omega
  go_enter Tryd.func6, Tryd.ntmps6
  go_wp2_with ((with_reducible refine haw.out.mono ?_))
  first | (rintro _ w0 rfl B0) | (rintro _ w0 ⟨rfl, B0⟩)
  have s0 := B0.size
  have hr0 := hr.below B0
  have hb64 := Lib.hid (base64_n A l l.length cap w0 rfl hr0 (by omega) hc)
  go_wp2_with ((with_reducible refine hb64.out.mono ?_))
  first | (rintro _ w1 v1 rfl hv1 B1) | (rintro _ w1 ⟨v1, rfl, hv1, B1⟩)
  have B01 := B0.trans (B1.mono s0)
  have s1 := B01.size
  have hr1 := hr0.below B1
  have hwf := Lib.hid (from_b64_ws l)
  by_cases hl0 : l = []
  · subst hl0
    obtain ⟨A1, k1, rfl, hk1, hp⟩ := hv1
    rw [show (b64 0 []).length = 0 from rfl]
    go_wp2
    go_ret
    exact ⟨rfl, B01⟩
  have hpos := b64_pos l hl0
  have hle := b64_le l.length l 0 (Nat.le_refl _)
  obtain ⟨p, HP⟩ : ∃ p, Hid (p = b64 0 l) := ⟨_, rfl⟩
  rw [← HP.out] at hv1 hpos hle
  obtain ⟨A1, k1, rfl, hk1, hp⟩ := hv1
  obtain ⟨bb, oo, rfl, hbb, _⟩ := hp hpos
  have hne0 : ((p.length : Int) == 0) = false := beq_false_of_ne (by omega)
  obtain ⟨k, hk⟩ : ∃ k, k = m % p.length := ⟨_, rfl⟩
  have hkl : k < p.length := by rw [hk]; exact Nat.mod_lt _ hpos
  have hk2 : (m : Int) % (p.length : Int) = (k : Int) := by rw [hk]; rfl
  have hk3 : (m : Int).tmod (p.length : Int) = (k : Int) := by rw [hk]; rfl
  have hne1 : ¬ (p.length : Int) = 0 := by omega
  replace hk := Lib.hid hk
  have hkc : (k : Int) ≤ (k1 : Int) := by omega
  have hkl' : (k : Int) ≤ (p.length : Int) := by omega
  have htk : (p.take k).length = k := by rw [List.length_take]; omega
  have hdk : (p.drop k).length = p.length - k := List.length_drop
  have hpk := hp.take k
  have hpd := rd_drop bb oo p k k1 hk1 hp (by omega) (by omega)
  have Bs := Lib.hid B01
  have h61 : k = k ∨ True := .inr trivial
  have hkne : ¬ k1 = k := by omega
  clear haw hb64
  go_wp2_with fail
  go_region_law (first | (refine step_append_rda _ rfl (.tmp 31) (.tmp 34) 23 rfl w1.heap.size 5 i0 Tryd.underlying23 hi0 hz0 hz1 hz2 (.slice (some ⟨w1.heap.size, 0, none⟩) 0 0) [] ?_ ?_ (some ⟨bb, oo, none⟩) (p.take k) k k1 htk.symm ?_ ?_ ?_ ?_ (fun v5 w5 hown5 hg5 _ => ?_); (focus (simp [Act.eval]; done)); (focus ((repeat (first | (with_reducible (refine ow_emptyN _ _ _ _ ?_ ?_)) | (with_reducible refine ow_drew1 ?_) | (with_reducible refine ow_drew ?_ _) | (with_reducible refine ow_alloc ?_ _))); all_goals (first | omega | (simp <;> omega)))); (focus (simp [Act.eval]; done)); (focus ((repeat (first | (with_reducible exact hpk) | (with_reducible refine rd_drew1 ?_) | (with_reducible refine rd_drew ?_ _) | (with_reducible refine rd_alloc ?_ _))); done)); (focus (first | omega | (simp <;> omega))); (focus (first | omega | (simp <;> omega))); (refine keep_b (B := w1.heap.size) (a := w1) hg5 ?_ ?_ ?_ (fun hb5 => ?_)); (focus ((repeat (first | (with_reducible exact Below.refl _ _) | (with_reducible refine below_drew1 ?_) | (with_reducible refine below_drewN ?_ _) | (with_reducible refine Below.alloc ?_ ?_ _))); all_goals (first | omega | (simp <;> omega)))); (focus (first | omega | (simp <;> omega))); (focus (intro q hq; simp [Value.ownBlock] at hq; subst hq; simp <;> omega)); (refine keep_r (l := [13, 10, 9, 32]) (o := 0) (g := w1.heap.size + 1) hg5 ?_ ?_ (fun hL5 => ?_)); (focus ((repeat (first | ((with_reducible refine lit_rdN _ [13, 10, 9, 32] _ ?_ _ ?_); (focus (simp; done)); (focus (rfl))) | (with_reducible refine rd_drew1 ?_) | (with_reducible refine rd_drew ?_ _) | (with_reducible refine rd_alloc ?_ _))); done)); (focus (simp [Value.ownBlock]; done))) | (refine step_append_rda _ rfl (.tmp 31) (.tmp 34) 23 rfl w1.heap.size 5 i0 Tryd.underlying23 hi0 hz0 hz1 hz2 (.slice (some ⟨w1.heap.size, 0, none⟩) 0 0) [] ?_ ?_ (some ⟨bb, oo, none⟩) (p.take k) k k1 htk.symm ?_ ?_ ?_ ?_ (fun v5 w5 hown5 hg5 _ => ?_); (focus (simp [Act.eval]; done)); (focus ((repeat (first | (with_reducible (refine ow_emptyN _ _ _ _ ?_ ?_)) | (with_reducible refine ow_drew1 ?_) | (with_reducible refine ow_drew ?_ _) | (with_reducible refine ow_alloc ?_ _))); all_goals (first | omega | (simp <;> omega)))); (focus (simp [Act.eval]; done)); (focus ((repeat (first | (with_reducible exact hpk) | (with_reducible refine rd_drew1 ?_) | (with_reducible refine rd_drew ?_ _) | (with_reducible refine rd_alloc ?_ _))); done)); (focus (first | omega | (simp <;> omega))); (focus (first | omega | (simp <;> omega))); (refine keep_b (B := w1.heap.size) (a := w1) hg5 ?_ ?_ ?_ (fun hb5 => ?_)); (focus ((repeat (first | (with_reducible exact Below.refl _ _) | (with_reducible refine below_drew1 ?_) | (with_reducible refine below_drewN ?_ _) | (with_reducible refine Below.alloc ?_ ?_ _))); all_goals (first | omega | (simp <;> omega)))); (focus (first | omega | (simp <;> omega))); (focus (intro q hq; simp [Value.ownBlock] at hq; subst hq; simp <;> omega))) | (refine step_append_rda _ rfl (.tmp 31) (.tmp 34) 23 rfl w1.heap.size 5 i0 Tryd.underlying23 hi0 hz0 hz1 hz2 (.slice (some ⟨w1.heap.size + 1, 0, none⟩) 0 0) [] ?_ ?_ (some ⟨bb, oo, none⟩) (p.take k) k k1 htk.symm ?_ ?_ ?_ ?_ (fun v5 w5 hown5 hg5 _ => ?_); (focus (simp [Act.eval]; done)); (focus ((repeat (first | (with_reducible (refine ow_emptyN _ _ _ _ ?_ ?_)) | (with_reducible refine ow_drew1 ?_) | (with_reducible refine ow_drew ?_ _) | (with_reducible refine ow_alloc ?_ _))); all_goals (first | omega | (simp <;> omega)))); (focus (simp [Act.eval]; done)); (focus ((repeat (first | (with_reducible exact hpk) | (with_reducible refine rd_drew1 ?_) | (with_reducible refine rd_drew ?_ _) | (with_reducible refine rd_alloc ?_ _))); done)); (focus (first | omega | (simp <;> omega))); (focus (first | omega | (simp <;> omega))); (refine keep_b (B := w1.heap.size) (a := w1) hg5 ?_ ?_ ?_ (fun hb5 => ?_)); (focus ((repeat (first | (with_reducible exact Below.refl _ _) | (with_reducible refine below_drew1 ?_) | (with_reducible refine below_drewN ?_ _) | (with_reducible refine Below.alloc ?_ ?_ _))); all_goals (first | omega | (simp <;> omega)))); (focus (first | omega | (simp <;> omega))); (focus (intro q hq; simp [Value.ownBlock] at hq; subst hq; simp <;> omega)); (refine keep_r (l := [13, 10, 9, 32]) (o := 0) (g := w1.heap.size) hg5 ?_ ?_ (fun hL5 => ?_)); (focus ((repeat (first | ((with_reducible refine lit_rdN _ [13, 10, 9, 32] _ ?_ _ ?_); (focus (simp; done)); (focus (rfl))) | (with_reducible refine rd_drew1 ?_) | (with_reducible refine rd_drew ?_ _) | (with_reducible refine rd_alloc ?_ _))); done)); (focus (simp [Value.ownBlock]; done))) | (refine step_append_rda _ rfl (.tmp 35) (.tmp 36) 23 rfl w1.heap.size 5 i0 Tryd.underlying23 hi0 hz0 hz1 hz2 v5 ([] ++ p.take k) ?_ ?_ (some ⟨w1.heap.size + 1, 0, none⟩) [13, 10, 9, 32] 4 4 rfl ?_ ?_ ?_ ?_ (fun v6 w6 hown6 hg6 _ => ?_); (focus (simp [Act.eval]; done)); (focus ((repeat (first | (with_reducible exact hown5) | (with_reducible refine ow_drew1 ?_) | (with_reducible refine ow_drew ?_ _) | (with_reducible refine ow_alloc ?_ _))); done)); (focus (simp [Act.eval]; done)); (focus ((repeat (first | (with_reducible exact hL5) | (with_reducible refine rd_drew1 ?_) | (with_reducible refine rd_drew ?_ _) | (with_reducible refine rd_alloc ?_ _))); done)); (focus (first | omega | (simp <;> omega))); (have hs5 := hb5.size; focus (first | omega | (simp <;> omega))); (refine keep_b (B := w1.heap.size) (a := w1) hg6 ?_ ?_ ?_ (fun hb6 => ?_)); (have hs5 := hb5.size; focus ((repeat (first | (with_reducible exact hb5) | (with_reducible refine below_drew1 ?_) | (with_reducible refine below_drewN ?_ _) | (with_reducible refine Below.alloc ?_ ?_ _))); all_goals (first | omega | (simp <;> omega)))); (have hs5 := hb5.size; focus (first | omega | (simp <;> omega))); (focus (exact fun q hq => (hown5.lt q hq).1))) | (refine step_append_rda _ rfl (.tmp 35) (.tmp 36) 23 rfl w1.heap.size 5 i0 Tryd.underlying23 hi0 hz0 hz1 hz2 v5 ([] ++ p.take k) ?_ ?_ (some ⟨w1.heap.size, 0, none⟩) [13, 10, 9, 32] 4 4 rfl ?_ ?_ ?_ ?_ (fun v6 w6 hown6 hg6 _ => ?_); (focus (simp [Act.eval]; done)); (focus ((repeat (first | (with_reducible exact hown5) | (with_reducible refine ow_drew1 ?_) | (with_reducible refine ow_drew ?_ _) | (with_reducible refine ow_alloc ?_ _))); done)); (focus (simp [Act.eval]; done)); (focus ((repeat (first | (with_reducible exact hL5) | (with_reducible refine rd_drew1 ?_) | (with_reducible refine rd_drew ?_ _) | (with_reducible refine rd_alloc ?_ _))); done)); (focus (first | omega | (simp <;> omega))); (have hs5 := hb5.size; focus (first | omega | (simp <;> omega))); (refine keep_b (B := w1.heap.size) (a := w1) hg6 ?_ ?_ ?_ (fun hb6 => ?_)); (have hs5 := hb5.size; focus ((repeat (first | (with_reducible exact hb5) | (with_reducible refine below_drew1 ?_) | (with_reducible refine below_drewN ?_ _) | (with_reducible refine Below.alloc ?_ ?_ _))); all_goals (first | omega | (simp <;> omega)))); (have hs5 := hb5.size; focus (first | omega | (simp <;> omega))); (focus (exact fun q hq => (hown5.lt q hq).1))) | (refine step_append_rda _ rfl (.tmp 35) (.tmp 36) 23 rfl w1.heap.size 5 i0 Tryd.underlying23 hi0 hz0 hz1 hz2 v5 ([] ++ p.take k) ?_ ?_ (some ⟨w5.heap.size, 0, none⟩) [13, 10, 9, 32] 4 4 rfl ?_ ?_ ?_ ?_ (fun v6 w6 hown6 hg6 _ => ?_); (focus (simp [Act.eval]; done)); (focus ((repeat (first | (with_reducible exact hown5) | (with_reducible refine ow_drew1 ?_) | (with_reducible refine ow_drew ?_ _) | (with_reducible refine ow_alloc ?_ _))); done)); (focus (simp [Act.eval]; done)); (focus ((repeat (first | ((with_reducible refine lit_rdN _ [13, 10, 9, 32] _ ?_ _ ?_); (focus (simp; done)); (focus (rfl))) | (with_reducible refine rd_drew1 ?_) | (with_reducible refine rd_drew ?_ _) | (with_reducible refine rd_alloc ?_ _))); done)); (focus (first | omega | (simp <;> omega))); (have hs5 := hb5.size; focus (first | omega | (simp <;> omega))); (refine keep_b (B := w1.heap.size) (a := w1) hg6 ?_ ?_ ?_ (fun hb6 => ?_)); (have hs5 := hb5.size; focus ((repeat (first | (with_reducible exact hb5) | (with_reducible refine below_drew1 ?_) | (with_reducible refine below_drewN ?_ _) | (with_reducible refine Below.alloc ?_ ?_ _))); all_goals (first | omega | (simp <;> omega)))); (have hs5 := hb5.size; focus (first | omega | (simp <;> omega))); (focus (exact fun q hq => (hown5.lt q hq).1))) | (refine step_append_rda _ rfl (.tmp 37) (.tmp 40) 23 rfl w1.heap.size 5 i0 Tryd.underlying23 hi0 hz0 hz1 hz2 v6 ([] ++ p.take k ++ [13, 10, 9, 32]) ?_ ?_ (some ⟨bb, oo + k, none⟩) (p.drop k) (p.length - k) (k1 - k) hdk.symm ?_ ?_ ?_ ?_ (fun v7 w7 hown7 hg7 _ => ?_); (focus (simp [Act.eval]; done)); (focus ((repeat (first | (with_reducible exact hown6) | (with_reducible refine ow_drew1 ?_) | (with_reducible refine ow_drew ?_ _) | (with_reducible refine ow_alloc ?_ _))); done)); (focus (simp [Act.eval]; done)); (focus ((repeat (first | (with_reducible exact (hpd.below hb6)) | (with_reducible refine rd_drew1 ?_) | (with_reducible refine rd_drew ?_ _) | (with_reducible refine rd_alloc ?_ _))); done)); (focus (first | omega | (simp <;> omega))); (have hs6 := hb6.size; focus (first | omega | (simp <;> omega))); (refine keep_b (B := w1.heap.size) (a := w1) hg7 ?_ ?_ ?_ (fun hb7 => ?_)); (have hs6 := hb6.size; focus ((repeat (first | (with_reducible exact hb6) | (with_reducible refine below_drew1 ?_) | (with_reducible refine below_drewN ?_ _) | (with_reducible refine Below.alloc ?_ ?_ _))); all_goals (first | omega | (simp <;> omega)))); (have hs6 := hb6.size; focus (first | omega | (simp <;> omega))); (focus (exact fun q hq => (hown6.lt q hq).1))))
  all_goals (
    have B7 := Bs.out.trans (hb7.mono s1)
    have s7 := B7.size
    have hs17 := hb7.size
    have hr7l := hr1.below hb7
    obtain ⟨q, HQ⟩ : ∃ q, Hid (q = [] ++ p.take k ++ [13, 10, 9, 32] ++ p.drop k) := ⟨_, Lib.hid rfl⟩
    have hql : q.length ≤ 5000 := by
      rw [HQ.out]
      simp
      omega
    rw [← HQ.out] at hown7
    obtain ⟨A7, c7, rfl, hc7, hr7⟩ := RdV.own hown7
    have hfq : fromB64 q = some l := by
      have := hwf.out k
      rw [← HP.out] at this
      rw [HQ.out]
      exact this
    replace hfq := Lib.hid hfq
    have hfb := Lib.hid (from64_some A7 q l q.length c7 w7 rfl hfq.out hr7 (by omega) hc7)
    go_wp2_with fail
    (with_reducible refine hfb.out.mono ?_)
    first | (rintro _ w8 v8 rfl hv8 hb8) | (rintro _ w8 ⟨v8, rfl, hv8, hb8⟩)
    have B8 := B7.trans (hb8.mono s7)
    have s8 := B8.size
    have hr8 := hr7.below hb8
    have hr8l := hr7l.below hb8
    have hl8 : RdV w8 (.slice A l.length cap) l := ⟨A, cap, rfl, hc, hr8l⟩
    have hdec : Hid (∀ W, Below w8.heap.size w8 W → Calls Tryd.prog 12 #[.string ⟨#[66, 97, 115, 101, 54, 52]⟩, .slice A7 q.length c7] W fun e w' => ∃ v, e = .returned v ∧ RdV w' v l ∧ Below W.heap.size W w') := by
      intro W hW
      have := decode_n ⟨#[66, 97, 115, 101, 54, 52]⟩ A7 q q.length c7 W (by decide) rfl (hr8.below hW) (by omega) hc7
      have e : decF (⟨#[66, 97, 115, 101, 54, 52]⟩ : ByteArray).data.toList q = l := by
        unfold decF
        rw [if_pos (by decide +kernel), hfq.out]
      rwa [e] at this
    have S1 := (hv8.below (below_drew1 (Below.refl _ _))).str ⟨l.toArray⟩ rfl
    have S2 := (hl8.below (below_drew1 (Below.refl _ _))).str ⟨l.toArray⟩ rfl
    have hlb : ∀ w9, Below w8.drew.heap.size w8.drew w9 → RdV w9 (.slice A l.length cap) l := fun w9 h => hl8.below ((below_drew1 (Below.refl _ _)).trans h)
    have hBb : ∀ w9, Below w8.drew.heap.size w8.drew w9 → Below w.heap.size w w9 := fun w9 h => (below_drew1 B8).trans (h.mono s8)
    have hdec1 := Lib.hid (hdec.out w8.drew (below_drew1 (Below.refl _ _)))
    clear hdec
    go_wp2_with fail
    go_region_law (go_simp; go_at_call 12; (with_reducible refine hdec1.out.mono ?_); first | (rintro _ w9 v9 rfl hv9 hb9) | (rintro _ w9 ⟨v9, rfl, hv9, hb9⟩); (have S3 := hv9.str ⟨l.toArray⟩ rfl); (have S4 := (hlb _ hb9).str ⟨l.toArray⟩ rfl); (have B9 := hBb _ hb9))
    all_goals (
      try go_wp2
      go_ret
      exact ⟨rfl, B9⟩))
end Go.Proofs.YtehbmllbikkjfaaDoor
