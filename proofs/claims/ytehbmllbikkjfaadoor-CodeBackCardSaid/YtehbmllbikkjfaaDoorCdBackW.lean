/- CodeBack's walk. -/
import Derived.Test.YtehbmllbikkjfaaDoorCdO
import Derived.Test.YtehbmllbikkjfaaDoorCdLnA
set_option linter.unusedVariables false
namespace Go.Proofs.YtehbmllbikkjfaaDoor
open Go.RowKit

theorem quo_le : ∀ (n : Nat) (l : List UInt8) (col : Nat), l.length ≤ n → (quo col l).length ≤ 6 * l.length
  | _, [], col, _ => by rw [quo_nil]; simp
  | 0, c :: r, _, h => by simp at h
  | n + 1, c :: r, col, h => by
    have hr : r.length ≤ n := by simpa using h
    have ht := textQ_le c r
    by_cases hl : lineEnd (c :: r) = true
    · rw [quo_crlf col c r hl]
      have := quo_le n (r.drop 1) 0 (by rw [List.length_drop]; omega)
      rw [List.length_drop] at this
      simp only [List.length_append, List.length_cons, List.length_nil]
      omega
    · have hl' : lineEnd (c :: r) = false := by simpa using hl
      rw [quo_text col c r hl']
      split
      · have := quo_le n r (textQ (c :: r)).length hr
        simp
        omega
      · have := quo_le n r (col + (textQ (c :: r)).length) hr
        simp
        omega

set_option maxRecDepth 100000 in
set_option maxHeartbeats 4000000 in
theorem back_walk (A : Option Addr) (l : List UInt8) (cap : Nat) (w : World) (hr : Rd w A l) (hc : l.length ≤ cap) (hcm : cap ≤ maxLen) :
    Calls Tryd.prog 5 #[.slice A l.length cap] w fun e w' => e = .returned (.bool true) ∧ Below w.heap.size w w' := by
  have haw := Lib.hid (awake_t w)
  by_cases h1 : (500 : Int) < (l.length : Int)
  · go_enter Tryd.func5, Tryd.ntmps5
    go_wp2_with ((with_reducible refine haw.out.mono ?_))
    first | (rintro _ w0 rfl B0) | (rintro _ w0 ⟨rfl, B0⟩)
    go_wp2
    go_ret
    exact ⟨rfl, B0⟩
  have hl2 : l.length ≤ 500 := by omega
  go_enter Tryd.func5, Tryd.ntmps5
  go_wp2_with ((with_reducible refine haw.out.mono ?_))
  first | (rintro _ w0 rfl B0) | (rintro _ w0 ⟨rfl, B0⟩)
  have s0 := B0.size
  have hr0 := hr.below B0
  have hb64 := Lib.hid (base64_n A l l.length cap w0 rfl hr0 (by omega) hc)
  go_wp2_with ((with_reducible refine hb64.out.mono ?_))
  first | (rintro _ w1 v1 rfl hv1 B1) | (rintro _ w1 ⟨v1, rfl, hv1, B1⟩)
  have B01 := B0.trans (B1.mono s0)
  have s1 := B01.size
  have hr1 := hr0.below B1
  have hquo := Lib.hid (quoted_n A l l.length cap w1 rfl hr1 (by omega) hc)
  go_wp2_with ((with_reducible refine hquo.out.mono ?_))
  first | (rintro _ w2 v2 rfl hv2 B2) | (rintro _ w2 ⟨v2, rfl, hv2, B2⟩)
  have B02 := B01.trans (B2.mono s1)
  have s2 := B02.size
  have hr2 := hr1.below B2
  have hv1' := hv1.below B2
  have hle1 := b64_le l.length l 0 (Nat.le_refl _)
  have hle2 := quo_le l.length l 0 (Nat.le_refl _)
  have hfb := Lib.hid (from_b64 l)
  have hfq := Lib.hid (fq_quo l.length l 0 (Nat.le_refl _))
  have hs1 := Lib.hid (sh_b64 l.length l 0 (Nat.le_refl _) (by omega) rfl)
  have hs2 := Lib.hid (sh_quo l.length l 0 (Nat.le_refl _) (by omega))
  obtain ⟨p, HP⟩ : ∃ p, Hid (p = b64 0 l) := ⟨_, Lib.hid rfl⟩
  obtain ⟨q, HQ⟩ : ∃ q, Hid (q = quo 0 l) := ⟨_, Lib.hid rfl⟩
  rw [← HP.out] at hv1' hle1 hfb hs1
  rw [← HQ.out] at hv2 hle2 hfq hs2
  obtain ⟨A1, c1, rfl, hc1, hp⟩ := hv1'
  obtain ⟨A2, c2, rfl, hc2, hq⟩ := hv2
  have hf64 := Lib.hid (from64_some A1 p l p.length c1 w2 rfl hfb.out hp (by omega) hc1)
  clear hb64 hquo haw hv1
  go_wp2_with ((with_reducible refine hf64.out.mono ?_))
  first | (rintro _ w3 v3 rfl hv3 hb3) | (rintro _ w3 ⟨v3, rfl, hv3, hb3⟩)
  have B3 := B02.trans (hb3.mono s2)
  have s3 := B3.size
  have hp3 := hp.below hb3
  have hq3 := hq.below hb3
  have hl3 : RdV w3 (.slice A l.length cap) l := ⟨A, cap, rfl, hc, hr2.below hb3⟩
  have S1 := (hv3.below (below_drew1 (Below.refl _ _))).str ⟨l.toArray⟩ rfl
  have S2 := (hl3.below (below_drew1 (Below.refl _ _))).str ⟨l.toArray⟩ rfl
  have hlb : ∀ w9, Below w3.drew.heap.size w3.drew w9 → RdV w9 (.slice A l.length cap) l := fun w9 h => hl3.below ((below_drew1 (Below.refl _ _)).trans h)
  have hpb : ∀ w9, Below w3.drew.heap.size w3.drew w9 → Rd w9 A1 p := fun w9 h => hp3.below ((below_drew1 (Below.refl _ _)).trans h)
  have hqb : ∀ w9, Below w3.drew.heap.size w3.drew w9 → Rd w9 A2 q := fun w9 h => hq3.below ((below_drew1 (Below.refl _ _)).trans h)
  have hBb : ∀ w9, Below w3.drew.heap.size w3.drew w9 → Below w.heap.size w w9 := fun w9 h => (below_drew1 B3).trans (h.mono s3)
  have hfqc := fromq_n A2 q q.length c2 w3.drew rfl (hq3.below (below_drew1 (Below.refl _ _))) (by omega) hc2
  rw [hfq.out] at hfqc
  replace hfqc := Lib.hid hfqc
  clear hf64
  go_wp2_with fail
  go_region_law (go_simp; go_at_call 11; (with_reducible refine hfqc.out.mono ?_); first | (rintro _ w9 v9 rfl hv9 hb9) | (rintro _ w9 ⟨v9, rfl, hv9, hb9⟩); (have S3 := hv9.str ⟨l.toArray⟩ rfl); (have S4 := (hlb _ hb9).str ⟨l.toArray⟩ rfl); (have B9 := hBb _ hb9))
  all_goals (
    have sh1 := Lib.hid (short_t A1 p p.length c1 w9 rfl (hpb _ hb9) hc1 (by omega) hs1.out)
    have s9 := B9.size
    go_wp2_with ((with_reducible refine sh1.out.mono ?_))
    first | (rintro _ w10 rfl hb10) | (rintro _ w10 ⟨rfl, hb10⟩)
    have B10 := B9.trans (hb10.mono s9)
    have s10 := B10.size
    have sh2 := Lib.hid (short_t A2 q q.length c2 w10 rfl ((hqb _ hb9).below hb10) hc2 (by omega) hs2.out)
    go_wp2_with ((with_reducible refine sh2.out.mono ?_))
    first | (rintro _ w11 rfl hb11) | (rintro _ w11 ⟨rfl, hb11⟩)
    have B11 := B10.trans (hb11.mono s10)
    try go_wp2
    go_ret
    exact ⟨rfl, B11⟩)
end Go.Proofs.YtehbmllbikkjfaaDoor
