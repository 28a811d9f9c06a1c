/- Plain mathematics of mailbox names: what is above a valid name is valid. -/
import Derived.Test.YtokblnjnbkpchaaDoorU7M
import Derived.Lib.ValidLaws
import Derived.Lib.LastIndexByte
import Derived.Lib.IndexMore
set_option linter.unusedVariables false
namespace Go.Proofs.YtokblnjnbkpchaaDoor

theorem accLo_ge : ∀ b : Fin 256, (Lib.firstT b.val % 8 = 2 ∨ Lib.firstT b.val % 8 = 3 ∨ Lib.firstT b.val % 8 = 4) → 128 ≤ Lib.accLo (Lib.firstT b.val / 16) := by decide +kernel
theorem getD_app (p r : List UInt8) (j : Nat) (h : j < p.length) : (p ++ r).getD j 0 = p.getD j 0 := by
  rw [List.getD_eq_getElem?_getD, List.getD_eq_getElem?_getD, List.getElem?_append_left h]
theorem getD_at (p r : List UInt8) : (p ++ 47 :: r).getD p.length 0 = 47 := by
  rw [List.getD_eq_getElem?_getD, List.getElem?_append_right (Nat.le_refl _)]
  simp
theorem valid_above (r : List UInt8) : ∀ (n : Nat) (p : List UInt8), p.length ≤ n → Lib.validD (p ++ 47 :: r) = true → Lib.validD p = true
  | _, [], _, _ => rfl
  | 0, _ :: _, h, _ => by simp at h
  | n + 1, b :: t, hn, h => by
    simp at hn
    by_cases hb : b.toNat < 128
    · rw [List.cons_append, Lib.validD_cons b _ hb] at h
      rw [Lib.validD_cons b _ hb]
      exact valid_above r n t hn h
    · obtain ⟨p, hp⟩ : ∃ p, p = b :: t := ⟨_, rfl⟩
      rw [← hp] at h ⊢
      have hpl : 0 < p.length := by rw [hp]; simp
      have hne : p ≠ [] := by rw [hp]; simp
      have h0 : 128 ≤ (p.getD 0 0).toNat := by rw [hp]; simp; omega
      have h0' : 128 ≤ ((p ++ 47 :: r).getD 0 0).toNat := by rw [getD_app _ _ _ hpl]; exact h0
      rw [Lib.validD_lead _ (by simp [hne]) h0'] at h
      rw [Lib.validD_lead _ hne h0]
      rw [getD_app _ _ 0 hpl] at h
      have hlo := accLo_ge ⟨(p.getD 0 0).toNat, UInt8.toNat_lt _⟩
      dsimp only at hlo
      generalize Lib.accLo (Lib.firstT (p.getD 0 0).toNat / 16) = lo at h hlo ⊢
      generalize Lib.accHi (Lib.firstT (p.getD 0 0).toNat / 16) = hi at h ⊢
      generalize Lib.firstT (p.getD 0 0).toNat % 8 = sz at h hlo ⊢
      have hll : (p ++ 47 :: r).length = p.length + 1 + r.length := by simp; omega
      have hat := getD_at p r
      have key : ∀ k, (∀ j, 1 ≤ j → j < k → 128 ≤ ((p ++ 47 :: r).getD j 0).toNat) → k ≤ p.length := fun k hk => by
        apply Decidable.byContradiction
        intro hlt
        have := hk p.length (by omega) (by omega)
        rw [hat] at this
        simp at this
      have fin : ∀ k, 1 ≤ k → k ≤ p.length → Lib.validD ((p ++ 47 :: r).drop k) = true → Lib.validD (p.drop k) = true := fun k hk1 hk hv => by
        rw [List.drop_append_of_le_length hk] at hv
        refine valid_above r n (p.drop k) ?_ hv
        rw [List.length_drop, hp]
        simp
        omega
      unfold Lib.checkN at h ⊢
      by_cases s2 : sz = 2
      · have hlo := hlo (by omega)
        rw [if_pos s2] at h ⊢
        split at h
        · rename_i hx
          split at hx
          · cases h
          · cases hx
        · rename_i k hx
          split at hx
          · cases hx
          · rename_i hc
            cases hx
            have hk := key 2 (fun j h1 h2 => by obtain rfl : j = 1 := by omega
                                                omega)
            rw [getD_app _ _ 1 (by omega)] at hc
            rw [if_neg (by omega)]
            exact fin 2 (by omega) hk h
      rw [if_neg s2] at h ⊢
      by_cases s3 : sz = 3
      · have hlo := hlo (by omega)
        rw [if_pos s3] at h ⊢
        split at h
        · rename_i hx
          split at hx
          · cases h
          · cases hx
        · rename_i k hx
          split at hx
          · cases hx
          · rename_i hc
            cases hx
            have hk := key 3 (fun j h1 h2 => by
              obtain rfl | rfl : j = 1 ∨ j = 2 := by omega
              · omega
              · omega)
            rw [getD_app _ _ 1 (by omega), getD_app _ _ 2 (by omega)] at hc
            rw [if_neg (by omega)]
            exact fin 3 (by omega) hk h
      rw [if_neg s3] at h ⊢
      by_cases s4 : sz = 4
      · have hlo := hlo (by omega)
        rw [if_pos s4] at h ⊢
        split at h
        · rename_i hx
          split at hx
          · cases h
          · cases hx
        · rename_i k hx
          split at hx
          · cases hx
          · rename_i hc
            cases hx
            have hk := key 4 (fun j h1 h2 => by
              obtain rfl | rfl | rfl : j = 1 ∨ j = 2 ∨ j = 3 := by omega
              · omega
              · omega
              · omega)
            rw [getD_app _ _ 1 (by omega), getD_app _ _ 2 (by omega), getD_app _ _ 3 (by omega)] at hc
            rw [if_neg (by omega)]
            exact fin 4 (by omega) hk h
      rw [if_neg s4] at h
      cases h
/-- The bytes that a name may have. -/
def byteG (c : UInt8) : Bool := !(decide (c.toNat < 32) || c == 127 || c == 42 || c == 37)
def goodF (l : List UInt8) : Bool := decide (l.length ≠ 0 ∧ l.length ≤ 100) && Lib.validD l && l.all byteG && !(l.head? == some 47) && !(l.getLast? == some 47) && !Lib.contains l [47, 47]
def slashAt (l : List UInt8) (i : Nat) : Prop := ∃ p r, l = p ++ 47 :: r ∧ p.length = i ∧ 47 ∉ r
theorem noSlashes (l : List UInt8) (h : Lib.contains l [47, 47] = false) : ∀ a b, l ≠ a ++ 47 :: 47 :: b := by
  intro a b hab
  unfold Lib.contains at h
  have h1 := of_decide_eq_false h
  rcases Lib.index_spec l [47, 47] with ⟨_, h2⟩ | ⟨i, h2, _⟩
  · have h3 := h2 a.length (by rw [hab]; simp)
    have h4 : Lib.occAt l [47, 47] a.length = true := by
      unfold Lib.occAt
      rw [hab, List.drop_left]
      simp [List.isPrefixOf]
    rw [h4] at h3
    cases h3
  · omega
theorem hasSlashes (l : List UInt8) (h : ∀ a b, l ≠ a ++ 47 :: 47 :: b) : Lib.contains l [47, 47] = false := by
  unfold Lib.contains
  rw [decide_eq_false_iff_not]
  intro h1
  rcases Lib.index_spec l [47, 47] with ⟨h2, _⟩ | ⟨i, h2, h3, h4, _⟩
  · omega
  · unfold Lib.occAt at h4
    rw [List.isPrefixOf_iff_prefix] at h4
    obtain ⟨t, ht⟩ := h4
    exact h (l.take i) t ((List.take_append_drop i l).symm.trans (by rw [← ht]; rfl))
/-- What stands ahead of the last slash of a good name is good, and shorter. -/
theorem good_above (p r : List UInt8) (h : goodF (p ++ 47 :: r) = true) (hr : 47 ∉ r) : goodF p = true ∧ p ≠ [] := by
  unfold goodF at h
  simp only [Bool.and_eq_true, decide_eq_true_eq, Bool.not_eq_true'] at h
  obtain ⟨⟨⟨⟨⟨h1, h2⟩, h3⟩, h4⟩, h5⟩, h6⟩ := h
  have hp : p ≠ [] := by
    rintro rfl
    simp at h4
  have hv := valid_above r _ p (Nat.le_refl _) h2
  have ha : p.all byteG = true := by
    rw [List.all_append] at h3
    exact (Bool.and_eq_true_iff.1 h3).1
  have hh : (p.head? == some 47) = false := by
    cases p with
    | nil => exact absurd rfl hp
    | cons c t => simpa using h4
  have hs := noSlashes _ h6
  have hl : (p.getLast? == some 47) = false := by
    rcases List.eq_nil_or_concat p with rfl | ⟨q, c, rfl⟩
    · exact absurd rfl hp
    · rw [List.concat_eq_append, List.getLast?_concat]
      rw [beq_eq_false_iff_ne]
      intro e
      injection e with e
      subst e
      exact hs q r (by simp)
  have hc : Lib.contains p [47, 47] = false := hasSlashes p fun a b hab => hs a (b ++ 47 :: r) (by rw [hab]; simp)
  refine ⟨?_, hp⟩
  unfold goodF
  simp only [Bool.and_eq_true, decide_eq_true_eq, Bool.not_eq_true']
  refine ⟨⟨⟨⟨⟨⟨?_, ?_⟩, hv⟩, ha⟩, hh⟩, hl⟩, hc⟩
  · intro e
    exact hp (List.eq_nil_of_length_eq_zero e)
  · simp at h1
    omega
theorem good_plain (l : List UInt8) (h : goodF l = true) : ∀ c ∈ l, wildB c = false := by
  unfold goodF at h
  simp only [Bool.and_eq_true] at h
  intro c hc
  have h1 := List.all_eq_true.1 h.1.1.1.2 c hc
  unfold byteG at h1
  unfold wildB
  simp only [Bool.not_eq_true', Bool.or_eq_false_iff] at h1
  rw [h1.1.2, h1.2]
  rfl
end Go.Proofs.YtokblnjnbkpchaaDoor
