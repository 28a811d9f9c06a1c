/- A set that is written is read again; what the set of a list has. -/
import Derived.Test.YtehbekjcnlcooaaDoorSqY
import Derived.Test.YtehbekjcnlcooaaDoorSqM
set_option linter.unusedVariables false
namespace Go.Proofs.YtehbekjcnlcooaaDoor
open Go.RowKit

theorem showN_chars (n : Int) (h0 : 0 ≤ n) : ∀ c ∈ showN n, c = 42 ∨ (48 ≤ c.toNat ∧ c.toNat ≤ 57) := by
  intro c hc
  unfold showN at hc
  split at hc
  · simp at hc; exact .inl hc
  · obtain ⟨u, rfl⟩ : ∃ u : Nat, n = u := ⟨n.toNat, by omega⟩
    rw [Lib.itoa_nonneg] at hc
    exact .inr (dec_dig u c hc)
theorem showN_free (n : Int) (h0 : 0 ≤ n) (d : UInt8) (hd : d.toNat < 48 ∨ 57 < d.toNat) (h42 : d ≠ 42) : d ∉ showN n := fun h => by
  rcases showN_chars n h0 d h with h1 | h1
  · exact h42 h1
  · omega
theorem numF_show (n : Int) (h0 : 0 ≤ n) (h1 : n ≤ 4294967295) : numF (showN n) = (n, true) := by
  by_cases hz : n = 0
  · subst hz; rfl
  · obtain ⟨u, rfl⟩ : ∃ u : Nat, n = u := ⟨n.toNat, by omega⟩
    have hs : showN (u : Int) = Lib.decDigits u := by unfold showN; rw [if_neg hz, Lib.itoa_nonneg]
    rw [hs]
    have hd := dec_dig u
    obtain ⟨hh, hn⟩ := dec_head u (by omega)
    have hl := dec_len10 u (by omega)
    have hv := dec_val u
    unfold numF
    rw [if_neg (fun e => by have := hd 42 (by rw [e]; simp); simp at this), if_neg, if_pos]
    · have hv' : valF (Lib.decDigits u) = u := hv
      rw [hv', decide_eq_true (by omega)]
    · rw [List.all_eq_true]
      intro c hc
      unfold digB
      have := hd c hc
      simpa using this
    · rintro (h | h | h)
      · exact hn (List.eq_nil_of_length_eq_zero h)
      · omega
      · exact hh h
theorem part_show (x : Int × Int) (h : okS x = true) : partOk (showB x) = true ∧ partS (showB x) = x ∧ (44 : UInt8) ∉ showS x := by
  unfold okS at h
  simp only [decide_eq_true_eq] at h
  obtain ⟨a, b⟩ := x
  dsimp only at h
  have na := numF_show a (by omega) (by omega)
  have nb := numF_show b (by omega) (by omega)
  have f1 := showN_free a (by omega) 58 (by decide) (by decide)
  have f2 := showN_free a (by omega) 44 (by decide) (by decide)
  have f3 := showN_free b (by omega) 44 (by decide) (by decide)
  have hd : (showB (a, b)).data.toList = showS (a, b) := rfl
  by_cases hab : a = b
  · subst hab
    have hs : showS (a, a) = showN a := by unfold showS; simp
    have hc := cut_miss 58 _ f1
    unfold partOk partS
    rw [hd, hs, hc]
    simp [na, f2]
  · have hs : showS (a, b) = showN a ++ 58 :: showN b := by unfold showS; simp [hab]
    have hc := cut_hit 58 _ (showN b) f1
    unfold partOk partS
    rw [hd, hs, hc]
    simp [na, nb, f2, f3]
theorem parts_show (xs : List (Int × Int)) (h : validF xs = true) : partsS ⟨(showSet xs).toArray⟩ = xs.map showB := by
  have hv := h
  unfold validF at hv
  simp only [Bool.and_eq_true, decide_eq_true_eq, List.all_eq_true] at hv
  unfold partsS
  rw [splitB_splL 44 _ _ (Nat.le_refl _)]
  unfold showSet
  rw [h, if_pos rfl]
  show (splL 44 (Lib.join (xs.map showS) [44])).map _ = _
  rw [splL_join 44 _ (by intro e; have := congrArg List.length e; simp at this; simp [this] at hv)]
  · rw [List.map_map]; rfl
  · intro p hp
    rw [List.mem_map] at hp
    obtain ⟨x, hx, rfl⟩ := hp
    exact (part_show x (hv.2 x hx)).2.2
theorem parse_show (xs : List (Int × Int)) (h : validF xs = true) : parseF ⟨(showSet xs).toArray⟩ = (xs, 0) := by
  have hv := h
  unfold validF at hv
  simp only [Bool.and_eq_true, decide_eq_true_eq, List.all_eq_true] at hv
  unfold parseF
  rw [parts_show xs h, if_pos, if_neg]
  · congr 1
    rw [List.map_map]
    conv => rhs; rw [← List.map_id xs]
    apply List.map_congr_left
    intro x hx
    exact (part_show x (hv.2 x hx)).2.1
  · rw [List.length_map]; omega
  · rw [List.all_eq_true]
    intro p hp
    rw [List.mem_map] at hp
    obtain ⟨x, hx, rfl⟩ := hp
    exact (part_show x (hv.2 x hx)).1
theorem showSet_empty (xs : List (Int × Int)) : showSet xs = [] ↔ validF xs = false := by
  constructor
  · intro h
    cases hv : validF xs with
    | false => rfl
    | true =>
      have h1 := parse_show xs hv
      rw [h] at h1
      have h2 : parseF ⟨([] : List UInt8).toArray⟩ = ([], 3) := by decide
      rw [h2] at h1
      cases h1
  · intro h
    unfold showSet
    rw [h]
    rfl
theorem has_of (l : List Int) (n : Int) (h1 : 1 ≤ n) (h2 : n ≤ 4294967295) (hl : l.length ≤ 60) : hasF (ofF l) n n = decide (n ∈ l) := by
  have hm := ofF_mem l n h1 h2
  have hr := ofF_range l
  have hlen := ofF_len l
  have ha : (ofF l).any (hitF n n) = decide (n ∈ l) := by
    rw [Bool.eq_iff_iff, List.any_eq_true, decide_eq_true_eq, ← hm]
    constructor
    · rintro ⟨y, hy, h⟩
      have := hr y hy
      unfold hitF actF at h
      rw [if_neg (by omega), if_neg (by omega)] at h
      simp only [decide_eq_true_eq] at h
      exact ⟨y, hy, by omega, by omega⟩
    · rintro ⟨y, hy, h3, h4⟩
      have := hr y hy
      refine ⟨y, hy, ?_⟩
      unfold hitF actF
      rw [if_neg (by omega), if_neg (by omega)]
      simp only [decide_eq_true_eq]
      omega
  have hok : (ofF l).all okS = true := by
    rw [List.all_eq_true]
    intro y hy
    have := hr y hy
    unfold okS
    simp only [decide_eq_true_eq]
    omega
  unfold hasF validF
  rw [decide_eq_true h1, hok, ha]
  by_cases hz : (ofF l).length = 0
  · have : ofF l = [] := List.eq_nil_of_length_eq_zero hz
    have ha2 : decide (n ∈ l) = false := by rw [← ha, this]; rfl
    rw [ha2]
    simp
  · rw [decide_eq_true (by omega)]
    simp
theorem ofF_gap (l : List Int) (i : Nat) (hi : i < (ofF l).length) : (ofF l)[i].1 ≤ (ofF l)[i].2 ∧ ∀ (h0 : 0 < i), (ofF l)[i - 1].2 + 1 < (ofF l)[i].1 := by
  have h := ofF_inv l
  refine ⟨h.le _ (List.getElem_mem hi), fun h0 => ?_⟩
  exact List.pairwise_iff_getElem.1 h.gap (i - 1) i (by omega) hi (by omega)
end Go.Proofs.YtehbekjcnlcooaaDoor
