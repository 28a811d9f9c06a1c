/- The abstract machine: a region that draws its order, run in the order of the text: what the text's run says. -/
import Derived.Test.YtcigfmnkfelhjaaDoorAm13
set_option linter.unusedVariables false
set_option linter.unusedSimpArgs false
namespace Go.Proofs.YtcigfmnkfelhjaaDoor.Am
open Go

theorem inRanges_iff (l : List (Nat × Nat)) (F : Nat) : inRanges l F = true ↔ ∃ p ∈ l, p.1 ≤ F ∧ F < p.2 := by
  induction l with
  | nil => simp [inRanges]
  | cons p r ih =>
    obtain ⟨a, b⟩ := p
    simp only [inRanges, blt_eq]
    by_cases h1 : a ≤ F
    · rw [(ble_iff _ _).2 h1]
      simp only [cond_true]
      by_cases h2 : F < b
      · rw [decide_eq_true h2]; simp [h1, h2]
      · rw [decide_eq_false h2]; simp [ih, h2]
    · have : Nat.ble a F = false := by
        cases h : Nat.ble a F with
        | false => rfl
        | true => exact absurd ((ble_iff _ _).1 h) h1
      rw [this]
      simp [ih, h1]
theorem inRanges_append (l r : List (Nat × Nat)) (F : Nat) : inRanges (l ++ r) F = (inRanges l F || inRanges r F) := by
  rw [Bool.eq_iff_iff, Bool.or_eq_true, inRanges_iff, inRanges_iff, inRanges_iff]
  constructor
  · rintro ⟨p, h, k⟩
    rcases List.mem_append.1 h with h | h
    · exact .inl ⟨p, h, k⟩
    · exact .inr ⟨p, h, k⟩
  · rintro (⟨p, h, k⟩ | ⟨p, h, k⟩)
    · exact ⟨p, List.mem_append_left _ h, k⟩
    · exact ⟨p, List.mem_append_right _ h, k⟩
theorem singles_iff (wl : List Nat) (l : List (Nat × Nat)) (F : Nat) : inRanges (singles wl l) F = true ↔ F ∈ wl ∨ inRanges l F = true := by
  induction wl with
  | nil => simp [singles]
  | cons a r ih =>
    rw [inRanges_iff]
    simp only [singles, List.mem_cons]
    constructor
    · rintro ⟨p, rfl | h, k1, k2⟩
      · simp at k1 k2
        exact .inl (.inl (by omega))
      · rcases ih.1 ((inRanges_iff _ _).2 ⟨p, h, k1, k2⟩) with h | h
        · exact .inl (.inr h)
        · exact .inr h
    · rintro ((rfl | h) | h)
      · exact ⟨_, .inl rfl, Nat.le_refl _, by simp⟩
      · obtain ⟨p, hp, k⟩ := (inRanges_iff _ _).1 (ih.2 (.inl h))
        exact ⟨p, .inr hp, k⟩
      · obtain ⟨p, hp, k⟩ := (inRanges_iff _ _).1 (ih.2 (.inr h))
        exact ⟨p, .inr hp, k⟩
theorem hidFor_iff (anc : Nat) (ts : List Tc) (l : List (Nat × Nat)) (F : Nat) : inRanges (hidFor anc ts l) F = true ↔ inRanges l F = true ∨ ∃ t ∈ ts, offB anc t.i = true ∧ ((t.lo ≤ F ∧ F < t.hi) ∨ F ∈ t.wl) := by
  induction ts with
  | nil => simp [hidFor]
  | cons t r ih =>
    obtain ⟨i, wl, lo, hi⟩ := t
    simp only [hidFor]
    cases hb : offB anc i with
    | true =>
      simp only [cond_true]
      rw [inRanges_iff]
      simp only [List.mem_cons]
      constructor
      · rintro ⟨p, rfl | h, k1, k2⟩
        · exact .inr ⟨_, .inl rfl, hb, .inl ⟨k1, k2⟩⟩
        · rcases (singles_iff _ _ _).1 ((inRanges_iff _ _).2 ⟨p, h, k1, k2⟩) with h | h
          · exact .inr ⟨_, .inl rfl, hb, .inr h⟩
          · rcases ih.1 h with h | ⟨t, h1, h2⟩
            · exact .inl h
            · exact .inr ⟨t, .inr h1, h2⟩
      · intro h
        have key : inRanges (singles wl (hidFor anc r l)) F = true ∨ (lo ≤ F ∧ F < hi) := by
          rcases h with h | ⟨t, rfl | h1, h2, h3⟩
          · exact .inl ((singles_iff _ _ _).2 (.inr (ih.2 (.inl h))))
          · rcases h3 with h3 | h3
            · exact .inr h3
            · exact .inl ((singles_iff _ _ _).2 (.inl h3))
          · exact .inl ((singles_iff _ _ _).2 (.inr (ih.2 (.inr ⟨t, h1, h2, h3⟩))))
        rcases key with h | h
        · obtain ⟨p, hp, k⟩ := (inRanges_iff _ _).1 h
          exact ⟨p, .inr hp, k⟩
        · exact ⟨_, .inl rfl, h⟩
    | false =>
      simp only [cond_false]
      rw [ih]
      constructor
      · rintro (h | ⟨t, h1, h2⟩)
        · exact .inl h
        · exact .inr ⟨t, List.mem_cons_of_mem _ h1, h2⟩
      · rintro (h | ⟨t, h1, h2, h3⟩)
        · exact .inl h
        · rcases List.mem_cons.1 h1 with rfl | h1
          · rw [hb] at h2; cases h2
          · exact .inr ⟨t, h1, h2, h3⟩
theorem extraFor_iff (ancs : List Nat) (i : Nat) (ts : List Tc) (l : List (Nat × Nat)) (F : Nat) : inRanges (extraFor ancs i ts l) F = true ↔ inRanges l F = true ∨ ∃ t ∈ ts, i < t.i ∧ offB (nthD ancs t.i) i = true ∧ F ∈ t.wl := by
  induction ts with
  | nil => simp [extraFor]
  | cons t r ih =>
    obtain ⟨j, wl, lo, hi⟩ := t
    simp only [extraFor, blt_eq]
    cases hb : (and (decide (i < j)) (offB (nthD ancs j) i)) with
    | true =>
      simp only [cond_true]
      obtain ⟨h1, h2⟩ := and_true hb
      rw [singles_iff, ih]
      simp only [List.mem_cons]
      constructor
      · rintro (h | h | ⟨t, h3, h4⟩)
        · exact .inr ⟨_, .inl rfl, of_decide_eq_true h1, h2, h⟩
        · exact .inl h
        · exact .inr ⟨t, .inr h3, h4⟩
      · rintro (h | ⟨t, rfl | h3, h4, h5, h6⟩)
        · exact .inr (.inl h)
        · exact .inl h6
        · exact .inr (.inr ⟨t, h3, h4, h5, h6⟩)
    | false =>
      simp only [cond_false]
      rw [ih]
      simp only [List.mem_cons]
      constructor
      · rintro (h | ⟨t, h3, h4⟩)
        · exact .inl h
        · exact .inr ⟨t, .inr h3, h4⟩
      · rintro (h | ⟨t, rfl | h3, h4, h5, h6⟩)
        · exact .inl h
        · simp only at h4 h5
          rw [decide_eq_true h4, h5] at hb
          cases hb
        · exact .inr ⟨t, h3, h4, h5, h6⟩
theorem allIn_some {U : List (Nat × Nat)} : ∀ {l : List Nat}, allIn U l = true → ∀ F ∈ l, inRanges U F = true
  | [], _, F, h => by cases h
  | a :: r, h, F, hF => by
    simp only [allIn] at h
    cases ha : inRanges U a with
    | false => rw [ha] at h; cases h
    | true =>
      rw [ha] at h
      rcases List.mem_cons.1 hF with rfl | hF
      · exact ha
      · exact allIn_some h F hF
theorem wlOk_some {ancs : List Nat} {ex : List Tc} {j : Nat} {wl : List Nat} : ∀ {n : Nat}, wlOk ancs ex j wl n = true → ∀ i, i < n → offB (nthD ancs j) i = true → ∀ F ∈ wl, inRanges (extraFor ancs i ex []) F = true
  | 0, _, i, hi, _, _, _ => by omega
  | n + 1, h, i, hi, ho, F, hF => by
    simp only [wlOk] at h
    cases hc : (or (not (offB (nthD ancs j) n)) (allIn (extraFor ancs n ex []) wl)) with
    | false => rw [hc] at h; cases h
    | true =>
      rw [hc] at h
      simp only [cond_true] at h
      rcases Nat.lt_or_ge i n with h1 | h1
      · exact wlOk_some h i h1 ho F hF
      · obtain rfl : i = n := by omega
        rw [ho] at hc
        simp only [Bool.not_true, Bool.false_or] at hc
        exact allIn_some hc F hF
theorem mergeL_iff (mark : Nat) (wl l : List Nat) (F : Nat) : F ∈ mergeL mark wl l ↔ F ∈ l ∨ (F ∈ wl ∧ F < mark) := by
  induction wl with
  | nil => simp [mergeL]
  | cons a r ih =>
    simp only [mergeL, blt_eq]
    cases hc : (and (decide (a < mark)) (not (memN (mergeL mark r l) a))) with
    | true =>
      simp only [cond_true, List.mem_cons]
      obtain ⟨h1, h2⟩ := and_true hc
      have h1 := of_decide_eq_true h1
      rw [ih]
      constructor
      · rintro (rfl | h | h)
        · exact .inr ⟨.inl rfl, h1⟩
        · exact .inl h
        · exact .inr ⟨.inr h.1, h.2⟩
      · rintro (h | ⟨rfl | h, h3⟩)
        · exact .inr (.inl h)
        · exact .inl rfl
        · exact .inr (.inr ⟨h, h3⟩)
    | false =>
      simp only [cond_false]
      rw [ih]
      constructor
      · rintro (h | h)
        · exact .inl h
        · exact .inr ⟨List.mem_cons_of_mem _ h.1, h.2⟩
      · rintro (h | ⟨h, h3⟩)
        · exact .inl h
        · rcases List.mem_cons.1 h with rfl | h
          · rw [decide_eq_true h3] at hc
            simp only [Bool.true_and, Bool.not_eq_false'] at hc
            exact ih.1 ((memN_iff _ _).1 hc)
          · exact .inr ⟨h, h3⟩

/-! ## Hidden families -/
theorem hide_next (h : AH) (U : List (Nat × Nat)) : (h.hide U).next = h.next := by cases h; rfl
theorem hide_mark (h : AH) (U : List (Nat × Nat)) : (h.hide U).mark = h.next := by cases h; rfl
theorem hide_wlog (h : AH) (U : List (Nat × Nat)) : (h.hide U).wlog = [] := by cases h; rfl
theorem hide_hid (h : AH) (U : List (Nat × Nat)) : (h.hide U).hid = U ++ h.hid := by cases h; rfl
theorem hide_tr (h : AH) (U : List (Nat × Nat)) : (h.hide U).tr = h.tr := by cases h; rfl
theorem hide_get (h : AH) (U : List (Nat × Nat)) (F : Nat) : (h.hide U).get F = if inRanges U F = true then none else h.get F := by
  rw [AH.get_eq, AH.get_eq, hide_hid, hide_tr, inRanges_append]
  cases inRanges U F <;> simp
theorem hide_wf {h : AH} (w : Wf h) (U : List (Nat × Nat)) : Wf (h.hide U) := {
  mark := by rw [hide_mark, hide_next]; exact Nat.le_refl _
  wl F hF := by rw [hide_wlog] at hF; cases hF
  raw F hF := by
    rw [hide_next] at hF
    rw [hide_tr]
    exact w.raw F hF }
theorem show_next (h h' : AH) : (h.show h').next = h'.next := by cases h; cases h'; rfl
theorem show_mark (h h' : AH) : (h.show h').mark = h.mark := by cases h; cases h'; rfl
theorem show_hid (h h' : AH) : (h.show h').hid = h.hid := by cases h; cases h'; rfl
theorem show_tr (h h' : AH) : (h.show h').tr = h'.tr := by cases h; cases h'; rfl
theorem show_wlog (h h' : AH) : (h.show h').wlog = mergeL h.mark h'.wlog h.wlog := by cases h; cases h'; rfl

/-- What one operation of the text's run has touched. -/
def Tch (h h' : AH) (F : Nat) : Prop := F ∈ h'.wlog ∨ (h.next ≤ F ∧ F < h'.next)
theorem tch_iff {h h' : AH} {U : List (Nat × Nat)} (F : Nat) : Touch (h.hide U) h' F ↔ Tch h h' F := by
  unfold Touch Tch
  rw [hide_mark]
  exact or_comm

section
variable {h h' : AH} {U : List (Nat × Nat)}
/-- A step under hiding, seen from outside. -/
theorem show_get_vis (af : AF (h.hide U) h') {F : Nat} (hU : inRanges U F = false) : (h.show h').get F = h'.get F := by
  rw [AH.get_eq, AH.get_eq, show_hid, show_tr, af.hid, hide_hid, inRanges_append, hU, Bool.false_or]
theorem show_get_keep (af : AF (h.hide U) h') {F : Nat} (hF : F < h.next) (ht : ¬ Tch h h' F) : (h.show h').get F = h.get F := by
  rw [AH.get_eq, AH.get_eq, show_hid, show_tr, af.keep F (by rw [hide_next]; exact hF) (fun t => ht ((tch_iff F).1 t)), hide_tr]
theorem tch_vis (af : AF (h.hide U) h') {F : Nat} (ht : F ∈ h'.wlog) : inRanges U F = false ∧ F < h.next ∧ isLive (h.get F) = true ∧ isLive ((h.hide U).get F) = true := by
  rcases af.wn F ht with h1 | ⟨h1, h2⟩
  · rw [hide_wlog] at h1; cases h1
  · rw [hide_mark] at h1
    have h3 := h2
    rw [hide_get] at h2
    cases hU : inRanges U F with
    | true => rw [hU] at h2; simp [isLive] at h2
    | false => rw [hU] at h2; exact ⟨rfl, h1, by simpa using h2, h3⟩
theorem tch_new (af : AF (h.hide U) h') {F : Nat} (h1 : h.next ≤ F) (h2 : F < h'.next) : inRanges U F = false := by
  have := af.nh F (by rw [hide_next]; exact h1) h2
  rw [hide_hid, inRanges_append] at this
  cases hU : inRanges U F with
  | false => rfl
  | true => rw [hU] at this; cases this
theorem show_AF (w : Wf h) (af : AF (h.hide U) h') : AF h (h.show h') := {
  mark := show_mark _ _
  hid := show_hid _ _
  next := by rw [show_next]; have := af.next; rwa [hide_next] at this
  wl F hF := by rw [show_wlog]; exact (mergeL_iff _ _ _ _).2 (.inl hF)
  wn F hF := by
    rw [show_wlog] at hF
    rcases (mergeL_iff _ _ _ _).1 hF with h1 | ⟨h1, h2⟩
    · exact .inl h1
    · exact .inr ⟨h2, (tch_vis af h1).2.2.1⟩
  keep F hF ht := by
    rw [show_tr]
    have := af.keep F (by rw [hide_next]; exact hF) (fun t => ht ?_)
    · rw [this, hide_tr]
    · rcases (tch_iff F).1 t with t | ⟨t, _⟩
      · by_cases hm : F < h.mark
        · exact .inr (by rw [show_wlog]; exact (mergeL_iff _ _ _ _).2 (.inr ⟨t, hm⟩))
        · refine .inl ⟨by omega, ?_⟩
          rw [show_next]
          have := af.next
          rw [hide_next] at this
          omega
      · omega
  nh F h1 h2 := by
    rw [show_next] at h2
    have := af.nh F (by rw [hide_next]; exact h1) h2
    rw [hide_hid, inRanges_append] at this
    cases hU : inRanges h.hid F with
    | false => rfl
    | true => rw [hU] at this; simp at this
  live F hF hl := by
    cases hU : inRanges U F with
    | false =>
      rw [show_get_vis af hU] at hl
      have := af.live F (by rw [hide_next]; exact hF) hl
      rw [hide_get, hU] at this
      simpa using this
    | true =>
      have ht : ¬ Tch h h' F := by
        rintro (t | ⟨t1, t2⟩)
        · rw [(tch_vis af t).1] at hU; cases hU
        · omega
      rwa [show_get_keep af hF ht] at hl
  wf := by
    refine ⟨?_, fun F hF => ?_, fun F hF => ?_⟩
    · rw [show_mark, show_next]
      have := af.next
      rw [hide_next] at this
      exact Nat.le_trans w.mark this
    · rw [show_mark]
      rw [show_wlog] at hF
      rcases (mergeL_iff _ _ _ _).1 hF with h1 | ⟨_, h2⟩
      · exact w.wl F h1
      · exact h2
    · rw [show_next] at hF
      rw [show_tr]
      exact af.wf.raw F hF }
end
end Go.Proofs.YtcigfmnkfelhjaaDoor.Am
