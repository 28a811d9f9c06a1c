/- The abstract machine: a region that draws its order: whatever the order, the outcome is that of the text's order. -/
import Derived.Test.YtcigfmnkfelhjaaDoorAm14
set_option linter.unusedVariables false
set_option linter.unusedSimpArgs false
namespace Go.Proofs.YtcigfmnkfelhjaaDoor.Am
open Go

/-! ## Who comes ahead of whom -/
theorem offB_iff (m i : Nat) : offB m i = false ↔ m.testBit i = true := by
  rw [Nat.testBit_eq_decide_div_mod_eq, decide_eq_true_iff]
  have e : Nat.mod (Nat.shiftRight m i) 2 = m / 2 ^ i % 2 := by
    show (m >>> i) % 2 = _
    rw [Nat.shiftRight_eq_div_pow]
  unfold offB
  rw [e]
  constructor
  · intro h
    have := Nat.ne_of_beq_eq_false h
    omega
  · intro h
    rw [h]
    rfl
theorem ancOf_some {j : Nat} {ancs : List Nat} : ∀ {es : List Edge} {m : Nat}, ancOf j ancs es = some m → ∀ i, m.testBit i = true → ∃ e ∈ es, Region.binds .any e = true ∧ e.on < j ∧ (i = e.on ∨ (nthD ancs e.on).testBit i = true)
  | [], m, h, i, hi => by simp [ancOf] at h; subst h; simp at hi
  | e :: r, m, h, i, hi => by
    simp only [ancOf] at h
    cases h1 : ancOf j ancs r with
    | none => rw [h1] at h; cases h
    | some m1 =>
      rw [h1] at h
      dsimp only at h
      have rest : m1.testBit i = true → ∃ e' ∈ e :: r, Region.binds .any e' = true ∧ e'.on < j ∧ (i = e'.on ∨ (nthD ancs e'.on).testBit i = true) := fun hb => by
        obtain ⟨e', k1, k2⟩ := ancOf_some h1 i hb
        exact ⟨e', List.mem_cons_of_mem _ k1, k2⟩
      cases hb : Region.binds .any e with
      | false => rw [hb] at h; simp only [cond_false] at h; injection h with h; subst h; exact rest hi
      | true =>
        rw [hb] at h
        simp only [cond_true, blt_eq] at h
        by_cases hlt : e.on < j
        · rw [decide_eq_true hlt] at h
          simp only [cond_true] at h
          injection h with h
          subst h
          have hi' : (m1 ||| (2 ^ e.on ||| nthD ancs e.on)).testBit i = true := hi
          rw [Nat.testBit_or, Nat.testBit_or, Bool.or_eq_true, Bool.or_eq_true] at hi'
          rcases hi' with hi | hi | hi
          · exact rest hi
          · rw [Nat.testBit_two_pow] at hi
            exact ⟨e, List.mem_cons_self, hb, hlt, .inl (of_decide_eq_true hi).symm⟩
          · exact ⟨e, List.mem_cons_self, hb, hlt, .inr hi⟩
        · rw [decide_eq_false hlt] at h; cases h
theorem nthD_eq : ∀ (l : List Nat) (i : Nat), nthD l i = l.getD i 0
  | [], i => by simp [nthD]
  | a :: r, 0 => rfl
  | a :: r, i + 1 => by simp [nthD, nthD_eq r i]
theorem ancsOf_some : ∀ {l : List Oper} {j : Nat} {ancs res : List Nat}, ancs.length = j → ancsOf l j ancs = some res → (∀ k, k < j → nthD res k = nthD ancs k) ∧
    ∀ k o, l[k]? = some o → ∀ i, (nthD res (j + k)).testBit i = true → ∃ e ∈ o.after.toList, Region.binds .any e = true ∧ e.on < j + k ∧ (i = e.on ∨ (nthD res e.on).testBit i = true)
  | [], j, ancs, res, hl, h => by
    simp only [ancsOf] at h
    injection h with h
    subst h
    exact ⟨fun _ _ => rfl, fun k o e => by simp at e⟩
  | o :: r, j, ancs, res, hl, h => by
    simp only [ancsOf] at h
    cases h1 : ancOf j ancs o.after.toList with
    | none => rw [h1] at h; cases h
    | some m =>
      rw [h1] at h
      simp only [fN_eq] at h
      obtain ⟨g1, g2⟩ := ancsOf_some (by simp [hl]) h
      have low : ∀ k, k < j → nthD res k = nthD ancs k := by
        intro k hk
        rw [g1 k (Nat.lt_succ_of_lt hk), nthD_eq, nthD_eq]
        simp [List.getD_eq_getElem?_getD, List.getElem?_append_left (show k < ancs.length by omega)]
      refine ⟨low, fun k o' e i hi => ?_⟩
      cases k with
      | zero =>
        simp at e
        subst e
        have hm : nthD res j = m := by
          rw [g1 j (Nat.lt_succ_self j), nthD_eq]
          simp [List.getD_eq_getElem?_getD, ← hl]
        rw [Nat.add_zero, hm] at hi
        obtain ⟨e, k1, k2, k3, k4⟩ := ancOf_some h1 i hi
        refine ⟨e, k1, k2, by omega, ?_⟩
        rw [low e.on k3]
        exact k4
      | succ k =>
        have := g2 k o' (by simpa using e) i (by rw [show Nat.succ j + k = j + (k + 1) by omega]; exact hi)
        rw [show Nat.succ j + k = j + (k + 1) by omega] at this
        exact this
/-- The set is closed under what the edges ask. -/
def Closed (ops : Array Oper) (D : Nat → Bool) (j : Nat) : Prop := ∀ o, ops[j]? = some o → ∀ e ∈ o.after, Region.binds .any e = true → D e.on = true
theorem anc_in {ops : Array Oper} {ancs : List Nat} (ha : ancsOf ops.toList 0 [] = some ancs) {D : Nat → Bool} (hD : ∀ j, D j = true → Closed ops D j) : ∀ j, j < ops.size → Closed ops D j → ∀ i, offB (nthD ancs j) i = false → D i = true := by
  intro j
  induction j using Nat.strongRecOn with
  | _ j ih =>
    intro hj hc i hi
    obtain ⟨_, g⟩ := ancsOf_some (ancs := []) (j := 0) rfl ha
    have ho : ops[j]? = some ops[j] := Array.getElem?_eq_getElem hj
    obtain ⟨e, k1, k2, k3, k4⟩ := g j ops[j] (by rw [Array.getElem?_toList]; exact ho) i (by rw [Nat.zero_add]; exact (offB_iff _ _).1 hi)
    have he : D e.on = true := hc _ ho e (by simpa using k1) k2
    rcases k4 with rfl | k4
    · exact he
    · exact ih e.on (by omega) (by omega) (hD _ he) i ((offB_iff _ _).2 k4)

theorem cond_f {b x : Bool} (h : cond b x false = true) : b = true ∧ x = true := by cases b <;> simp_all
theorem tmpOk1_some {ancs : List Nat} {ops : Array Oper} {j : Nat} {ts : List Tmp} : ∀ {l : List Oper} {s : Nat}, tmpOk1 ancs ops j ts l s = true → ∀ i o, l[i]? = some o → ∀ d, o.dst = some d → d ∈ ts → s + i = j ∨ ordB ancs (s + i) j = true
  | [], s, h, i, o, e, _, _, _ => by simp at e
  | o' :: r, s, h, i, o, e, d, hd, hm => by
    simp only [tmpOk1] at h
    obtain ⟨h1, h2⟩ := cond_f h
    cases i with
    | zero =>
      simp at e
      subst e
      rw [hd] at h1
      dsimp only at h1
      rw [(memN_iff _ _).2 hm] at h1
      simp only [Bool.not_true, Bool.false_or] at h1
      rw [Bool.or_eq_true] at h1
      rcases h1 with h1 | h1
      · exact .inl (Nat.eq_of_beq_eq_true h1)
      · exact .inr h1
    | succ i =>
      have := tmpOk1_some h2 i o (by simpa using e) d hd hm
      rwa [show Nat.succ s + i = s + (i + 1) by omega] at this
theorem tmpOk_some {ancs : List Nat} {ops : Array Oper} : ∀ {l : List Oper} {s : Nat}, tmpOk ancs ops l s = true → ∀ j o, l[j]? = some o → tmpOk1 ancs ops (s + j) (o.dst.toList ++ o.looksAt ops) ops.toList 0 = true
  | [], s, h, j, o, e => by simp at e
  | o' :: r, s, h, j, o, e => by
    simp only [tmpOk] at h
    have h1 := h
    cases hb : tmpOk1 ancs ops s (o'.dst.toList ++ o'.looksAt ops) ops.toList 0 with
    | false => rw [hb] at h1; cases h1
    | true =>
      rw [hb] at h1
      cases j with
      | zero => simp at e; subst e; exact hb
      | succ j =>
        have := tmpOk_some h1 j o (by simpa using e)
        rwa [show Nat.succ s + j = s + (j + 1) by omega] at this

/-! ## The last of a set that did something -/
open Classical in
noncomputable def sel {α : Type} (D : Nat → Bool) (W : Nat → Prop) (X : Nat → α) : Nat → α
  | 0 => X 0
  | k + 1 => if D k = true ∧ W k then X (k + 1) else sel D W X k
section
variable {α : Type} {D D' : Nat → Bool} {W : Nat → Prop} {X : Nat → α}
theorem sel_none : ∀ n, (∀ k, k < n → ¬ (D k = true ∧ W k)) → sel D W X n = X 0
  | 0, _ => rfl
  | n + 1, h => by
    simp only [sel]
    rw [if_neg (h n (Nat.lt_succ_self n))]
    exact sel_none n fun k hk => h k (Nat.lt_succ_of_lt hk)
theorem sel_all : ∀ n, (∀ k, k < n → W k → D k = true) → (∀ k, k < n → ¬ W k → X (k + 1) = X k) → sel D W X n = X n
  | 0, _, _ => rfl
  | n + 1, h1, h2 => by
    simp only [sel]
    have ih := sel_all n (fun k hk => h1 k (Nat.lt_succ_of_lt hk)) (fun k hk => h2 k (Nat.lt_succ_of_lt hk))
    by_cases hw : W n
    · rw [if_pos ⟨h1 n (Nat.lt_succ_self n) hw, hw⟩]
    · rw [if_neg (fun h => hw h.2), ih, h2 n (Nat.lt_succ_self n) hw]
theorem sel_at {j : Nat} (h1 : ∀ k, k < j → W k → D k = true) (h2 : ∀ k, k < j → ¬ W k → X (k + 1) = X k) : ∀ n, j ≤ n → (∀ k, j ≤ k → k < n → W k → ¬ D k = true) → sel D W X n = X j
  | 0, hj, _ => by
    obtain rfl : j = 0 := by omega
    rfl
  | n + 1, hj, h3 => by
    rcases Nat.lt_or_ge n j with h | h
    · obtain rfl : j = n + 1 := by omega
      exact sel_all _ h1 h2
    · simp only [sel]
      rw [if_neg (fun hh => h3 n h (Nat.lt_succ_self n) hh.2 hh.1)]
      exact sel_at h1 h2 n h fun k a b => h3 k a (Nat.lt_succ_of_lt b)
theorem sel_upd {j n : Nat} (hD : ∀ k, D' k = true ↔ D k = true ∨ k = j) (h1 : W j → ∀ k, j < k → k < n → W k → ¬ D k = true) (hj : j < n) : (W j → sel D' W X n = X (j + 1)) ∧ (¬ W j → sel D' W X n = sel D W X n) := by
  constructor
  · intro hw
    have : ∀ m, j < m → m ≤ n → sel D' W X m = X (j + 1) := by
      intro m
      induction m with
      | zero => intro h; omega
      | succ m ih =>
        intro h hm
        simp only [sel]
        by_cases e : m = j
        · subst e
          rw [if_pos ⟨(hD m).2 (.inr rfl), hw⟩]
        · rw [if_neg]
          · exact ih (by omega) (by omega)
          · rintro ⟨a, b⟩
            rcases (hD m).1 a with a | a
            · exact h1 hw m (by omega) (by omega) b a
            · exact e a
    exact this n hj (Nat.le_refl _)
  · intro hw
    have : ∀ m, sel D' W X m = sel D W X m := by
      intro m
      induction m with
      | zero => rfl
      | succ m ih =>
        simp only [sel, ih]
        by_cases e : D m = true ∧ W m
        · rw [if_pos e, if_pos ⟨(hD m).2 (.inl e.1), e.2⟩]
        · rw [if_neg e, if_neg]
          rintro ⟨a, b⟩
          rcases (hD m).1 a with a | a
          · exact e ⟨a, b⟩
          · subst a; exact hw b
    exact this n
end

def cnt (D : Nat → Bool) : Nat → Nat
  | 0 => 0
  | k + 1 => cnt D k + (if D k = true then 1 else 0)
theorem cnt_le (D : Nat → Bool) : ∀ n, cnt D n ≤ n
  | 0 => Nat.le_refl _
  | n + 1 => by have := cnt_le D n; simp only [cnt]; split <;> omega
theorem cnt_all {D : Nat → Bool} : ∀ {n : Nat}, n ≤ cnt D n → ∀ k, k < n → D k = true
  | 0, _, k, hk => by omega
  | n + 1, h, k, hk => by
    have := cnt_le D n
    simp only [cnt] at h
    split at h
    · rename_i hd
      rcases Nat.lt_or_ge k n with h1 | h1
      · exact cnt_all (by omega) k h1
      · obtain rfl : k = n := by omega
        exact hd
    · omega
theorem cnt_add {D D' : Nat → Bool} {j : Nat} (hD : ∀ k, D' k = true ↔ D k = true ∨ k = j) (hj : ¬ D j = true) : ∀ n, (n ≤ j → cnt D' n = cnt D n) ∧ (j < n → cnt D' n = cnt D n + 1)
  | 0 => ⟨fun _ => rfl, fun h => by omega⟩
  | n + 1 => by
    obtain ⟨h1, h2⟩ := cnt_add hD hj n
    simp only [cnt]
    by_cases e : n = j
    · subst e
      rw [h1 (Nat.le_refl _), if_pos ((hD n).2 (.inr rfl)), if_neg hj]
      exact ⟨fun h => by omega, fun _ => by omega⟩
    · have : (D' n = true) = (D n = true) := by
        apply propext
        rw [hD n]
        exact ⟨fun h => h.resolve_right e, .inl⟩
      simp only [this]
      exact ⟨fun h => by rw [h1 (by omega)], fun h => by rw [h2 (by omega)]; omega⟩
end Go.Proofs.YtcigfmnkfelhjaaDoor.Am
