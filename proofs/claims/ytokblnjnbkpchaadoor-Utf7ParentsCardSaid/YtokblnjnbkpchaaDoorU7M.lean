/- Plain mathematics of mailbox names: patterns, byte by byte. -/
import Derived.Test.YtokblnjnbkpchaaDoorPl
set_option linter.unusedVariables false
namespace Go.Proofs.YtokblnjnbkpchaaDoor

def wildB (c : UInt8) : Bool := c == 42 || c == 37
def okW (c d : UInt8) : Bool := c == 42 || !(d == 47)
/-- What the pattern, with one more byte c, fits of the name s: f tells it of the pattern without c. -/
def stepM (s : List UInt8) (c : UInt8) (f : Nat → Bool) : Nat → Bool
  | 0 => wildB c && f 0
  | i + 1 => if wildB c then f (i + 1) || (stepM s c f i && okW c (s.getD i 0)) else f i && (s.getD i 0 == c)
def matM (s p : List UInt8) : Nat → Bool := p.foldl (fun f c => stepM s c f) (fun i => decide (i = 0))
theorem matM_snoc (s p : List UInt8) (c : UInt8) : matM s (p ++ [c]) = stepM s c (matM s p) := by
  unfold matM
  rw [List.foldl_append]
  rfl
theorem matM_append (s p q : List UInt8) : matM s (p ++ q) = q.foldl (fun f c => stepM s c f) (matM s p) := by
  unfold matM
  rw [List.foldl_append]
theorem stepM_none (s : List UInt8) (c : UInt8) (f : Nat → Bool) (n : Nat) (h : ∀ j ≤ n, f j = false) : ∀ j ≤ n, stepM s c f j = false := by
  intro j
  induction j with
  | zero => intro hj; simp [stepM, h 0 hj]
  | succ j ih =>
    intro hj
    have h1 := ih (by omega)
    unfold stepM
    split
    · rw [h (j + 1) hj, h1]; rfl
    · rw [h j (by omega)]; rfl
theorem matM_none (s p q : List UInt8) (n : Nat) (h : ∀ j ≤ n, matM s p j = false) : matM s (p ++ q) n = false := by
  rw [matM_append]
  have key : ∀ (q : List UInt8) (f : Nat → Bool), (∀ j ≤ n, f j = false) → ∀ j ≤ n, q.foldl (fun f c => stepM s c f) f j = false := fun q => by
    induction q with
    | nil => intro f hf; exact hf
    | cons c q ih => intro f hf; exact ih _ (stepM_none s c f n hf)
  exact key q _ h n (Nat.le_refl _)
theorem stepM_more (s : List UInt8) (c : UInt8) (f : Nat → Bool) (h : wildB c = true) (n : Nat) (hf : f n = true) : stepM s c f n = true := by
  cases n with
  | zero => simp [stepM, h, hf]
  | succ n => unfold stepM; rw [if_pos h, hf]; rfl
theorem stepM_run (s : List UInt8) (c : UInt8) (f : Nat → Bool) (h : wildB c = true) (i : Nat) (hf : f i = true) : ∀ m, (∀ j, i ≤ j → j < i + m → okW c (s.getD j 0) = true) → stepM s c f (i + m) = true
  | 0, _ => stepM_more s c f h i hf
  | m + 1, hk => by
    have h1 := stepM_run s c f h i hf m (fun j h1 h2 => hk j h1 (by omega))
    show stepM s c f (i + m + 1) = true
    unfold stepM
    rw [if_pos h, h1, hk (i + m) (by omega) (by omega)]
    simp
theorem matM_self (s : List UInt8) : ∀ k, k ≤ s.length → (∀ c ∈ s.take k, wildB c = false) → matM s (s.take k) k = true
  | 0, _, _ => by simp [matM]
  | k + 1, hk, hw => by
    have hlt : k < s.length := by omega
    have e := List.take_succ_eq_append_getElem hlt
    have h1 := matM_self s k (by omega) (fun c hc => hw c (by rw [e]; exact List.mem_append_left _ hc))
    have h2 : wildB s[k] = false := hw _ (by rw [e]; exact List.mem_append_right _ (List.mem_singleton.2 rfl))
    rw [e, matM_snoc]
    unfold stepM
    rw [h2, h1]
    simp [List.getD_eq_getElem?_getD, List.getElem?_eq_getElem hlt]
theorem matM_star (s : List UInt8) (n : Nat) : matM s [42] n = true := by
  have h : matM s [42] = stepM s 42 (fun i => decide (i = 0)) := rfl
  rw [h]
  have := stepM_run s 42 (fun i => decide (i = 0)) rfl 0 rfl n (fun j _ _ => rfl)
  rwa [Nat.zero_add] at this
theorem matM_stars (s p : List UInt8) (n : Nat) (h : matM s p n = true) : matM s (p ++ [42]) n = true := by
  rw [matM_snoc]
  exact stepM_more s 42 _ rfl n h
theorem matM_pct (s : List UInt8) : ∀ n, n ≤ s.length → matM s [37] n = (s.take n).all fun d => !(d == 47)
  | 0, _ => by simp [matM, stepM, wildB]
  | n + 1, hn => by
    have hlt : n < s.length := by omega
    have ih := matM_pct s n (by omega)
    have h : ∀ i, matM s [37] i = stepM s 37 (fun i => decide (i = 0)) i := fun i => rfl
    rw [h] at ih ⊢
    unfold stepM
    rw [if_pos (show wildB 37 = true from rfl), ih, List.take_succ_eq_append_getElem hlt, List.all_append]
    simp [okW, List.getD_eq_getElem?_getD, List.getElem?_eq_getElem hlt]
/-- A name with something below the part p: p, a slash, and a wild byte that may stand for the rest. -/
theorem matM_below (p r : List UInt8) (c : UInt8) (hc : wildB c = true) (hp : ∀ d ∈ p, wildB d = false) (hr : ∀ d ∈ r, okW c d = true) : matM (p ++ 47 :: r) (p ++ [47, c]) (p ++ 47 :: r).length = true := by
  have e : p ++ [47, c] = (p ++ [47]) ++ [c] := by simp
  have et : (p ++ 47 :: r).take (p.length + 1) = p ++ [47] := by
    rw [List.take_append, List.take_of_length_le (by omega)]
    simp
  have h1 := matM_self (p ++ 47 :: r) (p.length + 1) (by simp) (by
    rw [et]
    intro d hd
    rcases List.mem_append.1 hd with hd | hd
    · exact hp d hd
    · simp at hd; subst hd; rfl)
  rw [et] at h1
  rw [e, matM_snoc]
  have h2 := stepM_run (p ++ 47 :: r) c _ hc (p.length + 1) h1 r.length (fun j h3 h4 => by
    have e2 : (p ++ 47 :: r).getD j 0 = r.getD (j - (p.length + 1)) 0 := by
      rw [List.getD_eq_getElem?_getD, List.getD_eq_getElem?_getD, List.getElem?_append_right (by omega)]
      obtain ⟨m, hm⟩ : ∃ m, j - p.length = m + 1 := ⟨j - p.length - 1, by omega⟩
      rw [hm, List.getElem?_cons_succ]
      congr 2
      omega
    rw [e2, List.getD_eq_getElem?_getD, List.getElem?_eq_getElem (by omega)]
    exact hr _ (List.getElem_mem _))
  have e3 : (p ++ 47 :: r).length = p.length + 1 + r.length := by simp; omega
  rw [e3]
  exact h2
/-- INBOX in any case is INBOX. -/
def inboxN : List UInt8 := [73, 78, 66, 79, 88]
def inboxB (l : List UInt8) : Bool := match l with
  | [a, b, c, d, e] => (a == 73 || a == 105) && (b == 78 || b == 110) && (c == 66 || c == 98) && (d == 79 || d == 111) && (e == 88 || e == 120)
  | _ => false
def inboxF (l : List UInt8) : List UInt8 := if inboxB l then inboxN else l
def matF (p s : List UInt8) : Bool := matM (inboxF s) (inboxF p) (inboxF s).length
theorem inboxB_len (l : List UInt8) (h : inboxB l = true) : l.length = 5 := by
  unfold inboxB at h
  split at h
  · rfl
  · cases h
theorem inboxB_mem (l : List UInt8) (h : inboxB l = true) : ∀ c ∈ l, 65 ≤ c.toNat := by
  unfold inboxB at h
  split at h
  · simp only [Bool.and_eq_true, Bool.or_eq_true, beq_iff_eq] at h
    obtain ⟨⟨⟨⟨h1, h2⟩, h3⟩, h4⟩, h5⟩ := h
    intro x hx
    simp only [List.mem_cons, List.not_mem_nil, or_false] at hx
    rcases hx with rfl | rfl | rfl | rfl | rfl
    · rcases h1 with rfl | rfl <;> decide
    · rcases h2 with rfl | rfl <;> decide
    · rcases h3 with rfl | rfl <;> decide
    · rcases h4 with rfl | rfl <;> decide
    · rcases h5 with rfl | rfl <;> decide
  · cases h
theorem inboxF_other (l : List UInt8) (c : UInt8) (hc : c ∈ l) (h : c.toNat < 65) : inboxF l = l := by
  unfold inboxF
  rw [if_neg]
  intro hb
  have := inboxB_mem l hb c hc
  omega
theorem inboxN_plain : ∀ c ∈ inboxN, wildB c = false := by decide
theorem mat_same (s : List UInt8) (h : ∀ c ∈ s, wildB c = false) : matF s s = true := by
  unfold matF
  have hp : ∀ c ∈ inboxF s, wildB c = false := by
    unfold inboxF
    split
    · exact inboxN_plain
    · exact h
  have := matM_self (inboxF s) (inboxF s).length (Nat.le_refl _) (by rw [List.take_length]; exact hp)
  rwa [List.take_length] at this
theorem mat_star (s : List UInt8) : matF [42] s = true := by
  unfold matF
  rw [inboxF_other [42] 42 (by simp) (by decide)]
  exact matM_star _ _
theorem mat_stars (s : List UInt8) : matF [42, 42, 42] s = true := by
  unfold matF
  rw [inboxF_other [42, 42, 42] 42 (by simp) (by decide)]
  exact matM_stars _ [42, 42] _ (matM_stars _ [42] _ (matM_star _ _))
theorem mat_pct (s : List UInt8) : matF [37] s = s.all fun d => !(d == 47) := by
  unfold matF
  rw [inboxF_other [37] 37 (by simp) (by decide), matM_pct _ _ (Nat.le_refl _), List.take_length]
  unfold inboxF
  split
  · rename_i hb
    have h1 : (inboxN.all fun d => !(d == 47)) = true := by decide
    rw [h1]
    symm
    rw [List.all_eq_true]
    intro c hc
    have := inboxB_mem s hb c hc
    have h2 : c ≠ 47 := by rintro rfl; simp at this
    simpa using h2
  · rfl
/-- What fits without a star fits with one more at its end, INBOX aside. -/
theorem mat_more (p s : List UInt8) (h : matF p s = true) : matF (p ++ [42]) s = true ∨ matF p inboxN = true := by
  cases hb : inboxB p with
  | false =>
    left
    unfold matF at h ⊢
    have e : inboxF p = p := by unfold inboxF; rw [hb]; rfl
    rw [e] at h
    rw [inboxF_other (p ++ [42]) 42 (by simp) (by decide)]
    exact matM_stars _ _ _ h
  | true =>
    right
    unfold matF
    have e : inboxF p = inboxN := by unfold inboxF; rw [hb]; rfl
    rw [e]
    decide
theorem mat_below (p r : List UInt8) (c : UInt8) (hc : wildB c = true) (hp : ∀ d ∈ p, wildB d = false) (hr : ∀ d ∈ r, okW c d = true) : matF (p ++ [47, c]) (p ++ 47 :: r) = true := by
  unfold matF
  rw [inboxF_other (p ++ [47, c]) 47 (by simp) (by decide), inboxF_other (p ++ 47 :: r) 47 (by simp) (by decide)]
  exact matM_below p r c hc hp hr
end Go.Proofs.YtokblnjnbkpchaaDoor
