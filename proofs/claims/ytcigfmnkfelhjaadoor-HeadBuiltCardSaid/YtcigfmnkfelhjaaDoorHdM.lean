/- A message of one field, on one line or folded: its fields. Plain mathematics. -/
import Derived.Test.YtcigfmnkfelhjaaDoorHdD
import Derived.Lib.CountLaws
set_option linter.unusedVariables false
namespace Go.Proofs.YtcigfmnkfelhjaaDoor
open Go.RowKit

def NoCr (l : List UInt8) : Prop := ∀ c ∈ l, c ≠ 13
theorem NoCr.append {a b : List UInt8} (ha : NoCr a) (hb : NoCr b) : NoCr (a ++ b) := fun c hc => by
  rcases List.mem_append.1 hc with h | h
  · exact ha c h
  · exact hb c h
/-- No instance begins at a byte that is not the first of what is sought. -/
theorem idx_skip (s p : List UInt8) (c : UInt8) (h : c ≠ 13) : Lib.index (c :: s) (13 :: p) = if Lib.index s (13 :: p) == -1 then -1 else Lib.index s (13 :: p) + 1 := by
  rw [Lib.index, if_neg (by simp [List.isPrefixOf]; intro e; exact absurd e.symm h)]
theorem idx_nocr (p s : List UInt8) (k : Nat) (hk : Lib.index s (13 :: p) = (k : Int)) : ∀ x : List UInt8, NoCr x → Lib.index (x ++ s) (13 :: p) = ((x.length + k : Nat) : Int)
  | [], _ => by rw [List.nil_append, hk]; simp
  | c :: x, h => by
    have ih := idx_nocr p s k hk x (fun d hd => h d (by simp [hd]))
    rw [List.cons_append, idx_skip _ _ c (h c (by simp)), ih, if_neg (by first | (simp; done) | (simp; omega))]
    simp only [List.length_cons]
    omega
theorem idx_none (p : List UInt8) : ∀ x : List UInt8, NoCr x → Lib.index x (13 :: p) = -1
  | [], _ => by simp [Lib.index]
  | c :: x, h => by
    rw [idx_skip _ _ c (h c (by simp)), idx_none p x (fun d hd => h d (by simp [hd]))]
    rfl
theorem idx_here (p s : List UInt8) : Lib.index (13 :: p ++ s) (13 :: p) = ((0 : Nat) : Int) := by
  rw [List.cons_append, Lib.index, if_pos (by simp [List.isPrefixOf])]
  rfl
theorem idx_crlf (x s : List UInt8) (h : NoCr x) : Lib.index (x ++ 13 :: 10 :: s) [13, 10] = (x.length : Int) := by
  have h1 : Lib.index (13 :: 10 :: s) [13, 10] = ((0 : Nat) : Int) := idx_here [10] s
  have h2 := idx_nocr [10] _ 0 h1 x h
  rw [h2]
  simp
theorem idx_four (x s : List UInt8) (h : NoCr x) : Lib.index (x ++ 13 :: 10 :: 13 :: 10 :: s) [13, 10, 13, 10] = (x.length : Int) := by
  have h1 : Lib.index (13 :: 10 :: 13 :: 10 :: s) [13, 10, 13, 10] = ((0 : Nat) : Int) := idx_here [10, 13, 10] s
  have h2 := idx_nocr [10, 13, 10] _ 0 h1 x h
  rw [h2]
  simp
/-- A line that ends, and one that goes on behind a blank. -/
theorem idx_fold (x y s : List UInt8) (hx : NoCr x) (hy : NoCr y) : Lib.index (x ++ 13 :: 10 :: 32 :: (y ++ 13 :: 10 :: 13 :: 10 :: s)) [13, 10, 13, 10] = ((x.length + 3 + y.length : Nat) : Int) := by
  have h4 := idx_four y s hy
  have h3 : Lib.index (32 :: (y ++ 13 :: 10 :: 13 :: 10 :: s)) [13, 10, 13, 10] = ((y.length + 1 : Nat) : Int) := by
    rw [idx_skip _ _ 32 (by decide), h4, if_neg (by first | (simp; done) | (simp; omega))]
    omega
  have h2 : Lib.index (10 :: 32 :: (y ++ 13 :: 10 :: 13 :: 10 :: s)) [13, 10, 13, 10] = ((y.length + 2 : Nat) : Int) := by
    rw [idx_skip _ _ 10 (by decide), h3, if_neg (by first | (simp; done) | (simp; omega))]
    omega
  have h1 : Lib.index (13 :: 10 :: 32 :: (y ++ 13 :: 10 :: 13 :: 10 :: s)) [13, 10, 13, 10] = ((y.length + 3 : Nat) : Int) := by
    rw [Lib.index, if_neg (by simp [List.isPrefixOf]), h2, if_neg (by first | (simp; done) | (simp; omega))]
    omega
  rw [idx_nocr [10, 13, 10] _ _ h1 x hx]
  omega
theorem cutLen_crlf (x s : List UInt8) (h : NoCr x) : cutLen (x ++ 13 :: 10 :: s) = x.length + 2 := by
  unfold cutLen
  rw [idx_crlf x s h, if_pos (by omega)]
  omega
theorem lines_crlf (x s : List UInt8) (h : NoCr x) : linesL (x ++ 13 :: 10 :: s) = (x ++ [13, 10]) :: linesL s := by
  rw [linesL_cons _ (by simp), cutLen_crlf x s h]
  have e : x ++ 13 :: 10 :: s = (x ++ [13, 10]) ++ s := by simp
  rw [e, List.take_left' (by simp), List.drop_left' (by simp)]
theorem repl_none (x : List UInt8) (h : NoCr x) (k : Nat) : Lib.replaceK [13, 10] [] k x = x := by
  cases k with
  | zero => rfl
  | succ k => rw [Lib.replaceK, if_pos (by rw [idx_none [10] x h]; rfl)]
theorem repl_hit (x s : List UInt8) (h : NoCr x) (k : Nat) : Lib.replaceK [13, 10] [] (k + 1) (x ++ 13 :: 10 :: s) = x ++ Lib.replaceK [13, 10] [] k s := by
  rw [Lib.replaceK_hit [13, 10] [] k _ x.length (idx_crlf x s h), List.take_left, List.append_nil]
  congr 2
  have e : x ++ 13 :: 10 :: s = (x ++ [13, 10]) ++ s := by simp
  rw [e, List.drop_left' (by simp)]
theorem count_nocr (x : List UInt8) (h : NoCr x) : Lib.count x [13, 10] = 0 := Lib.count_miss (idx_none [10] x h)
theorem count_crlf (x s : List UInt8) (h : NoCr x) : Lib.count (x ++ 13 :: 10 :: s) [13, 10] = 1 + Lib.count s [13, 10] := by
  rw [Lib.count_hit (by simp) (idx_crlf x s h)]
  have e : x ++ 13 :: 10 :: s = (x ++ [13, 10]) ++ s := by simp
  rw [e, List.drop_left' (by simp)]
theorem repl_all (s : List UInt8) : Lib.replaceAll s [13, 10] [] = Lib.replaceK [13, 10] [] (Lib.count s [13, 10]) s := by
  unfold Lib.replaceAll Lib.replace
  rw [if_neg (by decide)]
  unfold Lib.replaceNum
  rw [if_pos (.inl (by decide))]
theorem repl_one (x : List UInt8) (h : NoCr x) : Lib.replaceAll (x ++ [13, 10]) [13, 10] [] = x := by
  rw [repl_all]
  have hc := count_crlf x [] h
  have h0 : Lib.count ([] : List UInt8) [13, 10] = 0 := count_nocr [] (fun c hc => absurd hc (by simp))
  rw [h0] at hc
  rw [hc]
  have := repl_hit x [] h 0
  rw [this]
  simp [Lib.replaceK]
theorem repl_two (x y : List UInt8) (hx : NoCr x) (hy : NoCr y) : Lib.replaceAll (x ++ 13 :: 10 :: (y ++ [13, 10])) [13, 10] [] = x ++ y := by
  rw [repl_all, count_crlf x _ hx]
  have hc := count_crlf y [] hy
  have h0 : Lib.count ([] : List UInt8) [13, 10] = 0 := count_nocr [] (fun c hc => absurd hc (by simp))
  rw [h0] at hc
  rw [hc]
  rw [show 1 + (1 + 0) = 1 + 1 from rfl, repl_hit x _ hx 1, repl_hit y [] hy 0]
  simp [Lib.replaceK]
theorem nl_name (r : List UInt8) : ∀ (N : List UInt8) (i : Nat), (∀ c ∈ N, 33 ≤ c.toNat ∧ c.toNat ≤ 126 ∧ c.toNat ≠ 58) → nlGo i (N ++ 58 :: r) = i + N.length
  | [], i, _ => by
    rw [List.nil_append, nlGo, if_pos (by decide)]
    rfl
  | c :: N, i, h => by
    have hc := h c (by simp)
    rw [List.cons_append, nlGo, if_neg hc.2.2, if_neg (by omega), nl_name r N (i + 1) (fun d hd => h d (by simp [hd])), List.length_cons]
    omega
theorem pre_no (c : UInt8) (r : List UInt8) (h : c ≠ 13) : Lib.hasPrefix (c :: r) [13, 10] = false := by
  unfold Lib.hasPrefix
  simp [List.isPrefixOf]
  intro e
  exact absurd e.symm h
/-- The value of the one field. -/
def oneV (a b : List UInt8) : ByteArray := ⟨(Lib.trimS (32 :: (a ++ 32 :: b)) [32, 9]).toArray⟩
def msg1 (N a b : List UInt8) : List UInt8 := N ++ 58 :: 32 :: (a ++ 32 :: (b ++ [13, 10, 13, 10]))
def msg2 (N a b : List UInt8) : List UInt8 := N ++ 58 :: 32 :: (a ++ 13 :: 10 :: 32 :: (b ++ [13, 10, 13, 10]))
def NameOk (N : List UInt8) : Prop := N ≠ [] ∧ ∀ c ∈ N, 33 ≤ c.toNat ∧ c.toNat ≤ 126 ∧ c.toNat ≠ 58
def TextOk (a : List UInt8) : Prop := ∀ c ∈ a, 32 ≤ c.toNat ∧ c.toNat ≤ 126
theorem NameOk.nocr {N : List UInt8} (h : NameOk N) : NoCr N := fun c hc e => by
  have := (h.2 c hc).1
  rw [e] at this
  exact absurd this (by decide)
theorem TextOk.nocr {a : List UInt8} (h : TextOk a) : NoCr a := fun c hc e => by
  have := (h c hc).1
  rw [e] at this
  exact absurd this (by decide)
theorem nocr_cons {c : UInt8} {l : List UInt8} (h : c ≠ 13) (hl : NoCr l) : NoCr (c :: l) := fun d hd => by
  rcases List.mem_cons.1 hd with rfl | hd
  · exact h
  · exact hl d hd
theorem name_blank {N r : List UInt8} (h : NameOk N) : blankL (N ++ r) = false := by
  match N, h with
  | [], h => exact absurd rfl h.1
  | c :: N, h =>
    have hc := h.2 c (by simp)
    have h1 : ¬ c = 32 := fun e => by rw [e] at hc; exact absurd hc.1 (by decide)
    have h2 : ¬ c = 9 := fun e => by rw [e] at hc; exact absurd hc.1 (by decide)
    simp [blankL, h1, h2]
theorem name_len {N r : List UInt8} (h : NameOk N) : nl (N ++ 58 :: r) = N.length := by
  unfold nl
  rw [nl_name r N 0 h.2, Nat.zero_add]
theorem lines_end0 : linesL [13, 10] = [[13, 10]] := by
  have := lines_crlf [] [] (fun c hc => absurd hc (by simp))
  rw [List.nil_append, linesL_nil] at this
  exact this
theorem crlf_blank : blankL [13, 10] = false := by decide
theorem crlf_nl : nl [13, 10] = 0 := by decide
theorem fields_1 (N a b : List UInt8) (hN : NameOk N) (ha : TextOk a) (hb : TextOk b) : ∃ t, fieldsF valF (msg1 N a b) (endF (msg1 N a b)) = [⟨⟨N.toArray⟩, oneV a b, 0, t⟩] := by
  obtain ⟨X, hX⟩ : ∃ X, X = N ++ 58 :: 32 :: (a ++ 32 :: b) := ⟨_, rfl⟩
  have hXc : NoCr X := by
    rw [hX]
    exact hN.nocr.append (nocr_cons (by decide) (nocr_cons (by decide) (ha.nocr.append (nocr_cons (by decide) hb.nocr))))
  have hM : msg1 N a b = X ++ 13 :: 10 :: 13 :: 10 :: [] := by rw [hX]; simp [msg1]
  have hNp : 0 < N.length := List.length_pos_iff.2 hN.1
  have hXl : X.length = N.length + (a.length + b.length + 3) := by rw [hX]; simp; omega
  have hpre : Lib.hasPrefix (msg1 N a b) [13, 10] = false := by
    unfold msg1
    match N, hN with
    | [], h => exact absurd rfl h.1
    | c :: N, h =>
      rw [List.cons_append]
      exact pre_no c _ (h.nocr c (by simp))
  have hE : endF (msg1 N a b) = X.length + 4 := by
    unfold endF
    rw [if_neg (by rw [hpre]; decide), hM, idx_four X [] hXc, if_pos (by omega)]
    omega
  have hMl : (msg1 N a b).length = X.length + 4 := by rw [hM]; simp
  have hL : linesL ((msg1 N a b).take (endF (msg1 N a b))) = [X ++ [13, 10], [13, 10]] := by
    rw [hE, List.take_of_length_le (by omega), hM, lines_crlf X _ hXc, lines_end0]
  have hbl : blankL (X ++ [13, 10]) = false := by rw [hX, List.append_assoc]; exact name_blank hN
  have hnl : nl (X ++ [13, 10]) = N.length := by
    rw [hX, List.append_assoc, List.cons_append]
    exact name_len hN
  have htk : (X ++ [13, 10]).take N.length = N := by rw [hX, List.append_assoc, List.take_left]
  refine ⟨X.length + 2, ?_⟩
  unfold fieldsF
  rw [hL]
  have hgo : fdGo [X ++ [13, 10], [13, 10]] 0 false [] = [⟨⟨N.toArray⟩, ⟨#[]⟩, 0, X.length + 2⟩] := by
    rw [fdGo, hbl, if_neg (by decide), if_neg (by rw [hnl]; omega), if_neg (by decide), hnl, htk]
    rw [fdGo, crlf_blank, if_neg (by decide), if_pos crlf_nl]
    simp [fdGo]
  rw [hgo, List.map_cons, List.map_nil]
  have hraw : rawOf (msg1 N a b) ⟨⟨N.toArray⟩, ⟨#[]⟩, 0, X.length + 2⟩ = ⟨((32 :: (a ++ 32 :: b)) ++ [13, 10]).toArray⟩ := by
    unfold rawOf
    have hs : (⟨N.toArray⟩ : ByteArray).size = N.length := by show N.toArray.size = N.length; simp
    simp only [hs]
    have e1 : (msg1 N a b).take (X.length + 2) = X ++ [13, 10] := by
      rw [hM, show X ++ 13 :: 10 :: 13 :: 10 :: [] = (X ++ [13, 10]) ++ [13, 10] by simp]
      exact List.take_left' (by simp)
    rw [e1, hX]
    have e2 : N ++ 58 :: 32 :: (a ++ 32 :: b) ++ [13, 10] = (N ++ [58]) ++ ((32 :: (a ++ 32 :: b)) ++ [13, 10]) := by simp
    rw [e2, List.drop_left' (by simp)]
  have hv : valF (rawOf (msg1 N a b) ⟨⟨N.toArray⟩, ⟨#[]⟩, 0, X.length + 2⟩) = oneV a b := by
    rw [hraw]
    unfold valF valL oneV
    rw [repl_one _ (nocr_cons (by decide) (ha.nocr.append (nocr_cons (by decide) hb.nocr)))]
  rw [hv]
theorem fields_2 (N a b : List UInt8) (hN : NameOk N) (ha : TextOk a) (hb : TextOk b) : ∃ t, fieldsF valF (msg2 N a b) (endF (msg2 N a b)) = [⟨⟨N.toArray⟩, oneV a b, 0, t⟩] := by
  obtain ⟨X, hX⟩ : ∃ X, X = N ++ 58 :: 32 :: a := ⟨_, rfl⟩
  have hXc : NoCr X := by
    rw [hX]
    exact hN.nocr.append (nocr_cons (by decide) (nocr_cons (by decide) ha.nocr))
  have hM : msg2 N a b = X ++ 13 :: 10 :: 32 :: (b ++ 13 :: 10 :: 13 :: 10 :: []) := by rw [hX]; simp [msg2]
  have hNp : 0 < N.length := List.length_pos_iff.2 hN.1
  have hpre : Lib.hasPrefix (msg2 N a b) [13, 10] = false := by
    unfold msg2
    match N, hN with
    | [], h => exact absurd rfl h.1
    | c :: N, h =>
      rw [List.cons_append]
      exact pre_no c _ (h.nocr c (by simp))
  have hE : endF (msg2 N a b) = X.length + 3 + b.length + 4 := by
    unfold endF
    rw [if_neg (by rw [hpre]; decide), hM, idx_fold X b [] hXc hb.nocr, if_pos (by omega)]
    omega
  have hMl : (msg2 N a b).length = X.length + 3 + b.length + 4 := by rw [hM]; simp; omega
  have hbc : NoCr (32 :: b) := nocr_cons (by decide) hb.nocr
  have hL : linesL ((msg2 N a b).take (endF (msg2 N a b))) = [X ++ [13, 10], (32 :: b) ++ [13, 10], [13, 10]] := by
    rw [hE, List.take_of_length_le (by omega), hM, lines_crlf X _ hXc]
    have e : 32 :: (b ++ 13 :: 10 :: 13 :: 10 :: []) = (32 :: b) ++ 13 :: 10 :: [13, 10] := rfl
    rw [e, lines_crlf (32 :: b) _ hbc, lines_end0]
  have hbl : blankL (X ++ [13, 10]) = false := by rw [hX, List.append_assoc]; exact name_blank hN
  have hnl : nl (X ++ [13, 10]) = N.length := by
    rw [hX, List.append_assoc, List.cons_append]
    exact name_len hN
  have htk : (X ++ [13, 10]).take N.length = N := by rw [hX, List.append_assoc, List.take_left]
  have hb2 : blankL ((32 :: b) ++ [13, 10]) = true := by simp [blankL]
  refine ⟨X.length + 2 + (b.length + 3), ?_⟩
  unfold fieldsF
  rw [hL]
  have hgo : fdGo [X ++ [13, 10], (32 :: b) ++ [13, 10], [13, 10]] 0 false [] = [⟨⟨N.toArray⟩, ⟨#[]⟩, 0, X.length + 2 + (b.length + 3)⟩] := by
    rw [fdGo, hbl, if_neg (by decide), if_neg (by rw [hnl]; omega), if_neg (by decide), hnl, htk]
    rw [fdGo, hb2, if_pos rfl, if_pos rfl]
    rw [fdGo, crlf_blank, if_neg (by decide), if_pos crlf_nl]
    simp [fdGo, setTo]
  rw [hgo, List.map_cons, List.map_nil]
  have hraw : rawOf (msg2 N a b) ⟨⟨N.toArray⟩, ⟨#[]⟩, 0, X.length + 2 + (b.length + 3)⟩ = ⟨((32 :: a) ++ 13 :: 10 :: ((32 :: b) ++ [13, 10])).toArray⟩ := by
    unfold rawOf
    have hs : (⟨N.toArray⟩ : ByteArray).size = N.length := by show N.toArray.size = N.length; simp
    simp only [hs]
    have e1 : (msg2 N a b).take (X.length + 2 + (b.length + 3)) = X ++ 13 :: 10 :: ((32 :: b) ++ [13, 10]) := by
      rw [hM, show X ++ 13 :: 10 :: 32 :: (b ++ 13 :: 10 :: 13 :: 10 :: []) = (X ++ 13 :: 10 :: ((32 :: b) ++ [13, 10])) ++ [13, 10] by simp]
      exact List.take_left' (by simp; omega)
    rw [e1, hX]
    have e2 : N ++ 58 :: 32 :: a ++ 13 :: 10 :: ((32 :: b) ++ [13, 10]) = (N ++ [58]) ++ ((32 :: a) ++ 13 :: 10 :: ((32 :: b) ++ [13, 10])) := by simp
    rw [e2, List.drop_left' (by simp)]
  have hv : valF (rawOf (msg2 N a b) ⟨⟨N.toArray⟩, ⟨#[]⟩, 0, X.length + 2 + (b.length + 3)⟩) = oneV a b := by
    rw [hraw]
    unfold valF valL oneV
    rw [repl_two _ _ (nocr_cons (by decide) ha.nocr) hbc]
    rfl
  rw [hv]
end Go.Proofs.YtcigfmnkfelhjaaDoor
