/- Quoted-printable read back; the length of lines. Plain mathematics. -/
import Derived.Test.YtofgkahldhelaaaDoorCdM
set_option linter.unusedVariables false
namespace Go.Proofs.YtofgkahldhelaaaDoor
open Go.RowKit

theorem hexv_hexd (n : Nat) (h : n < 16) : hexv (hexd n) = some n := by
  have key : ∀ x : Fin 16, hexv (hexd x.val) = some x.val := by decide +kernel
  exact key ⟨n, h⟩
theorem hexd_ne13 (n : Nat) (h : n < 16) : hexd n ≠ 13 := by
  have key : ∀ x : Fin 16, hexd x.val ≠ 13 := by decide +kernel
  exact key ⟨n, h⟩
theorem lineEnd_ne (c : UInt8) (r : List UInt8) (h : c ≠ 13) : lineEnd (c :: r) = false := by
  rw [lineEnd, decide_eq_false_iff_not]
  intro e
  cases r <;> simp at e
  exact h e.1
theorem lineEnd_cons (c : UInt8) (r : List UInt8) (h : lineEnd (c :: r) = true) : c = 13 ∧ ∃ r', r = 10 :: r' := by
  rw [lineEnd, decide_eq_true_eq] at h
  match r, h with
  | [], h => simp at h
  | d :: r', h =>
    simp at h
    exact ⟨h.1, r', by rw [h.2]⟩
/-- What quoted-printable writes begins with a letter that ends no line. -/
theorem quo_head (c : UInt8) (r : List UInt8) (col : Nat) (h : lineEnd (c :: r) = false) :
    (∃ Z, quo col (c :: r) = 61 :: Z) ∨ (printB (c :: r) = true ∧ ∃ col', quo col (c :: r) = c :: quo col' r) := by
  rw [quo_text col c r h]
  split
  · exact .inl ⟨_, rfl⟩
  · by_cases hp : printB (c :: r) = true
    · right
      refine ⟨hp, col + (textQ (c :: r)).length, ?_⟩
      have e : textQ (c :: r) = [c] := by rw [textQ, if_pos hp]
      rw [e]
      rfl
    · left
      rw [textQ, if_neg hp]
      exact ⟨_, rfl⟩
def Good (Z : List UInt8) : Prop := Z.dropWhile blankB ≠ [] ∧ lineEnd (Z.dropWhile blankB) = false
theorem good_ne (c : UInt8) (Z : List UInt8) (hb : blankB c = false) (h : c ≠ 13) : Good (c :: Z) := by
  unfold Good
  rw [List.dropWhile_cons_of_neg (by simp [hb])]
  exact ⟨by simp, lineEnd_ne c Z h⟩
theorem quo_good : ∀ (r : List UInt8) (c : UInt8) (col : Nat), lineEnd (c :: r) = false → Good (quo col (c :: r))
  | r, c, col, h => by
    rcases quo_head c r col h with ⟨Z, e⟩ | ⟨hp, col', e⟩
    · rw [e]
      exact good_ne 61 Z (by decide) (by decide)
    · rw [e]
      by_cases hb : blankB c = true
      · rw [printB, if_pos hb] at hp
        simp at hp
        obtain ⟨h1, h2⟩ := hp
        match r, h1, h2 with
        | d :: r', h1, h2 =>
          have := quo_good r' d col' (by simpa using h2)
          unfold Good
          rw [List.dropWhile_cons_of_pos hb]
          exact this
        | [], h1, h2 => simp at h1
      · refine good_ne c _ (by simpa using hb) ?_
        rintro rfl
        rw [printB, if_neg hb] at hp
        simp at hp
theorem fq_keep (c : UInt8) (Z : List UInt8) (hb : blankB c = true) (h : Good Z) : fq (c :: Z) = c :: fq Z := by
  obtain ⟨h1, h2⟩ := h
  have h3 : ((Z.dropWhile blankB).isEmpty || lineEnd (Z.dropWhile blankB)) = false := by
    rw [h2, Bool.or_false]
    cases hq : Z.dropWhile blankB with
    | nil => exact absurd hq h1
    | cons => rfl
  rw [fq_blank c Z hb, h3]
  cases Z with
  | nil => exact absurd rfl h1
  | cons d Z' =>
    by_cases hd : blankB d = true
    · rw [List.dropWhile_cons_of_pos hd] at h3 ⊢
      rw [List.takeWhile_cons_of_pos hd, fq_blank d Z' hd, h3]
      simp
    · rw [List.dropWhile_cons_of_neg hd, List.takeWhile_cons_of_neg hd]
      simp
theorem eqv_ne (c : UInt8) (Z : List UInt8) (h : c ≠ 61) : eqv (c :: Z) = none := by
  have h61 : (c == 61) = false := by simpa using h
  match Z with
  | [] => rfl
  | [a] => rfl
  | a :: b :: x =>
    show (if c == 61 then _ else none) = none
    rw [h61]
    rfl
theorem fq_soft2 (W : List UInt8) : fq (61 :: 13 :: 10 :: W) = fq W := fq_soft 61 (13 :: 10 :: W) (by decide) rfl
theorem fq_text (c : UInt8) (r : List UInt8) (col : Nat) (h : lineEnd (c :: r) = false) : fq (textQ (c :: r) ++ quo col r) = c :: fq (quo col r) := by
  by_cases hp : printB (c :: r) = true
  · rw [textQ, if_pos hp]
    show fq (c :: quo col r) = _
    by_cases hb : blankB c = true
    · refine fq_keep c _ hb ?_
      rw [printB, if_pos hb] at hp
      simp at hp
      obtain ⟨h1, h2⟩ := hp
      match r, h1, h2 with
      | d :: r', h1, h2 => exact quo_good r' d col (by simpa using h2)
      | [], h1, h2 => simp at h1
    · rw [printB, if_neg hb] at hp
      simp at hp
      have h61 : (c == 61) = false := by simpa using hp.2
      refine fq_else c _ (by simpa using hb) (by simp [h61]) ?_
      exact eqv_ne c _ (by rintro rfl; simp at h61)
  · have h8 : c.toNat < 256 := c.toNat_lt
    rw [textQ, if_neg hp]
    show fq (61 :: hexd (c.toNat / 16) :: hexd (c.toNat % 16) :: quo col r) = _
    have hv : eqv (61 :: hexd (c.toNat / 16) :: hexd (c.toNat % 16) :: quo col r) = some c.toNat := by
      have e1 := hexv_hexd (c.toNat / 16) (by omega)
      have e2 := hexv_hexd (c.toNat % 16) (by omega)
      show (if (61 : UInt8) == 61 then (match hexv (hexd (c.toNat / 16)), hexv (hexd (c.toNat % 16)) with | some x, some y => some (x * 16 + y) | _, _ => none) else none) = _
      rw [e1, e2]
      show some (c.toNat / 16 * 16 + c.toNat % 16) = some c.toNat
      congr 1
      omega
    rw [fq_eq 61 _ c.toNat (by decide) (by rw [lineEnd_ne _ _ (hexd_ne13 _ (by omega))]; rfl) hv]
    show UInt8.ofNat c.toNat :: fq (quo col r) = _
    rw [UInt8.ofNat_toNat]
theorem fq_quo : ∀ (n : Nat) (l : List UInt8) (col : Nat), l.length ≤ n → fq (quo col l) = l
  | _, [], col, _ => by rw [quo_nil, fq_nil]
  | 0, c :: r, _, h => by simp at h
  | n + 1, c :: r, col, h => by
    have hr : r.length ≤ n := by simpa using h
    by_cases hl : lineEnd (c :: r) = true
    · obtain ⟨rfl, r', rfl⟩ := lineEnd_cons c r hl
      rw [quo_crlf col 13 _ hl]
      show fq (13 :: 10 :: quo 0 r') = _
      rw [fq_else 13 _ (by decide) (by rfl) (eqv_ne _ _ (by decide)), fq_else 10 _ (by decide) (by rfl) (eqv_ne _ _ (by decide)), fq_quo n r' 0 (by simp at hr; omega)]
    · have hl' : lineEnd (c :: r) = false := by simpa using hl
      rw [quo_text col c r hl']
      split
      · show fq (61 :: 13 :: 10 :: (textQ (c :: r) ++ quo _ r)) = _
        rw [fq_soft2, fq_text c r _ hl', fq_quo n r _ hr]
      · rw [fq_text c r _ hl', fq_quo n r _ hr]

/-- Lines parted by CRLF are 76 letters at most; n of the line stand already. -/
def sh : Nat → List UInt8 → Bool
  | n, [] => decide (n ≤ 76)
  | n, [c] => decide (n + 1 ≤ 76)
  | n, c :: d :: r => if c = 13 ∧ d = 10 then decide (n ≤ 76) && sh 0 r else sh (n + 1) (d :: r)
theorem sh_crlf (n : Nat) (r : List UInt8) (h : n ≤ 76) : sh n (13 :: 10 :: r) = sh 0 r := by
  rw [sh, if_pos ⟨rfl, rfl⟩, decide_eq_true h, Bool.true_and]
theorem sh_one (n : Nat) (c : UInt8) (r : List UInt8) (h : c ≠ 13) : sh n (c :: r) = sh (n + 1) r := by
  cases r with
  | nil => rfl
  | cons d r => rw [sh, if_neg (fun e => h e.1)]
theorem sh_text : ∀ (t : List UInt8) (n : Nat) (r : List UInt8), (∀ c ∈ t, c ≠ 13) → sh n (t ++ r) = sh (n + t.length) r
  | [], n, r, _ => rfl
  | c :: t, n, r, h => by
    rw [List.cons_append, sh_one n c _ (h c (by simp)), sh_text t (n + 1) r (fun d hd => h d (by simp [hd])), List.length_cons]
    congr 1
    omega
theorem lett_ne13 {v : Nat} (h : v < 64) : lett v ≠ 13 := by
  have key : ∀ x : Fin 64, lett x.val ≠ 13 := by decide +kernel
  exact key ⟨v, h⟩
theorem grp_ne13 (l : List UInt8) (h3 : l.length ≤ 3) : ∀ c ∈ grp l, c ≠ 13 := by
  intro c hc
  match l, h3, hc with
  | [], _, hc => simp [grp] at hc
  | [a], _, hc =>
    have := a.toNat_lt
    simp only [grp, List.mem_cons, List.not_mem_nil, or_false] at hc
    rcases hc with rfl | rfl | rfl | rfl
    · exact lett_ne13 (by omega)
    · exact lett_ne13 (by omega)
    · decide
    · decide
  | [a, b], _, hc =>
    have := a.toNat_lt
    have := b.toNat_lt
    simp only [grp, List.mem_cons, List.not_mem_nil, or_false] at hc
    rcases hc with rfl | rfl | rfl | rfl
    · exact lett_ne13 (by omega)
    · exact lett_ne13 (by omega)
    · exact lett_ne13 (by omega)
    · decide
  | [a, b, d], _, hc =>
    have := a.toNat_lt
    have := b.toNat_lt
    have := d.toNat_lt
    simp only [grp, List.mem_cons, List.not_mem_nil, or_false] at hc
    rcases hc with rfl | rfl | rfl | rfl
    · exact lett_ne13 (by omega)
    · exact lett_ne13 (by omega)
    · exact lett_ne13 (by omega)
    · exact lett_ne13 (by omega)
  | _ :: _ :: _ :: _ :: _, h3, _ => simp at h3
theorem sh_b64 : ∀ (n : Nat) (l : List UInt8) (col : Nat), l.length ≤ n → col ≤ 72 → col % 4 = 0 → sh col (b64 col l) = true
  | _, [], col, _, h, _ => by
    rw [show b64 col [] = [] by unfold b64; rfl]
    exact decide_eq_true (by omega)
  | 0, c :: r, _, h, _, _ => by simp at h
  | n + 1, c :: r, col, h, hc, h4 => by
    have hd : ((c :: r).drop 3).length ≤ n := by rw [List.length_drop]; simp at h ⊢; omega
    have hg := grp_len ((c :: r).take 3) (by simp)
    rw [b64_step col (c :: r) (by simp), sh_text _ _ _ (grp_ne13 _ (by rw [List.length_take]; omega)), hg]
    split
    · show sh (col + 4) (13 :: 10 :: b64 0 ((c :: r).drop 3)) = true
      rw [sh_crlf _ _ (by omega)]
      exact sh_b64 n _ 0 hd (by omega) rfl
    · rename_i hne
      exact sh_b64 n _ (col + 4) hd (by omega) (by omega)
theorem textQ_ne13 (c : UInt8) (r : List UInt8) : ∀ d ∈ textQ (c :: r), d ≠ 13 := by
  intro d hd
  have := c.toNat_lt
  by_cases hp : printB (c :: r) = true
  · rw [textQ, if_pos hp] at hd
    simp at hd
    subst hd
    rintro rfl
    rw [printB, if_neg (by decide)] at hp
    simp at hp
  · rw [textQ, if_neg hp] at hd
    simp at hd
    rcases hd with rfl | rfl | rfl
    · decide
    · exact hexd_ne13 _ (by omega)
    · exact hexd_ne13 _ (by omega)
theorem textQ_le (c : UInt8) (r : List UInt8) : (textQ (c :: r)).length ≤ 3 := by
  rw [textQ]
  split <;> simp
theorem sh_quo : ∀ (n : Nat) (l : List UInt8) (col : Nat), l.length ≤ n → col ≤ 75 → sh col (quo col l) = true
  | _, [], col, _, h => by
    rw [quo_nil]
    exact decide_eq_true (by omega)
  | 0, c :: r, _, h, _ => by simp at h
  | n + 1, c :: r, col, h, hc => by
    have hr : r.length ≤ n := by simpa using h
    have ht := textQ_le c r
    by_cases hl : lineEnd (c :: r) = true
    · obtain ⟨rfl, r', rfl⟩ := lineEnd_cons c r hl
      rw [quo_crlf col 13 _ hl]
      show sh col (13 :: 10 :: quo 0 r') = true
      rw [sh_crlf _ _ (by omega)]
      exact sh_quo n r' 0 (by simp at hr; omega) (by omega)
    · have hl' : lineEnd (c :: r) = false := by simpa using hl
      rw [quo_text col c r hl']
      split
      · show sh col (61 :: 13 :: 10 :: (textQ (c :: r) ++ quo _ r)) = true
        rw [sh_one _ _ _ (by decide), sh_crlf _ _ (by omega), sh_text _ _ _ (textQ_ne13 c r), Nat.zero_add]
        exact sh_quo n r _ hr (by omega)
      · rw [sh_text _ _ _ (textQ_ne13 c r)]
        exact sh_quo n r _ hr (by omega)
def scan : List UInt8 → List UInt8 → List (List UInt8)
  | cur, [] => if cur = [] then [] else [cur]
  | cur, [c] => [cur ++ [c]]
  | cur, c :: d :: r => if c = 13 ∧ d = 10 then (cur ++ [13, 10]) :: scan [] r else scan (cur ++ [c]) (d :: r)
/-- A line short enough. -/
def okL (x : List UInt8) : Prop := x.length ≤ 76 ∨ ∃ y, x = y ++ [13, 10] ∧ y.length ≤ 76
theorem sh_scan : ∀ (r cur : List UInt8), sh cur.length r = true → ∀ x ∈ scan cur r, okL x
  | [], cur, h, x, hx => by
    rw [sh, decide_eq_true_eq] at h
    rw [scan] at hx
    split at hx
    · simp at hx
    · simp at hx
      subst hx
      exact .inl h
  | [c], cur, h, x, hx => by
    rw [sh, decide_eq_true_eq] at h
    rw [scan] at hx
    simp at hx
    subst hx
    exact .inl (by simpa using h)
  | c :: d :: r, cur, h, x, hx => by
    rw [sh] at h
    rw [scan] at hx
    split at h
    · rename_i he
      rw [if_pos he] at hx
      simp at h
      simp only [List.mem_cons] at hx
      rcases hx with rfl | hx
      · exact .inr ⟨cur, rfl, h.1⟩
      · exact sh_scan r [] h.2 x hx
    · rename_i he
      rw [if_neg he] at hx
      exact sh_scan (d :: r) (cur ++ [c]) (by simpa using h) x hx
end Go.Proofs.YtofgkahldhelaaaDoor
