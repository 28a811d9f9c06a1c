/- Base64 and quoted-printable: plain mathematics, of no program. -/
import Derived.Test.YtofgkahldhelaaaDoorPl
set_option linter.unusedVariables false
namespace Go.Proofs.YtofgkahldhelaaaDoor
/-- A letter of base64. -/
def lettN (v : Nat) : Nat := if v < 26 then 65 + v else if v < 52 then 71 + v else if v < 62 then v - 4 else if v = 62 then 43 else 47
def lett (v : Nat) : UInt8 := UInt8.ofNat (lettN v)
def unlettN (n : Nat) : Option Nat := if 65 ≤ n ∧ n ≤ 90 then some (n - 65) else if 97 ≤ n ∧ n ≤ 122 then some (n - 71) else if 48 ≤ n ∧ n ≤ 57 then some (n + 4) else if n = 43 then some 62 else if n = 47 then some 63 else none
def unlett (c : UInt8) : Option Nat := unlettN c.toNat
/-- One to three bytes in four letters. -/
def grp : List UInt8 → List UInt8
  | [a] => [lett (a.toNat / 4), lett (a.toNat % 4 * 16), 61, 61]
  | [a, b] => [lett (a.toNat / 4), lett (a.toNat % 4 * 16 + b.toNat / 16), lett (b.toNat % 16 * 4), 61]
  | a :: b :: c :: _ => [lett (a.toNat / 4), lett (a.toNat % 4 * 16 + b.toNat / 16), lett (b.toNat % 16 * 4 + c.toNat / 64), lett (c.toNat % 64)]
  | [] => []
/-- What trimming '=' at the end leaves. -/
def trimEq (l : List UInt8) : List UInt8 := (l.reverse.dropWhile (· == 61)).reverse
/-- The bits of letters: each six, from the highest of 24 on. -/
def bits24 : Nat → List UInt8 → Option Nat
  | _, [] => some 0
  | i, c :: r => match unlett c, bits24 (i + 1) r with
    | some v, some n => some (v * 2 ^ (18 - 6 * i) + n)
    | _, _ => none
/-- Four letters read. -/
def ung (l : List UInt8) : Option (List UInt8) :=
  let t := trimEq l
  if t.length < 2 then none else
  match bits24 0 t with
  | none => none
  | some n => if n * 2 ^ (8 + 8 * (t.length - 1)) % 2 ^ 32 = 0 then some ([UInt8.ofNat (n / 65536), UInt8.ofNat (n / 256), UInt8.ofNat n].take (t.length - 1)) else none
theorem lettN_lt {v : Nat} (h : v < 64) : lettN v < 128 := by unfold lettN; split <;> (try split) <;> (try split) <;> (try split) <;> omega
theorem lett_toNat {v : Nat} (h : v < 64) : (lett v).toNat = lettN v := by
  have := lettN_lt h
  simp [lett, Nat.mod_eq_of_lt (Nat.lt_trans this (by decide : 128 < 256))]
theorem unlett_lett {v : Nat} (h : v < 64) : unlett (lett v) = some v := by
  rw [unlett, lett_toNat h]
  have key : ∀ v, v < 64 → unlettN (lettN v) = some v := by decide
  exact key v h
theorem lett_ne {v : Nat} (h : v < 64) : (lett v == 61) = false := by
  have key : ∀ v, v < 64 → lettN v ≠ 61 := by decide
  rw [beq_eq_false_iff_ne]
  intro e
  have : (lett v).toNat = (61 : UInt8).toNat := by rw [e]
  rw [lett_toNat h] at this
  exact key v h this
theorem trimEq_keep (l : List UInt8) (c : UInt8) (h : (c == 61) = false) : trimEq (l ++ [c]) = l ++ [c] := by
  simp [trimEq, h]
theorem trimEq_eq (l : List UInt8) : trimEq (l ++ [61]) = trimEq l := by
  simp [trimEq]
theorem ofNat_eq (a : UInt8) (n : Nat) (h : n % 256 = a.toNat) : UInt8.ofNat n = a := by
  apply UInt8.toNat_inj.1
  simpa using h
theorem ung_grp (l : List UInt8) (h0 : l ≠ []) (h3 : l.length ≤ 3) : ung (grp l) = some l := by
  match l, h0, h3 with
  | [a], _, _ =>
    have ha := a.toNat_lt
    have e : trimEq (grp [a]) = [lett (a.toNat / 4), lett (a.toNat % 4 * 16)] := by
      show trimEq (([lett (a.toNat / 4), lett (a.toNat % 4 * 16)] ++ [61]) ++ [61]) = _
      rw [trimEq_eq, trimEq_eq]
      exact trimEq_keep [lett (a.toNat / 4)] _ (lett_ne (by omega))
    have u1 : unlett (lett (a.toNat / 4)) = some (a.toNat / 4) := unlett_lett (by omega)
    have u2 : unlett (lett (a.toNat % 4 * 16)) = some (a.toNat % 4 * 16) := unlett_lett (by omega)
    simp only [ung, e, bits24, u1, u2, List.length_cons, List.length_nil]
    rw [if_neg (by omega), if_pos (by simp; omega)]
    simp only [Nat.zero_add, Nat.reduceAdd, Nat.reduceSub, List.take_succ_cons, List.take_zero]
    congr 2
    exact ofNat_eq _ _ (by omega)
  | [a, b], _, _ =>
    have ha := a.toNat_lt
    have hb := b.toNat_lt
    have e : trimEq (grp [a, b]) = [lett (a.toNat / 4), lett (a.toNat % 4 * 16 + b.toNat / 16), lett (b.toNat % 16 * 4)] := by
      show trimEq ([lett (a.toNat / 4), lett (a.toNat % 4 * 16 + b.toNat / 16), lett (b.toNat % 16 * 4)] ++ [61]) = _
      rw [trimEq_eq]
      exact trimEq_keep [lett (a.toNat / 4), lett (a.toNat % 4 * 16 + b.toNat / 16)] _ (lett_ne (by omega))
    have u1 : unlett (lett (a.toNat / 4)) = some (a.toNat / 4) := unlett_lett (by omega)
    have u2 : unlett (lett (a.toNat % 4 * 16 + b.toNat / 16)) = some (a.toNat % 4 * 16 + b.toNat / 16) := unlett_lett (by omega)
    have u3 : unlett (lett (b.toNat % 16 * 4)) = some (b.toNat % 16 * 4) := unlett_lett (by omega)
    simp only [ung, e, bits24, u1, u2, u3, List.length_cons, List.length_nil]
    rw [if_neg (by omega), if_pos (by simp; omega)]
    simp only [Nat.zero_add, Nat.reduceAdd, Nat.reduceSub, List.take_succ_cons, List.take_zero]
    congr 2
    · exact ofNat_eq _ _ (by omega)
    · congr 1
      exact ofNat_eq _ _ (by omega)
  | [a, b, c], _, _ =>
    have ha := a.toNat_lt
    have hb := b.toNat_lt
    have hc := c.toNat_lt
    have e : trimEq (grp [a, b, c]) = [lett (a.toNat / 4), lett (a.toNat % 4 * 16 + b.toNat / 16), lett (b.toNat % 16 * 4 + c.toNat / 64), lett (c.toNat % 64)] :=
      trimEq_keep [lett (a.toNat / 4), lett (a.toNat % 4 * 16 + b.toNat / 16), lett (b.toNat % 16 * 4 + c.toNat / 64)] _ (lett_ne (by omega))
    have u1 : unlett (lett (a.toNat / 4)) = some (a.toNat / 4) := unlett_lett (by omega)
    have u2 : unlett (lett (a.toNat % 4 * 16 + b.toNat / 16)) = some (a.toNat % 4 * 16 + b.toNat / 16) := unlett_lett (by omega)
    have u3 : unlett (lett (b.toNat % 16 * 4 + c.toNat / 64)) = some (b.toNat % 16 * 4 + c.toNat / 64) := unlett_lett (by omega)
    have u4 : unlett (lett (c.toNat % 64)) = some (c.toNat % 64) := unlett_lett (by omega)
    simp only [ung, e, bits24, u1, u2, u3, u4, List.length_cons, List.length_nil]
    rw [if_neg (by omega), if_pos (by simp)]
    simp only [Nat.zero_add, Nat.reduceAdd, Nat.reduceSub, List.take_succ_cons, List.take_zero]
    congr 2
    · exact ofNat_eq _ _ (by omega)
    · congr 1
      · exact ofNat_eq _ _ (by omega)
      · congr 1
        exact ofNat_eq _ _ (by omega)
def isWs (c : UInt8) : Bool := c == 9 || c == 10 || c == 13 || c == 32
/-- The reading of base64: what is read, the letters that wait, whether it ended. -/
structure St where
  out : List UInt8
  four : List UInt8
  ended : Bool
def fbStep (s : St) (c : UInt8) : Option St :=
  if isWs c then some s else
  if (s.four ++ [c]).length < 4 then some ⟨s.out, s.four ++ [c], s.ended⟩ else
  match ung (s.four ++ [c]) with
  | none => none
  | some t => if s.ended then none else some ⟨s.out ++ t, [], decide (t.length < 3)⟩
def fbRun : St → List UInt8 → Option St
  | s, [] => some s
  | s, c :: r => match fbStep s c with
    | none => none
    | some s' => fbRun s' r
def fin : Option St → Option (List UInt8)
  | some s => if s.four = [] then some s.out else none
  | none => none
def fromB64 (l : List UInt8) : Option (List UInt8) := fin (fbRun ⟨[], [], false⟩ l)
/-- Base64, from a column on. -/
def b64 : Nat → List UInt8 → List UInt8
  | col, a :: b :: c :: r => grp [a, b, c] ++ (if col + 4 = 76 ∨ r = [] then [13, 10] ++ b64 0 r else b64 (col + 4) r)
  | _, [a, b] => grp [a, b] ++ [13, 10]
  | _, [a] => grp [a] ++ [13, 10]
  | _, [] => []
theorem b64_step (col : Nat) (l : List UInt8) (h : l ≠ []) : b64 col l = grp (l.take 3) ++ (if col + 4 = 76 ∨ l.drop 3 = [] then [13, 10] ++ b64 0 (l.drop 3) else b64 (col + 4) (l.drop 3)) := by
  match l, h with
  | a :: b :: c :: r, _ => simp [b64]
  | [a, b], _ => simp [b64]
  | [a], _ => simp [b64]
theorem grp_len (l : List UInt8) (h : l ≠ []) : (grp l).length = 4 := by
  match l, h with
  | a :: b :: c :: r, _ => simp [grp]
  | [a, b], _ => simp [grp]
  | [a], _ => simp [grp]
theorem fbRun_append (s : St) (a b : List UInt8) : fbRun s (a ++ b) = (fbRun s a).bind (fbRun · b) := by
  induction a generalizing s with
  | nil => simp [fbRun]
  | cons c a ih =>
    simp only [List.cons_append, fbRun]
    cases fbStep s c with
    | none => rfl
    | some s' => exact ih s'
theorem lett_ws {v : Nat} (h : v < 64) : isWs (lett v) = false := by
  have key : ∀ v, v < 64 → lettN v ≠ 9 ∧ lettN v ≠ 10 ∧ lettN v ≠ 13 ∧ lettN v ≠ 32 := by decide
  obtain ⟨h1, h2, h3, h4⟩ := key v h
  have ne : ∀ n : Nat, n < 256 → lettN v ≠ n → (lett v == UInt8.ofNat n) = false := by
    intro n hn hne
    rw [beq_eq_false_iff_ne]
    intro e
    have := congrArg UInt8.toNat e
    rw [lett_toNat h] at this
    simp [Nat.mod_eq_of_lt hn] at this
    exact hne this
  have e1 := ne 9 (by decide) h1
  have e2 := ne 10 (by decide) h2
  have e3 := ne 13 (by decide) h3
  have e4 := ne 32 (by decide) h4
  simp only [isWs]
  simp at e1 e2 e3 e4
  simp [e1, e2, e3, e4]
/-- Four letters that are read. -/
theorem fbRun_four (o : List UInt8) (c0 c1 c2 c3 : UInt8) (x r : List UInt8) (h0 : isWs c0 = false) (h1 : isWs c1 = false) (h2 : isWs c2 = false) (h3 : isWs c3 = false) (hu : ung [c0, c1, c2, c3] = some x) :
    fbRun ⟨o, [], false⟩ (c0 :: c1 :: c2 :: c3 :: r) = fbRun ⟨o ++ x, [], decide (x.length < 3)⟩ r := by
  simp [fbRun, fbStep, h0, h1, h2, h3, hu]
theorem fbRun_grp (o x r : List UInt8) (h0 : x ≠ []) (h3 : x.length ≤ 3) : fbRun ⟨o, [], false⟩ (grp x ++ r) = fbRun ⟨o ++ x, [], decide (x.length < 3)⟩ r := by
  have hu := ung_grp x h0 h3
  match x, h0, h3, hu with
  | [a], _, _, hu =>
    have ha := a.toNat_lt
    exact fbRun_four o _ _ _ _ _ r (lett_ws (by omega)) (lett_ws (by omega)) (by decide) (by decide) hu
  | [a, b], _, _, hu =>
    have ha := a.toNat_lt
    have hb := b.toNat_lt
    exact fbRun_four o _ _ _ _ _ r (lett_ws (by omega)) (lett_ws (by omega)) (lett_ws (by omega)) (by decide) hu
  | [a, b, c], _, _, hu =>
    have ha := a.toNat_lt
    have hb := b.toNat_lt
    have hc := c.toNat_lt
    exact fbRun_four o _ _ _ _ _ r (lett_ws (by omega)) (lett_ws (by omega)) (lett_ws (by omega)) (lett_ws (by omega)) hu
theorem fbRun_crlf (s : St) (r : List UInt8) : fbRun s (13 :: 10 :: r) = fbRun s r := by
  simp [fbRun, fbStep, isWs]
theorem fbRun_b64 : ∀ (n : Nat) (l : List UInt8) (col : Nat) (o : List UInt8), l.length ≤ n → ∃ e, fbRun ⟨o, [], false⟩ (b64 col l) = some ⟨o ++ l, [], e⟩ := by
  intro n
  induction n with
  | zero =>
    intro l col o h
    have : l = [] := List.eq_nil_of_length_eq_zero (by omega)
    subst this
    exact ⟨false, by simp [b64, fbRun]⟩
  | succ n ih =>
    intro l col o h
    by_cases h0 : l = []
    · subst h0
      exact ⟨false, by simp [b64, fbRun]⟩
    rw [b64_step col l h0, fbRun_grp _ _ _ (by cases l <;> simp_all) (by rw [List.length_take]; omega)]
    by_cases hd : l.drop 3 = []
    · have ht : l.take 3 = l := by
        have := List.take_append_drop 3 l
        rw [hd, List.append_nil] at this
        exact this
      rw [if_pos (.inr hd), hd, ht]
      exact ⟨decide (l.length < 3), by simp [b64, fbRun_crlf, fbRun]⟩
    · have hl : 3 < l.length := by
        apply Decidable.byContradiction
        intro hh
        exact hd (List.drop_eq_nil_of_le (by omega))
      have e3 : decide ((l.take 3).length < 3) = false := by
        rw [List.length_take]
        simp
        omega
      rw [e3]
      have hlen : (l.drop 3).length ≤ n := by rw [List.length_drop]; omega
      split
      · obtain ⟨e, he⟩ := ih (l.drop 3) 0 (o ++ l.take 3) hlen
        refine ⟨e, ?_⟩
        show fbRun _ (13 :: 10 :: b64 0 (l.drop 3)) = _
        rw [fbRun_crlf, he, List.append_assoc, List.take_append_drop]
      · obtain ⟨e, he⟩ := ih (l.drop 3) (col + 4) (o ++ l.take 3) hlen
        exact ⟨e, by rw [he, List.append_assoc, List.take_append_drop]⟩
theorem from_b64 (l : List UInt8) : fromB64 (b64 0 l) = some l := by
  obtain ⟨e, he⟩ := fbRun_b64 l.length l 0 [] (Nat.le_refl _)
  simp [fromB64, he, fin]
theorem from_b64_ws (l : List UInt8) (k : Nat) : fromB64 ((b64 0 l).take k ++ [13, 10, 9, 32] ++ (b64 0 l).drop k) = some l := by
  have hw : ∀ s, fbRun s [13, 10, 9, 32] = some s := by intro s; simp [fbRun, fbStep, isWs]
  have e : fbRun ⟨[], [], false⟩ ((b64 0 l).take k ++ [13, 10, 9, 32] ++ (b64 0 l).drop k) = fbRun ⟨[], [], false⟩ (b64 0 l) := by
    rw [fbRun_append, fbRun_append]
    conv => rhs; rw [← List.take_append_drop k (b64 0 l), fbRun_append]
    cases fbRun ⟨[], [], false⟩ ((b64 0 l).take k) with
    | none => rfl
    | some s => simp [hw]
  rw [fromB64, e]
  exact from_b64 l
def lineEnd (l : List UInt8) : Bool := decide (l.take 2 = [13, 10])
def blankB (c : UInt8) : Bool := c == 32 || c == 9
def printB : List UInt8 → Bool
  | [] => false
  | c :: r => if blankB c then decide (0 < r.length) && !lineEnd r else decide (33 ≤ c.toNat) && decide (c.toNat ≤ 126) && !(c == 61)
def hexd (n : Nat) : UInt8 := if n < 10 then UInt8.ofNat (48 + n) else UInt8.ofNat (55 + n)
def hexv (c : UInt8) : Option Nat :=
  let n := if 97 ≤ c.toNat ∧ c.toNat ≤ 102 then c.toNat - 32 else c.toNat
  if 48 ≤ n ∧ n ≤ 57 then some (n - 48) else if 65 ≤ n ∧ n ≤ 70 then some (n - 55) else none
/-- How the first byte is written. -/
def textQ : List UInt8 → List UInt8
  | [] => []
  | c :: r => if printB (c :: r) then [c] else [61, hexd (c.toNat / 16), hexd (c.toNat % 16)]
def quoF : Nat → Nat → List UInt8 → List UInt8
  | 0, _, _ => []
  | _, _, [] => []
  | n + 1, col, c :: r =>
    if lineEnd (c :: r) then [13, 10] ++ quoF n 0 (r.drop 1)
    else if 75 < col + (textQ (c :: r)).length then [61, 13, 10] ++ textQ (c :: r) ++ quoF n (textQ (c :: r)).length r
    else textQ (c :: r) ++ quoF n (col + (textQ (c :: r)).length) r
def quo (col : Nat) (l : List UInt8) : List UInt8 := quoF l.length col l
theorem quoF_fuel : ∀ (n m col : Nat) (l : List UInt8), l.length ≤ n → l.length ≤ m → quoF n col l = quoF m col l
  | 0, 0, _, _, _, _ => rfl
  | 0, m + 1, _, [], _, _ => rfl
  | 0, _ + 1, _, _ :: _, h, _ => by simp at h
  | _ + 1, 0, _, [], _, _ => rfl
  | _ + 1, 0, _, _ :: _, _, h => by simp at h
  | _ + 1, _ + 1, _, [], _, _ => rfl
  | n + 1, m + 1, col, c :: r, h1, h2 => by
    simp at h1 h2
    have hd : (r.drop 1).length ≤ r.length := by rw [List.length_drop]; omega
    simp only [quoF]
    rw [quoF_fuel n m 0 (r.drop 1) (by omega) (by omega), quoF_fuel n m _ r h1 h2, quoF_fuel n m _ r h1 h2]
theorem quo_nil (col : Nat) : quo col [] = [] := rfl
theorem quo_crlf (col : Nat) (c : UInt8) (r : List UInt8) (h : lineEnd (c :: r) = true) : quo col (c :: r) = [13, 10] ++ quo 0 (r.drop 1) := by
  have hd : (r.drop 1).length ≤ r.length := by rw [List.length_drop]; omega
  simp only [quo, List.length_cons, quoF, h, if_true]
  rw [quoF_fuel r.length (r.drop 1).length 0 (r.drop 1) hd (Nat.le_refl _)]
theorem quo_text (col : Nat) (c : UInt8) (r : List UInt8) (h : lineEnd (c :: r) = false) : quo col (c :: r) = (if 75 < col + (textQ (c :: r)).length then [61, 13, 10] ++ textQ (c :: r) ++ quo (textQ (c :: r)).length r else textQ (c :: r) ++ quo (col + (textQ (c :: r)).length) r) := by
  simp [quo, quoF, h]
/-- Quoted-printable, read. -/
def fqF : Nat → List UInt8 → List UInt8
  | 0, _ => []
  | _, [] => []
  | n + 1, c :: r =>
    if blankB c then
      (if (r.dropWhile blankB).isEmpty || lineEnd (r.dropWhile blankB) then [] else c :: r.takeWhile blankB) ++ fqF n (r.dropWhile blankB)
    else if c == 61 && lineEnd r then fqF n (r.drop 2)
    else match (if c == 61 then (match r with | a :: b :: _ => (match hexv a, hexv b with | some x, some y => some (x * 16 + y) | _, _ => none) | _ => none) else none) with
      | some v => UInt8.ofNat v :: fqF n (r.drop 2)
      | none => c :: fqF n r
def fq (l : List UInt8) : List UInt8 := fqF l.length l
/-- The value of '=XY'. -/
def eqv (l : List UInt8) : Option Nat := match l with
  | c :: a :: b :: _ => if c == 61 then (match hexv a, hexv b with | some x, some y => some (x * 16 + y) | _, _ => none) else none
  | _ => none
theorem dropWhile_len (p : UInt8 → Bool) : ∀ l : List UInt8, (l.dropWhile p).length ≤ l.length
  | [] => Nat.le_refl _
  | c :: r => by
    simp only [List.dropWhile]
    split
    · have := dropWhile_len p r
      simp
      omega
    · exact Nat.le_refl _
theorem fqF_fuel : ∀ (n m : Nat) (l : List UInt8), l.length ≤ n → l.length ≤ m → fqF n l = fqF m l
  | 0, 0, _, _, _ => rfl
  | 0, m + 1, [], _, _ => rfl
  | 0, _ + 1, _ :: _, h, _ => by simp at h
  | _ + 1, 0, [], _, _ => rfl
  | _ + 1, 0, _ :: _, _, h => by simp at h
  | _ + 1, _ + 1, [], _, _ => rfl
  | n + 1, m + 1, c :: r, h1, h2 => by
    simp at h1 h2
    have hd : (r.drop 2).length ≤ r.length := by rw [List.length_drop]; omega
    have hw := dropWhile_len blankB r
    simp only [fqF]
    rw [fqF_fuel n m (r.drop 2) (by omega) (by omega), fqF_fuel n m r h1 h2, fqF_fuel n m (r.dropWhile blankB) (by omega) (by omega)]
theorem fq_nil : fq [] = [] := rfl
theorem fq_blank (c : UInt8) (r : List UInt8) (h : blankB c = true) : fq (c :: r) = (if (r.dropWhile blankB).isEmpty || lineEnd (r.dropWhile blankB) then [] else c :: r.takeWhile blankB) ++ fq (r.dropWhile blankB) := by
  have hw := dropWhile_len blankB r
  simp only [fq, List.length_cons, fqF, h, if_true]
  rw [fqF_fuel r.length (r.dropWhile blankB).length _ hw (Nat.le_refl _)]
theorem fq_soft (c : UInt8) (r : List UInt8) (h0 : blankB c = false) (h : (c == 61 && lineEnd r) = true) : fq (c :: r) = fq (r.drop 2) := by
  have hd : (r.drop 2).length ≤ r.length := by rw [List.length_drop]; omega
  simp only [fq, List.length_cons, fqF, h0, h, if_true, Bool.false_eq_true, if_false]
  rw [fqF_fuel r.length (r.drop 2).length _ hd (Nat.le_refl _)]
theorem fq_eq (c : UInt8) (r : List UInt8) (v : Nat) (h0 : blankB c = false) (h : (c == 61 && lineEnd r) = false) (hv : eqv (c :: r) = some v) : fq (c :: r) = UInt8.ofNat v :: fq (r.drop 2) := by
  have hd : (r.drop 2).length ≤ r.length := by rw [List.length_drop]; omega
  have e : (if c == 61 then (match r with | a :: b :: _ => (match hexv a, hexv b with | some x, some y => some (x * 16 + y) | _, _ => none) | _ => none) else none) = some v := by
    refine Eq.trans ?_ hv
    match r with
    | [] => simp [eqv]
    | [a] => simp [eqv]
    | a :: b :: r => simp [eqv]
  simp only [fq, List.length_cons, fqF, h0, h, Bool.false_eq_true, if_false, e]
  rw [fqF_fuel r.length (r.drop 2).length _ hd (Nat.le_refl _)]
theorem fq_else (c : UInt8) (r : List UInt8) (h0 : blankB c = false) (h : (c == 61 && lineEnd r) = false) (hv : eqv (c :: r) = none) : fq (c :: r) = c :: fq r := by
  have e : (if c == 61 then (match r with | a :: b :: _ => (match hexv a, hexv b with | some x, some y => some (x * 16 + y) | _, _ => none) | _ => none) else none) = none := by
    refine Eq.trans ?_ hv
    match r with
    | [] => simp [eqv]
    | [a] => simp [eqv]
    | a :: b :: r => simp [eqv]
  simp only [fq, List.length_cons, fqF, h0, h, Bool.false_eq_true, if_false, e]
end Go.Proofs.YtofgkahldhelaaaDoor
