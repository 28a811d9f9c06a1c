/- A message of many fields, one behind the other: its fields. Plain mathematics. -/
import Derived.Test.YtcigfmnkfelhjaaDoorHdM
set_option linter.unusedVariables false
namespace Go.Proofs.YtcigfmnkfelhjaaDoor
open Go.RowKit

theorem trim_pad (v : List UInt8) : Lib.trimS (32 :: v) [32, 9] = Lib.trimS v [32, 9] := by
  unfold Lib.trimS Lib.trimRightS Lib.trimLeftS
  rw [List.reverse_cons, List.dropWhile_append]
  by_cases h : (v.reverse.dropWhile fun x => ([32, 9] : List UInt8).contains x).isEmpty = true
  · have h0 := List.isEmpty_iff.1 h
    rw [if_pos h, h0]
    rfl
  · rw [if_neg h, List.reverse_append]
    simp
theorem repl_same (v : List UInt8) (h : NoCr v) : Lib.replaceAll v [13, 10] [] = v := by
  rw [repl_all, count_nocr v h]
  rfl
theorem val_pad (v : List UInt8) (h : NoCr v) : valF ⟨((32 :: v) ++ [13, 10]).toArray⟩ = valF ⟨v.toArray⟩ := by
  unfold valF valL
  simp only
  rw [repl_one _ (nocr_cons (by decide) h), repl_same v h, trim_pad]

/-- A field's line. -/
def lineOf (p : List UInt8 × List UInt8) : List UInt8 := p.1 ++ 58 :: 32 :: (p.2 ++ [13, 10])
def catP : List (List UInt8 × List UInt8) → List UInt8
  | [] => []
  | p :: r => lineOf p ++ catP r
def PairOk (p : List UInt8 × List UInt8) : Prop := NameOk p.1 ∧ TextOk p.2
theorem line_x (p : List UInt8 × List UInt8) (r : List UInt8) : lineOf p ++ r = (p.1 ++ 58 :: 32 :: p.2) ++ 13 :: 10 :: r := by simp [lineOf]
theorem line_nocr {p : List UInt8 × List UInt8} (h : PairOk p) : NoCr (p.1 ++ 58 :: 32 :: p.2) := h.1.nocr.append (nocr_cons (by decide) (nocr_cons (by decide) h.2.nocr))
theorem line_len (p : List UInt8 × List UInt8) : (lineOf p).length = (p.1 ++ 58 :: 32 :: p.2).length + 2 := by
  simp [lineOf]
  omega
theorem lines_cat : ∀ ps : List (List UInt8 × List UInt8), (∀ p ∈ ps, PairOk p) → linesL (catP ps ++ [13, 10]) = ps.map lineOf ++ [[13, 10]]
  | [], _ => lines_end0
  | p :: r, h => by
    rw [catP, List.append_assoc, line_x, lines_crlf _ _ (line_nocr (h p (by simp))), lines_cat r (fun q hq => h q (by simp [hq]))]
    have e : p.1 ++ 58 :: 32 :: p.2 ++ [13, 10] = lineOf p := by simp [lineOf]
    rw [e]
    rfl
def fdP : Nat → List (List UInt8 × List UInt8) → List Fd
  | _, [] => []
  | at_, p :: r => ⟨⟨p.1.toArray⟩, ⟨#[]⟩, at_, at_ + (lineOf p).length⟩ :: fdP (at_ + (lineOf p).length) r
theorem go_cat : ∀ (ps : List (List UInt8 × List UInt8)) (at_ : Nat) (op : Bool) (acc : List Fd), (∀ p ∈ ps, PairOk p) → acc.length + ps.length ≤ 500 → fdGo (ps.map lineOf ++ [[13, 10]]) at_ op acc = acc ++ fdP at_ ps
  | [], at_, op, acc, _, _ => by
    rw [List.map_nil, List.nil_append, fdGo, crlf_blank, if_neg (by decide), if_pos crlf_nl]
    simp [fdGo, fdP]
  | p :: r, at_, op, acc, h, hl => by
    have hp := h p (by simp)
    have hNp : 0 < p.1.length := List.length_pos_iff.2 hp.1.1
    have hbl : blankL (lineOf p) = false := name_blank hp.1
    have hnl : nl (lineOf p) = p.1.length := name_len hp.1
    have htk : (lineOf p).take p.1.length = p.1 := by rw [lineOf, List.take_left]
    simp only [List.length_cons] at hl
    rw [List.map_cons, List.cons_append, fdGo, hbl, if_neg (by decide), if_neg (by rw [hnl]; omega), if_neg (by omega), hnl, htk,
      go_cat r _ true _ (fun q hq => h q (by simp [hq])) (by rw [List.length_append]; simp only [List.length_cons, List.length_nil]; omega)]
    simp [fdP]
theorem cat_head {p : List UInt8 × List UInt8} {r : List (List UInt8 × List UInt8)} (h : PairOk p) (s : List UInt8) : ∃ c t, catP (p :: r) ++ s = c :: t ∧ c ≠ 13 := by
  obtain ⟨n, v⟩ := p
  match n, h with
  | [], h => exact absurd rfl h.1.1
  | c :: n, h => exact ⟨c, _, rfl, h.1.nocr c (by simp)⟩
theorem idx_cat (body : List UInt8) : ∀ (r : List (List UInt8 × List UInt8)) (p : List UInt8 × List UInt8), (∀ q ∈ p :: r, PairOk q) → ∃ k : Nat, Lib.index (catP (p :: r) ++ 13 :: 10 :: body) [13, 10, 13, 10] = (k : Int) ∧ k + 2 = (catP (p :: r)).length
  | [], p, h => by
    refine ⟨(p.1 ++ 58 :: 32 :: p.2).length, ?_, ?_⟩
    · rw [catP, catP, List.append_nil, line_x]
      exact idx_four _ body (line_nocr (h p (by simp)))
    · rw [catP, catP, List.append_nil, line_len]
  | q :: r, p, h => by
    obtain ⟨k, hk, hl⟩ := idx_cat body r q (fun z hz => h z (by simp [hz]))
    obtain ⟨c, t, hct, hc⟩ := cat_head (r := r) (h q (by simp)) (13 :: 10 :: body)
    refine ⟨(p.1 ++ 58 :: 32 :: p.2).length + (k + 2), ?_, ?_⟩
    · rw [catP, List.append_assoc, line_x]
      have h1 : Lib.index (10 :: (catP (q :: r) ++ 13 :: 10 :: body)) [13, 10, 13, 10] = ((k + 1 : Nat) : Int) := by
        rw [idx_skip _ _ 10 (by decide), hk, if_neg (by first | (simp; done) | (simp; omega))]
        omega
      have h2 : Lib.index (13 :: 10 :: (catP (q :: r) ++ 13 :: 10 :: body)) [13, 10, 13, 10] = ((k + 2 : Nat) : Int) := by
        rw [Lib.index, if_neg (by rw [hct]; simp [List.isPrefixOf]; intro e; exact absurd e.symm hc), h1, if_neg (by first | (simp; done) | (simp; omega))]
        omega
      exact idx_nocr [10, 13, 10] _ _ h2 _ (line_nocr (h p (by simp)))
    · have e : (catP (p :: q :: r)).length = (lineOf p).length + (catP (q :: r)).length := by
        rw [show catP (p :: q :: r) = lineOf p ++ catP (q :: r) from rfl]
        exact List.length_append
      have e2 := line_len p
      omega
theorem end_cat (ps : List (List UInt8 × List UInt8)) (body : List UInt8) (h : ∀ p ∈ ps, PairOk p) : endF (catP ps ++ 13 :: 10 :: body) = (catP ps).length + 2 := by
  unfold endF
  match ps, h with
  | [], _ => rfl
  | p :: r, h =>
    obtain ⟨c, t, hct, hc⟩ := cat_head (r := r) (h p (by simp)) (13 :: 10 :: body)
    obtain ⟨k, hk, hl⟩ := idx_cat body r p h
    rw [if_neg (by rw [hct, pre_no c t hc]; decide), hk, if_pos (by omega)]
    omega
/-- The fields as they come. -/
def resP : Nat → List (List UInt8 × List UInt8) → List Fd
  | _, [] => []
  | at_, p :: r => ⟨⟨p.1.toArray⟩, valF ⟨p.2.toArray⟩, at_, at_ + (lineOf p).length⟩ :: resP (at_ + (lineOf p).length) r
theorem raw_line (P R : List UInt8) (p : List UInt8 × List UInt8) (v : ByteArray) : rawOf (P ++ (lineOf p ++ R)) ⟨⟨p.1.toArray⟩, v, P.length, P.length + (lineOf p).length⟩ = ⟨((32 :: p.2) ++ [13, 10]).toArray⟩ := by
  unfold rawOf
  have hs : (⟨p.1.toArray⟩ : ByteArray).size = p.1.length := by show p.1.toArray.size = p.1.length; simp
  simp only [hs]
  rw [← List.append_assoc, List.take_left' (by rw [List.length_append])]
  have e : P ++ lineOf p = (P ++ (p.1 ++ [58])) ++ ((32 :: p.2) ++ [13, 10]) := by simp [lineOf]
  rw [e, List.drop_left' (by simp; omega)]
theorem map_cat (R : List UInt8) : ∀ (ps : List (List UInt8 × List UInt8)) (P : List UInt8) (M : List UInt8) (at_ : Nat), M = P ++ (catP ps ++ R) → at_ = P.length → (∀ p ∈ ps, PairOk p) → (fdP at_ ps).map (fun f => { f with value := valF (rawOf M f) }) = resP at_ ps
  | [], _, _, _, _, _, _ => rfl
  | p :: r, P, M, at_, hM, ha, h => by
    have ih := map_cat R r (P ++ lineOf p) M (at_ + (lineOf p).length) (by rw [hM]; simp [catP]) (by rw [ha, List.length_append]) (fun q hq => h q (by simp [hq]))
    have hM2 : M = P ++ (lineOf p ++ (catP r ++ R)) := by rw [hM]; simp [catP]
    have hv : valF (rawOf M ⟨⟨p.1.toArray⟩, ⟨#[]⟩, at_, at_ + (lineOf p).length⟩) = valF ⟨p.2.toArray⟩ := by
      rw [hM2, ha, raw_line, val_pad _ (h p (by simp)).2.nocr]
    rw [fdP, resP, List.map_cons, ih]
    simp only [hv]
theorem fields_cat (ps : List (List UInt8 × List UInt8)) (body : List UInt8) (h : ∀ p ∈ ps, PairOk p) (hl : ps.length ≤ 20) : fieldsF valF (catP ps ++ 13 :: 10 :: body) (endF (catP ps ++ 13 :: 10 :: body)) = resP 0 ps := by
  unfold fieldsF
  have e1 : (catP ps ++ 13 :: 10 :: body).take (endF (catP ps ++ 13 :: 10 :: body)) = catP ps ++ [13, 10] := by
    rw [end_cat ps body h, show catP ps ++ 13 :: 10 :: body = (catP ps ++ [13, 10]) ++ body by simp]
    exact List.take_left' (by simp)
  rw [e1, lines_cat ps h, go_cat ps 0 false [] h (by simp; omega), List.nil_append]
  exact map_cat (13 :: 10 :: body) ps [] _ 0 (List.nil_append _).symm rfl h
theorem resP_len : ∀ (ps : List (List UInt8 × List UInt8)) (at_ : Nat), (resP at_ ps).length = ps.length
  | [], _ => rfl
  | p :: r, at_ => by rw [resP, List.length_cons, List.length_cons, resP_len r]
theorem resP_get : ∀ (ps : List (List UInt8 × List UInt8)) (at_ i : Nat) (h : i < ps.length) (h' : i < (resP at_ ps).length), (resP at_ ps)[i].name = ⟨ps[i].1.toArray⟩ ∧ (resP at_ ps)[i].value = valF ⟨ps[i].2.toArray⟩
  | [], _, i, h, _ => absurd h (by simp)
  | p :: r, at_, 0, _, _ => ⟨rfl, rfl⟩
  | p :: r, at_, i + 1, h, h' => by
    simp only [resP, List.getElem_cons_succ]
    exact resP_get r _ i (by simpa using h) _
end Go.Proofs.YtcigfmnkfelhjaaDoor
