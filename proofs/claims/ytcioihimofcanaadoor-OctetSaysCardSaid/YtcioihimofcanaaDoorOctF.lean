/- Lines, as a scan; what follows for texts put together. -/
import Derived.Test.YtcioihimofcanaaDoorOctE
import Derived.Test.YtcioihimofcanaaDoorAp
import Derived.Lib.IndexMore
set_option linter.unusedVariables false
namespace Go.Proofs.YtcioihimofcanaaDoor
open Go.RowKit

def scan : List UInt8 → List UInt8 → List (List UInt8)
  | cur, [] => if cur = [] then [] else [cur]
  | cur, [c] => [cur ++ [c]]
  | cur, c :: d :: r => if c = 13 ∧ d = 10 then (cur ++ [13, 10]) :: scan [] r else scan (cur ++ [c]) (d :: r)
theorem scan_index : ∀ (l cur : List UInt8), (Lib.index l [13, 10] = -1 ∧ scan cur l = if cur ++ l = [] then [] else [cur ++ l]) ∨ (∃ k : Nat, Lib.index l [13, 10] = (k : Int) ∧ k + 2 ≤ l.length ∧ scan cur l = (cur ++ l.take (k + 2)) :: scan [] (l.drop (k + 2)))
  | [], cur => .inl ⟨by simp [Lib.index], by simp [scan]⟩
  | [c], cur => .inl ⟨by simp [Lib.index, List.isPrefixOf], by simp [scan]⟩
  | c :: d :: r, cur => by
    by_cases h : c = 13 ∧ d = 10
    · obtain ⟨rfl, rfl⟩ := h
      exact .inr ⟨0, by simp [Lib.index, List.isPrefixOf], by simp, by simp [scan]⟩
    · have hs : scan cur (c :: d :: r) = scan (cur ++ [c]) (d :: r) := by rw [scan, if_neg h]
      have hpre : ([13, 10] : List UInt8).isPrefixOf (c :: d :: r) = false := by
        simp only [List.isPrefixOf, Bool.and_true, Bool.and_eq_false_iff]
        by_cases hc : c = 13
        · right; simp; intro hd; exact h ⟨hc, hd.symm⟩
        · left; simp; intro hd; exact hc hd.symm
      have hi : Lib.index (c :: d :: r) [13, 10] = if Lib.index (d :: r) [13, 10] == -1 then -1 else Lib.index (d :: r) [13, 10] + 1 := by
        rw [Lib.index, if_neg (by rw [hpre]; simp)]
      rcases scan_index (d :: r) (cur ++ [c]) with ⟨h1, h2⟩ | ⟨k, h1, h2, h3⟩
      · exact .inl ⟨by rw [hi, h1]; rfl, by rw [hs, h2]; simp⟩
      · refine .inr ⟨k + 1, ?_, by simp at h2 ⊢; omega, ?_⟩
        · rw [hi, h1, if_neg (by simp)]; omega
        · rw [hs, h3]; simp
theorem linesL_scan : ∀ (n : Nat) (l : List UInt8), l.length ≤ n → linesL l = scan [] l
  | 0, l, h => by
    obtain rfl : l = [] := List.eq_nil_of_length_eq_zero (by omega)
    rfl
  | n + 1, l, h => by
    by_cases h0 : l = []
    · subst h0; rfl
    · rw [linesL_cons l h0]
      have hp := cutLen_pos l h0
      rw [linesL_scan n _ (by rw [List.length_drop]; omega)]
      rcases scan_index l [] with ⟨h1, h2⟩ | ⟨k, h1, h2, h3⟩
      · have hc : cutLen l = l.length := by unfold cutLen; rw [h1, if_neg (by decide)]
        rw [hc, List.take_length, List.drop_length, h2, List.nil_append, if_neg h0]
        rfl
      · have hc : cutLen l = k + 2 := by unfold cutLen; rw [h1, if_pos (by omega)]; omega
        rw [hc, h3, List.nil_append]
theorem scan_append : ∀ (x cur b : List UInt8), scan cur (x ++ 13 :: 10 :: b) = scan cur (x ++ [13, 10]) ++ scan [] b
  | [], cur, b => by simp [scan]
  | [c], cur, b => by
    simp only [List.cons_append, List.nil_append, scan]
    have : ¬ (c = 13 ∧ (13 : UInt8) = 10) := by intro h; exact absurd h.2 (by decide)
    rw [if_neg this, if_neg this]
    simp
  | c :: d :: x, cur, b => by
    have ih1 := scan_append x [] b
    have ih2 := scan_append (d :: x) (cur ++ [c]) b
    simp only [List.cons_append, scan] at ih2 ⊢
    by_cases h : c = 13 ∧ d = 10
    · rw [if_pos h, if_pos h, ih1]; rfl
    · rw [if_neg h, if_neg h, ih2]
theorem linesL_append (x b : List UInt8) : (linesL (x ++ [13, 10] ++ b)).length = (linesL (x ++ [13, 10])).length + (linesL b).length := by
  rw [linesL_scan _ _ (Nat.le_refl _), linesL_scan _ _ (Nat.le_refl _), linesL_scan _ b (Nat.le_refl _)]
  rw [show x ++ [13, 10] ++ b = x ++ 13 :: 10 :: b by simp, scan_append, List.length_append]
theorem linesL_len (l : List UInt8) : (linesL l).length ≤ l.length := by
  have : ∀ f l, (linesF f l).length ≤ l.length := by
    intro f
    induction f with
    | zero => intro l; simp [linesF]
    | succ f ih =>
      intro l
      rw [linesF]
      split
      · simp
      · rename_i h
        have h1 := ih (l.drop (cutLen l))
        have h2 := cutLen_pos l h
        have h3 := cutLen_le l
        rw [List.length_drop] at h1
        simp
        omega
  exact this _ _
theorem RowsB.shape {w : World} {B : Nat} {v : Value} {ls : List (List UInt8)} (h : RowsB w B v ls) : ∃ A cap, v = .slice A ls.length cap := by
  obtain ⟨vs, h1, _⟩ := h
  rcases h1.2 with ⟨rfl, h0⟩ | ⟨g, cap, cur, rfl, _⟩
  · exact ⟨none, 0, by rw [h0]⟩
  · exact ⟨_, cap, rfl⟩
theorem Bts.new0 {e : TypeId} {l : List UInt8} {C : Array Value} (w : World) (hC : ∀ j (h : j < l.length), C[j]? = some (.int .u8 (l[j].toNat : Int))) : Bts e (w.alloc (.cells C e)) w.heap.size l :=
  ⟨C, (0, 0), by simp [World.alloc, -World.alloc_eq], .inr rfl, hC⟩
theorem crlf_new (w : World) : Bts 5 (w.alloc (.cells #[.int .u8 13, .int .u8 10] 5)) w.heap.size [13, 10] := Bts.new0 w fun j hj => by
  match j, hj with
  | 0, _ => rfl
  | 1, _ => rfl
theorem own_empty (w : World) (B : Nat) (hB : B ≤ w.heap.size) : (w.alloc (.cells #[] 5)).ownsRow B 5 1 (.slice (some ⟨w.heap.size, 0, none⟩) 0 0) ([] : List UInt8).length (Lib.byteCells []) :=
  World.ownsRow_made w #[] 0 hB (Nat.zero_le _) rfl

end Go.Proofs.YtcioihimofcanaaDoor
