/- Package octet: Lines: its plain function and rows (from XOctE). -/
import Derived.Test.YtcigfmnkfelhjaaDoorRow
import Derived.Lib.SlBytesConst
import Derived.Lib.IndexMore
import Derived.Lib.Bytes
import Derived.Deep.LoopGhost
set_option linter.unusedVariables false
namespace Go.Proofs.YtcigfmnkfelhjaaDoor
open Go.RowKit

def lenOf : Value → Nat | .slice _ n _ => n | _ => 0
/-- How long the first line is. -/
def cutLen (l : List UInt8) : Nat := if 0 ≤ Lib.index l [13, 10] then (Lib.index l [13, 10] + 2).toNat else l.length
def linesF : Nat → List UInt8 → List (List UInt8)
  | 0, _ => []
  | f + 1, l => if l = [] then [] else l.take (cutLen l) :: linesF f (l.drop (cutLen l))
def linesL (l : List UInt8) : List (List UInt8) := linesF l.length l
theorem cutLen_pos (l : List UInt8) (h : l ≠ []) : 0 < cutLen l := by
  unfold cutLen
  have := List.length_pos_iff.2 h
  split <;> omega
theorem cutLen_le (l : List UInt8) : cutLen l ≤ l.length := by
  unfold cutLen
  split
  · rename_i h0
    have := Lib.index_room l [13, 10] h0
    simp at this
    omega
  · omega
theorem linesF_more : ∀ (f g : Nat) (l : List UInt8), l.length ≤ f → l.length ≤ g → linesF f l = linesF g l
  | 0, g, l, hf, _ => by
    obtain rfl : l = [] := List.eq_nil_of_length_eq_zero (by omega)
    cases g <;> simp [linesF]
  | f + 1, 0, l, _, hg => by
    obtain rfl : l = [] := List.eq_nil_of_length_eq_zero (by omega)
    simp [linesF]
  | f + 1, g + 1, l, hf, hg => by
    simp only [linesF]
    split
    · rfl
    · rename_i h
      have h1 := cutLen_pos l h
      rw [linesF_more f g _ (by rw [List.length_drop]; omega) (by rw [List.length_drop]; omega)]
theorem linesL_nil : linesL [] = [] := rfl
theorem linesL_cons (l : List UInt8) (h : l ≠ []) : linesL l = l.take (cutLen l) :: linesL (l.drop (cutLen l)) := by
  have hp := List.length_pos_iff.2 h
  have hc := cutLen_pos l h
  obtain ⟨f, hf⟩ : ∃ f, l.length = f + 1 := ⟨l.length - 1, by omega⟩
  unfold linesL
  rw [hf, linesF, if_neg h, linesF_more f _ _ (by rw [List.length_drop]; omega) (Nat.le_refl _)]

/-- A slice value that reads as the bytes l, its row from block B on. -/
def ElemB (w : World) (B : Nat) (v : Value) (l : List UInt8) : Prop := ∃ g cap, v = .slice (some ⟨g, 0, none⟩) l.length cap ∧ Bts 5 w g l ∧ B ≤ g ∧ l.length ≤ cap
/-- A slice of such slices. -/
def RowsB (w : World) (B : Nat) (v : Value) (ls : List (List UInt8)) : Prop :=
  ∃ vs : List Value, w.ownsRow B 22 1 v ls.length vs ∧ vs.length = ls.length ∧ ∀ i (h : i < ls.length) (h' : i < vs.length), ElemB w B vs[i] ls[i]
theorem Bts.grown {w w' : World} {g : Nat} {l : List UInt8} {row : Option Nat} (h : Bts 5 w g l) (hg : w.grownBy w' row) (hr : ∀ k, row = some k → ∃ c fz, w.heap[k]? = some (.cells c 22 fz)) : Bts 5 w' g l := by
  have hlt := h.lt
  obtain ⟨cur, fz, hh, r⟩ := h
  refine ⟨cur, fz, ?_, r⟩
  rw [hg.block g hlt ?_]
  · exact hh
  · intro e
    obtain ⟨c, f2, h2⟩ := hr g e.symm
    rw [hh] at h2
    simp at h2
theorem own_kind {w : World} {B : Nat} {e : TypeId} {v : Value} {n : Nat} {xs : List Value} (h : w.ownsRow B e 1 v n xs) : ∀ g, v.ownBlock = some g → ∃ c fz, w.heap[g]? = some (.cells c e fz) := by
  intro g hg
  rcases h.2 with ⟨rfl, _⟩ | ⟨g', cap, cur, rfl, _, hgg, _⟩
  · simp [Value.ownBlock] at hg
  · simp [Value.ownBlock] at hg
    subst hg
    exact ⟨cur, _, hgg⟩
theorem ElemB.grown {w w' : World} {B : Nat} {v : Value} {l : List UInt8} {row : Option Nat} (h : ElemB w B v l) (hg : w.grownBy w' row) (hr : ∀ k, row = some k → ∃ c fz, w.heap[k]? = some (.cells c 22 fz)) : ElemB w' B v l := by
  obtain ⟨g, cap, e, hb, r⟩ := h
  exact ⟨g, cap, e, hb.grown hg hr, r⟩
theorem ElemB.below {w w' : World} {B C : Nat} {v : Value} {l : List UInt8} (h : ElemB w B v l) (hb : Below C w w') (hC : w.heap.size ≤ C) : ElemB w' B v l := by
  obtain ⟨g, cap, e, hB, r⟩ := h
  exact ⟨g, cap, e, hB.below hb (Nat.lt_of_lt_of_le hB.lt hC), r⟩
theorem own_below {w w' : World} {B C : Nat} {e : TypeId} {v : Value} {n : Nat} {xs : List Value} (h : w.ownsRow B e 1 v n xs) (hb : Below C w w') (hC : w.heap.size ≤ C) : w'.ownsRow B e 1 v n xs := by
  refine ⟨h.1, ?_⟩
  rcases h.2 with h2 | ⟨g, cap, cur, hv, hg, hh, r⟩
  · exact .inl h2
  · have : g < w.heap.size := (Array.getElem?_eq_some_iff.1 hh).1
    exact .inr ⟨g, cap, cur, hv, hg, (hb.block g (by omega)).trans hh, r⟩
theorem RowsB.below {w w' : World} {B C : Nat} {v : Value} {ls : List (List UInt8)} (h : RowsB w B v ls) (hb : Below C w w') (hC : w.heap.size ≤ C) : RowsB w' B v ls := by
  obtain ⟨vs, h1, h2, h3⟩ := h
  exact ⟨vs, own_below h1 hb hC, h2, fun i hi hi' => (h3 i hi hi').below hb hC⟩
theorem RowsB.nil (w : World) (B : Nat) : RowsB w B (.slice none 0 0) [] := ⟨[], World.ownsRow_nil _ _ _ _, rfl, fun i h => absurd h (by simp)⟩

theorem nums_get (l : List UInt8) (i : Nat) (h : i < l.length) : (l.map fun c => (c.toNat : Int)).getD i 0 = (l[i].toNat : Int) := by simp [List.getD, h]
theorem nums_bytes (l : List UInt8) : Lib.bytesOf (l.map fun c => (c.toNat : Int)) = l := by
  simp only [Lib.bytesOf, List.map_map]
  conv => rhs; rw [← List.map_id l]
  apply List.map_congr_left
  intro x _
  simp
theorem nums_cells (l : List UInt8) : (l.map fun c => (c.toNat : Int)).map (Value.int .u8) = Lib.byteCells l := by simp [Lib.byteCells]
theorem add_plain (b o i : Nat) : (⟨b, o, none⟩ : Addr).add i = ⟨b, o + i, none⟩ := by unfold Addr.add; split <;> simp_all
end Go.Proofs.YtcigfmnkfelhjaaDoor
