/- Rows of the call's own: an element is stored into; the sorted copy of a list. -/
import Derived.Test.YtehbekjcnlcooaaDoorSqQ
import Derived.Test.YtehbekjcnlcooaaDoorSqM
import Derived.Sort.OwnSortedInts
set_option linter.unusedVariables false
namespace Go.Proofs.YtehbekjcnlcooaaDoor
open Go.RowKit

/-- What lies below is left by a sort of an own row, and the row holds the sorted list. -/
theorem sort_own (v : Value) (zs : List Int) (B : Nat) (w : World) (h : w.ownsRow B 2 1 v zs.length (zs.map (Value.int .i64))) (hB : B ≤ w.heap.size) (hz : zs.length ≤ 1000000) :
    Calls Tryd.prog 26 #[v] w fun e w' => e = .returned (.tuple #[]) ∧ Below B w w' ∧ w'.ownsRow B 2 1 v zs.length ((zs.mergeSort fun x y => decide (x ≤ y)).map (Value.int .i64)) := by
  by_cases h0 : zs.length = 0
  · obtain rfl := List.eq_nil_of_length_eq_zero h0
    obtain ⟨p, cap, rfl⟩ : ∃ p cap, v = .slice p 0 cap := by
      rcases h.2 with ⟨rfl, _⟩ | ⟨g, cap, cur, rfl, _⟩
      · exact ⟨_, _, rfl⟩
      · exact ⟨_, _, rfl⟩
    refine (Tryd.slices_Sort_int_none p cap w).mono ?_
    rintro e w' ⟨rfl, rfl⟩
    exact ⟨rfl, Below.refl _ _, by simpa using h⟩
  · rcases h.2 with ⟨_, h1⟩ | ⟨g, cap, cur, rfl, hg, hh, hn, hm, hs, ht⟩
    · exact absurd h1 h0
    · have hH := holds_of_blockI hh (by simpa using ht)
      refine (Tryd.slices_Sort_int g 0 cap zs w hH (Array.getElem?_eq_some_iff.1 hh).1 (by omega)).mono ?_
      rintro e w' ⟨rfl, n, os, rfl⟩
      refine ⟨rfl, ?_, ownsRow_sortedI (by rw [List.length_mergeSort]) hg hh hn hm hs⟩
      exact (Below.refl B w).grown (grownBy_sortedI _) hB (fun k hk => by cases hk; exact hg)
theorem clone_own (A : Option Addr) (l : List Int) (cap : Nat) (w : World) (hr : RdR IntR 1 w A l) (hll : l.length ≤ 1000000) :
    Calls Tryd.prog 25 #[.slice A l.length cap] w fun e w' => ∃ v, e = .returned v ∧ w'.ownsRow w.heap.size 2 1 v l.length (l.map (Value.int .i64)) ∧ Below w.heap.size w w' := by
  by_cases h0 : l.length = 0
  · obtain rfl := List.eq_nil_of_length_eq_zero h0
    cases A with
    | none =>
      refine (Tryd.slices_Clone_int_nil 0 cap w).mono ?_
      rintro e w' ⟨rfl, rfl⟩
      exact ⟨_, rfl, World.ownsRow_nil _ _ _ _, Below.refl _ _⟩
    | some a =>
      refine (Tryd.slices_Clone_int_zero a cap w).mono ?_
      rintro e w' ⟨v, rfl, h1, _, h2⟩
      exact ⟨v, rfl, h1, h2⟩
  · obtain ⟨b, o, rfl, hb, _⟩ := id hr (by omega)
    have hc := fun i hi => int_cell hr i hi
    have h := Tryd.slices_Clone_int b o l.length cap l w (Nat.le_refl _) (by omega) (fun j hj => by rw [hc j hj]; simp [List.getD_eq_getElem?_getD, List.getElem?_eq_getElem hj])
    rw [List.take_length] at h
    refine h.mono ?_
    rintro e w' ⟨v, rfl, h1, _, h2⟩
    exact ⟨v, rfl, h1, h2⟩
end Go.Proofs.YtehbekjcnlcooaaDoor
