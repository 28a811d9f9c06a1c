/- The abstract machine: a closed call (no arguments, a truth value back) that has been run by itself stands for itself in a longer run, whatever package variables it reads. -/
import Derived.Test.YtcigfmnkfelhjaaDoorAm24
set_option linter.unusedVariables false
set_option linter.unusedSimpArgs false
namespace Go.Proofs.YtcigfmnkfelhjaaDoor.Am
open Go Go.RowKit

/-- The same cell: an int, or an int that is not known. -/
def eqCell : AV → AV → Bool
  | .int k n, .int k' n' => and (eqK k k') (eqI n n')
  | .unk k, .unk k' => eqK k k'
  | _, _ => false
def eqCells : List AV → List AV → Bool
  | [], [] => true
  | a :: x, b :: y => cond (eqCell a b) (eqCells x y) false
  | _, _ => false
theorem eqCell_eq {a b : AV} (h : eqCell a b = true) : a = b ∧ ∀ (ρ ρ' : Rho) v, VR ρ a v → VR ρ' a v := by
  unfold eqCell at h
  split at h
  · obtain ⟨h1, h2⟩ := and_true h
    have := (eqK_iff _ _).1 h1
    subst this
    rw [eqI_eq] at h2
    have := eq_of_beq h2
    subst this
    exact ⟨rfl, fun ρ ρ' v hv => by cases hv; exact .int _ _⟩
  · have := (eqK_iff _ _).1 h
    subst this
    exact ⟨rfl, fun ρ ρ' v hv => by cases hv; exact .unk _ _⟩
  · cases h
theorem eqCells_eq : ∀ {x y : List AV}, eqCells x y = true → x = y ∧ ∀ (i : Nat) (a : AV), y[i]? = some a → ∀ (ρ ρ' : Rho) v, VR ρ a v → VR ρ' a v
  | [], [], _ => ⟨rfl, fun i a h => by simp at h⟩
  | [], _ :: _, h => by cases h
  | _ :: _, [], h => by cases h
  | a :: x, b :: y, h => by
    simp only [eqCells] at h
    cases hc : eqCell a b with
    | false => rw [hc] at h; cases h
    | true =>
      rw [hc] at h
      obtain ⟨rfl, h1⟩ := eqCell_eq hc
      obtain ⟨rfl, h2⟩ := eqCells_eq h
      refine ⟨rfl, fun i c hi => ?_⟩
      cases i with
      | zero => simp at hi; subst hi; exact h1
      | succ i => exact h2 i c (by simpa using hi)
noncomputable def gsHere (h : AH) : List (Nat × List AV) → Bool
  | [] => true
  | (g, cs) :: r => match loadK h g cs.length 0 cs.length (fun l => some (eqCells l cs)) with
    | some true => gsHere h r
    | _ => false
theorem gsHere_all {P : Program} {gl : Gl P} {ρ : Rho} {h : AH} {w : World} (r : Rep ρ h.get w) (hg : GlobOK ρ gl) : ∀ {gs : List (Nat × List AV)}, (∀ g cs, (g, cs) ∈ gs → gl.gl g = some cs.length) → gsHere h gs = true → GAll w gs
  | [], _, _ => fun g cs e => by cases e
  | (g, cs) :: gs, hgl, e => by
    simp only [gsHere] at e
    cases hl : loadK h g cs.length 0 cs.length (fun l => some (eqCells l cs)) with
    | none => rw [hl] at e; cases e
    | some b =>
      rw [hl] at e
      cases b with
      | false => cases e
      | true =>
        have ih := gsHere_all r hg (fun g' cs' hm => hgl g' cs' (List.mem_cons_of_mem _ hm)) e
        obtain ⟨c, m, rd, frz, l, e1, e2, e3, e4, e5, e6, e7⟩ := loadK_some hl
        obtain ⟨rfl, hv⟩ := eqCells_eq (Option.some.inj e7)
        obtain ⟨C, hC⟩ := hg g _ (hgl g l List.mem_cons_self)
        obtain ⟨arr, et, fz, k1, k2, k3, k4, k5⟩ := ((r.cells _ _ _ _ _ e1).2 l.length ⟨g, 0, C⟩ hC).2 e2
        intro g' cs' hlook
        simp only [gLook] at hlook
        cases hb : Nat.beq g g' with
        | true =>
          rw [hb] at hlook
          have := Nat.eq_of_beq_eq_true hb
          subst this
          have : l = cs' := Option.some.inj hlook
          subst this
          refine ⟨arr, et, fz, k1, fun i a ha => ?_⟩
          have hi := (List.getElem?_eq_some_iff.1 ha).1
          obtain ⟨a', x, m1, m2, m3⟩ := k4 i hi
          have := e6 i hi
          rw [Nat.zero_add, m1, ha] at this
          have : a' = a := Option.some.inj this
          subst this
          exact ⟨x, by simpa using m2, hv i a' ha _ _ _ m3⟩
        | false => rw [hb] at hlook; exact ih g' cs' hlook

/-- A closed call that answers b where these package variables lie. -/
noncomputable def ovClosedG (gs : List (Nat × List AV)) (b : Bool) (args : List AV) (h : AH) : Option (AV × AH) := match args with
  | [] => cond (gsHere h gs) (some (.bool b, h)) none
  | _ => none
theorem ovClosedG_ok {P : Program} {gl : Gl P} {f : FuncId} {gs : List (Nat × List AV)} {b : Bool} (C : ∀ w : World, GAll w gs → Calls P f #[] w fun e w' => e = .returned (.bool b) ∧ Below w.heap.size w w') (hgl : ∀ g cs, (g, cs) ∈ gs → gl.gl g = some cs.length)
    (args : List AV) (h : AH) (v : AV) (h' : AH) (e : ovClosedG gs b args h = some (v, h')) :
    (Wf h → AF h h') ∧ ∀ ρ w args', Rep ρ h.get w → Wf h → GlobOK ρ gl → VRL ρ args args' → Fresh ρ h.next h'.next →
    Calls P f ⟨args'⟩ w (fun e w' => ∃ x ρ', e = .returned x ∧ VR ρ' v x ∧ Out ρ h w ρ' h' w') := by
  unfold ovClosedG at e
  split at e
  · obtain ⟨hc, e1⟩ := cond_some e
    injection e1 with e1
    injection e1 with e1 e2
    subst e1 e2
    refine ⟨fun wf => .refl wf, fun ρ w args' r wf hg ha fr => ?_⟩
    cases ha
    refine (C w (gsHere_all r hg hgl hc)).mono ?_
    rintro e w' ⟨rfl, bel⟩
    exact ⟨_, ρ, rfl, .bool _, Out.keep r wf bel⟩
  · cases e
end Go.Proofs.YtcigfmnkfelhjaaDoor.Am
