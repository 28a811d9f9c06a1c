/- The abstract machine: a closed call (no arguments, a truth value back) that has been run by itself stands for itself in a longer run: so a long run is cut into pieces. -/
import Derived.Test.YtcigfmnkfelhjaaDoorAm21
set_option linter.unusedVariables false
namespace Go.Proofs.YtcigfmnkfelhjaaDoor.Am
open Go Go.RowKit

theorem Rep.keep {ρ : Rho} {g : Nat → Option AO} {w w' : World} (r : Rep ρ g w) (hs : w.heap.size ≤ w'.heap.size) (hb : ∀ k, k < w.heap.size → w'.heap[k]? = w.heap[k]?) : Rep ρ g w' := {
  cellsF F c n rd frz eto hF := by
    refine ⟨(r.cellsF F c n rd frz eto hF).1, fun v L hL => ⟨((r.cellsF F c n rd frz eto hF).2 v L hL).1, fun hrd => ?_⟩⟩
    obtain ⟨arr, et, fz, k1, k2⟩ := ((r.cellsF F c n rd frz eto hF).2 v L hL).2 hrd
    exact ⟨arr, et, fz, by rw [hb _ (r.bnd _ _ _ hL)]; exact k1, k2⟩
  mp F es ck hF v L hL := by
    obtain ⟨es', k1, k2⟩ := r.mp F es ck hF v L hL
    exact ⟨es', by rw [hb _ (r.bnd _ _ _ hL)]; exact k1, k2⟩
  inj := r.inj
  one := r.one
  bnd F v L hL := Nat.lt_of_lt_of_le (r.bnd F v L hL) hs
  ety F c n rd frz t hF v L hL := by
    obtain ⟨k0, arr, fz, k1⟩ := r.ety F c n rd frz t hF v L hL
    exact ⟨k0, arr, fz, by rw [hb _ (r.bnd _ _ _ hL)]; exact k1⟩ }
theorem Out.keep {ρ : Rho} {h : AH} {w w' : World} (r : Rep ρ h.get w) (wf : Wf h) (b : Below w.heap.size w w') : Out ρ h w ρ h w' :=
  ⟨r.keep b.size b.block, ⟨Le.refl _, fun _ _ _ h => .inl h⟩, ⟨b.os, b.tape, b.output, b.size, fun k hk _ => b.block k hk⟩, .refl wf⟩

/-- A closed call that answers b, where the variable g holds some int. -/
noncomputable def ovClosed (g : Nat) (b : Bool) (args : List AV) (h : AH) : Option (AV × AH) := match args with
  | [] => someI h g (some (.bool b, h))
  | _ => none
theorem ovClosed_ok {P : Program} {gl : Gl P} {f : FuncId} {g : Nat} {b : Bool} (C : ∀ w : World, (∃ m, w.cell? ⟨g, 0, none⟩ = some (.int .i64 m)) → Calls P f #[] w fun e w' => e = .returned (.bool b) ∧ Below w.heap.size w w') (hgl : gl.gl g = some 1)
    (args : List AV) (h : AH) (v : AV) (h' : AH) (e : ovClosed g b args h = some (v, h')) :
    (Wf h → AF h h') ∧ ∀ ρ w args', Rep ρ h.get w → Wf h → GlobOK ρ gl → VRL ρ args args' → Fresh ρ h.next h'.next →
    Calls P f ⟨args'⟩ w (fun e w' => ∃ x ρ', e = .returned x ∧ VR ρ' v x ∧ Out ρ h w ρ' h' w') := by
  unfold ovClosed at e
  split at e
  · obtain ⟨e1, hi⟩ := someI_some e
    injection e1 with e1
    injection e1 with e1 e2
    subst e1 e2
    refine ⟨fun wf => .refl wf, fun ρ w args' r wf hg ha fr => ?_⟩
    cases ha
    obtain ⟨C0, hC0⟩ := hg g 1 hgl
    refine (C w (hi r hC0)).mono ?_
    rintro e w' ⟨rfl, bel⟩
    exact ⟨_, ρ, rfl, .bool _, Out.keep r wf bel⟩
  · cases e
end Go.Proofs.YtcigfmnkfelhjaaDoor.Am
