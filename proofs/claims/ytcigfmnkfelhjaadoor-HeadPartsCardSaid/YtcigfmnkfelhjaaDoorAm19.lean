/- The abstract machine: what it says of a call without arguments. -/
import Derived.Test.YtcigfmnkfelhjaaDoorAm18
set_option linter.unusedVariables false
namespace Go.Proofs.YtcigfmnkfelhjaaDoor.Am
open Go Go.RowKit

/-- The functions without a body, by number: number, kind, type. -/
def xtOf : List (Nat × Nat × Nat) → FuncId → Nat × TypeId
  | [], _ => (0, 0)
  | (g, k, e) :: r, f => cond (Nat.beq g f) (k, e) (xtOf r f)
def xtFind (P : Program) (f : Nat) : Option (Array Value → Sem Value) := match P.funcs[f]? with
  | some fn => Extern.find fn
  | none => none
def xtPlain (P : Program) (f : Nat) : Bool := match P.funcs[f]? with
  | some fn => and (not (fn.name == "runtime.NumGoroutine")) (and fn.body.isNone (Extern.findNext fn).isNone)
  | none => false
/-- One of them is what its kind says. -/
def xtSays (P : Program) (k e f : Nat) : Prop := match k with
  | 1 => xtFind P f = some Extern.AbiNoEscape.same
  | 2 => xtFind P f = some Extern.BytealgIndexByte.indexByte
  | 3 => xtFind P f = some Extern.BytealgCount.count
  | 5 => xtFind P f = some Extern.BytealgCompare.compare
  | 4 => ∃ ps t, xtFind P f = some (Extern.BytealgMakeNoZero.makeNoZero ps #[t]) ∧ P.underlying t = some (.slice e)
  | _ => False
theorem says1 {P : Program} {e f : Nat} (h : xtFind P f = some Extern.AbiNoEscape.same) : xtSays P 1 e f := h
theorem says2 {P : Program} {e f : Nat} (h : xtFind P f = some Extern.BytealgIndexByte.indexByte) : xtSays P 2 e f := h
theorem says3 {P : Program} {e f : Nat} (h : xtFind P f = some Extern.BytealgCount.count) : xtSays P 3 e f := h
theorem says4 {P : Program} {e f : Nat} (ps : Array TypeId) (t : TypeId) (h : xtFind P f = some (Extern.BytealgMakeNoZero.makeNoZero ps #[t])) (h' : P.underlying t = some (.slice e)) : xtSays P 4 e f := ⟨ps, t, h, h'⟩
theorem says5 {P : Program} {e f : Nat} (h : xtFind P f = some Extern.BytealgCompare.compare) : xtSays P 5 e f := h
def xtAll (P : Program) : List (Nat × Nat × Nat) → Prop
  | [] => True
  | (f, k, e) :: r => (xtPlain P f = true ∧ xtSays P k e f) ∧ xtAll P r

theorem xtOf_ok {P : Program} : ∀ {xs : List (Nat × Nat × Nat)}, xtAll P xs → ∀ f, (xtOf xs f).1 ≠ 0 →
    ∃ fn, P.funcs[f]? = some fn ∧ (fn.name == "runtime.NumGoroutine") = false ∧ fn.body.isNone = true ∧ Extern.findNext fn = none ∧ xtRow P (xtOf xs f).1 (xtOf xs f).2 fn
  | [], _, f, h => absurd rfl h
  | (g, k, e) :: r, hx, f, h => by
    simp only [xtOf] at h ⊢
    cases hb : Nat.beq g f with
    | false =>
      rw [hb] at h
      exact xtOf_ok hx.2 f h
    | true =>
      have := Nat.eq_of_beq_eq_true hb
      subst this
      obtain ⟨⟨h1, h2⟩, _⟩ := hx
      simp only [xtPlain] at h1
      cases hf : P.funcs[g]? with
      | none => rw [hf] at h1; cases h1
      | some fn =>
        rw [hf] at h1
        simp only [Bool.and_eq_true, Bool.not_eq_true', Option.isNone_iff_eq_none] at h1
        have hfind : xtFind P g = Extern.find fn := by simp only [xtFind, hf]
        refine ⟨fn, rfl, h1.1, by rw [h1.2.1]; rfl, h1.2.2, ?_⟩
        simp only [cond_true]
        unfold xtSays at h2
        unfold xtRow
        rw [hfind] at h2
        split at h2
        · exact h2
        · exact h2
        · exact h2
        · exact h2
        · exact h2
        · exact h2.elim

/-- A program without package variables that the run reads. -/
def Gl.mk0 (P : Program) (xs : List (Nat × Nat × Nat)) (h : xtAll P xs) : Gl P := ⟨fun _ => none, xtOf xs, xtOf_ok h⟩

def h00 : AH := ⟨.lf, 0, 0, [], []⟩
def okB (r : Option (AV × AH)) : Bool := match r with
  | some (.bool true, _) => true
  | _ => false
def over0 : FuncId → Option (List AV → AH → Option (AV × AH)) := fun _ => none
theorem over0_ok {P : Program} {gl : Gl P} : OverOK P gl over0 := fun _ _ h => by cases h

theorem wf00 : Wf h00 := ⟨Nat.le_refl _, fun _ h => (by cases h), fun _ _ => Tr.get_lf _⟩
theorem get00 (F : Nat) : h00.get F = none := Tr.get_lf F
theorem rep00 (w : World) : Rep (fun _ _ => none) h00.get w := {
  cellsF F c n rd frz eto h := by rw [get00] at h; cases h
  mp F es ck h := by rw [get00] at h; cases h
  inj F F' v v' L L' h1 h2 h3 := by cases h3
  one F v v' L L' h1 h2 := by cases h2
  bnd F v L h := by cases h
  ety F c n rd frz t h := by rw [get00] at h; cases h }

/-- A call without arguments that the machine answers with true. -/
theorem known_sound {P : Program} {xs : List (Nat × Nat × Nat)} {hxs : xtAll P xs} {over : FuncId → Option (List AV → AH → Option (AV × AH))} (hm : P.follows .mixedOrders = true) (ho : OverOK P (Gl.mk0 P xs hxs) over) {fuel : Nat} {f : FuncId}
    (e : okB (aCall P (Gl.mk0 P xs hxs) over fuel f [] h00) = true) (w : World) :
    Calls P f #[] w fun e w' => e = .returned (.bool true) ∧ Below w.heap.size w w' := by
  unfold okB at e
  split at e
  · rename_i h' e'
    refine (aCall_sound hm ho e' (rep00 w) wf00 (fun g n h => by cases h) .nil (fun _ _ _ _ => rfl)).mono ?_
    rintro e w' ⟨x, ρ', rfl, hv, hout⟩
    cases hv
    refine ⟨rfl, hout.fr.os, hout.fr.tape, hout.fr.output, hout.fr.size, fun k hk => hout.fr.block k hk fun F v L h => by cases h⟩
  · cases e
end Go.Proofs.YtcigfmnkfelhjaaDoor.Am
