/- A list of numbers that comes in as an argument. -/
import Derived.Test.YtehbekjcnlcooaaDoorSqI
import Derived.Test.YtehbekjcnlcooaaDoorSqB
set_option linter.unusedVariables false
namespace Go.Proofs.YtehbekjcnlcooaaDoor
open Go.RowKit

theorem int_r {H : Type} {enc : TypeId × Value → H} {w : World} {base : Nat} {sp : Nat → Bool} {held : Bool} {fuel : Nat} {cs : List Value} {y : DataW H × List MemPlace} (h : DataW.trod enc Tryd.prog w base sp held fuel 2 cs = some y) (hz : ∀ n ∈ y.1.weights Tryd.prog 2, n ≤ reachBytes) : ∃ x, IntR w cs x := by
  obtain ⟨n, rfl, _, _⟩ := DataW.trod_int Tryd.underlying2 h
  exact ⟨n, rfl⟩
end Go.Proofs.YtehbekjcnlcooaaDoor
