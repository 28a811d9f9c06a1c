/- The walk of DevKnown, run by the abstract machine: the closed statement answers true, whatever the memory. -/
import Derived.Test.YtbjcbenoapechaaAm22
import Derived.Test.YtbjcbenoapechaaProg
import Derived.KernelRfl
namespace Go.Proofs.Ytbjcbenoapechaa
open Go.RowKit Go.Proofs.Ytbjcbenoapechaa.Am

def devXs : List (Nat × Nat × Nat) := []
theorem devXsOK : xtAll Try.prog devXs :=
  trivial
set_option maxRecDepth 100000 in
theorem devRun : okB (aCall Try.prog (Gl.mk0 Try.prog devXs devXsOK) over0 1000000 3 [] h00) = true := by kernel_rfl
theorem devWalk (w : World) : Calls Try.prog 3 #[] w fun e w' => e = .returned (.bool true) ∧ Below w.heap.size w w' :=
  known_sound (by kernel_rfl) over0_ok devRun w
end Go.Proofs.Ytbjcbenoapechaa
