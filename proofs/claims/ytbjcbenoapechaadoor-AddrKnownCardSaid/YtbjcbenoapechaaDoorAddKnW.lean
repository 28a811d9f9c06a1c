/- The walk of AddrKnown, run by the abstract machine: the closed statement answers true, whatever the memory. -/
import Derived.Test.YtbjcbenoapechaaDoorAm22
import Derived.Test.YtbjcbenoapechaaDoorProg
import Derived.KernelRfl
namespace Go.Proofs.YtbjcbenoapechaaDoor
open Go.RowKit Go.Proofs.YtbjcbenoapechaaDoor.Am

def addXs : List (Nat × Nat × Nat) := [(141, 1, 0), (142, 2, 0), (186, 2, 0), (152, 3, 0), (158, 4, 5), (128, 5, 0)]
theorem addXsOK : xtAll Tryd.prog addXs :=
  ⟨⟨by kernel_rfl, says1 (by kernel_rfl)⟩, ⟨by kernel_rfl, says2 (by kernel_rfl)⟩, ⟨by kernel_rfl, says2 (by kernel_rfl)⟩, ⟨by kernel_rfl, says3 (by kernel_rfl)⟩, ⟨by kernel_rfl, says4 #[3] 29 (by kernel_rfl) (by kernel_rfl)⟩, ⟨by kernel_rfl, says5 (by kernel_rfl)⟩, trivial⟩
set_option maxRecDepth 100000 in
theorem addRun : okB (aCall Tryd.prog (Gl.mk0 Tryd.prog addXs addXsOK) over0 1000000 4 [] h00) = true := by kernel_rfl
theorem addWalk (w : World) : Calls Tryd.prog 4 #[] w fun e w' => e = .returned (.bool true) ∧ Below w.heap.size w w' :=
  known_sound (by kernel_rfl) over0_ok addRun w
end Go.Proofs.YtbjcbenoapechaaDoor
