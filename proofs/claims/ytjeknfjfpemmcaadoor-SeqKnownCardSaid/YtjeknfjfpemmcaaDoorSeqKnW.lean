/- The walk of SeqKnown, run by the abstract machine: the closed statement of chapter 9 answers true, whatever the memory. -/
import Derived.Test.YtjeknfjfpemmcaaDoorAm19
import Derived.Test.YtjeknfjfpemmcaaDoorProg
import Derived.KernelRfl
namespace Go.Proofs.YtjeknfjfpemmcaaDoor
open Go.RowKit Go.Proofs.YtjeknfjfpemmcaaDoor.Am

def seqXs : List (Nat × Nat × Nat) := [(69, 3, 0), (84, 1, 0), (85, 4, 5), (87, 2, 0)]
theorem seqXsOK : xtAll Tryd.prog seqXs :=
  ⟨⟨by kernel_rfl, says3 (by kernel_rfl)⟩, ⟨by kernel_rfl, says1 (by kernel_rfl)⟩, ⟨by kernel_rfl, says4 #[3] 75 (by kernel_rfl) (by kernel_rfl)⟩, ⟨by kernel_rfl, says2 (by kernel_rfl)⟩, trivial⟩

set_option maxRecDepth 100000 in
theorem seqKnown_run : okB (aCall Tryd.prog (Gl.mk0 Tryd.prog seqXs seqXsOK) over0 1000000 3 [] h00) = true := by kernel_rfl
theorem seqKnown_walk (w : World) : Calls Tryd.prog 3 #[] w fun e w' => e = .returned (.bool true) ∧ Below w.heap.size w w' :=
  known_sound (by kernel_rfl) over0_ok seqKnown_run w
end Go.Proofs.YtjeknfjfpemmcaaDoor
