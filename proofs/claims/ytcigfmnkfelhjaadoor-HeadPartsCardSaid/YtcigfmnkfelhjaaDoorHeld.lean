/- A region that draws its order, operation by operation: the condition on the world may be made stronger on the way. Of no program. -/
import Derived.Test.YtcigfmnkfelhjaaDoorPl
import Derived.Deep.RegionHeld3
import Derived.Deep.Cut
set_option linter.unusedVariables false
namespace Go.Proofs.YtcigfmnkfelhjaaDoor
open Go.RowKit

section
variable {P : Program} {ops : Array Oper} {Q : Exit → Act → World → Prop} {md : Region.Mode} {S S' : World → Prop}
theorem wpAnyH_mono (h : ∀ w, S' w → S w) : ∀ (fuel : Nat) (listed : Array Bool) (a : Act) (w : World), wpAnyH P md ops Q S' fuel listed a w → wpAnyH P md ops Q S fuel listed a w
  | 0, _, _, _, H => H
  | fuel + 1, _, _, _, H => ⟨H.1, fun i hi => wpOp_mono (fun a' w' h' => ⟨h w' h'.1, wpAnyH_mono h fuel _ a' w' h'.2⟩) (H.2 i hi)⟩
end
/-- 'Below' behind a name that the walk does not open. -/
def BelC (w W : World) : Prop := Below w.heap.size w W
theorem belc_go {w wx wy : World} (hb : Below wx.heap.size wx wy) (hB : BelC w wx) : BelC w wy := Below.trans hB (hb.mono (Below.size hB))
theorem belc_mono {wx wy : World} (hb : Below wx.heap.size wx wy) : ∀ V, BelC wy V → BelC wx V := fun V h => Below.trans hb (Below.mono h hb.size)
end Go.Proofs.YtcigfmnkfelhjaaDoor
