/- The walk of WalKnown, run by the abstract machine in pieces: the closed statement answers true, whatever the memory. -/
import Derived.Test.YteeabadldfkdiaaDoorWalD
namespace Go.Proofs.YteeabadldfkdiaaDoor
open Go.RowKit Go.Proofs.YteeabadldfkdiaaDoor.Am
set_option maxRecDepth 100000
theorem wke12 : prC [0] [1] (aCode Tryd.prog wkGl wkR 1000000 wkc10 (Ck.st 81 64 wkk8)) = some (.normal, wkk11) := by kernel_rfl
theorem wke29 : prC [0] [1] (aCode Tryd.prog wkGl wkR 1000000 wkc27 (Ck.st 81 64 wkk23)) = some (.ret, wkk28) := by kernel_rfl
theorem wke45 : prC [0, 1] [1, 291, 292, 293] (aCode Tryd.prog wkGl wkR 1000000 wkc43 (Ck.st 128 64 wkk38)) = some (.normal, wkk44) := by kernel_rfl
theorem wke63 : prC [0, 4, 5, 7] [1, 294, 295, 296, 297, 302] (aCode Tryd.prog wkGl wkR 1000000 wkc61 (Ck.st 128 64 wkk56)) = some (.normal, wkk62) := by kernel_rfl
theorem wke80 : prC [0] [1] (aCode Tryd.prog wkGl wkR 1000000 wkc78 (Ck.st 128 64 wkk74)) = some (.ret, wkk79) := by kernel_rfl
end Go.Proofs.YteeabadldfkdiaaDoor
