/- The walk of WalKnown, run by the abstract machine in pieces: the closed statement answers true, whatever the memory. -/
import Derived.Test.YteeabadldfkdiaaDoorWalD
namespace Go.Proofs.YteeabadldfkdiaaDoor
open Go.RowKit Go.Proofs.YteeabadldfkdiaaDoor.Am
set_option maxRecDepth 100000
theorem wke18 : prC [0, 1] [1, 64, 65, 66] (aCode Tryd.prog wkGl wkR 1000000 wkc16 (Ck.st 81 64 wkk11)) = some (.normal, wkk17) := by kernel_rfl
theorem wke34 : prS [0, 20] [1] (aOps Tryd.prog wkGl wkR (opsC wkc7) 1 1 (Ck.st 128 64 wkk32)) = some wkk33 := by kernel_rfl
theorem wke51 : prC [0, 4] [1] (aCode Tryd.prog wkGl wkR 1000000 wkc49 (Ck.st 128 64 wkk44)) = some (.normal, wkk50) := by kernel_rfl
theorem wke69 : prC [0, 4, 5, 7] [1, 294, 295, 296, 297, 302] (aCode Tryd.prog wkGl wkR 1000000 wkc67 (Ck.st 128 64 wkk62)) = some (.normal, wkk68) := by kernel_rfl
end Go.Proofs.YteeabadldfkdiaaDoor
