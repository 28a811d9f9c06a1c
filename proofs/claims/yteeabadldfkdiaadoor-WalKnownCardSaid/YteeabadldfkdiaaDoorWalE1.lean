/- The walk of WalKnown, run by the abstract machine in pieces: the closed statement answers true, whatever the memory. -/
import Derived.Test.YteeabadldfkdiaaDoorWalD
namespace Go.Proofs.YteeabadldfkdiaaDoor
open Go.RowKit Go.Proofs.YteeabadldfkdiaaDoor.Am
set_option maxRecDepth 100000
theorem wke2 : prC [0] [1] (aCode Tryd.prog wkGl wkR 1000000 wkc0 (Ck.st 128 64 wkstart)) = some (.normal, wkk1) := by kernel_rfl
theorem wke24 : prC [0, 1, 3, 4] [1, 64, 65, 66, 67, 72] (aCode Tryd.prog wkGl wkR 1000000 wkc22 (Ck.st 81 64 wkk17)) = some (.normal, wkk23) := by kernel_rfl
theorem wke39 : prC [0] [1] (aCode Tryd.prog wkGl wkR 1000000 wkc37 (Ck.st 128 64 wkk33)) = some (.normal, wkk38) := by kernel_rfl
theorem wke57 : prC [0, 4, 5] [1, 294, 295, 296] (aCode Tryd.prog wkGl wkR 1000000 wkc55 (Ck.st 128 64 wkk50)) = some (.normal, wkk56) := by kernel_rfl
theorem wke75 : prC [0, 4, 5, 7] [1, 294, 295, 296, 297, 346, 349, 378] (aCode Tryd.prog wkGl wkR 1000000 wkc73 (Ck.st 128 64 wkk68)) = some (.normal, wkk74) := by kernel_rfl
end Go.Proofs.YteeabadldfkdiaaDoor
