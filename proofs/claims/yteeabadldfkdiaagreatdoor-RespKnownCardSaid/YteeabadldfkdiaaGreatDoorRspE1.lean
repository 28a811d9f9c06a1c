/- The walk of RespKnown, run by the abstract machine in pieces: the closed statement answers true, whatever the memory, where the library's variable MaxLen holds some int. -/
import Derived.Test.YteeabadldfkdiaaGreatDoorRspD
namespace Go.Proofs.YteeabadldfkdiaaGreatDoor
open Go.RowKit Go.Proofs.YteeabadldfkdiaaGreatDoor.Am
set_option maxRecDepth 100000
theorem ree2 : prC [0] [0, 3] (aCode Tryz.prog reGl reR 1000000 rec0 (Ck.st 148 64 restart)) = some (.normal, rek1) := by kernel_rfl
theorem ree20 : prC [0] [0, 3] (aCode Tryz.prog reGl reR 1000000 rec18 (Ck.st 148 64 rek13)) = some (.normal, rek19) := by kernel_rfl
theorem ree38 : prC [0, 4, 6, 8] [0, 3] (aCode Tryz.prog reGl reR 1000000 rec36 (Ck.st 148 64 rek31)) = some (.normal, rek37) := by kernel_rfl
theorem ree56 : prC [0, 4, 6, 8, 9, 11] [0, 3, 253, 257, 270] (aCode Tryz.prog reGl reR 1000000 rec54 (Ck.st 148 64 rek49)) = some (.normal, rek55) := by kernel_rfl
theorem ree69 : prC [0] [0, 3] (aCode Tryz.prog reGl reR 1000000 rec67 (Ck.st 148 64 rek63)) = some (.ret, rek68) := by kernel_rfl
end Go.Proofs.YteeabadldfkdiaaGreatDoor
