/- The walk of RespKnown, run by the abstract machine in pieces: the closed statement answers true, whatever the memory, where the library's variable MaxLen holds some int. -/
import Derived.Test.YteeabadldfkdiaaGreatDoorRspD
namespace Go.Proofs.YteeabadldfkdiaaGreatDoor
open Go.RowKit Go.Proofs.YteeabadldfkdiaaGreatDoor.Am
set_option maxRecDepth 100000
theorem ree8 : prC [0] [0, 3] (aCode Tryz.prog reGl reR 1000000 rec6 (Ck.st 148 64 rek1)) = some (.normal, rek7) := by kernel_rfl
theorem ree26 : prC [0, 4] [0, 3] (aCode Tryz.prog reGl reR 1000000 rec24 (Ck.st 148 64 rek19)) = some (.normal, rek25) := by kernel_rfl
theorem ree44 : prC [0, 4, 6, 8, 9] [0, 3, 253, 257] (aCode Tryz.prog reGl reR 1000000 rec42 (Ck.st 148 64 rek37)) = some (.normal, rek43) := by kernel_rfl
theorem ree62 : prS [0, 9, 11, 113, 116] [0, 3, 253, 257, 270] (aOps Tryz.prog reGl reR (opsC rec60) 54 0 (Ck.st 148 64 rek55)) = some rek61 := by kernel_rfl
end Go.Proofs.YteeabadldfkdiaaGreatDoor
