/- The walk of RespKnown, run by the abstract machine in pieces: the closed statement answers true, whatever the memory, where the library's variable MaxLen holds some int. -/
import Derived.Test.YteeabadldfkdiaaGreatDoorRspD
namespace Go.Proofs.YteeabadldfkdiaaGreatDoor
open Go.RowKit Go.Proofs.YteeabadldfkdiaaGreatDoor.Am
set_option maxRecDepth 100000
theorem ree14 : prC [0, 1] [0, 3, 126] (aCode Tryz.prog reGl reR 1000000 rec12 (Ck.st 148 64 rek7)) = some (.normal, rek13) := by kernel_rfl
theorem ree32 : prC [0, 4, 6] [0, 3] (aCode Tryz.prog reGl reR 1000000 rec30 (Ck.st 148 64 rek25)) = some (.normal, rek31) := by kernel_rfl
theorem ree50 : prC [0, 4, 6, 8, 9, 11] [0, 3, 253, 257, 270] (aCode Tryz.prog reGl reR 1000000 rec48 (Ck.st 148 64 rek43)) = some (.normal, rek49) := by kernel_rfl
theorem ree64 : prS [0] [0, 3] (aOps Tryz.prog reGl reR (opsC rec60) 32 54 (Ck.st 148 64 rek61)) = some rek63 := by kernel_rfl
end Go.Proofs.YteeabadldfkdiaaGreatDoor
