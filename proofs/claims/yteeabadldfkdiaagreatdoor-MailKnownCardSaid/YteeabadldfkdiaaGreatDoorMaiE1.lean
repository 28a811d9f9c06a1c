/- The walk of MailKnown, run by the abstract machine in pieces: the closed statement answers true, whatever the memory, where the library's variable MaxLen holds some int. -/
import Derived.Test.YteeabadldfkdiaaGreatDoorMaiD
namespace Go.Proofs.YteeabadldfkdiaaGreatDoor
open Go.RowKit Go.Proofs.YteeabadldfkdiaaGreatDoor.Am
set_option maxRecDepth 100000
theorem mle2 : prC [0] [0] (aCode Tryz.prog mlGl mlR 1000000 mlc0 (Ck.st 131 64 mlstart)) = some (.normal, mlk1) := by kernel_rfl
end Go.Proofs.YteeabadldfkdiaaGreatDoor
