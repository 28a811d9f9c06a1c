/- The walk of KvKnown, run by the abstract machine in pieces: the closed statement answers true, whatever the memory. -/
import Derived.Test.YtknallpinjoppaaKvnD
namespace Go.Proofs.Ytknallpinjoppaa
open Go.RowKit Go.Proofs.Ytknallpinjoppaa.Am
set_option maxRecDepth 100000
theorem kve7 : prC [0] [] (aCode Try.prog kvGl kvR 1000000 kvc5 (Ck.st 151 0 kvk1)) = some (.ret, kvk6) := by kernel_rfl
end Go.Proofs.Ytknallpinjoppaa
