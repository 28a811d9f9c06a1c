/- The walk of MailFull, run by the abstract machine in pieces: the closed statement answers true, whatever the memory. -/
import Derived.Test.YtknallpinjoppaaGreatDoorMafD
namespace Go.Proofs.YtknallpinjoppaaGreatDoor
open Go.RowKit Go.Proofs.YtknallpinjoppaaGreatDoor.Am
set_option maxRecDepth 100000
theorem mae2 : prC [0] [] (aCode Tryz.prog maGl maR 1000000 mac0 (Ck.st 80 0 mastart)) = some (.normal, mak1) := by kernel_rfl
theorem mfq1e8 : prC [0, 2] [] (aCode Tryz.prog mfGl mfR 1000000 mfc6 (Ck.st 90 0 (mfk1 (.ofNat 1)))) = some (.normal, (mfk7 (.ofNat 1))) := by kernel_rfl
theorem mfq5e8 : prC [0, 2] [] (aCode Tryz.prog mfGl mfR 1000000 mfc6 (Ck.st 90 0 (mfk1 (.ofNat 5)))) = some (.normal, (mfk7 (.ofNat 5))) := by kernel_rfl
theorem mfq3e14 : prC [0, 2] [] (aCode Tryz.prog mfGl mfR 1000000 mfc12 (Ck.st 90 0 (mfk7 (.ofNat 3)))) = some (.normal, (mfk13 (.ofNat 3))) := by kernel_rfl
theorem mfe27 (N : Int) : prC [0, 2, 3, 4] [0, 1, 2, 3, 4, 5] (aCode Tryz.prog mfGl mfR 1000000 mfc25 (Ck.st 90 0 (mfk19 N))) = some (.normal, (mfk26 N)) := by kernel_rfl
theorem mfe40 (N : Int) : prS [0, 2, 3, 4, 6, 22, 23, 24, 25, 26, 27, 28, 29, 30, 31, 32, 33] [0, 1, 2, 3, 4, 5] (aRnd Tryz.prog mfGl mfR 1000000 mfc32 46 (Ck.st 90 0 (mfk37 N))) = some (mfk39 N) := by kernel_rfl
theorem mfe48 (N : Int) : prS [0, 2, 3, 4, 6, 22, 23, 24, 25, 26, 27, 28, 29, 30, 31, 32, 33] [0, 1, 2, 3, 4, 5] (aRnd Tryz.prog mfGl mfR 1000000 mfc32 47 (Ck.st 90 0 (mfk45 N))) = some (mfk47 N) := by kernel_rfl
theorem mfe56 (N : Int) : prC [0, 2, 3] [0, 1, 2, 3, 4, 5] (aCode Tryz.prog mfGl mfR 1000000 mfc32 (Ck.st 90 0 (mfk53 N))) = some ((.exit 0), (mfk55 N)) := by kernel_rfl
theorem mfq3e63 : prC [2] [] (aCode Tryz.prog mfGl mfR 1000000 mfq3c61 (Ck.st 90 0 (mfk55 (.ofNat 3)))) = some (.ret, mfq3k62) := by kernel_rfl
end Go.Proofs.YtknallpinjoppaaGreatDoor
