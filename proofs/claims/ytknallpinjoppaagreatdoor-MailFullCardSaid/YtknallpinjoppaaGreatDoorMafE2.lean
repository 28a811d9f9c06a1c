/- The walk of MailFull, run by the abstract machine in pieces: the closed statement answers true, whatever the memory. -/
import Derived.Test.YtknallpinjoppaaGreatDoorMafD
namespace Go.Proofs.YtknallpinjoppaaGreatDoor
open Go.RowKit Go.Proofs.YtknallpinjoppaaGreatDoor.Am
set_option maxRecDepth 100000
theorem mae7 : prC [0] [] (aCode Tryz.prog maGl maR 1000000 mac5 (Ck.st 80 0 mak1)) = some (.ret, mak6) := by kernel_rfl
theorem mfq2e8 : prC [0, 2] [] (aCode Tryz.prog mfGl mfR 1000000 mfc6 (Ck.st 90 0 (mfk1 (.ofNat 2)))) = some (.normal, (mfk7 (.ofNat 2))) := by kernel_rfl
theorem mfq0e14 : prC [0, 2] [] (aCode Tryz.prog mfGl mfR 1000000 mfc12 (Ck.st 90 0 (mfk7 (.ofNat 0)))) = some (.normal, (mfk13 (.ofNat 0))) := by kernel_rfl
theorem mfq4e14 : prC [0, 2] [] (aCode Tryz.prog mfGl mfR 1000000 mfc12 (Ck.st 90 0 (mfk7 (.ofNat 4)))) = some (.normal, (mfk13 (.ofNat 4))) := by kernel_rfl
theorem mfe34 (N : Int) : prS [0, 2, 3, 4, 6, 22, 23, 24, 25, 26, 27, 28, 29, 30, 31, 32, 33] [0, 1, 2, 3, 4, 5] (aRnd Tryz.prog mfGl mfR 1000000 mfc32 51 (Ck.st 90 0 (mfk26 N))) = some (mfk33 N) := by kernel_rfl
theorem mfe42 (N : Int) : prS [0, 2, 3, 4, 6, 22, 23, 24, 25, 26, 27, 28, 29, 30, 31, 32, 33] [0, 1, 2, 3, 4, 5] (aRnd Tryz.prog mfGl mfR 1000000 mfc32 48 (Ck.st 90 0 (mfk39 N))) = some (mfk41 N) := by kernel_rfl
theorem mfe50 (N : Int) : prS [0, 2, 3, 4, 6, 22, 23, 24, 25, 26, 27, 28, 29, 30, 31, 32, 33] [0, 1, 2, 3, 4, 5] (aRnd Tryz.prog mfGl mfR 1000000 mfc32 45 (Ck.st 90 0 (mfk47 N))) = some (mfk49 N) := by kernel_rfl
theorem mfq0e63 : prC [2] [] (aCode Tryz.prog mfGl mfR 1000000 mfq0c61 (Ck.st 90 0 (mfk55 (.ofNat 0)))) = some (.ret, mfq0k62) := by kernel_rfl
theorem mfq4e63 : prC [2] [] (aCode Tryz.prog mfGl mfR 1000000 mfq4c61 (Ck.st 90 0 (mfk55 (.ofNat 4)))) = some (.ret, mfq4k62) := by kernel_rfl
end Go.Proofs.YtknallpinjoppaaGreatDoor
