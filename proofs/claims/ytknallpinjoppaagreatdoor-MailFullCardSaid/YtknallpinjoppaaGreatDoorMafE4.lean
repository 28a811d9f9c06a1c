/- The walk of MailFull, run by the abstract machine in pieces: the closed statement answers true, whatever the memory. -/
import Derived.Test.YtknallpinjoppaaGreatDoorMafD
namespace Go.Proofs.YtknallpinjoppaaGreatDoor
open Go.RowKit Go.Proofs.YtknallpinjoppaaGreatDoor.Am
set_option maxRecDepth 100000
theorem mfq0e8 : prC [0, 2] [] (aCode Tryz.prog mfGl mfR 1000000 mfc6 (Ck.st 90 0 (mfk1 (.ofNat 0)))) = some (.normal, (mfk7 (.ofNat 0))) := by kernel_rfl
theorem mfq4e8 : prC [0, 2] [] (aCode Tryz.prog mfGl mfR 1000000 mfc6 (Ck.st 90 0 (mfk1 (.ofNat 4)))) = some (.normal, (mfk7 (.ofNat 4))) := by kernel_rfl
theorem mfq2e14 : prC [0, 2] [] (aCode Tryz.prog mfGl mfR 1000000 mfc12 (Ck.st 90 0 (mfk7 (.ofNat 2)))) = some (.normal, (mfk13 (.ofNat 2))) := by kernel_rfl
theorem mfe20 (N : Int) : prC [0, 2, 3] [0, 1, 2, 3, 4, 5] (aCode Tryz.prog mfGl mfR 1000000 mfc18 (Ck.st 90 0 (mfk13 N))) = some (.normal, (mfk19 N)) := by kernel_rfl
theorem mfe38 (N : Int) : prS [0, 2, 3, 4, 6, 22, 23, 24, 25, 26, 27, 28, 29, 30, 31, 32, 33] [0, 1, 2, 3, 4, 5] (aRnd Tryz.prog mfGl mfR 1000000 mfc32 49 (Ck.st 90 0 (mfk35 N))) = some (mfk37 N) := by kernel_rfl
theorem mfe46 (N : Int) : prS [0, 2, 3, 4, 6, 22, 23, 24, 25, 26, 27, 28, 29, 30, 31, 32, 33] [0, 1, 2, 3, 4, 5] (aRnd Tryz.prog mfGl mfR 1000000 mfc32 47 (Ck.st 90 0 (mfk43 N))) = some (mfk45 N) := by kernel_rfl
theorem mfe54 (N : Int) : prS [0, 2, 3, 4, 6, 22, 23, 24, 25, 26, 27, 28, 29, 30, 31, 32, 33] [0, 1, 2, 3, 4, 5] (aRnd Tryz.prog mfGl mfR 1000000 mfc32 28 (Ck.st 90 0 (mfk51 N))) = some (mfk53 N) := by kernel_rfl
theorem mfq2e63 : prC [2] [] (aCode Tryz.prog mfGl mfR 1000000 mfq2c61 (Ck.st 90 0 (mfk55 (.ofNat 2)))) = some (.ret, mfq2k62) := by kernel_rfl
end Go.Proofs.YtknallpinjoppaaGreatDoor
