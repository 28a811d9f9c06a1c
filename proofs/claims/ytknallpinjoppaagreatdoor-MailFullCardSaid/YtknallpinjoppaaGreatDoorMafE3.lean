/- The walk of MailFull, run by the abstract machine in pieces: the closed statement answers true, whatever the memory. -/
import Derived.Test.YtknallpinjoppaaGreatDoorMafD
namespace Go.Proofs.YtknallpinjoppaaGreatDoor
open Go.RowKit Go.Proofs.YtknallpinjoppaaGreatDoor.Am
set_option maxRecDepth 100000
theorem mfe2 (N : Int) : prC [0, 2] [] (aCode Tryz.prog mfGl mfR 1000000 mfc0 (Ck.st 90 0 (mfstart N))) = some (.normal, (mfk1 N)) := by kernel_rfl
theorem mfq3e8 : prC [0, 2] [] (aCode Tryz.prog mfGl mfR 1000000 mfc6 (Ck.st 90 0 (mfk1 (.ofNat 3)))) = some (.normal, (mfk7 (.ofNat 3))) := by kernel_rfl
theorem mfq1e14 : prC [0, 2] [] (aCode Tryz.prog mfGl mfR 1000000 mfc12 (Ck.st 90 0 (mfk7 (.ofNat 1)))) = some (.normal, (mfk13 (.ofNat 1))) := by kernel_rfl
theorem mfq5e14 : prC [0, 2] [] (aCode Tryz.prog mfGl mfR 1000000 mfc12 (Ck.st 90 0 (mfk7 (.ofNat 5)))) = some (.normal, (mfk13 (.ofNat 5))) := by kernel_rfl
theorem mfe36 (N : Int) : prS [0, 2, 3, 4, 6, 22, 23, 24, 25, 26, 27, 28, 29, 30, 31, 32, 33] [0, 1, 2, 3, 4, 5] (aRnd Tryz.prog mfGl mfR 1000000 mfc32 47 (Ck.st 90 0 (mfk33 N))) = some (mfk35 N) := by kernel_rfl
theorem mfe44 (N : Int) : prS [0, 2, 3, 4, 6, 22, 23, 24, 25, 26, 27, 28, 29, 30, 31, 32, 33] [0, 1, 2, 3, 4, 5] (aRnd Tryz.prog mfGl mfR 1000000 mfc32 48 (Ck.st 90 0 (mfk41 N))) = some (mfk43 N) := by kernel_rfl
theorem mfe52 (N : Int) : prS [0, 2, 3, 4, 6, 22, 23, 24, 25, 26, 27, 28, 29, 30, 31, 32, 33] [0, 1, 2, 3, 4, 5] (aRnd Tryz.prog mfGl mfR 1000000 mfc32 44 (Ck.st 90 0 (mfk49 N))) = some (mfk51 N) := by kernel_rfl
theorem mfq1e63 : prC [2] [] (aCode Tryz.prog mfGl mfR 1000000 mfq1c61 (Ck.st 90 0 (mfk55 (.ofNat 1)))) = some (.ret, mfq1k62) := by kernel_rfl
theorem mfq5e63 : prC [2] [] (aCode Tryz.prog mfGl mfR 1000000 mfq5c61 (Ck.st 90 0 (mfk55 (.ofNat 5)))) = some (.ret, mfq5k62) := by kernel_rfl
end Go.Proofs.YtknallpinjoppaaGreatDoor
