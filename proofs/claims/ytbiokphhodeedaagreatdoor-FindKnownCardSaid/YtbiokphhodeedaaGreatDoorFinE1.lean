/- The walk of FindKnown, run by the abstract machine in pieces: the closed statement answers true, whatever the memory, where the library's variable MaxLen holds some int. -/
import Derived.Test.YtbiokphhodeedaaGreatDoorFinD
namespace Go.Proofs.YtbiokphhodeedaaGreatDoor
open Go.RowKit Go.Proofs.YtbiokphhodeedaaGreatDoor.Am
set_option maxRecDepth 100000
theorem fine2 : prC [0] [0] (aCode Tryz.prog finGl finR 1000000 finc0 (Ck.st 186 64 finstart)) = some (.normal, fink1) := by kernel_rfl
theorem fine20 : prC [0, 1, 2] [0, 326, 327] (aCode Tryz.prog finGl finR 1000000 finc18 (Ck.st 186 64 fink13)) = some (.normal, fink19) := by kernel_rfl
theorem fine40 : prS [0, 1, 2, 3, 4, 28, 29, 30, 31, 32, 33, 34, 35, 36, 37, 38, 39] [0, 326, 327, 328] (aRnd Tryz.prog finGl finR 1000000 finc38 5 (Ck.st 186 64 fink32)) = some fink39 := by kernel_rfl
theorem fine46 : prS [0, 1, 2, 3, 4, 28, 29, 30, 31, 32, 33, 34, 35, 36, 37, 38, 39] [0, 326, 327, 328] (aRnd Tryz.prog finGl finR 1000000 finc38 3 (Ck.st 186 64 fink43)) = some fink45 := by kernel_rfl
theorem fine52 : prC [0, 2, 3] [0, 327, 328] (aCode Tryz.prog finGl finR 1000000 finc38 (Ck.st 186 64 fink49)) = some ((.exit 0), fink51) := by kernel_rfl
theorem fine70 : prS [0, 2, 3, 5, 6, 7, 40, 41, 42, 43, 44, 45, 46, 47, 48, 49, 50, 51, 52, 53, 54, 55, 56, 57, 58, 59, 60, 61, 62, 63] [0, 327, 328, 3342, 3371, 3373] (aRnd Tryz.prog finGl finR 1000000 finc66 4 (Ck.st 186 64 fink67)) = some fink69 := by kernel_rfl
theorem fine76 : prS [0, 2, 3, 5, 6, 7, 40, 41, 42, 43, 44, 45, 46, 47, 48, 49, 50, 51, 52, 53, 54, 55, 56, 57, 58, 59, 60, 61, 62, 63] [0, 327, 328, 4654, 4679, 4681] (aRnd Tryz.prog finGl finR 1000000 finc66 2 (Ck.st 186 64 fink73)) = some fink75 := by kernel_rfl
theorem fine92 : prC [0, 12] [0] (aCode Tryz.prog finGl finR 1000000 finc90 (Ck.st 186 64 fink85)) = some (.normal, fink91) := by kernel_rfl
theorem fine110 : prC [0, 12, 14, 16, 17, 18] [0, 5004, 5012, 5019, 5021] (aCode Tryz.prog finGl finR 1000000 finc108 (Ck.st 186 64 fink103)) = some (.normal, fink109) := by kernel_rfl
theorem fine128 : prS [0, 12, 14, 16, 17, 18, 112] [0, 5004, 5012, 5019, 5021, 5023] (aOps Tryz.prog finGl finR (opsC finc126) 2 0 (Ck.st 186 64 fink121)) = some fink127 := by kernel_rfl
theorem fine144 : prC [2, 3] [0, 5004, 5012, 5019, 5021, 5064] (aCode Tryz.prog finGl finR 1000000 finc142 (Ck.st 17 64 fink138)) = some (.ret, fink143) := by kernel_rfl
end Go.Proofs.YtbiokphhodeedaaGreatDoor
