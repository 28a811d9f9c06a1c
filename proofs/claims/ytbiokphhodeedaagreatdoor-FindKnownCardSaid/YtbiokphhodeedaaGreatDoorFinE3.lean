/- The walk of FindKnown, run by the abstract machine in pieces: the closed statement answers true, whatever the memory, where the library's variable MaxLen holds some int. -/
import Derived.Test.YtbiokphhodeedaaGreatDoorFinD
namespace Go.Proofs.YtbiokphhodeedaaGreatDoor
open Go.RowKit Go.Proofs.YtbiokphhodeedaaGreatDoor.Am
set_option maxRecDepth 100000
theorem fine14 : prC [0, 1] [0, 326] (aCode Tryz.prog finGl finR 1000000 finc12 (Ck.st 186 64 fink7)) = some (.normal, fink13) := by kernel_rfl
theorem fine33 : prC [0, 1, 2, 3, 4] [0, 326, 327, 328] (aCode Tryz.prog finGl finR 1000000 finc31 (Ck.st 186 64 fink25)) = some (.normal, fink32) := by kernel_rfl
theorem fine44 : prS [0, 1, 2, 3, 4, 28, 29, 30, 31, 32, 33, 34, 35, 36, 37, 38, 39] [0, 326, 327, 328] (aRnd Tryz.prog finGl finR 1000000 finc38 5 (Ck.st 186 64 fink41)) = some fink43 := by kernel_rfl
theorem fine50 : prS [0, 1, 2, 3, 4, 28, 29, 30, 31, 32, 33, 34, 35, 36, 37, 38, 39] [0, 326, 327, 328] (aRnd Tryz.prog finGl finR 1000000 finc38 1 (Ck.st 186 64 fink47)) = some fink49 := by kernel_rfl
theorem fine68 : prS [0, 2, 3, 5, 6, 7, 40, 41, 42, 43, 44, 45, 46, 47, 48, 49, 50, 51, 52, 53, 54, 55, 56, 57, 58, 59, 60, 61, 62, 63] [0, 327, 328, 2798, 2847, 2849] (aRnd Tryz.prog finGl finR 1000000 finc66 3 (Ck.st 186 64 fink60)) = some fink67 := by kernel_rfl
theorem fine74 : prS [0, 2, 3, 5, 6, 7, 40, 41, 42, 43, 44, 45, 46, 47, 48, 49, 50, 51, 52, 53, 54, 55, 56, 57, 58, 59, 60, 61, 62, 63] [0, 327, 328, 4414, 4443, 4445] (aRnd Tryz.prog finGl finR 1000000 finc66 4 (Ck.st 186 64 fink71)) = some fink73 := by kernel_rfl
theorem fine86 : prC [0] [0] (aCode Tryz.prog finGl finR 1000000 finc84 (Ck.st 186 64 fink77)) = some (.normal, fink85) := by kernel_rfl
theorem fine104 : prC [0, 12, 14, 16] [0] (aCode Tryz.prog finGl finR 1000000 finc102 (Ck.st 186 64 fink97)) = some (.normal, fink103) := by kernel_rfl
theorem fine122 : prC [0, 12, 14, 16, 17, 18, 19] [0, 5004, 5012, 5019, 5021] (aCode Tryz.prog finGl finR 1000000 finc120 (Ck.st 186 64 fink115)) = some (.normal, fink121) := by kernel_rfl
theorem fine139 : prC [0, 2, 3] [0, 5004, 5012, 5019, 5021, 5023, 5064] (aCode Tryz.prog finGl finR 1000000 finc137 (Ck.st 17 64 fink132)) = some (.normal, fink138) := by kernel_rfl
theorem fine154 : prC [0] [0] (aCode Tryz.prog finGl finR 1000000 finc152 (Ck.st 186 64 fink148)) = some (.ret, fink153) := by kernel_rfl
end Go.Proofs.YtbiokphhodeedaaGreatDoor
