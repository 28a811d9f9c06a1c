/- The walk of FindKnown, run by the abstract machine in pieces: the closed statement answers true, whatever the memory, where the library's variable MaxLen holds some int. -/
import Derived.Test.YtbiokphhodeedaaGreatDoorFinD
namespace Go.Proofs.YtbiokphhodeedaaGreatDoor
open Go.RowKit Go.Proofs.YtbiokphhodeedaaGreatDoor.Am
set_option maxRecDepth 100000
theorem fine8 : prC [0] [0] (aCode Tryz.prog finGl finR 1000000 finc6 (Ck.st 186 64 fink1)) = some (.normal, fink7) := by kernel_rfl
theorem fine26 : prC [0, 1, 2, 3] [0, 326, 327, 328] (aCode Tryz.prog finGl finR 1000000 finc24 (Ck.st 186 64 fink19)) = some (.normal, fink25) := by kernel_rfl
theorem fine42 : prS [0, 1, 2, 3, 4, 28, 29, 30, 31, 32, 33, 34, 35, 36, 37, 38, 39] [0, 326, 327, 328] (aRnd Tryz.prog finGl finR 1000000 finc38 6 (Ck.st 186 64 fink39)) = some fink41 := by kernel_rfl
theorem fine48 : prS [0, 1, 2, 3, 4, 28, 29, 30, 31, 32, 33, 34, 35, 36, 37, 38, 39] [0, 326, 327, 328] (aRnd Tryz.prog finGl finR 1000000 finc38 2 (Ck.st 186 64 fink45)) = some fink47 := by kernel_rfl
theorem fine61 : prC [0, 2, 3, 5] [0, 327, 328] (aCode Tryz.prog finGl finR 1000000 finc59 (Ck.st 186 64 fink51)) = some (.normal, fink60) := by kernel_rfl
theorem fine72 : prS [0, 2, 3, 5, 6, 7, 40, 41, 42, 43, 44, 45, 46, 47, 48, 49, 50, 51, 52, 53, 54, 55, 56, 57, 58, 59, 60, 61, 62, 63] [0, 327, 328, 3848, 3869, 3874, 3876] (aRnd Tryz.prog finGl finR 1000000 finc66 4 (Ck.st 186 64 fink69)) = some fink71 := by kernel_rfl
theorem fine78 : prC [0, 3] [0, 328] (aCode Tryz.prog finGl finR 1000000 finc66 (Ck.st 186 64 fink75)) = some ((.exit 2), fink77) := by kernel_rfl
theorem fine98 : prC [0, 12, 14] [0] (aCode Tryz.prog finGl finR 1000000 finc96 (Ck.st 186 64 fink91)) = some (.normal, fink97) := by kernel_rfl
theorem fine116 : prC [0, 12, 14, 16, 17, 18, 19] [0, 5004, 5012, 5019, 5021] (aCode Tryz.prog finGl finR 1000000 finc114 (Ck.st 186 64 fink109)) = some (.normal, fink115) := by kernel_rfl
theorem fine133 : prC [0, 2, 3] [0, 5004, 5012, 5019, 5021, 5023, 5064] (aCode Tryz.prog finGl finR 1000000 finc131 (Ck.st 17 64 fink129)) = some (.normal, fink132) := by kernel_rfl
theorem fine149 : prS [0, 12, 14, 16, 17, 18, 22] [0, 5004, 5012, 5019, 5021] (aOps Tryz.prog finGl finR (opsC finc126) 6 3 (Ck.st 186 64 fink147)) = some fink148 := by kernel_rfl
end Go.Proofs.YtbiokphhodeedaaGreatDoor
