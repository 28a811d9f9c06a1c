/- The walk of WalKnown, run by the abstract machine in pieces: the closed statement answers true, whatever the memory. -/
import Derived.Test.YteeabadldfkdiaaDoorAm26
import Derived.Test.YteeabadldfkdiaaDoorProg
import Derived.Lib.LaidTab
import Derived.KernelRfl
namespace Go.Proofs.YteeabadldfkdiaaDoor
open Go.RowKit Go.Proofs.YteeabadldfkdiaaDoor.Am

def wkXs : List (Nat × Nat × Nat) := [(77, 1, 0), (100, 2, 0), (75, 2, 0)]
theorem wkXsOK : xtAll Tryd.prog wkXs :=
  ⟨⟨by kernel_rfl, says1 (by kernel_rfl)⟩, ⟨by kernel_rfl, says2 (by kernel_rfl)⟩, ⟨by kernel_rfl, says2 (by kernel_rfl)⟩, trivial⟩
def wkL1 : List Nat := [0, 498536548, 997073096, 651767980, 1994146192, 1802195444, 1303535960, 1342533948, 3988292384, 4027552580, 3604390888, 3412177804, 2607071920, 2262029012, 2685067896, 3183342108]
def wkT1 : List Int := wkL1.map Int.ofNat
def wkV1 : List AV := [.int .u32 0, .int .u32 498536548, .int .u32 997073096, .int .u32 651767980, .int .u32 1994146192, .int .u32 1802195444, .int .u32 1303535960, .int .u32 1342533948, .int .u32 3988292384, .int .u32 4027552580, .int .u32 3604390888, .int .u32 3412177804, .int .u32 2607071920, .int .u32 2262029012, .int .u32 2685067896, .int .u32 3183342108]
def wkGs : List (Nat × List AV) := [(1, wkV1)]
noncomputable def wkOver (_f : FuncId) : Option (List AV → AH → Option (AV × AH)) := none
noncomputable def wkGl : Gl Tryd.prog := Gl.mkG Tryd.prog wkGs wkXs wkXsOK
theorem wkOver_ok : OverOK Tryd.prog wkGl wkOver := by
  intro f g hf args h v h' e
  unfold wkOver at hf
  cases hf
theorem wkMix : Tryd.prog.follows .mixedOrders = true := by kernel_rfl
noncomputable def wkR : Rec := aRec Tryd.prog wkGl wkOver 1000000 1000000
theorem wkRa : RecAF wkR := (aCall_ok wkMix wkOver_ok 1000000 1000000).1
theorem wkRok : RecOK Tryd.prog wkGl wkR := (aCall_ok wkMix wkOver_ok 1000000 1000000).2
set_option maxRecDepth 100000
def wkG1 : CF := .row wkV1 16 true none
noncomputable def wkt0 : Code := bodyC Tryd.prog 3
noncomputable def wkstart : Ck := ck0 wkGs 64
noncomputable def wkc0 : Code := headC wkt0
def wkk1 : Ck := ⟨[(0, .bool false)], [(1, wkG1)], 64⟩
noncomputable def wkc5 : Code := tailC wkt0
noncomputable def wkc6 : Code := headC wkc5
noncomputable def wkc7 : Code := headC wkc6
def wkk8 : Ck := ⟨argL [] 0, wkk1.fams, wkk1.next⟩
noncomputable def wkc9 : Code := bodyC Tryd.prog 5
noncomputable def wkc10 : Code := headC wkc9
def wkk11 : Ck := ⟨[(0, .bool false)], [(1, wkG1)], 64⟩
noncomputable def wkc15 : Code := tailC wkc9
noncomputable def wkc16 : Code := headC wkc15
def wkF0 : CF := .row [.nilsl, .nilsl, .nilsl, .nilsl, .nilsl, .nilsl, .nilsl, .nilsl, .nilsl, .nilsl, .nilsl, .nilsl, .nilsl, .nilsl, .nilsl, .nilsl, .nilsl, .nilsl, .nilsl, .nilsl, .nilsl, .nilsl, .nilsl, .nilsl, .nilsl, .nilsl, .nilsl, .nilsl, .nilsl, .nilsl, .nilsl, .nilsl, .nilsl, .nilsl, .nilsl, .nilsl, .nilsl, .nilsl, .nilsl, .nilsl, .nilsl, .nilsl, .nilsl, .nilsl, .nilsl, .nilsl, .nilsl, .nilsl, .nilsl, .nilsl, .nilsl, .nilsl, .nilsl, .nilsl, .nilsl, .nilsl, .nilsl, .nilsl, .nilsl, .nilsl, .nilsl, .nilsl, .nilsl, .nilsl] 64 false (some 31)
def wkF1 : CF := .ob (.ents []) 0
def wkF2 : CF := .row [.sl 64 64 0 64 1 (some 64), .nilsl, .map 65, .bool false, .int .i64 (.ofNat 0), .nilsl, .int .i64 (.ofNat 0)] 7 false (some 54)
def wkk17 : Ck := ⟨[(0, .bool false), (1, .ptr 66 7 0)], [(1, wkG1), (64, wkF0), (65, wkF1), (66, wkF2)], 67⟩
noncomputable def wkc21 : Code := tailC wkc15
noncomputable def wkc22 : Code := headC wkc21
def wkF3 : CF := .row [.ptr 66 7 0, .int .i64 (.ofNat 0), .sl 72 16 0 16 1 (some 16), .int .i64 (.ofNat 0), .int .i64 (.ofNat 2), .bool false] 6 false (some 57)
def wkF4 : CF := .row (bs [0, 0, 0, 0, 0, 0, 0, 0, 0, 0, 0, 1, 12, 210, 246, 249]) 16 false (some 5)
def wkk23 : Ck := ⟨[(0, .bool false), (1, .ptr 66 7 0), (3, .ptr 67 6 0), (4, .int .i64 (.ofNat 0))], [(1, wkG1), (64, wkF0), (65, wkF1), (66, wkF2), (67, wkF3), (72, wkF4)], 93⟩
noncomputable def wkc27 : Code := tailC wkc21
def wkk28 : Ck := ⟨[(0, .bool true)], [(1, wkG1)], 291⟩
def wkk32 : Ck := ⟨[(0, .bool false), (19, .bool true)], wkk28.fams, wkk28.next⟩
def wkk33 : Ck := ⟨[(0, .bool false), (20, .bool false)], [(1, wkG1)], 291⟩
noncomputable def wkc37 : Code := tailC wkc6
def wkk38 : Ck := ⟨[(0, .bool false)], [(1, wkG1)], 291⟩
noncomputable def wkc42 : Code := tailC wkc5
noncomputable def wkc43 : Code := headC wkc42
def wkF5 : CF := .row [.nilsl, .nilsl, .nilsl, .nilsl, .nilsl, .nilsl, .nilsl] 7 false (some 31)
def wkF6 : CF := .row [.sl 291 7 0 7 1 (some 7), .nilsl, .map 292, .bool false, .int .i64 (.ofNat 0), .nilsl, .int .i64 (.ofNat 0)] 7 false (some 54)
def wkk44 : Ck := ⟨[(0, .bool false), (1, .ptr 293 7 0)], [(1, wkG1), (291, wkF5), (292, wkF1), (293, wkF6)], 294⟩
noncomputable def wkc48 : Code := tailC wkc42
noncomputable def wkc49 : Code := headC wkc48
def wkk50 : Ck := ⟨[(0, .bool false), (4, .int .i64 (.ofNat 1))], [(1, wkG1)], 294⟩
noncomputable def wkc54 : Code := tailC wkc48
noncomputable def wkc55 : Code := headC wkc54
def wkF7 : CF := .row [.sl 294 64 0 64 1 (some 64), .nilsl, .map 295, .bool false, .int .i64 (.ofNat 0), .nilsl, .int .i64 (.ofNat 0)] 7 false (some 54)
def wkk56 : Ck := ⟨[(0, .bool false), (4, .int .i64 (.ofNat 1)), (5, .ptr 296 7 0)], [(1, wkG1), (294, wkF0), (295, wkF1), (296, wkF7)], 297⟩
noncomputable def wkc60 : Code := tailC wkc54
noncomputable def wkc61 : Code := headC wkc60
def wkF8 : CF := .row [.ptr 296 7 0, .int .i64 (.ofNat 0), .sl 302 16 0 16 1 (some 16), .int .i64 (.ofNat 0), .int .i64 (.ofNat 2), .bool false] 6 false (some 57)
def wkk62 : Ck := ⟨[(0, .bool false), (4, .int .i64 (.ofNat 1)), (5, .ptr 296 7 0), (7, .ptr 297 6 0)], [(1, wkG1), (294, wkF0), (295, wkF1), (296, wkF7), (297, wkF8), (302, wkF4)], 323⟩
noncomputable def wkc66 : Code := tailC wkc60
noncomputable def wkc67 : Code := headC wkc66
def wkk68 : Ck := ⟨[(0, .bool false), (4, .int .i64 (.ofNat 1)), (5, .ptr 296 7 0), (7, .ptr 297 6 0)], [(1, wkG1), (294, wkF0), (295, wkF1), (296, wkF7), (297, wkF8), (302, wkF4)], 323⟩
noncomputable def wkc72 : Code := tailC wkc66
noncomputable def wkc73 : Code := headC wkc72
def wkF9 : CF := .row [.sl 378 512 0 512 1 none, .sl 349 512 0 512 1 none, .nilsl, .nilsl, .nilsl, .nilsl, .nilsl, .nilsl, .nilsl, .nilsl, .nilsl, .nilsl, .nilsl, .nilsl, .nilsl, .nilsl, .nilsl, .nilsl, .nilsl, .nilsl, .nilsl, .nilsl, .nilsl, .nilsl, .nilsl, .nilsl, .nilsl, .nilsl, .nilsl, .nilsl, .nilsl, .nilsl, .nilsl, .nilsl, .nilsl, .nilsl, .nilsl, .nilsl, .nilsl, .nilsl, .nilsl, .nilsl, .nilsl, .nilsl, .nilsl, .nilsl, .nilsl, .nilsl, .nilsl, .nilsl, .nilsl, .nilsl, .nilsl, .nilsl, .nilsl, .nilsl, .nilsl, .nilsl, .nilsl, .nilsl, .nilsl, .nilsl, .nilsl, .nilsl] 64 false (some 31)
def wkF10 : CF := .ob (.ents []) 2
def wkF11 : CF := .row [.ptr 296 7 0, .int .i64 (.ofNat 0), .sl 346 33 0 33 1 none, .int .i64 (.ofNat 33), .int .i64 (.ofNat 3), .bool false] 6 false (some 57)
def wkF12 : CF := .row (bs [0, 0, 0, 0, 0, 0, 0, 0, 0, 0, 0, 1, 12, 210, 246, 249, 0, 0, 0, 1, 0, 0, 0, 0, 0, 0, 0, 2, 97, 232, 53, 30, 240]) 33 false (some 5)
def wkF13 : CF := .row (bs [0, 0, 0, 0, 0, 0, 0, 0, 0, 0, 0, 1, 12, 210, 246, 249, 0, 0, 0, 1, 0, 0, 0, 0, 0, 0, 0, 2, 97, 232, 53, 30, 240, 0, 0, 0, 0, 0, 0, 0, 0, 0, 0, 0, 0, 0, 0, 0, 0, 0, 0, 0, 0, 0, 0, 0, 0, 0, 0, 0, 0, 0, 0, 0, 0, 0, 0, 0, 0, 0, 0, 0, 0, 0, 0, 0, 0, 0, 0, 0, 0, 0, 0, 0, 0, 0, 0, 0, 0, 0, 0, 0, 0, 0, 0, 0, 0, 0, 0, 0, 0, 0, 0, 0, 0, 0, 0, 0, 0, 0, 0, 0, 0, 0, 0, 0, 0, 0, 0, 0, 0, 0, 0, 0, 0, 0, 0, 0, 0, 0, 0, 0, 0, 0, 0, 0, 0, 0, 0, 0, 0, 0, 0, 0, 0, 0, 0, 0, 0, 0, 0, 0, 0, 0, 0, 0, 0, 0, 0, 0, 0, 0, 0, 0, 0, 0, 0, 0, 0, 0, 0, 0, 0, 0, 0, 0, 0, 0, 0, 0, 0, 0, 0, 0, 0, 0, 0, 0, 0, 0, 0, 0, 0, 0, 0, 0, 0, 0, 0, 0, 0, 0, 0, 0, 0, 0, 0, 0, 0, 0, 0, 0, 0, 0, 0, 0, 0, 0, 0, 0, 0, 0, 0, 0, 0, 0, 0, 0, 0, 0, 0, 0, 0, 0, 0, 0, 0, 0, 0, 0, 0, 0, 0, 0, 0, 0, 0, 0, 0, 0, 0, 0, 0, 0, 0, 0, 0, 0, 0, 0, 0, 0, 0, 0, 0, 0, 0, 0, 0, 0, 0, 0, 0, 0, 0, 0, 0, 0, 0, 0, 0, 0, 0, 0, 0, 0, 0, 0, 0, 0, 0, 0, 0, 0, 0, 0, 0, 0, 0, 0, 0, 0, 0, 0, 0, 0, 0, 0, 0, 0, 0, 0, 0, 0, 0, 0, 0, 0, 0, 0, 0, 0, 0, 0, 0, 0, 0, 0, 0, 0, 0, 0, 0, 0, 0, 0, 0, 0, 0, 0, 0, 0, 0, 0, 0, 0, 0, 0, 0, 0, 0, 0, 0, 0, 0, 0, 0, 0, 0, 0, 0, 0, 0, 0, 0, 0, 0, 0, 0, 0, 0, 0, 0, 0, 0, 0, 0, 0, 0, 0, 0, 0, 0, 0, 0, 0, 0, 0, 0, 0, 0, 0, 0, 0, 0, 0, 0, 0, 0, 0, 0, 0, 0, 0, 0, 0, 0, 0, 0, 0, 0, 0, 0, 0, 0, 0, 0, 0, 0, 0, 0, 0, 0, 0, 0, 0, 0, 0, 0, 0, 0, 0, 0, 0, 0, 0, 0, 0, 0, 0, 0, 0, 0, 0, 0, 0, 0, 0, 0, 0, 0, 0, 0, 0, 0, 0, 0, 0, 0, 0, 0, 0, 0, 0, 0, 0, 0, 0, 0, 0, 0, 0, 0, 0, 0, 0, 0, 0, 0, 0, 0, 0, 0, 0, 0, 0, 0, 0, 0, 0, 0, 0, 0, 0, 0, 0, 0, 0, 0, 0, 0, 0, 0, 0, 0, 0, 0, 0, 0, 0, 0, 0]) 512 false (some 5)
def wkF14 : CF := .row (bs [0, 0, 0, 5, 0, 0, 0, 0, 0, 0, 0, 1, 0, 0, 0, 0, 33, 202, 121, 92, 43, 0, 0, 0, 0, 0, 0, 0, 0, 0, 0, 0, 0, 0, 0, 0, 0, 0, 0, 0, 0, 0, 0, 0, 0, 0, 0, 0, 0, 0, 0, 0, 0, 0, 0, 0, 0, 0, 0, 0, 0, 0, 0, 0, 0, 0, 0, 0, 0, 0, 0, 0, 0, 0, 0, 0, 0, 0, 0, 0, 0, 0, 0, 0, 0, 0, 0, 0, 0, 0, 0, 0, 0, 0, 0, 0, 0, 0, 0, 0, 0, 0, 0, 0, 0, 0, 0, 0, 0, 0, 0, 0, 0, 0, 0, 0, 0, 0, 0, 0, 0, 0, 0, 0, 0, 0, 0, 0, 0, 0, 0, 0, 0, 0, 0, 0, 0, 0, 0, 0, 0, 0, 0, 0, 0, 0, 0, 0, 0, 0, 0, 0, 0, 0, 0, 0, 0, 0, 0, 0, 0, 0, 0, 0, 0, 0, 0, 0, 0, 0, 0, 0, 0, 0, 0, 0, 0, 0, 0, 0, 0, 0, 0, 0, 0, 0, 0, 0, 0, 0, 0, 0, 0, 0, 0, 0, 0, 0, 0, 0, 0, 0, 0, 0, 0, 0, 0, 0, 0, 0, 0, 0, 0, 0, 0, 0, 0, 0, 0, 0, 0, 0, 0, 0, 0, 0, 0, 0, 0, 0, 0, 0, 0, 0, 0, 0, 0, 0, 0, 0, 0, 0, 0, 0, 0, 0, 0, 0, 0, 0, 0, 0, 0, 0, 0, 0, 0, 0, 0, 0, 0, 0, 0, 0, 0, 0, 0, 0, 0, 0, 0, 0, 0, 0, 0, 0, 0, 0, 0, 0, 0, 0, 0, 0, 0, 0, 0, 0, 0, 0, 0, 0, 0, 0, 0, 0, 0, 0, 0, 0, 0, 0, 0, 0, 0, 0, 0, 0, 0, 0, 0, 0, 0, 0, 0, 0, 0, 0, 0, 0, 0, 0, 0, 0, 0, 0, 0, 0, 0, 0, 0, 0, 0, 0, 0, 0, 0, 0, 0, 0, 0, 0, 0, 0, 0, 0, 0, 0, 0, 0, 0, 0, 0, 0, 0, 0, 0, 0, 0, 0, 0, 0, 0, 0, 0, 0, 0, 0, 0, 0, 0, 0, 0, 0, 0, 0, 0, 0, 0, 0, 0, 0, 0, 0, 0, 0, 0, 0, 0, 0, 0, 0, 0, 0, 0, 0, 0, 0, 0, 0, 0, 0, 0, 0, 0, 0, 0, 0, 0, 0, 0, 0, 0, 0, 0, 0, 0, 0, 0, 0, 0, 0, 0, 0, 0, 0, 0, 0, 0, 0, 0, 0, 0, 0, 0, 0, 0, 0, 0, 0, 0, 0, 0, 0, 0, 0, 0, 0, 0, 0, 0, 0, 0, 0, 0, 0, 0, 0, 0, 0, 0, 0, 0, 0, 0, 0, 0, 0, 0, 0, 0, 0, 0, 0, 0, 0, 0, 0, 0, 0, 0, 0, 0, 0, 0, 0, 0, 0, 0, 0, 0, 0, 0, 0, 0, 0, 0, 0, 0, 0, 0, 0, 0, 0, 0, 0, 0, 0, 0, 0, 0, 0]) 512 false (some 5)
def wkk74 : Ck := ⟨[(0, .bool false), (4, .int .i64 (.ofNat 1)), (5, .ptr 296 7 0), (7, .ptr 297 6 0)], [(1, wkG1), (294, wkF9), (295, wkF10), (296, wkF7), (297, wkF11), (346, wkF12), (349, wkF13), (378, wkF14)], 382⟩
noncomputable def wkc78 : Code := tailC wkc72
def wkk79 : Ck := ⟨[(0, .bool true)], [(1, wkG1)], 606⟩
end Go.Proofs.YteeabadldfkdiaaDoor
