/- The walk of FindKnown, run by the abstract machine in pieces: the closed statement answers true, whatever the memory, where the library's variable MaxLen holds some int. -/
import Derived.Test.YtbiokphhodeedaaGreatDoorAm26
import Derived.Test.YtbiokphhodeedaaGreatDoorProg
import Derived.Test.YtbiokphhodeedaaGreatDoorShelf
import Derived.KernelRfl
namespace Go.Proofs.YtbiokphhodeedaaGreatDoor
open Go.RowKit Go.Proofs.YtbiokphhodeedaaGreatDoor.Am

def finXs : List (Nat × Nat × Nat) := [(142, 1, 0), (132, 2, 0), (117, 2, 0), (122, 3, 0), (143, 4, 5), (81, 5, 0)]
theorem finXsOK : xtAll Tryz.prog finXs :=
  ⟨⟨by kernel_rfl, says1 (by kernel_rfl)⟩, ⟨by kernel_rfl, says2 (by kernel_rfl)⟩, ⟨by kernel_rfl, says2 (by kernel_rfl)⟩, ⟨by kernel_rfl, says3 (by kernel_rfl)⟩, ⟨by kernel_rfl, says4 #[3] 39 (by kernel_rfl) (by kernel_rfl)⟩, ⟨by kernel_rfl, says5 (by kernel_rfl)⟩, trivial⟩
def finV0 : List AV := [.unk .i64]
def finGs : List (Nat × List AV) := [(0, finV0)]
noncomputable def finOver (f : FuncId) : Option (List AV → AH → Option (AV × AH)) := cond (Nat.beq f 68) (some (ovIndex 0)) (cond (Nat.beq f 66) (some (ovIndexS 0)) (none))
theorem finCon : IdxCon Tryz.prog 68 0 where
  none p q n c d w := Tryz.bytes_Index_none p q n c d w
  nil p2 k c2 w h1 h2 := Tryz.bytes_Index_nil p2 k c2 w h1 h2
  full a1 a2 n c1 k c2 xs ys m w hx hy h1 h2 h3 h4 h5 h6 h7 h8 := (Tryz.bytes_Index_at a1 a2 n c1 k c2 xs ys m w hx hy h1 h2 h3 h4 h5 h6 h7 h8).mono fun e w' ⟨he, q, hq⟩ => ⟨he, by rw [hq]; rfl⟩
theorem finConS : IdxConS Tryz.prog 66 0 := fun s t m w hs hm => Tryz.strings_Index s t m w hs hm
noncomputable def finGl : Gl Tryz.prog := Gl.mkG Tryz.prog finGs finXs finXsOK
theorem finOver_ok : OverOK Tryz.prog finGl finOver := by
  intro f g hf args h v h' e
  unfold finOver at hf
  cases h_ovIndex : Nat.beq f 68 with
  | true =>
    have := Nat.eq_of_beq_eq_true h_ovIndex
    subst this
    rw [h_ovIndex] at hf
    injection hf with hf
    subst hf
    exact ovIndex_ok finCon rfl args h v h' e
  | false =>
    rw [h_ovIndex] at hf
    cases h_ovIndexS : Nat.beq f 66 with
    | true =>
      have := Nat.eq_of_beq_eq_true h_ovIndexS
      subst this
      rw [h_ovIndexS] at hf
      injection hf with hf
      subst hf
      exact ovIndexS_ok finConS rfl args h v h' e
    | false =>
      rw [h_ovIndexS] at hf
      cases hf
theorem finMix : Tryz.prog.follows .mixedOrders = true := by kernel_rfl
noncomputable def finR : Rec := aRec Tryz.prog finGl finOver 1000000 1000000
theorem finRa : RecAF finR := (aCall_ok finMix finOver_ok 1000000 1000000).1
theorem finRok : RecOK Tryz.prog finGl finR := (aCall_ok finMix finOver_ok 1000000 1000000).2
set_option maxRecDepth 100000
def finG0 : CF := .row finV0 1 true none
noncomputable def fint0 : Code := bodyC Tryz.prog 3
noncomputable def finstart : Ck := ck0 finGs 64
noncomputable def finc0 : Code := headC fint0
def fink1 : Ck := ⟨[(0, .bool false)], [(0, finG0)], 64⟩
noncomputable def finc5 : Code := tailC fint0
noncomputable def finc6 : Code := headC finc5
def fink7 : Ck := ⟨[(0, .bool false)], [(0, finG0)], 326⟩
noncomputable def finc11 : Code := tailC finc5
noncomputable def finc12 : Code := headC finc11
def finF0 : CF := .row [.str [97, 108, 108], .str [107, 101, 121, 119, 111, 114, 100, 32, 75], .str [117, 110, 107, 101, 121, 119, 111, 114, 100, 32, 122], .str [115, 117, 98, 106, 101, 99, 116, 32, 104, 73], .str [104, 101, 97, 100, 101, 114, 32, 102, 114, 111, 109, 32, 78], .str [98, 111, 100, 121, 32, 119, 111, 114, 100], .str [116, 101, 120, 116, 32, 115, 117, 98, 106, 101, 99, 116], .str [108, 97, 114, 103, 101, 114, 32, 53], .str [115, 109, 97, 108, 108, 101, 114, 32, 57, 57], .str [111, 110, 32, 50, 45, 74, 97, 110, 45, 49, 57, 55, 48], .str [115, 105, 110, 99, 101, 32, 49, 45, 74, 97, 110, 45, 49, 57, 55, 48], .str [115, 105, 110, 99, 101, 32, 50, 45, 74, 97, 110, 45, 49, 57, 55, 48], .str [98, 101, 102, 111, 114, 101, 32, 51, 45, 74, 97, 110, 45, 49, 57, 55, 48], .str [117, 105, 100, 32, 52, 58, 54], .str [50], .str [50, 58, 42], .str [110, 111, 116, 32, 51], .str [111, 114, 32, 51, 32, 50], .str [120, 45, 103, 109, 45, 108, 97, 98, 101, 108, 115, 32, 120], .str [120, 45, 103, 109, 45, 109, 115, 103, 105, 100, 32, 55], .str [120, 45, 103, 109, 45, 116, 104, 114, 105, 100, 32, 52], .str [117, 110, 97, 110, 115, 119, 101, 114, 101, 100, 32, 110, 111, 116, 32, 100, 101, 108, 101, 116, 101, 100]] 22 false (some 9)
def fink13 : Ck := ⟨[(0, .bool false), (1, .sl 326 22 0 22 1 (some 22))], [(0, finG0), (326, finF0)], 327⟩
noncomputable def finc17 : Code := tailC finc11
noncomputable def finc18 : Code := headC finc17
def finF1 : CF := .row [.str [117, 110, 115, 101, 101, 110], .str [107, 101, 121, 119, 111, 114, 100, 32, 122], .str [117, 110, 107, 101, 121, 119, 111, 114, 100, 32, 107], .str [115, 117, 98, 106, 101, 99, 116, 32, 119, 111, 114, 100], .str [98, 111, 100, 121, 32, 97, 110, 110], .str [108, 97, 114, 103, 101, 114, 32, 57, 57], .str [115, 109, 97, 108, 108, 101, 114, 32, 53], .str [98, 101, 102, 111, 114, 101, 32, 50, 45, 74, 97, 110, 45, 49, 57, 55, 48], .str [111, 110, 32, 51, 45, 74, 97, 110, 45, 49, 57, 55, 48], .str [117, 105, 100, 32, 42], .str [51, 58, 42], .str [110, 111, 116, 32, 50], .str [111, 114, 32, 51, 32, 49], .str [120, 45, 103, 109, 45, 108, 97, 98, 101, 108, 115, 32, 88], .str [120, 45, 103, 109, 45, 109, 115, 103, 105, 100, 32, 52], .str [120, 45, 103, 109, 45, 116, 104, 114, 105, 100, 32, 55], .str [99, 99, 32, 97]] 17 false (some 9)
def fink19 : Ck := ⟨[(0, .bool false), (1, .sl 326 22 0 22 1 (some 22)), (2, .sl 327 17 0 17 1 (some 17))], [(0, finG0), (326, finF0), (327, finF1)], 328⟩
noncomputable def finc23 : Code := tailC finc17
noncomputable def finc24 : Code := headC finc23
def finF2 : CF := .row [.str [119, 104, 97, 116], .str [102, 114, 111, 109], .str [108, 97, 114, 103, 101, 114, 32, 120], .str [111, 110, 32, 51, 50, 45, 74, 97, 110, 45, 49, 57, 55, 48], .str [48], .str [110, 111, 116], .str [111, 114, 32, 49], .str [117, 105, 100, 32, 120], .str [107, 101, 121, 119, 111, 114, 100, 32, 92, 120], .str [104, 101, 97, 100, 101, 114, 32, 97]] 10 false (some 9)
def fink25 : Ck := ⟨[(0, .bool false), (1, .sl 326 22 0 22 1 (some 22)), (2, .sl 327 17 0 17 1 (some 17)), (3, .sl 328 10 0 10 1 (some 10))], [(0, finG0), (326, finF0), (327, finF1), (328, finF2)], 329⟩
noncomputable def finc29 : Code := tailC finc23
noncomputable def finc30 : Code := headC finc29
noncomputable def finc31 : Code := headC finc30
def fink32 : Ck := ⟨[(0, .bool false), (1, .sl 326 22 0 22 1 (some 22)), (2, .sl 327 17 0 17 1 (some 17)), (3, .sl 328 10 0 10 1 (some 10)), (4, .int .i64 (.ofNat 0))], [(0, finG0), (326, finF0), (327, finF1), (328, finF2)], 329⟩
noncomputable def finc36 : Code := tailC finc30
noncomputable def finc37 : Code := innerC finc36
noncomputable def finc38 : Code := innerC finc37
def fink39 : Ck := ⟨[(0, .bool false), (1, .sl 326 22 0 22 1 (some 22)), (2, .sl 327 17 0 17 1 (some 17)), (3, .sl 328 10 0 10 1 (some 10)), (4, .int .i64 (.ofNat 5)), (28, .int .i64 (.ofNat 4)), (29, .sl 326 22 0 22 1 (some 22)), (30, .int .i64 (.ofNat 22)), (31, .bool true), (32, .int .i64 (.ofNat 4)), (33, .int .i64 (.ofNat 5)), (34, .sl 326 22 0 22 1 (some 22)), (35, .int .i64 (.ofNat 4)), (36, .ptr 326 22 4), (37, .str [104, 101, 97, 100, 101, 114, 32, 102, 114, 111, 109, 32, 78]), (38, .bool true), (39, .bool false)], [(0, finG0), (326, finF0), (327, finF1), (328, finF2)], 859⟩
def fink41 : Ck := ⟨[(0, .bool false), (1, .sl 326 22 0 22 1 (some 22)), (2, .sl 327 17 0 17 1 (some 17)), (3, .sl 328 10 0 10 1 (some 10)), (4, .int .i64 (.ofNat 11)), (28, .int .i64 (.ofNat 10)), (29, .sl 326 22 0 22 1 (some 22)), (30, .int .i64 (.ofNat 22)), (31, .bool true), (32, .int .i64 (.ofNat 10)), (33, .int .i64 (.ofNat 11)), (34, .sl 326 22 0 22 1 (some 22)), (35, .int .i64 (.ofNat 10)), (36, .ptr 326 22 10), (37, .str [115, 105, 110, 99, 101, 32, 49, 45, 74, 97, 110, 45, 49, 57, 55, 48]), (38, .bool true), (39, .bool false)], [(0, finG0), (326, finF0), (327, finF1), (328, finF2)], 1383⟩
def fink43 : Ck := ⟨[(0, .bool false), (1, .sl 326 22 0 22 1 (some 22)), (2, .sl 327 17 0 17 1 (some 17)), (3, .sl 328 10 0 10 1 (some 10)), (4, .int .i64 (.ofNat 16)), (28, .int .i64 (.ofNat 15)), (29, .sl 326 22 0 22 1 (some 22)), (30, .int .i64 (.ofNat 22)), (31, .bool true), (32, .int .i64 (.ofNat 15)), (33, .int .i64 (.ofNat 16)), (34, .sl 326 22 0 22 1 (some 22)), (35, .int .i64 (.ofNat 15)), (36, .ptr 326 22 15), (37, .str [50, 58, 42]), (38, .bool true), (39, .bool false)], [(0, finG0), (326, finF0), (327, finF1), (328, finF2)], 1840⟩
def fink45 : Ck := ⟨[(0, .bool false), (1, .sl 326 22 0 22 1 (some 22)), (2, .sl 327 17 0 17 1 (some 17)), (3, .sl 328 10 0 10 1 (some 10)), (4, .int .i64 (.ofNat 19)), (28, .int .i64 (.ofNat 18)), (29, .sl 326 22 0 22 1 (some 22)), (30, .int .i64 (.ofNat 22)), (31, .bool true), (32, .int .i64 (.ofNat 18)), (33, .int .i64 (.ofNat 19)), (34, .sl 326 22 0 22 1 (some 22)), (35, .int .i64 (.ofNat 18)), (36, .ptr 326 22 18), (37, .str [120, 45, 103, 109, 45, 108, 97, 98, 101, 108, 115, 32, 120]), (38, .bool true), (39, .bool false)], [(0, finG0), (326, finF0), (327, finF1), (328, finF2)], 2153⟩
def fink47 : Ck := ⟨[(0, .bool false), (1, .sl 326 22 0 22 1 (some 22)), (2, .sl 327 17 0 17 1 (some 17)), (3, .sl 328 10 0 10 1 (some 10)), (4, .int .i64 (.ofNat 21)), (28, .int .i64 (.ofNat 20)), (29, .sl 326 22 0 22 1 (some 22)), (30, .int .i64 (.ofNat 22)), (31, .bool true), (32, .int .i64 (.ofNat 20)), (33, .int .i64 (.ofNat 21)), (34, .sl 326 22 0 22 1 (some 22)), (35, .int .i64 (.ofNat 20)), (36, .ptr 326 22 20), (37, .str [120, 45, 103, 109, 45, 116, 104, 114, 105, 100, 32, 52]), (38, .bool true), (39, .bool false)], [(0, finG0), (326, finF0), (327, finF1), (328, finF2)], 2327⟩
def fink49 : Ck := ⟨[(0, .bool false), (1, .sl 326 22 0 22 1 (some 22)), (2, .sl 327 17 0 17 1 (some 17)), (3, .sl 328 10 0 10 1 (some 10)), (4, .int .i64 (.ofNat 22)), (28, .int .i64 (.ofNat 21)), (29, .sl 326 22 0 22 1 (some 22)), (30, .int .i64 (.ofNat 22)), (31, .bool true), (32, .int .i64 (.ofNat 21)), (33, .int .i64 (.ofNat 22)), (34, .sl 326 22 0 22 1 (some 22)), (35, .int .i64 (.ofNat 21)), (36, .ptr 326 22 21), (37, .str [117, 110, 97, 110, 115, 119, 101, 114, 101, 100, 32, 110, 111, 116, 32, 100, 101, 108, 101, 116, 101, 100]), (38, .bool true), (39, .bool false)], [(0, finG0), (326, finF0), (327, finF1), (328, finF2)], 2483⟩
def fink51 : Ck := ⟨[(0, .bool false), (2, .sl 327 17 0 17 1 (some 17)), (3, .sl 328 10 0 10 1 (some 10))], [(0, finG0), (327, finF1), (328, finF2)], 2483⟩
noncomputable def finc57 : Code := tailC finc29
noncomputable def finc58 : Code := headC finc57
noncomputable def finc59 : Code := headC finc58
def fink60 : Ck := ⟨[(0, .bool false), (2, .sl 327 17 0 17 1 (some 17)), (3, .sl 328 10 0 10 1 (some 10)), (5, .int .i64 (.ofNat 0))], [(0, finG0), (327, finF1), (328, finF2)], 2483⟩
noncomputable def finc64 : Code := tailC finc58
noncomputable def finc65 : Code := innerC finc64
noncomputable def finc66 : Code := innerC finc65
def finF3 : CF := .row [.str [117, 110, 107, 101, 121, 119, 111, 114, 100], .bool false, .nilsl, .bool false, .str [107], .bool false, .nilsl, .bool false] 4 false (some 37)
def finF4 : CF := .row [.int .i64 (.ofNat 4), .str [107], .str [], .int .i64 (.ofNat 1), .nilsl, .nilsl] 6 false (some 30)
def finF5 : CF := .row [.int .i64 (.ofNat 13), .str [], .str [], .int .i64 (.ofNat 0), .nilsl, .sl 2847 6 0 1 6 none] 6 false (some 30)
def fink67 : Ck := ⟨[(0, .bool false), (2, .sl 327 17 0 17 1 (some 17)), (3, .sl 328 10 0 10 1 (some 10)), (5, .int .i64 (.ofNat 3)), (6, .ptr 2849 6 0), (7, .int .i64 (.ofNat 0)), (40, .int .i64 (.ofNat 2)), (41, .sl 327 17 0 17 1 (some 17)), (42, .int .i64 (.ofNat 17)), (43, .bool true), (44, .int .i64 (.ofNat 2)), (45, .int .i64 (.ofNat 3)), (46, .tuple [.agg [.int .i64 (.ofNat 13), .str [], .str [], .int .i64 (.ofNat 0), .nilsl, .sl 2847 6 0 1 6 none], .int .i64 (.ofNat 0)]), (47, .sl 327 17 0 17 1 (some 17)), (48, .int .i64 (.ofNat 2)), (49, .ptr 327 17 2), (50, .str [117, 110, 107, 101, 121, 119, 111, 114, 100, 32, 107]), (51, .sl 2798 8 0 2 4 none), (52, .tuple [.agg [.int .i64 (.ofNat 13), .str [], .str [], .int .i64 (.ofNat 0), .nilsl, .sl 2847 6 0 1 6 none], .int .i64 (.ofNat 0)]), (53, .agg [.int .i64 (.ofNat 13), .str [], .str [], .int .i64 (.ofNat 0), .nilsl, .sl 2847 6 0 1 6 none]), (54, .int .i64 (.ofNat 0)), (55, .int .i64 (.ofNat 0)), (56, .bool false), (57, .bool false), (58, .sl 327 17 0 17 1 (some 17)), (59, .int .i64 (.ofNat 2)), (60, .ptr 327 17 2), (61, .str [117, 110, 107, 101, 121, 119, 111, 114, 100, 32, 107]), (62, .bool false), (63, .bool false)], [(0, finG0), (327, finF1), (328, finF2), (2798, finF3), (2847, finF4), (2849, finF5)], 2959⟩
def finF6 : CF := .row [.str [115, 109, 97, 108, 108, 101, 114], .bool false, .nilsl, .bool false, .str [53], .bool false, .nilsl, .bool false] 4 false (some 37)
def finF7 : CF := .row [.int .i64 (.ofNat 7), .str [], .str [60], .int .i64 (.ofNat 5), .nilsl, .nilsl] 6 false (some 30)
def finF8 : CF := .row [.int .i64 (.ofNat 13), .str [], .str [], .int .i64 (.ofNat 0), .nilsl, .sl 3371 6 0 1 6 none] 6 false (some 30)
def fink69 : Ck := ⟨[(0, .bool false), (2, .sl 327 17 0 17 1 (some 17)), (3, .sl 328 10 0 10 1 (some 10)), (5, .int .i64 (.ofNat 7)), (6, .ptr 3373 6 0), (7, .int .i64 (.ofNat 0)), (40, .int .i64 (.ofNat 6)), (41, .sl 327 17 0 17 1 (some 17)), (42, .int .i64 (.ofNat 17)), (43, .bool true), (44, .int .i64 (.ofNat 6)), (45, .int .i64 (.ofNat 7)), (46, .tuple [.agg [.int .i64 (.ofNat 13), .str [], .str [], .int .i64 (.ofNat 0), .nilsl, .sl 3371 6 0 1 6 none], .int .i64 (.ofNat 0)]), (47, .sl 327 17 0 17 1 (some 17)), (48, .int .i64 (.ofNat 6)), (49, .ptr 327 17 6), (50, .str [115, 109, 97, 108, 108, 101, 114, 32, 53]), (51, .sl 3342 8 0 2 4 none), (52, .tuple [.agg [.int .i64 (.ofNat 13), .str [], .str [], .int .i64 (.ofNat 0), .nilsl, .sl 3371 6 0 1 6 none], .int .i64 (.ofNat 0)]), (53, .agg [.int .i64 (.ofNat 13), .str [], .str [], .int .i64 (.ofNat 0), .nilsl, .sl 3371 6 0 1 6 none]), (54, .int .i64 (.ofNat 0)), (55, .int .i64 (.ofNat 0)), (56, .bool false), (57, .bool false), (58, .sl 327 17 0 17 1 (some 17)), (59, .int .i64 (.ofNat 6)), (60, .ptr 327 17 6), (61, .str [115, 109, 97, 108, 108, 101, 114, 32, 53]), (62, .bool false), (63, .bool false)], [(0, finG0), (327, finF1), (328, finF2), (3342, finF6), (3371, finF7), (3373, finF8)], 3461⟩
def finF9 : CF := .row [.str [51, 58, 42], .bool false, .nilsl, .bool false] 4 false (some 37)
def finF10 : CF := .row [.int .i64 (.ofNat 3), .int .i64 (.ofNat 0)] 2 false (some 97)
def finF11 : CF := .row [.int .i64 (.ofNat 10), .str [], .str [], .int .i64 (.ofNat 0), .sl 3869 2 0 1 2 none, .nilsl] 6 false (some 30)
def finF12 : CF := .row [.int .i64 (.ofNat 13), .str [], .str [], .int .i64 (.ofNat 0), .nilsl, .sl 3874 6 0 1 6 none] 6 false (some 30)
def fink71 : Ck := ⟨[(0, .bool false), (2, .sl 327 17 0 17 1 (some 17)), (3, .sl 328 10 0 10 1 (some 10)), (5, .int .i64 (.ofNat 11)), (6, .ptr 3876 6 0), (7, .int .i64 (.ofNat 0)), (40, .int .i64 (.ofNat 10)), (41, .sl 327 17 0 17 1 (some 17)), (42, .int .i64 (.ofNat 17)), (43, .bool true), (44, .int .i64 (.ofNat 10)), (45, .int .i64 (.ofNat 11)), (46, .tuple [.agg [.int .i64 (.ofNat 13), .str [], .str [], .int .i64 (.ofNat 0), .nilsl, .sl 3874 6 0 1 6 none], .int .i64 (.ofNat 0)]), (47, .sl 327 17 0 17 1 (some 17)), (48, .int .i64 (.ofNat 10)), (49, .ptr 327 17 10), (50, .str [51, 58, 42]), (51, .sl 3848 4 0 1 4 none), (52, .tuple [.agg [.int .i64 (.ofNat 13), .str [], .str [], .int .i64 (.ofNat 0), .nilsl, .sl 3874 6 0 1 6 none], .int .i64 (.ofNat 0)]), (53, .agg [.int .i64 (.ofNat 13), .str [], .str [], .int .i64 (.ofNat 0), .nilsl, .sl 3874 6 0 1 6 none]), (54, .int .i64 (.ofNat 0)), (55, .int .i64 (.ofNat 0)), (56, .bool false), (57, .bool false), (58, .sl 327 17 0 17 1 (some 17)), (59, .int .i64 (.ofNat 10)), (60, .ptr 327 17 10), (61, .str [51, 58, 42]), (62, .bool false), (63, .bool false)], [(0, finG0), (327, finF1), (328, finF2), (3848, finF9), (3869, finF10), (3874, finF11), (3876, finF12)], 3967⟩
def finF13 : CF := .row [.str [120, 45, 103, 109, 45, 109, 115, 103, 105, 100], .bool false, .nilsl, .bool false, .str [52], .bool false, .nilsl, .bool false] 4 false (some 37)
def finF14 : CF := .row [.int .i64 (.ofNat 15), .str [], .str [], .int .i64 (.ofNat 4), .nilsl, .nilsl] 6 false (some 30)
def finF15 : CF := .row [.int .i64 (.ofNat 13), .str [], .str [], .int .i64 (.ofNat 0), .nilsl, .sl 4443 6 0 1 6 none] 6 false (some 30)
def fink73 : Ck := ⟨[(0, .bool false), (2, .sl 327 17 0 17 1 (some 17)), (3, .sl 328 10 0 10 1 (some 10)), (5, .int .i64 (.ofNat 15)), (6, .ptr 4445 6 0), (7, .int .i64 (.ofNat 0)), (40, .int .i64 (.ofNat 14)), (41, .sl 327 17 0 17 1 (some 17)), (42, .int .i64 (.ofNat 17)), (43, .bool true), (44, .int .i64 (.ofNat 14)), (45, .int .i64 (.ofNat 15)), (46, .tuple [.agg [.int .i64 (.ofNat 13), .str [], .str [], .int .i64 (.ofNat 0), .nilsl, .sl 4443 6 0 1 6 none], .int .i64 (.ofNat 0)]), (47, .sl 327 17 0 17 1 (some 17)), (48, .int .i64 (.ofNat 14)), (49, .ptr 327 17 14), (50, .str [120, 45, 103, 109, 45, 109, 115, 103, 105, 100, 32, 52]), (51, .sl 4414 8 0 2 4 none), (52, .tuple [.agg [.int .i64 (.ofNat 13), .str [], .str [], .int .i64 (.ofNat 0), .nilsl, .sl 4443 6 0 1 6 none], .int .i64 (.ofNat 0)]), (53, .agg [.int .i64 (.ofNat 13), .str [], .str [], .int .i64 (.ofNat 0), .nilsl, .sl 4443 6 0 1 6 none]), (54, .int .i64 (.ofNat 0)), (55, .int .i64 (.ofNat 0)), (56, .bool false), (57, .bool false), (58, .sl 327 17 0 17 1 (some 17)), (59, .int .i64 (.ofNat 14)), (60, .ptr 327 17 14), (61, .str [120, 45, 103, 109, 45, 109, 115, 103, 105, 100, 32, 52]), (62, .bool false), (63, .bool false)], [(0, finG0), (327, finF1), (328, finF2), (4414, finF13), (4443, finF14), (4445, finF15)], 4533⟩
def finF16 : CF := .row [.str [99, 99], .bool false, .nilsl, .bool false, .str [97], .bool false, .nilsl, .bool false] 4 false (some 37)
def finF17 : CF := .row [.int .i64 (.ofNat 5), .str [97], .str [99, 99], .int .i64 (.ofNat 0), .nilsl, .nilsl] 6 false (some 30)
def finF18 : CF := .row [.int .i64 (.ofNat 13), .str [], .str [], .int .i64 (.ofNat 0), .nilsl, .sl 4679 6 0 1 6 none] 6 false (some 30)
def fink75 : Ck := ⟨[(0, .bool false), (2, .sl 327 17 0 17 1 (some 17)), (3, .sl 328 10 0 10 1 (some 10)), (5, .int .i64 (.ofNat 17)), (6, .ptr 4681 6 0), (7, .int .i64 (.ofNat 0)), (40, .int .i64 (.ofNat 16)), (41, .sl 327 17 0 17 1 (some 17)), (42, .int .i64 (.ofNat 17)), (43, .bool true), (44, .int .i64 (.ofNat 16)), (45, .int .i64 (.ofNat 17)), (46, .tuple [.agg [.int .i64 (.ofNat 13), .str [], .str [], .int .i64 (.ofNat 0), .nilsl, .sl 4679 6 0 1 6 none], .int .i64 (.ofNat 0)]), (47, .sl 327 17 0 17 1 (some 17)), (48, .int .i64 (.ofNat 16)), (49, .ptr 327 17 16), (50, .str [99, 99, 32, 97]), (51, .sl 4654 8 0 2 4 none), (52, .tuple [.agg [.int .i64 (.ofNat 13), .str [], .str [], .int .i64 (.ofNat 0), .nilsl, .sl 4679 6 0 1 6 none], .int .i64 (.ofNat 0)]), (53, .agg [.int .i64 (.ofNat 13), .str [], .str [], .int .i64 (.ofNat 0), .nilsl, .sl 4679 6 0 1 6 none]), (54, .int .i64 (.ofNat 0)), (55, .int .i64 (.ofNat 0)), (56, .bool false), (57, .bool false), (58, .sl 327 17 0 17 1 (some 17)), (59, .int .i64 (.ofNat 16)), (60, .ptr 327 17 16), (61, .str [99, 99, 32, 97]), (62, .bool false), (63, .bool false)], [(0, finG0), (327, finF1), (328, finF2), (4654, finF16), (4679, finF17), (4681, finF18)], 4797⟩
def fink77 : Ck := ⟨[(0, .bool false), (3, .sl 328 10 0 10 1 (some 10))], [(0, finG0), (328, finF2)], 4797⟩
noncomputable def finc83 : Code := tailC finc57
noncomputable def finc84 : Code := headC finc83
def fink85 : Ck := ⟨[(0, .bool false)], [(0, finG0)], 4931⟩
noncomputable def finc89 : Code := tailC finc83
noncomputable def finc90 : Code := headC finc89
def fink91 : Ck := ⟨[(0, .bool false), (12, .int .i64 (.ofNat 3))], [(0, finG0)], 4933⟩
noncomputable def finc95 : Code := tailC finc89
noncomputable def finc96 : Code := headC finc95
def fink97 : Ck := ⟨[(0, .bool false), (12, .int .i64 (.ofNat 3)), (14, .int .i64 (.ofNat 3))], [(0, finG0)], 4937⟩
noncomputable def finc101 : Code := tailC finc95
noncomputable def finc102 : Code := headC finc101
def fink103 : Ck := ⟨[(0, .bool false), (12, .int .i64 (.ofNat 3)), (14, .int .i64 (.ofNat 3)), (16, .int .i64 (.ofNat 3))], [(0, finG0)], 4944⟩
noncomputable def finc107 : Code := tailC finc101
noncomputable def finc108 : Code := headC finc107
def finF19 : CF := .row [.int .i64 (.ofNat 2), .str [92, 83, 101, 101, 110], .str [], .int .i64 (.ofNat 0), .nilsl, .nilsl, .int .i64 (.ofNat 10), .str [], .str [], .int .i64 (.ofNat 0), .sl 5012 2 0 1 2 none, .nilsl] 6 false (some 30)
def finF20 : CF := .row [.int .i64 (.ofNat 2), .int .i64 (.ofNat 2)] 2 false (some 97)
def finF21 : CF := .row [.int .i64 (.ofNat 13), .str [], .str [], .int .i64 (.ofNat 0), .nilsl, .sl 5004 12 0 2 6 none] 6 false (some 30)
def finF22 : CF := .row [.int .i64 (.ofNat 13), .str [], .str [], .int .i64 (.ofNat 0), .nilsl, .sl 5019 6 0 1 6 none] 6 false (some 30)
def fink109 : Ck := ⟨[(0, .bool false), (12, .int .i64 (.ofNat 3)), (14, .int .i64 (.ofNat 3)), (16, .int .i64 (.ofNat 3)), (17, .ptr 5021 6 0), (18, .int .i64 (.ofNat 0))], [(0, finG0), (5004, finF19), (5012, finF20), (5019, finF21), (5021, finF22)], 5022⟩
noncomputable def finc113 : Code := tailC finc107
noncomputable def finc114 : Code := headC finc113
def fink115 : Ck := ⟨[(0, .bool false), (12, .int .i64 (.ofNat 3)), (14, .int .i64 (.ofNat 3)), (16, .int .i64 (.ofNat 3)), (17, .ptr 5021 6 0), (18, .int .i64 (.ofNat 0)), (19, .str [97, 108, 108])], [(0, finG0), (5004, finF19), (5012, finF20), (5019, finF21), (5021, finF22)], 5022⟩
noncomputable def finc119 : Code := tailC finc113
noncomputable def finc120 : Code := headC finc119
def fink121 : Ck := ⟨[(0, .bool false), (12, .int .i64 (.ofNat 3)), (14, .int .i64 (.ofNat 3)), (16, .int .i64 (.ofNat 3)), (17, .ptr 5021 6 0), (18, .int .i64 (.ofNat 0)), (19, .str [97, 108, 108, 32, 97, 108, 108, 32, 97, 108, 108, 32, 97, 108, 108, 32, 97, 108, 108, 32, 97, 108, 108, 32, 97, 108, 108, 32, 97, 108, 108, 32, 97, 108, 108, 32, 97, 108, 108, 32, 97, 108, 108, 32, 97, 108, 108, 32, 97, 108, 108, 32, 97, 108, 108, 32, 97, 108, 108, 32, 97, 108, 108, 32, 97, 108, 108, 32, 97, 108, 108, 32, 97, 108, 108, 32, 97, 108, 108, 32, 97, 108, 108, 32, 97, 108, 108, 32, 97, 108, 108, 32, 97, 108, 108, 32, 97, 108, 108, 32, 97, 108, 108, 32, 97, 108, 108, 32, 97, 108, 108, 32, 97, 108, 108, 32, 97, 108, 108, 32, 97, 108, 108, 32, 97, 108, 108, 32, 97, 108, 108, 32, 97, 108, 108, 32, 97, 108, 108, 32, 97, 108, 108, 32, 97, 108, 108, 32, 97, 108, 108, 32, 97, 108, 108, 32, 97, 108, 108, 32, 97, 108, 108])], [(0, finG0), (5004, finF19), (5012, finF20), (5019, finF21), (5021, finF22)], 5022⟩
noncomputable def finc125 : Code := tailC finc119
noncomputable def finc126 : Code := headC finc125
def finF23 : CF := .row [.str [97, 108, 108], .bool false, .nilsl, .bool false, .str [97, 108, 108], .bool false, .nilsl, .bool false, .str [97, 108, 108], .bool false, .nilsl, .bool false, .str [97, 108, 108], .bool false, .nilsl, .bool false, .str [97, 108, 108], .bool false, .nilsl, .bool false, .str [97, 108, 108], .bool false, .nilsl, .bool false, .str [97, 108, 108], .bool false, .nilsl, .bool false, .str [97, 108, 108], .bool false, .nilsl, .bool false, .str [97, 108, 108], .bool false, .nilsl, .bool false, .str [97, 108, 108], .bool false, .nilsl, .bool false, .str [97, 108, 108], .bool false, .nilsl, .bool false, .str [97, 108, 108], .bool false, .nilsl, .bool false, .str [97, 108, 108], .bool false, .nilsl, .bool false, .str [97, 108, 108], .bool false, .nilsl, .bool false, .str [97, 108, 108], .bool false, .nilsl, .bool false, .str [97, 108, 108], .bool false, .nilsl, .bool false, .str [97, 108, 108], .bool false, .nilsl, .bool false, .str [97, 108, 108], .bool false, .nilsl, .bool false, .str [97, 108, 108], .bool false, .nilsl, .bool false, .str [97, 108, 108], .bool false, .nilsl, .bool false, .str [97, 108, 108], .bool false, .nilsl, .bool false, .str [97, 108, 108], .bool false, .nilsl, .bool false, .str [97, 108, 108], .bool false, .nilsl, .bool false, .str [97, 108, 108], .bool false, .nilsl, .bool false, .str [97, 108, 108], .bool false, .nilsl, .bool false, .str [97, 108, 108], .bool false, .nilsl, .bool false, .str [97, 108, 108], .bool false, .nilsl, .bool false, .str [97, 108, 108], .bool false, .nilsl, .bool false, .str [97, 108, 108], .bool false, .nilsl, .bool false, .str [97, 108, 108], .bool false, .nilsl, .bool false, .str [97, 108, 108], .bool false, .nilsl, .bool false, .str [97, 108, 108], .bool false, .nilsl, .bool false, .str [97, 108, 108], .bool false, .nilsl, .bool false, .str [97, 108, 108], .bool false, .nilsl, .bool false, .str [97, 108, 108], .bool false, .nilsl, .bool false, .str [97, 108, 108], .bool false, .nilsl, .bool false, .str [97, 108, 108], .bool false, .nilsl, .bool false, .str [97, 108, 108], .bool false, .nilsl, .bool false, .str [97, 108, 108], .bool false, .nilsl, .bool false, .str [97, 108, 108], .bool false, .nilsl, .bool false, .str [97, 108, 108], .bool false, .nilsl, .bool false] 4 false (some 37)
def fink127 : Ck := ⟨[(0, .bool false), (12, .int .i64 (.ofNat 3)), (14, .int .i64 (.ofNat 3)), (16, .int .i64 (.ofNat 3)), (17, .ptr 5021 6 0), (18, .int .i64 (.ofNat 0)), (112, .sl 5023 164 0 41 4 none)], [(0, finG0), (5004, finF19), (5012, finF20), (5019, finF21), (5021, finF22), (5023, finF23)], 5064⟩
def fink129 : Ck := ⟨argL [.sl 5023 164 0 41 4 none] 0, fink127.fams, fink127.next⟩
noncomputable def finc130 : Code := bodyC Tryz.prog 6
noncomputable def finc131 : Code := headC finc130
def finF24 : CF := .row [.int .i64 (.ofNat 0), .str [], .str [], .int .i64 (.ofNat 0), .nilsl, .nilsl] 6 false (some 30)
def fink132 : Ck := ⟨[(0, .sl 5023 164 0 41 4 none), (2, .ptr 5064 6 0), (3, .int .i64 (.ofNat 0))], [(0, finG0), (5004, finF19), (5012, finF20), (5019, finF21), (5021, finF22), (5023, finF23), (5064, finF24)], 5065⟩
noncomputable def finc136 : Code := tailC finc130
noncomputable def finc137 : Code := headC finc136
def fink138 : Ck := ⟨[(0, .sl 5023 164 0 41 4 none), (2, .ptr 5064 6 0), (3, .int .i64 (.ofNat 0))], [(0, finG0), (5004, finF19), (5012, finF20), (5019, finF21), (5021, finF22), (5023, finF23), (5064, finF24)], 5352⟩
noncomputable def finc142 : Code := tailC finc136
def fink143 : Ck := ⟨[(2, .ptr 5064 6 0), (3, .int .i64 (.ofNat 2))], [(0, finG0), (5004, finF19), (5012, finF20), (5019, finF21), (5021, finF22), (5064, finF24)], 5757⟩
def fink147 : Ck := ⟨[(0, .bool false), (12, .int .i64 (.ofNat 3)), (14, .int .i64 (.ofNat 3)), (16, .int .i64 (.ofNat 3)), (17, .ptr 5021 6 0), (18, .int .i64 (.ofNat 0)), (113, .tuple [.agg [.int .i64 (.ofNat 0), .str [], .str [], .int .i64 (.ofNat 0), .nilsl, .nilsl], .int .i64 (.ofNat 2)])], fink143.fams, fink143.next⟩
def fink148 : Ck := ⟨[(0, .bool false), (12, .int .i64 (.ofNat 3)), (14, .int .i64 (.ofNat 3)), (16, .int .i64 (.ofNat 3)), (17, .ptr 5021 6 0), (18, .int .i64 (.ofNat 0)), (22, .int .i64 (.ofNat 2))], [(0, finG0), (5004, finF19), (5012, finF20), (5019, finF21), (5021, finF22)], 5758⟩
noncomputable def finc152 : Code := tailC finc125
def fink153 : Ck := ⟨[(0, .bool true)], [(0, finG0)], 5978⟩
end Go.Proofs.YtbiokphhodeedaaGreatDoor
