/- The walk of PartKnown, run by the abstract machine in pieces: the closed statement answers true, whatever the memory, where the library's variable MaxLen holds some int. -/
import Derived.Test.YtbjcbenoapechaaDoorAm24
import Derived.Test.YtbjcbenoapechaaDoorProg
import Derived.Test.YtbjcbenoapechaaDoorShelf
import Derived.KernelRfl
namespace Go.Proofs.YtbjcbenoapechaaDoor
open Go.RowKit Go.Proofs.YtbjcbenoapechaaDoor.Am

def parXs : List (Nat × Nat × Nat) := [(141, 1, 0), (142, 2, 0), (186, 2, 0), (152, 3, 0), (158, 4, 5), (128, 5, 0)]
theorem parXsOK : xtAll Tryd.prog parXs :=
  ⟨⟨by kernel_rfl, says1 (by kernel_rfl)⟩, ⟨by kernel_rfl, says2 (by kernel_rfl)⟩, ⟨by kernel_rfl, says2 (by kernel_rfl)⟩, ⟨by kernel_rfl, says3 (by kernel_rfl)⟩, ⟨by kernel_rfl, says4 #[3] 29 (by kernel_rfl) (by kernel_rfl)⟩, ⟨by kernel_rfl, says5 (by kernel_rfl)⟩, trivial⟩
def parV2 : List AV := [.unk .i64]
def parGs : List (Nat × List AV) := [(2, parV2)]
noncomputable def parOver (f : FuncId) : Option (List AV → AH → Option (AV × AH)) := cond (Nat.beq f 146) (some (ovIndex 2)) (cond (Nat.beq f 105) (some (ovIndexS 2)) (none))
theorem parCon : IdxCon Tryd.prog 146 2 where
  none p q n c d w := Tryd.bytes_Index_none p q n c d w
  nil p2 k c2 w h1 h2 := Tryd.bytes_Index_nil p2 k c2 w h1 h2
  full a1 a2 n c1 k c2 xs ys m w hx hy h1 h2 h3 h4 h5 h6 h7 h8 := (Tryd.bytes_Index_at a1 a2 n c1 k c2 xs ys m w hx hy h1 h2 h3 h4 h5 h6 h7 h8).mono fun e w' ⟨he, q, hq⟩ => ⟨he, by rw [hq]; rfl⟩
theorem parConS : IdxConS Tryd.prog 105 2 := fun s t m w hs hm => Tryd.strings_Index s t m w hs hm
noncomputable def parGl : Gl Tryd.prog := Gl.mkG Tryd.prog parGs parXs parXsOK
theorem parOver_ok : OverOK Tryd.prog parGl parOver := by
  intro f g hf args h v h' e
  unfold parOver at hf
  cases h_ovIndex : Nat.beq f 146 with
  | true =>
    have := Nat.eq_of_beq_eq_true h_ovIndex
    subst this
    rw [h_ovIndex] at hf
    injection hf with hf
    subst hf
    exact ovIndex_ok parCon rfl args h v h' e
  | false =>
    rw [h_ovIndex] at hf
    cases h_ovIndexS : Nat.beq f 105 with
    | true =>
      have := Nat.eq_of_beq_eq_true h_ovIndexS
      subst this
      rw [h_ovIndexS] at hf
      injection hf with hf
      subst hf
      exact ovIndexS_ok parConS rfl args h v h' e
    | false =>
      rw [h_ovIndexS] at hf
      cases hf
theorem parMix : Tryd.prog.follows .mixedOrders = true := by kernel_rfl
noncomputable def parR : Rec := aRec Tryd.prog parGl parOver 1000000 1000000
theorem parRa : RecAF parR := (aCall_ok parMix parOver_ok 1000000 1000000).1
theorem parRok : RecOK Tryd.prog parGl parR := (aCall_ok parMix parOver_ok 1000000 1000000).2
set_option maxRecDepth 100000
def parG2 : CF := .row parV2 1 true none
noncomputable def part0 : Code := bodyC Tryd.prog 6
noncomputable def parh0 : Code := headC part0
def park0 : Ck := ⟨[(0, .bool false)], [(2, parG2)], 64⟩
theorem pare0 : prC [0] [2] (aCode Tryd.prog parGl parR 1000000 parh0 (Ck.st 190 64 (ck0 parGs 64))) = some (.normal, park0) := by kernel_rfl
theorem parp0 {n0 : Nat} : Pc parGl 190 64 n0 (ck0 parGs 64) parh0 .normal park0 := Pc.run parMix parRa parRok pare0
noncomputable def part1 : Code := tailC part0
noncomputable def parh1 : Code := headC part1
def park1 : Ck := ⟨[(0, .bool false)], [(2, parG2)], 481⟩
theorem pare1 : prC [0] [2] (aCode Tryd.prog parGl parR 1000000 parh1 (Ck.st 190 64 park0)) = some (.normal, park1) := by kernel_rfl
theorem parp1 {n0 : Nat} : Pc parGl 190 64 n0 park0 parh1 .normal park1 := Pc.run parMix parRa parRok pare1
noncomputable def part2 : Code := tailC part1
noncomputable def parh2 : Code := headC part2
def parF0 : CF := .row [.str [99, 104, 97, 114, 115, 101, 116], .str [97, 32, 98], .str [120], .str [121]] 2 false (some 62)
def park2x0 : Ck := ⟨[(0, .bool false), (28, .tuple [.str [116, 101, 120, 116], .str [112, 108, 97, 105, 110], .sl 510 4 0 2 2 none])], [(2, parG2), (510, parF0)], 529⟩
theorem pare2x0 : prS [0, 28] [2, 510] (aOps Tryd.prog parGl parR (opsC parh2) 1 0 (Ck.st 190 64 park1)) = some park2x0 := by kernel_rfl
def park2 : Ck := ⟨[(0, .bool false), (1, .str [116, 101, 120, 116]), (2, .str [112, 108, 97, 105, 110]), (3, .sl 510 4 0 2 2 none)], [(2, parG2), (510, parF0)], 529⟩
theorem pare2x1 : prS [0, 1, 2, 3] [2, 510] (aOps Tryd.prog parGl parR (opsC parh2) 7 1 (Ck.st 190 64 park2x0)) = some park2 := by kernel_rfl
theorem parp2 {n0 : Nat} : Pc parGl 190 64 n0 park1 parh2 .normal park2 := Pc.region (id := idC parh2) (ops := opsC parh2) (by kernel_rfl) (n := 8) (by kernel_rfl) (Ps.cons parRa parRok (n := 1) (k := 7) pare2x0 (Ps.cons parRa parRok (n := 7) (k := 0) pare2x1 Ps.nil))
noncomputable def part3 : Code := tailC part2
noncomputable def parh3 : Code := headC part3
def park3 : Ck := ⟨[(0, .bool false), (1, .str [116, 101, 120, 116]), (2, .str [112, 108, 97, 105, 110]), (3, .sl 510 4 0 2 2 none), (4, .str [116, 101, 120, 116]), (6, .nilsl)], [(2, parG2), (510, parF0)], 547⟩
theorem pare3 : prC [0, 1, 2, 3, 4, 6] [2, 510] (aCode Tryd.prog parGl parR 1000000 parh3 (Ck.st 190 64 park2)) = some (.normal, park3) := by kernel_rfl
theorem parp3 {n0 : Nat} : Pc parGl 190 64 n0 park2 parh3 .normal park3 := Pc.run parMix parRa parRok pare3
noncomputable def part4 : Code := tailC part3
noncomputable def parh4 : Code := headC part4
def park4 : Ck := ⟨[(0, .bool false), (1, .str [116, 101, 120, 116]), (2, .str [112, 108, 97, 105, 110]), (3, .sl 510 4 0 2 2 none), (4, .str [116, 101, 120, 116]), (6, .nilsl), (7, .str [116, 101, 120, 116]), (9, .nilsl)], [(2, parG2), (510, parF0)], 569⟩
theorem pare4 : prC [0, 1, 2, 3, 4, 6, 7, 9] [2, 510] (aCode Tryd.prog parGl parR 1000000 parh4 (Ck.st 190 64 park3)) = some (.normal, park4) := by kernel_rfl
theorem parp4 {n0 : Nat} : Pc parGl 190 64 n0 park3 parh4 .normal park4 := Pc.run parMix parRa parRok pare4
noncomputable def part5 : Code := tailC part4
noncomputable def parh5 : Code := headC part5
def parF1 : CF := .row [.str [98, 111, 117, 110, 100, 97, 114, 121], .str [120]] 2 false (some 62)
def parF2 : CF := .row [.int .i64 (.ofNat 54), .int .i64 (.ofNat 56), .int .i64 (.ofNat 59), .str [116, 101, 120, 116], .str [112, 108, 97, 105, 110], .nilsl, .nilsl, .int .i64 (.ofNat 67), .int .i64 (.ofNat 94), .int .i64 (.ofNat 97), .str [116, 101, 120, 116], .str [104, 116, 109, 108], .nilsl, .nilsl] 14 false (some 56)
def park5x0 : Ck := ⟨[(0, .bool false), (1, .str [116, 101, 120, 116]), (2, .str [112, 108, 97, 105, 110]), (3, .sl 510 4 0 2 2 none), (4, .str [116, 101, 120, 116]), (6, .nilsl), (7, .str [116, 101, 120, 116]), (9, .nilsl), (43, .agg [.int .i64 (.ofNat 0), .int .i64 (.ofNat 45), .int .i64 (.ofNat 109), .str [109, 117, 108, 116, 105, 112, 97, 114, 116], .str [109, 105, 120, 101, 100], .sl 728 2 0 1 2 none, .sl 812 14 0 2 7 none])], [(2, parG2), (510, parF0), (728, parF1), (812, parF2)], 853⟩
theorem pare5x0 : prS [0, 1, 2, 3, 4, 6, 7, 9, 43] [2, 510, 728, 812] (aOps Tryd.prog parGl parR (opsC parh5) 2 0 (Ck.st 190 64 park4)) = some park5x0 := by kernel_rfl
def parF3 : CF := .row [.int .i64 (.ofNat 0), .int .i64 (.ofNat 45), .int .i64 (.ofNat 109), .str [109, 117, 108, 116, 105, 112, 97, 114, 116], .str [109, 105, 120, 101, 100], .sl 728 2 0 1 2 none, .sl 812 14 0 2 7 none] 7 false (some 56)
def park5 : Ck := ⟨[(0, .bool false), (1, .str [116, 101, 120, 116]), (2, .str [112, 108, 97, 105, 110]), (3, .sl 510 4 0 2 2 none), (4, .str [116, 101, 120, 116]), (6, .nilsl), (7, .str [116, 101, 120, 116]), (9, .nilsl), (10, .ptr 853 7 0)], [(2, parG2), (510, parF0), (728, parF1), (812, parF2), (853, parF3)], 854⟩
theorem pare5x1 : prS [0, 1, 2, 3, 4, 6, 7, 9, 10] [2, 510, 728, 812, 853] (aOps Tryd.prog parGl parR (opsC parh5) 2 2 (Ck.st 190 64 park5x0)) = some park5 := by kernel_rfl
theorem parp5 {n0 : Nat} : Pc parGl 190 64 n0 park4 parh5 .normal park5 := Pc.region (id := idC parh5) (ops := opsC parh5) (by kernel_rfl) (n := 4) (by kernel_rfl) (Ps.cons parRa parRok (n := 2) (k := 2) pare5x0 (Ps.cons parRa parRok (n := 2) (k := 0) pare5x1 Ps.nil))
noncomputable def part6 : Code := tailC part5
noncomputable def parh6 : Code := headC part6
def parF4 : CF := .row [.int .i64 (.ofNat 67), .int .i64 (.ofNat 94), .int .i64 (.ofNat 97), .str [116, 101, 120, 116], .str [104, 116, 109, 108], .nilsl, .nilsl] 7 false (some 56)
def park6 : Ck := ⟨[(0, .bool false), (1, .str [116, 101, 120, 116]), (2, .str [112, 108, 97, 105, 110]), (3, .sl 510 4 0 2 2 none), (4, .str [116, 101, 120, 116]), (6, .nilsl), (7, .str [116, 101, 120, 116]), (9, .nilsl), (10, .ptr 853 7 0), (11, .ptr 859 7 0), (12, .bool true)], [(2, parG2), (510, parF0), (728, parF1), (812, parF2), (853, parF3), (859, parF4)], 860⟩
theorem pare6 : prC [0, 1, 2, 3, 4, 6, 7, 9, 10, 11, 12] [2, 510, 728, 812, 853, 859] (aCode Tryd.prog parGl parR 1000000 parh6 (Ck.st 190 64 park5)) = some (.normal, park6) := by kernel_rfl
theorem parp6 {n0 : Nat} : Pc parGl 190 64 n0 park5 parh6 .normal park6 := Pc.run parMix parRa parRok pare6
noncomputable def part7 : Code := tailC part6
noncomputable def parh7 : Code := headC part7
def parF5 : CF := .row [.int .i64 (.ofNat 54), .int .i64 (.ofNat 56), .int .i64 (.ofNat 59), .str [116, 101, 120, 116], .str [112, 108, 97, 105, 110], .nilsl, .nilsl] 7 false (some 56)
def park7 : Ck := ⟨[(0, .bool false), (1, .str [116, 101, 120, 116]), (2, .str [112, 108, 97, 105, 110]), (3, .sl 510 4 0 2 2 none), (4, .str [116, 101, 120, 116]), (6, .nilsl), (7, .str [116, 101, 120, 116]), (9, .nilsl), (10, .ptr 853 7 0), (11, .ptr 859 7 0), (12, .bool true), (13, .ptr 865 7 0), (14, .bool true)], [(2, parG2), (510, parF0), (728, parF1), (812, parF2), (853, parF3), (859, parF4), (865, parF5)], 866⟩
theorem pare7 : prC [0, 1, 2, 3, 4, 6, 7, 9, 10, 11, 12, 13, 14] [2, 510, 728, 812, 853, 859, 865] (aCode Tryd.prog parGl parR 1000000 parh7 (Ck.st 190 64 park6)) = some (.normal, park7) := by kernel_rfl
theorem parp7 {n0 : Nat} : Pc parGl 190 64 n0 park6 parh7 .normal park7 := Pc.run parMix parRa parRok pare7
noncomputable def part8 : Code := tailC part7
noncomputable def parh8 : Code := headC part8
def park8 : Ck := ⟨[(0, .bool false), (1, .str [116, 101, 120, 116]), (2, .str [112, 108, 97, 105, 110]), (3, .sl 510 4 0 2 2 none), (4, .str [116, 101, 120, 116]), (6, .nilsl), (7, .str [116, 101, 120, 116]), (9, .nilsl), (10, .ptr 853 7 0), (11, .ptr 859 7 0), (12, .bool true), (13, .ptr 865 7 0), (14, .bool true), (16, .bool false)], [(2, parG2), (510, parF0), (728, parF1), (812, parF2), (853, parF3), (859, parF4), (865, parF5)], 870⟩
theorem pare8 : prC [0, 1, 2, 3, 4, 6, 7, 9, 10, 11, 12, 13, 14, 16] [2, 510, 728, 812, 853, 859, 865] (aCode Tryd.prog parGl parR 1000000 parh8 (Ck.st 190 64 park7)) = some (.normal, park8) := by kernel_rfl
theorem parp8 {n0 : Nat} : Pc parGl 190 64 n0 park7 parh8 .normal park8 := Pc.run parMix parRa parRok pare8
noncomputable def part9 : Code := tailC part8
noncomputable def parh9 : Code := headC part9
def park9 : Ck := ⟨[(0, .bool false), (1, .str [116, 101, 120, 116]), (2, .str [112, 108, 97, 105, 110]), (3, .sl 510 4 0 2 2 none), (4, .str [116, 101, 120, 116]), (6, .nilsl), (7, .str [116, 101, 120, 116]), (9, .nilsl), (10, .ptr 853 7 0), (11, .ptr 859 7 0), (12, .bool true), (13, .ptr 865 7 0), (14, .bool true), (16, .bool false), (18, .bool false)], [(2, parG2), (510, parF0), (728, parF1), (812, parF2), (853, parF3), (859, parF4), (865, parF5)], 874⟩
theorem pare9 : prC [0, 1, 2, 3, 4, 6, 7, 9, 10, 11, 12, 13, 14, 16, 18] [2, 510, 728, 812, 853, 859, 865] (aCode Tryd.prog parGl parR 1000000 parh9 (Ck.st 190 64 park8)) = some (.normal, park9) := by kernel_rfl
theorem parp9 {n0 : Nat} : Pc parGl 190 64 n0 park8 parh9 .normal park9 := Pc.run parMix parRa parRok pare9
noncomputable def part10 : Code := tailC part9
noncomputable def parh10 : Code := headC part10
def park10 : Ck := ⟨[(0, .bool false), (1, .str [116, 101, 120, 116]), (2, .str [112, 108, 97, 105, 110]), (3, .sl 510 4 0 2 2 none), (4, .str [116, 101, 120, 116]), (6, .nilsl), (7, .str [116, 101, 120, 116]), (9, .nilsl), (10, .ptr 853 7 0), (11, .ptr 859 7 0), (12, .bool true), (13, .ptr 865 7 0), (14, .bool true), (16, .bool false), (18, .bool false), (20, .bool false)], [(2, parG2), (510, parF0), (728, parF1), (812, parF2), (853, parF3), (859, parF4), (865, parF5)], 878⟩
theorem pare10 : prC [0, 1, 2, 3, 4, 6, 7, 9, 10, 11, 12, 13, 14, 16, 18, 20] [2, 510, 728, 812, 853, 859, 865] (aCode Tryd.prog parGl parR 1000000 parh10 (Ck.st 190 64 park9)) = some (.normal, park10) := by kernel_rfl
theorem parp10 {n0 : Nat} : Pc parGl 190 64 n0 park9 parh10 .normal park10 := Pc.run parMix parRa parRok pare10
noncomputable def part11 : Code := tailC part10
noncomputable def parh11 : Code := headC part11
def parF6 : CF := .row [.int .i64 (.ofNat 54), .int .i64 (.ofNat 56), .int .i64 (.ofNat 59), .str [116, 101, 120, 116], .str [112, 108, 97, 105, 110], .nilsl, .nilsl, .int .i64 (.ofNat 67), .int .i64 (.ofNat 94), .int .i64 (.ofNat 97), .str [116, 101, 120, 116], .str [104, 116, 109, 108], .nilsl, .nilsl] 7 false (some 56)
def parF7 : CF := .row [.int .i64 (.ofNat 0), .int .i64 (.ofNat 45), .int .i64 (.ofNat 109), .str [109, 117, 108, 116, 105, 112, 97, 114, 116], .str [109, 105, 120, 101, 100], .sl 883 2 0 1 2 none, .sl 888 14 0 2 7 none] 7 false (some 56)
def park11 : Ck := ⟨[(0, .bool false), (1, .str [116, 101, 120, 116]), (2, .str [112, 108, 97, 105, 110]), (3, .sl 510 4 0 2 2 none), (4, .str [116, 101, 120, 116]), (6, .nilsl), (7, .str [116, 101, 120, 116]), (9, .nilsl), (11, .ptr 859 7 0), (12, .bool true), (13, .ptr 865 7 0), (14, .bool true), (16, .bool false), (18, .bool false), (20, .bool false), (21, .ptr 893 7 0), (22, .bool true)], [(2, parG2), (510, parF0), (859, parF4), (865, parF5), (883, parF1), (888, parF6), (893, parF7)], 894⟩
theorem pare11 : prC [0, 1, 2, 3, 4, 6, 7, 9, 11, 12, 13, 14, 16, 18, 20, 21, 22] [2, 510, 859, 865, 883, 888, 893] (aCode Tryd.prog parGl parR 1000000 parh11 (Ck.st 190 64 park10)) = some (.normal, park11) := by kernel_rfl
theorem parp11 {n0 : Nat} : Pc parGl 190 64 n0 park10 parh11 .normal park11 := Pc.run parMix parRa parRok pare11
noncomputable def part12 : Code := tailC part11
noncomputable def parh12 : Code := headC part12
def park12x0 : Ck := ⟨[(0, .bool false), (1, .str [116, 101, 120, 116]), (2, .str [112, 108, 97, 105, 110]), (3, .sl 510 4 0 2 2 none), (4, .str [116, 101, 120, 116]), (6, .nilsl), (7, .str [116, 101, 120, 116]), (9, .nilsl), (11, .ptr 859 7 0), (12, .bool true), (13, .ptr 865 7 0), (14, .bool true), (16, .bool false), (18, .bool false), (20, .bool false), (21, .ptr 893 7 0), (22, .bool true), (80, .agg [.int .i64 (.ofNat 0), .int .i64 (.ofNat 45), .int .i64 (.ofNat 49), .str [109, 117, 108, 116, 105, 112, 97, 114, 116], .str [109, 105, 120, 101, 100], .sl 993 2 0 1 2 none, .nilsl])], [(2, parG2), (510, parF0), (859, parF4), (865, parF5), (883, parF1), (888, parF6), (893, parF7), (993, parF1)], 1007⟩
theorem pare12x0 : prS [0, 1, 2, 3, 4, 6, 7, 9, 11, 12, 13, 14, 16, 18, 20, 21, 22, 80] [2, 510, 859, 865, 883, 888, 893, 993] (aOps Tryd.prog parGl parR (opsC parh12) 2 0 (Ck.st 190 64 park11)) = some park12x0 := by kernel_rfl
def parF8 : CF := .row [.int .i64 (.ofNat 0), .int .i64 (.ofNat 45), .int .i64 (.ofNat 49), .str [109, 117, 108, 116, 105, 112, 97, 114, 116], .str [109, 105, 120, 101, 100], .sl 993 2 0 1 2 none, .nilsl] 7 false (some 56)
def park12 : Ck := ⟨[(0, .bool false), (1, .str [116, 101, 120, 116]), (2, .str [112, 108, 97, 105, 110]), (3, .sl 510 4 0 2 2 none), (4, .str [116, 101, 120, 116]), (6, .nilsl), (7, .str [116, 101, 120, 116]), (9, .nilsl), (11, .ptr 859 7 0), (12, .bool true), (13, .ptr 865 7 0), (14, .bool true), (16, .bool false), (18, .bool false), (20, .bool false), (21, .ptr 893 7 0), (22, .bool true), (23, .ptr 1007 7 0)], [(2, parG2), (510, parF0), (859, parF4), (865, parF5), (883, parF1), (888, parF6), (893, parF7), (993, parF1), (1007, parF8)], 1008⟩
theorem pare12x1 : prS [0, 1, 2, 3, 4, 6, 7, 9, 11, 12, 13, 14, 16, 18, 20, 21, 22, 23] [2, 510, 859, 865, 883, 888, 893, 993, 1007] (aOps Tryd.prog parGl parR (opsC parh12) 2 2 (Ck.st 190 64 park12x0)) = some park12 := by kernel_rfl
theorem parp12 {n0 : Nat} : Pc parGl 190 64 n0 park11 parh12 .normal park12 := Pc.region (id := idC parh12) (ops := opsC parh12) (by kernel_rfl) (n := 4) (by kernel_rfl) (Ps.cons parRa parRok (n := 2) (k := 2) pare12x0 (Ps.cons parRa parRok (n := 2) (k := 0) pare12x1 Ps.nil))
noncomputable def part13 : Code := tailC part12
noncomputable def parh13 : Code := headC part13
def parF9 : CF := .row [.str [98, 111, 117, 110, 100, 97, 114, 121], .str [120, 32, 121]] 2 false (some 62)
def parF10 : CF := .row [.int .i64 (.ofNat 56), .int .i64 (.ofNat 58), .int .i64 (.ofNat 63), .str [116, 101, 120, 116], .str [112, 108, 97, 105, 110], .nilsl, .nilsl] 7 false (some 56)
def park13x0 : Ck := ⟨[(0, .bool false), (1, .str [116, 101, 120, 116]), (2, .str [112, 108, 97, 105, 110]), (3, .sl 510 4 0 2 2 none), (4, .str [116, 101, 120, 116]), (6, .nilsl), (7, .str [116, 101, 120, 116]), (9, .nilsl), (11, .ptr 859 7 0), (12, .bool true), (13, .ptr 865 7 0), (14, .bool true), (16, .bool false), (18, .bool false), (20, .bool false), (21, .ptr 893 7 0), (22, .bool true), (23, .ptr 1007 7 0), (82, .agg [.int .i64 (.ofNat 0), .int .i64 (.ofNat 49), .int .i64 (.ofNat 63), .str [109, 117, 108, 116, 105, 112, 97, 114, 116], .str [109, 105, 120, 101, 100], .sl 1124 2 0 1 2 none, .sl 1163 7 0 1 7 none])], [(2, parG2), (510, parF0), (859, parF4), (865, parF5), (883, parF1), (888, parF6), (893, parF7), (993, parF1), (1007, parF8), (1124, parF9), (1163, parF10)], 1166⟩
theorem pare13x0 : prS [0, 1, 2, 3, 4, 6, 7, 9, 11, 12, 13, 14, 16, 18, 20, 21, 22, 23, 82] [2, 510, 859, 865, 883, 888, 893, 993, 1007, 1124, 1163] (aOps Tryd.prog parGl parR (opsC parh13) 2 0 (Ck.st 190 64 park12)) = some park13x0 := by kernel_rfl
def parF11 : CF := .row [.int .i64 (.ofNat 0), .int .i64 (.ofNat 49), .int .i64 (.ofNat 63), .str [109, 117, 108, 116, 105, 112, 97, 114, 116], .str [109, 105, 120, 101, 100], .sl 1124 2 0 1 2 none, .sl 1163 7 0 1 7 none] 7 false (some 56)
def park13 : Ck := ⟨[(0, .bool false), (1, .str [116, 101, 120, 116]), (2, .str [112, 108, 97, 105, 110]), (3, .sl 510 4 0 2 2 none), (4, .str [116, 101, 120, 116]), (6, .nilsl), (7, .str [116, 101, 120, 116]), (9, .nilsl), (11, .ptr 859 7 0), (12, .bool true), (13, .ptr 865 7 0), (14, .bool true), (16, .bool false), (18, .bool false), (20, .bool false), (21, .ptr 893 7 0), (22, .bool true), (23, .ptr 1007 7 0), (24, .ptr 1166 7 0)], [(2, parG2), (510, parF0), (859, parF4), (865, parF5), (883, parF1), (888, parF6), (893, parF7), (993, parF1), (1007, parF8), (1124, parF9), (1163, parF10), (1166, parF11)], 1167⟩
theorem pare13x1 : prS [0, 1, 2, 3, 4, 6, 7, 9, 11, 12, 13, 14, 16, 18, 20, 21, 22, 23, 24] [2, 510, 859, 865, 883, 888, 893, 993, 1007, 1124, 1163, 1166] (aOps Tryd.prog parGl parR (opsC parh13) 2 2 (Ck.st 190 64 park13x0)) = some park13 := by kernel_rfl
theorem parp13 {n0 : Nat} : Pc parGl 190 64 n0 park12 parh13 .normal park13 := Pc.region (id := idC parh13) (ops := opsC parh13) (by kernel_rfl) (n := 4) (by kernel_rfl) (Ps.cons parRa parRok (n := 2) (k := 2) pare13x0 (Ps.cons parRa parRok (n := 2) (k := 0) pare13x1 Ps.nil))
noncomputable def part14 : Code := tailC part13
noncomputable def parh14 : Code := headC part14
def park14 : Ck := ⟨[(0, .bool true)], [(2, parG2)], 1167⟩
theorem pare14 : prC [0] [2] (aCode Tryd.prog parGl parR 1000000 parh14 (Ck.st 190 64 park13)) = some (.normal, park14) := by kernel_rfl
theorem parp14 {n0 : Nat} : Pc parGl 190 64 n0 park13 parh14 .normal park14 := Pc.run parMix parRa parRok pare14
noncomputable def part15 : Code := tailC part14
def park15 : Ck := ⟨[(0, .bool true)], [(2, parG2)], 1167⟩
theorem pare15 : prC [0] [2] (aCode Tryd.prog parGl parR 1000000 part15 (Ck.st 190 64 park14)) = some (.ret, park15) := by kernel_rfl
theorem parp15 {n0 : Nat} : Pc parGl 190 64 n0 park14 part15 .ret park15 := Pc.run parMix parRa parRok pare15
theorem parAll (n0 : Nat) : Pc parGl 190 64 n0 (ck0 parGs 64) part0 .ret park15 := Pc.seq (c := part0) (a := parh0) (b := part1) (by kernel_rfl) parp0 (Pc.seq (c := part1) (a := parh1) (b := part2) (by kernel_rfl) parp1 (Pc.seq (c := part2) (a := parh2) (b := part3) (by kernel_rfl) parp2 (Pc.seq (c := part3) (a := parh3) (b := part4) (by kernel_rfl) parp3 (Pc.seq (c := part4) (a := parh4) (b := part5) (by kernel_rfl) parp4 (Pc.seq (c := part5) (a := parh5) (b := part6) (by kernel_rfl) parp5 (Pc.seq (c := part6) (a := parh6) (b := part7) (by kernel_rfl) parp6 (Pc.seq (c := part7) (a := parh7) (b := part8) (by kernel_rfl) parp7 (Pc.seq (c := part8) (a := parh8) (b := part9) (by kernel_rfl) parp8 (Pc.seq (c := part9) (a := parh9) (b := part10) (by kernel_rfl) parp9 (Pc.seq (c := part10) (a := parh10) (b := part11) (by kernel_rfl) parp10 (Pc.seq (c := part11) (a := parh11) (b := part12) (by kernel_rfl) parp11 (Pc.seq (c := part12) (a := parh12) (b := part13) (by kernel_rfl) parp12 (Pc.seq (c := part13) (a := parh13) (b := part14) (by kernel_rfl) parp13 (Pc.seq (c := part14) (a := parh14) (b := part15) (by kernel_rfl) parp14 (parp15)))))))))))))))
theorem parPieces (w : World) (ha : GAll w parGs) : Calls Tryd.prog 6 #[] w fun e w' => e = .returned (.bool true) ∧ Below w.heap.size w w' := known_pieces (fn := Tryd.f6) (c := part0) (ck := park15) Tryd.func6 (by kernel_rfl) (by kernel_rfl) parAll (by first | exact .inl rfl | exact .inr rfl) (by kernel_rfl) w ha
theorem parWalk (w : World) (hm : ∃ m, w.cell? ⟨2, 0, none⟩ = some (.int .i64 m)) (_ : 2 < w.heap.size) : Calls Tryd.prog 6 #[] w fun e w' => e = .returned (.bool true) ∧ Below w.heap.size w w' :=
  parPieces w (gAll_one (gAt_int hm))
end Go.Proofs.YtbjcbenoapechaaDoor
