/- The walk of BodsKnown, run by the abstract machine in pieces: the closed statement answers true, whatever the memory, where the library's variable MaxLen holds some int. -/
import Derived.Test.YtcommopnnoicoaaGreatDoorAm26
import Derived.Test.YtcommopnnoicoaaGreatDoorProg
import Derived.Test.YtcommopnnoicoaaGreatDoorShelf
import Derived.KernelRfl
namespace Go.Proofs.YtcommopnnoicoaaGreatDoor
open Go.RowKit Go.Proofs.YtcommopnnoicoaaGreatDoor.Am

def bodXs : List (Nat × Nat × Nat) := [(101, 1, 0), (140, 2, 0), (116, 2, 0), (143, 3, 0), (102, 4, 5)]
theorem bodXsOK : xtAll Tryz.prog bodXs :=
  ⟨⟨by kernel_rfl, says1 (by kernel_rfl)⟩, ⟨by kernel_rfl, says2 (by kernel_rfl)⟩, ⟨by kernel_rfl, says2 (by kernel_rfl)⟩, ⟨by kernel_rfl, says3 (by kernel_rfl)⟩, ⟨by kernel_rfl, says4 #[3] 23 (by kernel_rfl) (by kernel_rfl)⟩, trivial⟩
def bodV0 : List AV := [.unk .i64]
def bodGs : List (Nat × List AV) := [(0, bodV0)]
noncomputable def bodOver (f : FuncId) : Option (List AV → AH → Option (AV × AH)) := cond (Nat.beq f 56) (some (ovIndex 0)) (cond (Nat.beq f 113) (some (ovIndexS 0)) (none))
theorem bodCon : IdxCon Tryz.prog 56 0 where
  none p q n c d w := Tryz.bytes_Index_none p q n c d w
  nil p2 k c2 w h1 h2 := Tryz.bytes_Index_nil p2 k c2 w h1 h2
  full a1 a2 n c1 k c2 xs ys m w hx hy h1 h2 h3 h4 h5 h6 h7 h8 := (Tryz.bytes_Index_at a1 a2 n c1 k c2 xs ys m w hx hy h1 h2 h3 h4 h5 h6 h7 h8).mono fun e w' ⟨he, q, hq⟩ => ⟨he, by rw [hq]; rfl⟩
theorem bodConS : IdxConS Tryz.prog 113 0 := fun s t m w hs hm => Tryz.strings_Index s t m w hs hm
noncomputable def bodGl : Gl Tryz.prog := Gl.mkG Tryz.prog bodGs bodXs bodXsOK
theorem bodOver_ok : OverOK Tryz.prog bodGl bodOver := by
  intro f g hf args h v h' e
  unfold bodOver at hf
  cases h_ovIndex : Nat.beq f 56 with
  | true =>
    have := Nat.eq_of_beq_eq_true h_ovIndex
    subst this
    rw [h_ovIndex] at hf
    injection hf with hf
    subst hf
    exact ovIndex_ok bodCon rfl args h v h' e
  | false =>
    rw [h_ovIndex] at hf
    cases h_ovIndexS : Nat.beq f 113 with
    | true =>
      have := Nat.eq_of_beq_eq_true h_ovIndexS
      subst this
      rw [h_ovIndexS] at hf
      injection hf with hf
      subst hf
      exact ovIndexS_ok bodConS rfl args h v h' e
    | false =>
      rw [h_ovIndexS] at hf
      cases hf
theorem bodMix : Tryz.prog.follows .mixedOrders = true := by kernel_rfl
noncomputable def bodR : Rec := aRec Tryz.prog bodGl bodOver 1000000 1000000
theorem bodRa : RecAF bodR := (aCall_ok bodMix bodOver_ok 1000000 1000000).1
theorem bodRok : RecOK Tryz.prog bodGl bodR := (aCall_ok bodMix bodOver_ok 1000000 1000000).2
set_option maxRecDepth 100000
def bodG0 : CF := .row bodV0 1 true none
noncomputable def bodt0 : Code := bodyC Tryz.prog 5
noncomputable def bodstart : Ck := ck0 bodGs 64
noncomputable def bodc0 : Code := headC bodt0
def bodk1 : Ck := ⟨[(0, .bool false)], [(0, bodG0)], 64⟩
theorem bode2 : prC [0] [0] (aCode Tryz.prog bodGl bodR 1000000 bodc0 (Ck.st 8 64 bodstart)) = some (.normal, bodk1) := by kernel_rfl
theorem bodp3 {n0 : Nat} : Pc bodGl 8 64 n0 bodstart bodc0 .normal bodk1 := Pc.run bodMix bodRa bodRok bode2
noncomputable def bodc5 : Code := tailC bodt0
noncomputable def bodc6 : Code := headC bodc5
def bodk7 : Ck := ⟨[(0, .bool false)], [(0, bodG0)], 142⟩
theorem bode8 : prC [0] [0] (aCode Tryz.prog bodGl bodR 1000000 bodc6 (Ck.st 8 64 bodk1)) = some (.normal, bodk7) := by kernel_rfl
theorem bodp9 {n0 : Nat} : Pc bodGl 8 64 n0 bodk1 bodc6 .normal bodk7 := Pc.run bodMix bodRa bodRok bode8
noncomputable def bodc11 : Code := tailC bodc5
noncomputable def bodc12 : Code := headC bodc11
def bodF0 : CF := .row (bs [67, 111, 110, 116, 101, 110, 116, 45, 84, 121, 112, 101, 58, 32, 109, 117, 108, 116, 105, 112, 97, 114, 116, 47, 109, 105, 120, 101, 100, 59, 32, 98, 111, 117, 110, 100, 97, 114, 121, 61, 120, 13, 10, 13, 10, 45, 45, 120, 13, 10, 67, 111, 110, 116, 101, 110, 116, 45, 84, 121, 112, 101, 58, 32, 105, 109, 97, 103, 101, 47, 103, 105, 102, 59, 32, 110, 97, 109, 101, 61, 34, 97, 32, 98, 34, 13, 10, 67, 111, 110, 116, 101, 110, 116, 45, 73, 68, 58, 32, 60, 105, 62, 13, 10, 67, 111, 110, 116, 101, 110, 116, 45, 84, 114, 97, 110, 115, 102, 101, 114, 45, 69, 110, 99, 111, 100, 105, 110, 103, 58, 32, 66, 65, 83, 69, 54, 52, 13, 10, 13, 10, 65, 65, 13, 10, 45, 45, 120, 13, 10, 13, 10, 97, 13, 10, 98, 13, 10, 45, 45, 120, 45, 45, 13, 10]) 1 false (some 5)
def bodk13 : Ck := ⟨[(0, .bool false), (1, .sl 143 165 0 165 1 none)], [(0, bodG0), (143, bodF0)], 308⟩
theorem bode14 : prC [0, 1] [0, 143] (aCode Tryz.prog bodGl bodR 1000000 bodc12 (Ck.st 8 64 bodk7)) = some (.normal, bodk13) := by kernel_rfl
theorem bodp15 {n0 : Nat} : Pc bodGl 8 64 n0 bodk7 bodc12 .normal bodk13 := Pc.run bodMix bodRa bodRok bode14
noncomputable def bodc17 : Code := tailC bodc11
noncomputable def bodc18 : Code := headC bodc17
def bodk19 : Ck := ⟨[(0, .bool false), (5, .sl 143 165 0 165 1 none)], [(0, bodG0), (143, bodF0)], 308⟩
theorem bode20 : prS [0, 5] [0, 143] (aOps Tryz.prog bodGl bodR (opsC bodc18) 1 0 (Ck.st 8 64 bodk13)) = some bodk19 := by kernel_rfl
def bodk21 : Ck := ⟨argL [.sl 143 165 0 165 1 none] 0, bodk19.fams, bodk19.next⟩
noncomputable def bodc22 : Code := bodyC Tryz.prog 18
noncomputable def bodc23 : Code := headC bodc22
def bodk24 : Ck := ⟨[(0, .sl 143 165 0 165 1 none), (2, .str [])], [(0, bodG0), (143, bodF0)], 308⟩
theorem bode25 : prC [0, 2] [0, 143] (aCode Tryz.prog bodGl bodR 1000000 bodc23 (Ck.st 7 64 bodk21)) = some (.normal, bodk24) := by kernel_rfl
theorem bodp26 {n0 : Nat} : Pc bodGl 7 64 n0 bodk21 bodc23 .normal bodk24 := Pc.run bodMix bodRa bodRok bode25
noncomputable def bodc28 : Code := tailC bodc22
noncomputable def bodc29 : Code := headC bodc28
def bodk30 : Ck := ⟨[(2, .str []), (3, .sl 143 165 0 165 1 none), (4, .sl 143 165 0 165 1 none)], [(0, bodG0), (143, bodF0)], 308⟩
theorem bode31 : prS [2, 3, 4] [0, 143] (aOps Tryz.prog bodGl bodR (opsC bodc29) 2 0 (Ck.st 7 64 bodk24)) = some bodk30 := by kernel_rfl
def bodk32 : Ck := ⟨argL [.sl 143 165 0 165 1 none] 0, bodk30.fams, bodk30.next⟩
noncomputable def bodc33 : Code := bodyC Tryz.prog 37
noncomputable def bodc34 : Code := headC bodc33
def bodF1 : CF := .row [.int .i64 (.ofNat 0), .int .i64 (.ofNat 0), .int .i64 (.ofNat 0), .str [], .str [], .nilsl, .nilsl] 7 false (some 66)
def bodk35 : Ck := ⟨[(0, .sl 143 165 0 165 1 none), (2, .ptr 308 7 0)], [(0, bodG0), (143, bodF0), (308, bodF1)], 309⟩
theorem bode36 : prC [0, 2] [0, 143, 308] (aCode Tryz.prog bodGl bodR 1000000 bodc34 (Ck.st 11 64 bodk32)) = some (.normal, bodk35) := by kernel_rfl
theorem bodp37 {n0 : Nat} : Pc bodGl 11 64 n0 bodk32 bodc34 .normal bodk35 := Pc.run bodMix bodRa bodRok bode36
noncomputable def bodc39 : Code := tailC bodc33
noncomputable def bodc40 : Code := headC bodc39
def bodF2 : CF := .row [.str [98, 111, 117, 110, 100, 97, 114, 121], .str [120]] 2 false (some 146)
def bodF3 : CF := .row [.int .i64 (.ofNat 0), .int .i64 (.ofNat 45), .int .i64 (.ofNat 165), .str [109, 117, 108, 116, 105, 112, 97, 114, 116], .str [109, 105, 120, 101, 100], .sl 357 2 0 1 2 none, .nilsl] 7 false (some 66)
def bodk41 : Ck := ⟨[(0, .sl 143 165 0 165 1 none), (2, .ptr 308 7 0), (3, .ptr 360 7 0)], [(0, bodG0), (143, bodF0), (308, bodF1), (357, bodF2), (360, bodF3)], 361⟩
theorem bode42 : prC [0, 2, 3] [0, 143, 308, 357, 360] (aCode Tryz.prog bodGl bodR 1000000 bodc40 (Ck.st 11 64 bodk35)) = some (.normal, bodk41) := by kernel_rfl
theorem bodp43 {n0 : Nat} : Pc bodGl 11 64 n0 bodk35 bodc40 .normal bodk41 := Pc.run bodMix bodRa bodRok bode42
noncomputable def bodc45 : Code := tailC bodc39
noncomputable def bodc46 : Code := headC bodc45
def bodk47 : Ck := ⟨[(2, .ptr 308 7 0), (3, .ptr 360 7 0), (8, .sl 143 165 0 165 1 none)], [(0, bodG0), (143, bodF0), (308, bodF1), (357, bodF2), (360, bodF3)], 361⟩
theorem bode48 : prS [2, 3, 8] [0, 143, 308, 357, 360] (aOps Tryz.prog bodGl bodR (opsC bodc46) 1 0 (Ck.st 11 64 bodk41)) = some bodk47 := by kernel_rfl
def bodk49 : Ck := ⟨argL [.sl 143 165 0 165 1 none, .ptr 360 7 0, .int .i64 (.ofNat 0), .int .i64 (.ofNat 1)] 0, bodk47.fams, bodk47.next⟩
noncomputable def bodc50 : Code := bodyC Tryz.prog 62
noncomputable def bodc51 : Code := headC bodc50
def bodk52 : Ck := ⟨[(0, .sl 143 165 0 165 1 none), (1, .ptr 360 7 0), (2, .int .i64 (.ofNat 0)), (3, .int .i64 (.ofNat 1)), (8, .int .i64 (.ofNat 0))], [(0, bodG0), (143, bodF0), (308, bodF1), (357, bodF2), (360, bodF3)], 361⟩
theorem bode53 : prC [0, 1, 2, 3, 8] [0, 143, 308, 357, 360] (aCode Tryz.prog bodGl bodR 1000000 bodc51 (Ck.st 76 64 bodk49)) = some (.normal, bodk52) := by kernel_rfl
theorem bodp54 {n0 : Nat} : Pc bodGl 76 64 n0 bodk49 bodc51 .normal bodk52 := Pc.run bodMix bodRa bodRok bode53
noncomputable def bodc56 : Code := tailC bodc50
noncomputable def bodc57 : Code := headC bodc56
def bodF4 : CF := .row [.int .i64 (.ofNat 50), .int .i64 (.ofNat 143), .int .i64 (.ofNat 150), .int .i64 (.ofNat 156)] 2 false (some 125)
def bodk58 : Ck := ⟨[(0, .sl 143 165 0 165 1 none), (1, .ptr 360 7 0), (2, .int .i64 (.ofNat 0)), (3, .int .i64 (.ofNat 1)), (8, .int .i64 (.ofNat 0)), (9, .sl 424 4 0 2 2 none)], [(0, bodG0), (143, bodF0), (308, bodF1), (357, bodF2), (360, bodF3), (424, bodF4)], 436⟩
theorem bode59 : prC [0, 1, 2, 3, 8, 9] [0, 143, 308, 357, 360, 424] (aCode Tryz.prog bodGl bodR 1000000 bodc57 (Ck.st 76 64 bodk52)) = some (.normal, bodk58) := by kernel_rfl
theorem bodp60 {n0 : Nat} : Pc bodGl 76 64 n0 bodk52 bodc57 .normal bodk58 := Pc.run bodMix bodRa bodRok bode59
noncomputable def bodc62 : Code := tailC bodc56
noncomputable def bodc63 : Code := headC bodc62
def bodk64 : Ck := ⟨[(0, .sl 143 165 0 165 1 none), (1, .ptr 360 7 0), (2, .int .i64 (.ofNat 0)), (3, .int .i64 (.ofNat 1)), (8, .int .i64 (.ofNat 0)), (9, .sl 424 4 0 2 2 none)], [(0, bodG0), (143, bodF0), (308, bodF1), (357, bodF2), (360, bodF3), (424, bodF4)], 436⟩
theorem bode65 : prC [0, 1, 2, 3, 8, 9] [0, 143, 308, 357, 360, 424] (aCode Tryz.prog bodGl bodR 1000000 bodc63 (Ck.st 76 64 bodk58)) = some (.normal, bodk64) := by kernel_rfl
theorem bodp66 {n0 : Nat} : Pc bodGl 76 64 n0 bodk58 bodc63 .normal bodk64 := Pc.run bodMix bodRa bodRok bode65
noncomputable def bodc68 : Code := tailC bodc62
noncomputable def bodc69 : Code := headC bodc68
def bodk70 : Ck := ⟨[(0, .sl 143 165 0 165 1 none), (1, .ptr 360 7 0), (2, .int .i64 (.ofNat 0)), (3, .int .i64 (.ofNat 3)), (8, .int .i64 (.ofNat 0)), (9, .sl 424 4 0 2 2 none)], [(0, bodG0), (143, bodF0), (308, bodF1), (357, bodF2), (360, bodF3), (424, bodF4)], 436⟩
theorem bode71 : prC [0, 1, 2, 3, 8, 9] [0, 143, 308, 357, 360, 424] (aCode Tryz.prog bodGl bodR 1000000 bodc69 (Ck.st 76 64 bodk64)) = some (.normal, bodk70) := by kernel_rfl
theorem bodp72 {n0 : Nat} : Pc bodGl 76 64 n0 bodk64 bodc69 .normal bodk70 := Pc.run bodMix bodRa bodRok bode71
noncomputable def bodc74 : Code := tailC bodc68
noncomputable def bodc75 : Code := headC bodc74
noncomputable def bodc76 : Code := headC bodc75
def bodk77 : Ck := ⟨[(0, .sl 143 165 0 165 1 none), (1, .ptr 360 7 0), (2, .int .i64 (.ofNat 0)), (3, .int .i64 (.ofNat 3)), (8, .int .i64 (.ofNat 0)), (32, .sl 424 4 0 2 2 none), (33, .int .i64 (.ofNat 2)), (34, .int .i64 (.ofNat 0))], [(0, bodG0), (143, bodF0), (308, bodF1), (357, bodF2), (360, bodF3), (424, bodF4)], 436⟩
theorem bode78 : prC [0, 1, 2, 3, 8, 32, 33, 34] [0, 143, 308, 357, 360, 424] (aCode Tryz.prog bodGl bodR 1000000 bodc76 (Ck.st 76 64 bodk70)) = some (.normal, bodk77) := by kernel_rfl
theorem bodp79 {n0 : Nat} : Pc bodGl 76 64 n0 bodk70 bodc76 .normal bodk77 := Pc.run bodMix bodRa bodRok bode78
noncomputable def bodc81 : Code := tailC bodc75
noncomputable def bodc82 : Code := innerC bodc81
noncomputable def bodc83 : Code := innerC bodc82
noncomputable def bodc84 : Code := headC bodc83
def bodk85 : Ck := ⟨[(0, .sl 143 165 0 165 1 none), (1, .ptr 360 7 0), (2, .int .i64 (.ofNat 0)), (3, .int .i64 (.ofNat 3)), (8, .int .i64 (.ofNat 0)), (32, .sl 424 4 0 2 2 none), (33, .int .i64 (.ofNat 2)), (34, .int .i64 (.ofNat 0)), (35, .bool true)], [(0, bodG0), (143, bodF0), (308, bodF1), (357, bodF2), (360, bodF3), (424, bodF4)], 436⟩
theorem bode86 : prC [0, 1, 2, 3, 8, 32, 33, 34, 35] [0, 143, 308, 357, 360, 424] (aCode Tryz.prog bodGl bodR 1000000 bodc84 (Ck.st 76 64 bodk77)) = some (.normal, bodk85) := by kernel_rfl
theorem bodp87 {n0 : Nat} : Pc bodGl 76 64 n0 bodk77 bodc84 .normal bodk85 := Pc.run bodMix bodRa bodRok bode86
noncomputable def bodc89 : Code := tailC bodc83
noncomputable def bodc90 : Code := headC bodc89
def bodk91 : Ck := ⟨[(0, .sl 143 165 0 165 1 none), (1, .ptr 360 7 0), (2, .int .i64 (.ofNat 0)), (3, .int .i64 (.ofNat 3)), (8, .int .i64 (.ofNat 0)), (32, .sl 424 4 0 2 2 none), (33, .int .i64 (.ofNat 2)), (34, .int .i64 (.ofNat 0)), (35, .bool true)], [(0, bodG0), (143, bodF0), (308, bodF1), (357, bodF2), (360, bodF3), (424, bodF4)], 436⟩
theorem bode92 : prC [0, 1, 2, 3, 8, 32, 33, 34, 35] [0, 143, 308, 357, 360, 424] (aCode Tryz.prog bodGl bodR 1000000 bodc90 (Ck.st 76 64 bodk85)) = some (.normal, bodk91) := by kernel_rfl
theorem bodp93 {n0 : Nat} : Pc bodGl 76 64 n0 bodk85 bodc90 .normal bodk91 := Pc.run bodMix bodRa bodRok bode92
noncomputable def bodc95 : Code := tailC bodc89
noncomputable def bodc96 : Code := headC bodc95
noncomputable def bodc97 : Code := innerC bodc96
noncomputable def bodc98 : Code := headC bodc97
def bodF5 : CF := .row [.int .i64 (.ofNat 50), .int .i64 (.ofNat 143)] 2 false (some 125)
def bodk99 : Ck := ⟨[(0, .sl 143 165 0 165 1 none), (1, .ptr 360 7 0), (2, .int .i64 (.ofNat 0)), (3, .int .i64 (.ofNat 3)), (8, .int .i64 (.ofNat 0)), (11, .ptr 436 2 0), (32, .sl 424 4 0 2 2 none), (33, .int .i64 (.ofNat 2)), (34, .int .i64 (.ofNat 0)), (35, .bool true), (36, .ptr 424 4 0), (37, .agg [.int .i64 (.ofNat 50), .int .i64 (.ofNat 143)])], [(0, bodG0), (143, bodF0), (308, bodF1), (357, bodF2), (360, bodF3), (424, bodF4), (436, bodF5)], 437⟩
theorem bode100 : prC [0, 1, 2, 3, 8, 11, 32, 33, 34, 35, 36, 37] [0, 143, 308, 357, 360, 424, 436] (aCode Tryz.prog bodGl bodR 1000000 bodc98 (Ck.st 76 64 bodk91)) = some (.normal, bodk99) := by kernel_rfl
theorem bodp101 {n0 : Nat} : Pc bodGl 76 64 n0 bodk91 bodc98 .normal bodk99 := Pc.run bodMix bodRa bodRok bode100
noncomputable def bodc103 : Code := tailC bodc97
def bodF6 : CF := .row [.int .i64 (.ofNat 0), .int .i64 (.ofNat 45), .int .i64 (.ofNat 165), .str [109, 117, 108, 116, 105, 112, 97, 114, 116], .str [109, 105, 120, 101, 100], .sl 357 2 0 1 2 none, .sl 514 7 0 1 7 none] 7 false (some 66)
def bodF7 : CF := .row [.str [110, 97, 109, 101], .str [97, 32, 98]] 2 false (some 146)
def bodF8 : CF := .row [.int .i64 (.ofNat 50), .int .i64 (.ofNat 141), .int .i64 (.ofNat 143), .str [105, 109, 97, 103, 101], .str [103, 105, 102], .sl 510 2 0 1 2 none, .nilsl] 7 false (some 66)
def bodk104 : Ck := ⟨[(0, .sl 143 165 0 165 1 none), (1, .ptr 360 7 0), (2, .int .i64 (.ofNat 0)), (3, .int .i64 (.ofNat 3)), (8, .int .i64 (.ofNat 0)), (11, .ptr 436 2 0), (32, .sl 424 4 0 2 2 none), (33, .int .i64 (.ofNat 2)), (34, .int .i64 (.ofNat 0)), (35, .bool true), (36, .ptr 424 4 0), (37, .agg [.int .i64 (.ofNat 50), .int .i64 (.ofNat 143)]), (38, .ptr 360 7 0), (39, .ptr 360 7 0), (40, .ptr 360 7 6), (41, .nilsl), (42, .sl 143 165 0 165 1 none), (43, .ptr 436 2 0), (44, .int .i64 (.ofNat 50)), (45, .ptr 436 2 1), (46, .int .i64 (.ofNat 143)), (47, .agg [.int .i64 (.ofNat 50), .int .i64 (.ofNat 141), .int .i64 (.ofNat 143), .str [105, 109, 97, 103, 101], .str [103, 105, 102], .sl 510 2 0 1 2 none, .nilsl]), (48, .int .i64 (.ofNat 0)), (49, .sl 513 7 0 1 7 (some 7)), (50, .sl 514 7 0 1 7 none), (51, .ptr 514 7 0), (52, .ptr 360 7 0), (53, .ptr 360 7 6)], [(0, bodG0), (143, bodF0), (308, bodF1), (357, bodF2), (360, bodF6), (424, bodF4), (436, bodF5), (510, bodF7), (513, bodF1), (514, bodF8)], 515⟩
theorem bode105 : prC [0, 1, 2, 3, 8, 11, 32, 33, 34, 35, 36, 37, 38, 39, 40, 41, 42, 43, 44, 45, 46, 47, 48, 49, 50, 51, 52, 53] [0, 143, 308, 357, 360, 424, 436, 510, 513, 514] (aCode Tryz.prog bodGl bodR 1000000 bodc103 (Ck.st 76 64 bodk99)) = some (.normal, bodk104) := by kernel_rfl
theorem bodp106 {n0 : Nat} : Pc bodGl 76 64 n0 bodk99 bodc103 .normal bodk104 := Pc.run bodMix bodRa bodRok bode105
theorem bodp102 {n0 : Nat} : Pc bodGl 76 64 n0 bodk91 bodc97 .normal bodk104 := Pc.seq (a := bodc98) (b := bodc103) (by kernel_rfl) bodp101 bodp106
theorem bodp107 {n0 : Nat} : Pc bodGl 76 64 n0 bodk91 bodc96 .normal bodk104 := Pc.block (id := 1) (b := bodc97) (x := .normal) (by kernel_rfl) (by kernel_rfl) bodp102
noncomputable def bodc109 : Code := tailC bodc95
def bodk110 : Ck := ⟨[(0, .sl 143 165 0 165 1 none), (1, .ptr 360 7 0), (2, .int .i64 (.ofNat 0)), (3, .int .i64 (.ofNat 3)), (8, .int .i64 (.ofNat 0)), (11, .ptr 436 2 0), (32, .sl 424 4 0 2 2 none), (33, .int .i64 (.ofNat 2)), (34, .int .i64 (.ofNat 1)), (35, .bool true), (36, .ptr 424 4 0), (37, .agg [.int .i64 (.ofNat 50), .int .i64 (.ofNat 143)]), (38, .ptr 360 7 0), (39, .ptr 360 7 0), (40, .ptr 360 7 6), (41, .nilsl), (42, .sl 143 165 0 165 1 none), (43, .ptr 436 2 0), (44, .int .i64 (.ofNat 50)), (45, .ptr 436 2 1), (46, .int .i64 (.ofNat 143)), (47, .agg [.int .i64 (.ofNat 50), .int .i64 (.ofNat 141), .int .i64 (.ofNat 143), .str [105, 109, 97, 103, 101], .str [103, 105, 102], .sl 510 2 0 1 2 none, .nilsl]), (48, .int .i64 (.ofNat 0)), (49, .sl 513 7 0 1 7 (some 7)), (50, .sl 514 7 0 1 7 none), (51, .ptr 514 7 0), (52, .ptr 360 7 0), (53, .ptr 360 7 6), (54, .int .i64 (.ofNat 1))], [(0, bodG0), (143, bodF0), (308, bodF1), (357, bodF2), (360, bodF6), (424, bodF4), (436, bodF5), (510, bodF7), (513, bodF1), (514, bodF8)], 515⟩
theorem bode111 : prC [0, 1, 2, 3, 8, 11, 32, 33, 34, 35, 36, 37, 38, 39, 40, 41, 42, 43, 44, 45, 46, 47, 48, 49, 50, 51, 52, 53, 54] [0, 143, 308, 357, 360, 424, 436, 510, 513, 514] (aCode Tryz.prog bodGl bodR 1000000 bodc109 (Ck.st 76 64 bodk104)) = some (.normal, bodk110) := by kernel_rfl
theorem bodp112 {n0 : Nat} : Pc bodGl 76 64 n0 bodk104 bodc109 .normal bodk110 := Pc.run bodMix bodRa bodRok bode111
theorem bodp108 {n0 : Nat} : Pc bodGl 76 64 n0 bodk91 bodc95 .normal bodk110 := Pc.seq (a := bodc96) (b := bodc109) (by kernel_rfl) bodp107 bodp112
theorem bodp94 {n0 : Nat} : Pc bodGl 76 64 n0 bodk85 bodc89 .normal bodk110 := Pc.seq (a := bodc90) (b := bodc95) (by kernel_rfl) bodp93 bodp108
theorem bodp88 {n0 : Nat} : Pc bodGl 76 64 n0 bodk77 bodc83 .normal bodk110 := Pc.seq (a := bodc84) (b := bodc89) (by kernel_rfl) bodp87 bodp94
def bodF9 : CF := .row [.int .i64 (.ofNat 0), .int .i64 (.ofNat 45), .int .i64 (.ofNat 165), .str [109, 117, 108, 116, 105, 112, 97, 114, 116], .str [109, 105, 120, 101, 100], .sl 357 2 0 1 2 none, .sl 514 14 0 2 7 none] 7 false (some 66)
def bodF10 : CF := .row [.int .i64 (.ofNat 50), .int .i64 (.ofNat 141), .int .i64 (.ofNat 143), .str [105, 109, 97, 103, 101], .str [103, 105, 102], .sl 510 2 0 1 2 none, .nilsl, .int .i64 (.ofNat 150), .int .i64 (.ofNat 152), .int .i64 (.ofNat 156), .str [116, 101, 120, 116], .str [112, 108, 97, 105, 110], .nilsl, .nilsl] 14 false (some 66)
def bodF11 : CF := .row [.int .i64 (.ofNat 150), .int .i64 (.ofNat 156)] 2 false (some 125)
def bodk113 : Ck := ⟨[(0, .sl 143 165 0 165 1 none), (1, .ptr 360 7 0), (2, .int .i64 (.ofNat 0)), (3, .int .i64 (.ofNat 3)), (8, .int .i64 (.ofNat 0)), (11, .ptr 515 2 0), (32, .sl 424 4 0 2 2 none), (33, .int .i64 (.ofNat 2)), (34, .int .i64 (.ofNat 2)), (35, .bool true), (36, .ptr 424 4 2), (37, .agg [.int .i64 (.ofNat 150), .int .i64 (.ofNat 156)]), (38, .ptr 360 7 0), (39, .ptr 360 7 0), (40, .ptr 360 7 6), (41, .sl 514 7 0 1 7 none), (42, .sl 143 165 0 165 1 none), (43, .ptr 515 2 0), (44, .int .i64 (.ofNat 150)), (45, .ptr 515 2 1), (46, .int .i64 (.ofNat 156)), (47, .agg [.int .i64 (.ofNat 150), .int .i64 (.ofNat 152), .int .i64 (.ofNat 156), .str [116, 101, 120, 116], .str [112, 108, 97, 105, 110], .nilsl, .nilsl]), (48, .int .i64 (.ofNat 1)), (49, .sl 525 7 0 1 7 (some 7)), (50, .sl 514 14 0 2 7 none), (51, .ptr 514 14 7), (52, .ptr 360 7 0), (53, .ptr 360 7 6), (54, .int .i64 (.ofNat 2))], [(0, bodG0), (143, bodF0), (308, bodF1), (357, bodF2), (360, bodF9), (424, bodF4), (510, bodF7), (514, bodF10), (515, bodF11), (525, bodF1)], 526⟩
theorem bode114 : prS [0, 1, 2, 3, 8, 11, 32, 33, 34, 35, 36, 37, 38, 39, 40, 41, 42, 43, 44, 45, 46, 47, 48, 49, 50, 51, 52, 53, 54] [0, 143, 308, 357, 360, 424, 510, 514, 515, 525] (aRnd Tryz.prog bodGl bodR 1000000 bodc83 1 (Ck.st 76 64 bodk110)) = some bodk113 := by kernel_rfl
def bodk115 : Ck := ⟨[(0, .sl 143 165 0 165 1 none), (1, .ptr 360 7 0), (2, .int .i64 (.ofNat 0)), (3, .int .i64 (.ofNat 3)), (8, .int .i64 (.ofNat 0))], [(0, bodG0), (143, bodF0), (308, bodF1), (357, bodF2), (360, bodF9), (510, bodF7), (514, bodF10)], 526⟩
theorem bode116 : prC [0, 1, 2, 3, 8] [0, 143, 308, 357, 360, 510, 514] (aCode Tryz.prog bodGl bodR 1000000 bodc83 (Ck.st 76 64 bodk113)) = some ((.exit 0), bodk115) := by kernel_rfl
theorem bodp117 {n0 : Nat} : Pc bodGl 76 64 n0 bodk113 bodc83 (.exit 0) bodk115 := Pc.run bodMix bodRa bodRok bode116
theorem bodp118 {n0 : Nat} : Pc bodGl 76 64 n0 bodk77 bodc82 (.exit 0) bodk115 := Pc.loop (c := bodc83) (n := 3) (by kernel_rfl) (Pr.more (n := 2) bodp88 (Pr.run (n := 1) bodMix bodRa bodRok (k := 1) bode114 (Pr.last (fun h => by cases h) bodp117)))
theorem bodp119 {n0 : Nat} : Pc bodGl 76 64 n0 bodk77 bodc81 .normal bodk115 := Pc.block (id := 0) (b := bodc82) (x := (.exit 0)) (by kernel_rfl) (by kernel_rfl) bodp118
theorem bodp80 {n0 : Nat} : Pc bodGl 76 64 n0 bodk70 bodc75 .normal bodk115 := Pc.seq (a := bodc76) (b := bodc81) (by kernel_rfl) bodp79 bodp119
noncomputable def bodc121 : Code := tailC bodc74
def bodk122 : Ck := ⟨[(8, .int .i64 (.ofNat 3))], [(0, bodG0), (143, bodF0), (308, bodF1), (357, bodF2), (360, bodF9), (510, bodF7), (514, bodF10)], 530⟩
theorem bode123 : prC [8] [0, 143, 308, 357, 360, 510, 514] (aCode Tryz.prog bodGl bodR 1000000 bodc121 (Ck.st 76 64 bodk115)) = some (.ret, bodk122) := by kernel_rfl
theorem bodp124 {n0 : Nat} : Pc bodGl 76 64 n0 bodk115 bodc121 .ret bodk122 := Pc.run bodMix bodRa bodRok bode123
theorem bodp120 {n0 : Nat} : Pc bodGl 76 64 n0 bodk70 bodc74 .ret bodk122 := Pc.seq (a := bodc75) (b := bodc121) (by kernel_rfl) bodp80 bodp124
theorem bodp73 {n0 : Nat} : Pc bodGl 76 64 n0 bodk64 bodc68 .ret bodk122 := Pc.seq (a := bodc69) (b := bodc74) (by kernel_rfl) bodp72 bodp120
theorem bodp67 {n0 : Nat} : Pc bodGl 76 64 n0 bodk58 bodc62 .ret bodk122 := Pc.seq (a := bodc63) (b := bodc68) (by kernel_rfl) bodp66 bodp73
theorem bodp61 {n0 : Nat} : Pc bodGl 76 64 n0 bodk52 bodc56 .ret bodk122 := Pc.seq (a := bodc57) (b := bodc62) (by kernel_rfl) bodp60 bodp67
theorem bodp55 {n0 : Nat} : Pc bodGl 76 64 n0 bodk49 bodc50 .ret bodk122 := Pc.seq (a := bodc51) (b := bodc56) (by kernel_rfl) bodp54 bodp61
theorem bodp125 {n0 : Nat} : PCall bodGl 64 n0 62 [.sl 143 165 0 165 1 none, .ptr 360 7 0, .int .i64 (.ofNat 0), .int .i64 (.ofNat 1)] bodk47.fams bodk47.next (.int .i64 (.ofNat 3)) bodk122.fams bodk122.next := PCall.of (fn := Tryz.f62) (c := bodc50) (nt := 76) (ck := bodk122) (vs := [.int .i64 (.ofNat 3)]) Tryz.func62 (by kernel_rfl) (by kernel_rfl) (show Pc bodGl 76 64 n0 bodk49 bodc50 .ret bodk122 from bodp55) (by first | exact .inl rfl | exact .inr rfl) (by kernel_rfl) (by kernel_rfl)
def bodk126 : Ck := ⟨[(2, .ptr 308 7 0), (3, .ptr 360 7 0)], bodk122.fams, bodk122.next⟩
theorem bodp127 {n0 : Nat} : Pc bodGl 11 64 n0 bodk41 bodc46 .normal bodk126 := Pc.region (id := idC bodc46) (ops := opsC bodc46) (by kernel_rfl) (n := 2) (by kernel_rfl) (Ps.cons bodRa bodRok (n := 1) (k := 1) bode48 (Ps.call (o := opC (opsC bodc46) 1) (f := 62) (args := [.sl 143 165 0 165 1 none, .ptr 360 7 0, .int .i64 (.ofNat 0), .int .i64 (.ofNat 1)]) (v := .int .i64 (.ofNat 3)) (d := 9) (lv := [2, 3]) (live' := bodk126.live) (k := 0) (by kernel_rfl) (by kernel_rfl) (by kernel_rfl) (by kernel_rfl) (by kernel_rfl) (by kernel_rfl) bodp125 (by kernel_rfl) (ck1 := bodk126) rfl Ps.nil))
noncomputable def bodc129 : Code := tailC bodc45
def bodk130 : Ck := ⟨[(2, .ptr 308 7 0)], [(0, bodG0), (143, bodF0), (308, bodF9), (357, bodF2), (510, bodF7), (514, bodF10)], 530⟩
theorem bode131 : prC [2] [0, 143, 308, 357, 510, 514] (aCode Tryz.prog bodGl bodR 1000000 bodc129 (Ck.st 11 64 bodk126)) = some (.ret, bodk130) := by kernel_rfl
theorem bodp132 {n0 : Nat} : Pc bodGl 11 64 n0 bodk126 bodc129 .ret bodk130 := Pc.run bodMix bodRa bodRok bode131
theorem bodp128 {n0 : Nat} : Pc bodGl 11 64 n0 bodk41 bodc45 .ret bodk130 := Pc.seq (a := bodc46) (b := bodc129) (by kernel_rfl) bodp127 bodp132
theorem bodp44 {n0 : Nat} : Pc bodGl 11 64 n0 bodk35 bodc39 .ret bodk130 := Pc.seq (a := bodc40) (b := bodc45) (by kernel_rfl) bodp43 bodp128
theorem bodp38 {n0 : Nat} : Pc bodGl 11 64 n0 bodk32 bodc33 .ret bodk130 := Pc.seq (a := bodc34) (b := bodc39) (by kernel_rfl) bodp37 bodp44
theorem bodp133 {n0 : Nat} : PCall bodGl 64 n0 37 [.sl 143 165 0 165 1 none] bodk30.fams bodk30.next (.agg [.int .i64 (.ofNat 0), .int .i64 (.ofNat 45), .int .i64 (.ofNat 165), .str [109, 117, 108, 116, 105, 112, 97, 114, 116], .str [109, 105, 120, 101, 100], .sl 357 2 0 1 2 none, .sl 514 14 0 2 7 none]) bodk130.fams bodk130.next := PCall.of (fn := Tryz.f37) (c := bodc33) (nt := 11) (ck := bodk130) (vs := [.agg [.int .i64 (.ofNat 0), .int .i64 (.ofNat 45), .int .i64 (.ofNat 165), .str [109, 117, 108, 116, 105, 112, 97, 114, 116], .str [109, 105, 120, 101, 100], .sl 357 2 0 1 2 none, .sl 514 14 0 2 7 none]]) Tryz.func37 (by kernel_rfl) (by kernel_rfl) (show Pc bodGl 11 64 n0 bodk32 bodc33 .ret bodk130 from bodp38) (by first | exact .inl rfl | exact .inr rfl) (by kernel_rfl) (by kernel_rfl)
def bodk134 : Ck := ⟨[(2, .str []), (3, .sl 143 165 0 165 1 none), (5, .agg [.int .i64 (.ofNat 0), .int .i64 (.ofNat 45), .int .i64 (.ofNat 165), .str [109, 117, 108, 116, 105, 112, 97, 114, 116], .str [109, 105, 120, 101, 100], .sl 357 2 0 1 2 none, .sl 514 14 0 2 7 none])], bodk130.fams, bodk130.next⟩
def bodk135 : Ck := ⟨argL [.sl 143 165 0 165 1 none, .agg [.int .i64 (.ofNat 0), .int .i64 (.ofNat 45), .int .i64 (.ofNat 165), .str [109, 117, 108, 116, 105, 112, 97, 114, 116], .str [109, 105, 120, 101, 100], .sl 357 2 0 1 2 none, .sl 514 14 0 2 7 none]] 0, bodk134.fams, bodk134.next⟩
noncomputable def bodc136 : Code := bodyC Tryz.prog 36
noncomputable def bodc137 : Code := headC bodc136
def bodk138 : Ck := ⟨[(0, .sl 143 165 0 165 1 none), (3, .ptr 530 7 0), (4, .str [])], [(0, bodG0), (143, bodF0), (357, bodF2), (510, bodF7), (514, bodF10), (530, bodF9)], 531⟩
theorem bode139 : prC [0, 3, 4] [0, 143, 357, 510, 514, 530] (aCode Tryz.prog bodGl bodR 1000000 bodc137 (Ck.st 10 64 bodk135)) = some (.normal, bodk138) := by kernel_rfl
theorem bodp140 {n0 : Nat} : Pc bodGl 10 64 n0 bodk135 bodc137 .normal bodk138 := Pc.run bodMix bodRa bodRok bode139
noncomputable def bodc142 : Code := tailC bodc136
noncomputable def bodc143 : Code := headC bodc142
def bodF12 : CF := .row [.nilptr, .nilsl] 2 false (some 74)
def bodk144 : Ck := ⟨[(0, .sl 143 165 0 165 1 none), (3, .ptr 530 7 0), (4, .str []), (5, .ptr 531 2 0)], [(0, bodG0), (143, bodF0), (357, bodF2), (510, bodF7), (514, bodF10), (530, bodF9), (531, bodF12)], 532⟩
theorem bode145 : prC [0, 3, 4, 5] [0, 143, 357, 510, 514, 530, 531] (aCode Tryz.prog bodGl bodR 1000000 bodc143 (Ck.st 10 64 bodk138)) = some (.normal, bodk144) := by kernel_rfl
theorem bodp146 {n0 : Nat} : Pc bodGl 10 64 n0 bodk138 bodc143 .normal bodk144 := Pc.run bodMix bodRa bodRok bode145
noncomputable def bodc148 : Code := tailC bodc142
noncomputable def bodc149 : Code := headC bodc148
def bodk150 : Ck := ⟨[(4, .str []), (5, .ptr 531 2 0), (6, .sl 143 165 0 165 1 none), (7, .agg [.int .i64 (.ofNat 0), .int .i64 (.ofNat 45), .int .i64 (.ofNat 165), .str [109, 117, 108, 116, 105, 112, 97, 114, 116], .str [109, 105, 120, 101, 100], .sl 357 2 0 1 2 none, .sl 514 14 0 2 7 none])], [(0, bodG0), (143, bodF0), (357, bodF2), (510, bodF7), (514, bodF10), (531, bodF12)], 532⟩
theorem bode151 : prS [4, 5, 6, 7] [0, 143, 357, 510, 514, 531] (aOps Tryz.prog bodGl bodR (opsC bodc149) 2 0 (Ck.st 10 64 bodk144)) = some bodk150 := by kernel_rfl
def bodk152 : Ck := ⟨argL [.ptr 531 2 0, .sl 143 165 0 165 1 none, .agg [.int .i64 (.ofNat 0), .int .i64 (.ofNat 45), .int .i64 (.ofNat 165), .str [109, 117, 108, 116, 105, 112, 97, 114, 116], .str [109, 105, 120, 101, 100], .sl 357 2 0 1 2 none, .sl 514 14 0 2 7 none]] 0, bodk150.fams, bodk150.next⟩
noncomputable def bodc153 : Code := bodyC Tryz.prog 60
noncomputable def bodc154 : Code := headC bodc153
def bodk155 : Ck := ⟨[(0, .ptr 531 2 0), (1, .sl 143 165 0 165 1 none), (5, .ptr 532 7 0)], [(0, bodG0), (143, bodF0), (357, bodF2), (510, bodF7), (514, bodF10), (531, bodF12), (532, bodF9)], 533⟩
theorem bode156 : prC [0, 1, 5] [0, 143, 357, 510, 514, 531, 532] (aCode Tryz.prog bodGl bodR 1000000 bodc154 (Ck.st 39 64 bodk152)) = some (.normal, bodk155) := by kernel_rfl
theorem bodp157 {n0 : Nat} : Pc bodGl 39 64 n0 bodk152 bodc154 .normal bodk155 := Pc.run bodMix bodRa bodRok bode156
noncomputable def bodc159 : Code := tailC bodc153
noncomputable def bodc160 : Code := headC bodc159
def bodF13 : CF := .row [.ptr 531 2 0, .sl 533 1 0 1 1 none] 2 false (some 74)
def bodF14 : CF := .row (bs [40]) 1 false (some 5)
def bodk161 : Ck := ⟨[(0, .ptr 531 2 0), (1, .sl 143 165 0 165 1 none), (5, .ptr 532 7 0)], [(0, bodG0), (143, bodF0), (357, bodF2), (510, bodF7), (514, bodF10), (531, bodF13), (532, bodF9), (533, bodF14)], 534⟩
theorem bode162 : prC [0, 1, 5] [0, 143, 357, 510, 514, 531, 532, 533] (aCode Tryz.prog bodGl bodR 1000000 bodc160 (Ck.st 39 64 bodk155)) = some (.normal, bodk161) := by kernel_rfl
theorem bodp163 {n0 : Nat} : Pc bodGl 39 64 n0 bodk155 bodc160 .normal bodk161 := Pc.run bodMix bodRa bodRok bode162
noncomputable def bodc165 : Code := tailC bodc159
noncomputable def bodc166 : Code := headC bodc165
noncomputable def bodc167 : Code := headC bodc166
def bodk168 : Ck := ⟨[(0, .ptr 531 2 0), (1, .sl 143 165 0 165 1 none), (5, .ptr 532 7 0), (13, .bool false)], [(0, bodG0), (143, bodF0), (357, bodF2), (510, bodF7), (514, bodF10), (531, bodF13), (532, bodF9), (533, bodF14)], 534⟩
theorem bode169 : prC [0, 1, 5, 13] [0, 143, 357, 510, 514, 531, 532, 533] (aCode Tryz.prog bodGl bodR 1000000 bodc167 (Ck.st 39 64 bodk161)) = some (.normal, bodk168) := by kernel_rfl
theorem bodp170 {n0 : Nat} : Pc bodGl 39 64 n0 bodk161 bodc167 .normal bodk168 := Pc.run bodMix bodRa bodRok bode169
noncomputable def bodc172 : Code := tailC bodc166
noncomputable def bodc173 : Code := elseC bodc172
noncomputable def bodc174 : Code := headC bodc173
noncomputable def bodc175 : Code := headC bodc174
def bodk176 : Ck := ⟨[(0, .ptr 531 2 0), (1, .sl 143 165 0 165 1 none), (5, .ptr 532 7 0), (20, .sl 514 14 0 2 7 none), (21, .int .i64 (.ofNat 2)), (22, .int .i64 (.ofNat 0))], [(0, bodG0), (143, bodF0), (357, bodF2), (510, bodF7), (514, bodF10), (531, bodF13), (532, bodF9), (533, bodF14)], 534⟩
theorem bode177 : prC [0, 1, 5, 20, 21, 22] [0, 143, 357, 510, 514, 531, 532, 533] (aCode Tryz.prog bodGl bodR 1000000 bodc175 (Ck.st 39 64 bodk168)) = some (.normal, bodk176) := by kernel_rfl
theorem bodp178 {n0 : Nat} : Pc bodGl 39 64 n0 bodk168 bodc175 .normal bodk176 := Pc.run bodMix bodRa bodRok bode177
noncomputable def bodc180 : Code := tailC bodc174
noncomputable def bodc181 : Code := innerC bodc180
noncomputable def bodc182 : Code := innerC bodc181
noncomputable def bodc183 : Code := headC bodc182
def bodk184 : Ck := ⟨[(0, .ptr 531 2 0), (1, .sl 143 165 0 165 1 none), (5, .ptr 532 7 0), (20, .sl 514 14 0 2 7 none), (21, .int .i64 (.ofNat 2)), (22, .int .i64 (.ofNat 0)), (23, .bool true)], [(0, bodG0), (143, bodF0), (357, bodF2), (510, bodF7), (514, bodF10), (531, bodF13), (532, bodF9), (533, bodF14)], 534⟩
theorem bode185 : prC [0, 1, 5, 20, 21, 22, 23] [0, 143, 357, 510, 514, 531, 532, 533] (aCode Tryz.prog bodGl bodR 1000000 bodc183 (Ck.st 39 64 bodk176)) = some (.normal, bodk184) := by kernel_rfl
theorem bodp186 {n0 : Nat} : Pc bodGl 39 64 n0 bodk176 bodc183 .normal bodk184 := Pc.run bodMix bodRa bodRok bode185
noncomputable def bodc188 : Code := tailC bodc182
noncomputable def bodc189 : Code := headC bodc188
def bodk190 : Ck := ⟨[(0, .ptr 531 2 0), (1, .sl 143 165 0 165 1 none), (5, .ptr 532 7 0), (20, .sl 514 14 0 2 7 none), (21, .int .i64 (.ofNat 2)), (22, .int .i64 (.ofNat 0)), (23, .bool true)], [(0, bodG0), (143, bodF0), (357, bodF2), (510, bodF7), (514, bodF10), (531, bodF13), (532, bodF9), (533, bodF14)], 534⟩
theorem bode191 : prC [0, 1, 5, 20, 21, 22, 23] [0, 143, 357, 510, 514, 531, 532, 533] (aCode Tryz.prog bodGl bodR 1000000 bodc189 (Ck.st 39 64 bodk184)) = some (.normal, bodk190) := by kernel_rfl
theorem bodp192 {n0 : Nat} : Pc bodGl 39 64 n0 bodk184 bodc189 .normal bodk190 := Pc.run bodMix bodRa bodRok bode191
noncomputable def bodc194 : Code := tailC bodc188
noncomputable def bodc195 : Code := headC bodc194
noncomputable def bodc196 : Code := innerC bodc195
noncomputable def bodc197 : Code := headC bodc196
def bodk198 : Ck := ⟨[(0, .ptr 531 2 0), (1, .sl 143 165 0 165 1 none), (5, .ptr 532 7 0), (7, .ptr 534 7 0), (20, .sl 514 14 0 2 7 none), (21, .int .i64 (.ofNat 2)), (22, .int .i64 (.ofNat 0)), (23, .bool true), (24, .ptr 514 14 0), (25, .agg [.int .i64 (.ofNat 50), .int .i64 (.ofNat 141), .int .i64 (.ofNat 143), .str [105, 109, 97, 103, 101], .str [103, 105, 102], .sl 510 2 0 1 2 none, .nilsl])], [(0, bodG0), (143, bodF0), (357, bodF2), (510, bodF7), (514, bodF10), (531, bodF13), (532, bodF9), (533, bodF14), (534, bodF8)], 535⟩
theorem bode199 : prC [0, 1, 5, 7, 20, 21, 22, 23, 24, 25] [0, 143, 357, 510, 514, 531, 532, 533, 534] (aCode Tryz.prog bodGl bodR 1000000 bodc197 (Ck.st 39 64 bodk190)) = some (.normal, bodk198) := by kernel_rfl
theorem bodp200 {n0 : Nat} : Pc bodGl 39 64 n0 bodk190 bodc197 .normal bodk198 := Pc.run bodMix bodRa bodRok bode199
noncomputable def bodc202 : Code := tailC bodc196
def bodk203 : Ck := ⟨[(0, .ptr 531 2 0), (1, .sl 143 165 0 165 1 none), (5, .ptr 532 7 0), (7, .ptr 534 7 0), (20, .sl 514 14 0 2 7 none), (21, .int .i64 (.ofNat 2)), (22, .int .i64 (.ofNat 0)), (23, .bool true), (24, .ptr 514 14 0), (25, .agg [.int .i64 (.ofNat 50), .int .i64 (.ofNat 141), .int .i64 (.ofNat 143), .str [105, 109, 97, 103, 101], .str [103, 105, 102], .sl 510 2 0 1 2 none, .nilsl]), (26, .ptr 531 2 0), (27, .sl 143 165 0 165 1 none), (28, .agg [.int .i64 (.ofNat 50), .int .i64 (.ofNat 141), .int .i64 (.ofNat 143), .str [105, 109, 97, 103, 101], .str [103, 105, 102], .sl 510 2 0 1 2 none, .nilsl])], [(0, bodG0), (143, bodF0), (357, bodF2), (510, bodF7), (514, bodF10), (531, bodF13), (532, bodF9), (533, bodF14), (534, bodF8)], 535⟩
theorem bode204 : prS [0, 1, 5, 7, 20, 21, 22, 23, 24, 25, 26, 27, 28] [0, 143, 357, 510, 514, 531, 532, 533, 534] (aOps Tryz.prog bodGl bodR (opsC bodc202) 3 0 (Ck.st 39 64 bodk198)) = some bodk203 := by kernel_rfl
def bodk205 : Ck := ⟨argL [.ptr 531 2 0, .sl 143 165 0 165 1 none, .agg [.int .i64 (.ofNat 50), .int .i64 (.ofNat 141), .int .i64 (.ofNat 143), .str [105, 109, 97, 103, 101], .str [103, 105, 102], .sl 510 2 0 1 2 none, .nilsl]] 0, bodk203.fams, bodk203.next⟩
noncomputable def bodc206 : Code := bodyC Tryz.prog 60
noncomputable def bodc207 : Code := headC bodc206
def bodk208 : Ck := ⟨[(0, .ptr 531 2 0), (1, .sl 143 165 0 165 1 none), (5, .ptr 535 7 0)], [(0, bodG0), (143, bodF0), (357, bodF2), (510, bodF7), (514, bodF10), (531, bodF13), (532, bodF9), (533, bodF14), (534, bodF8), (535, bodF8)], 536⟩
theorem bode209 : prC [0, 1, 5] [0, 143, 357, 510, 514, 531, 532, 533, 534, 535] (aCode Tryz.prog bodGl bodR 1000000 bodc207 (Ck.st 39 64 bodk205)) = some (.normal, bodk208) := by kernel_rfl
theorem bodp210 {n0 : Nat} : Pc bodGl 39 64 n0 bodk205 bodc207 .normal bodk208 := Pc.run bodMix bodRa bodRok bode209
noncomputable def bodc212 : Code := tailC bodc206
noncomputable def bodc213 : Code := headC bodc212
def bodF15 : CF := .row [.ptr 531 2 0, .sl 533 2 0 2 1 none] 2 false (some 74)
def bodF16 : CF := .row (bs [40, 40]) 1 false (some 5)
def bodk214 : Ck := ⟨[(0, .ptr 531 2 0), (1, .sl 143 165 0 165 1 none), (5, .ptr 535 7 0)], [(0, bodG0), (143, bodF0), (357, bodF2), (510, bodF7), (514, bodF10), (531, bodF15), (532, bodF9), (533, bodF16), (534, bodF8), (535, bodF8)], 536⟩
theorem bode215 : prC [0, 1, 5] [0, 143, 357, 510, 514, 531, 532, 533, 534, 535] (aCode Tryz.prog bodGl bodR 1000000 bodc213 (Ck.st 39 64 bodk208)) = some (.normal, bodk214) := by kernel_rfl
theorem bodp216 {n0 : Nat} : Pc bodGl 39 64 n0 bodk208 bodc213 .normal bodk214 := Pc.run bodMix bodRa bodRok bode215
noncomputable def bodc218 : Code := tailC bodc212
noncomputable def bodc219 : Code := headC bodc218
noncomputable def bodc220 : Code := headC bodc219
def bodk221 : Ck := ⟨[(0, .ptr 531 2 0), (1, .sl 143 165 0 165 1 none), (5, .ptr 535 7 0), (13, .bool true)], [(0, bodG0), (143, bodF0), (357, bodF2), (510, bodF7), (514, bodF10), (531, bodF15), (532, bodF9), (533, bodF16), (534, bodF8), (535, bodF8)], 536⟩
theorem bode222 : prC [0, 1, 5, 13] [0, 143, 357, 510, 514, 531, 532, 533, 534, 535] (aCode Tryz.prog bodGl bodR 1000000 bodc220 (Ck.st 39 64 bodk214)) = some (.normal, bodk221) := by kernel_rfl
theorem bodp223 {n0 : Nat} : Pc bodGl 39 64 n0 bodk214 bodc220 .normal bodk221 := Pc.run bodMix bodRa bodRok bode222
noncomputable def bodc225 : Code := tailC bodc219
noncomputable def bodc226 : Code := thenC bodc225
def bodk227 : Ck := ⟨[(0, .ptr 531 2 0), (14, .ptr 531 2 0), (15, .sl 143 165 0 165 1 none), (16, .agg [.int .i64 (.ofNat 50), .int .i64 (.ofNat 141), .int .i64 (.ofNat 143), .str [105, 109, 97, 103, 101], .str [103, 105, 102], .sl 510 2 0 1 2 none, .nilsl])], [(0, bodG0), (143, bodF0), (357, bodF2), (510, bodF7), (514, bodF10), (531, bodF15), (532, bodF9), (533, bodF16), (534, bodF8)], 536⟩
theorem bode228 : prS [0, 14, 15, 16] [0, 143, 357, 510, 514, 531, 532, 533, 534] (aOps Tryz.prog bodGl bodR (opsC bodc226) 3 0 (Ck.st 39 64 bodk221)) = some bodk227 := by kernel_rfl
def bodk229 : Ck := ⟨argL [.sl 143 165 0 165 1 none, .agg [.int .i64 (.ofNat 50), .int .i64 (.ofNat 141), .int .i64 (.ofNat 143), .str [105, 109, 97, 103, 101], .str [103, 105, 102], .sl 510 2 0 1 2 none, .nilsl]] 0, bodk227.fams, bodk227.next⟩
noncomputable def bodc230 : Code := bodyC Tryz.prog 86
noncomputable def bodc231 : Code := headC bodc230
def bodk232 : Ck := ⟨[(0, .sl 143 165 0 165 1 none), (3, .ptr 536 7 0), (4, .str [])], [(0, bodG0), (143, bodF0), (357, bodF2), (510, bodF7), (514, bodF10), (531, bodF15), (532, bodF9), (533, bodF16), (534, bodF8), (536, bodF8)], 537⟩
theorem bode233 : prC [0, 3, 4] [0, 143, 357, 510, 514, 531, 532, 533, 534, 536] (aCode Tryz.prog bodGl bodR 1000000 bodc231 (Ck.st 61 64 bodk229)) = some (.normal, bodk232) := by kernel_rfl
theorem bodp234 {n0 : Nat} : Pc bodGl 61 64 n0 bodk229 bodc231 .normal bodk232 := Pc.run bodMix bodRa bodRok bode233
noncomputable def bodc236 : Code := tailC bodc230
noncomputable def bodc237 : Code := headC bodc236
def bodk238 : Ck := ⟨[(3, .ptr 536 7 0), (4, .str []), (5, .sl 143 165 50 91 1 none), (6, .sl 143 165 141 2 1 none)], [(0, bodG0), (143, bodF0), (357, bodF2), (510, bodF7), (514, bodF10), (531, bodF15), (532, bodF9), (533, bodF16), (534, bodF8), (536, bodF8)], 537⟩
theorem bode239 : prC [3, 4, 5, 6] [0, 143, 357, 510, 514, 531, 532, 533, 534, 536] (aCode Tryz.prog bodGl bodR 1000000 bodc237 (Ck.st 61 64 bodk232)) = some (.normal, bodk238) := by kernel_rfl
theorem bodp240 {n0 : Nat} : Pc bodGl 61 64 n0 bodk232 bodc237 .normal bodk238 := Pc.run bodMix bodRa bodRok bode239
noncomputable def bodc242 : Code := tailC bodc236
noncomputable def bodc243 : Code := headC bodc242
def bodk244 : Ck := ⟨[(3, .ptr 536 7 0), (4, .str []), (5, .sl 143 165 50 91 1 none), (6, .sl 143 165 141 2 1 none), (7, .str [66, 65, 83, 69, 54, 52]), (8, .bool true)], [(0, bodG0), (143, bodF0), (357, bodF2), (510, bodF7), (514, bodF10), (531, bodF15), (532, bodF9), (533, bodF16), (534, bodF8), (536, bodF8)], 581⟩
theorem bode245 : prC [3, 4, 5, 6, 7, 8] [0, 143, 357, 510, 514, 531, 532, 533, 534, 536] (aCode Tryz.prog bodGl bodR 1000000 bodc243 (Ck.st 61 64 bodk238)) = some (.normal, bodk244) := by kernel_rfl
theorem bodp246 {n0 : Nat} : Pc bodGl 61 64 n0 bodk238 bodc243 .normal bodk244 := Pc.run bodMix bodRa bodRok bode245
noncomputable def bodc248 : Code := tailC bodc242
def bodk249 : Ck := ⟨[(4, .str [34, 105, 109, 97, 103, 101, 34, 32, 34, 103, 105, 102, 34, 32, 40, 34, 110, 97, 109, 101, 34, 32, 34, 97, 32, 98, 34, 41, 32, 34, 60, 105, 62, 34, 32, 78, 73, 76, 32, 34, 98, 97, 115, 101, 54, 52, 34, 32, 50])], [(0, bodG0), (143, bodF0), (357, bodF2), (510, bodF7), (514, bodF10), (531, bodF15), (532, bodF9), (533, bodF16), (534, bodF8)], 727⟩
theorem bode250 : prC [4] [0, 143, 357, 510, 514, 531, 532, 533, 534] (aCode Tryz.prog bodGl bodR 1000000 bodc248 (Ck.st 61 64 bodk244)) = some (.ret, bodk249) := by kernel_rfl
theorem bodp251 {n0 : Nat} : Pc bodGl 61 64 n0 bodk244 bodc248 .ret bodk249 := Pc.run bodMix bodRa bodRok bode250
theorem bodp247 {n0 : Nat} : Pc bodGl 61 64 n0 bodk238 bodc242 .ret bodk249 := Pc.seq (a := bodc243) (b := bodc248) (by kernel_rfl) bodp246 bodp251
theorem bodp241 {n0 : Nat} : Pc bodGl 61 64 n0 bodk232 bodc236 .ret bodk249 := Pc.seq (a := bodc237) (b := bodc242) (by kernel_rfl) bodp240 bodp247
theorem bodp235 {n0 : Nat} : Pc bodGl 61 64 n0 bodk229 bodc230 .ret bodk249 := Pc.seq (a := bodc231) (b := bodc236) (by kernel_rfl) bodp234 bodp241
theorem bodp252 {n0 : Nat} : PCall bodGl 64 n0 86 [.sl 143 165 0 165 1 none, .agg [.int .i64 (.ofNat 50), .int .i64 (.ofNat 141), .int .i64 (.ofNat 143), .str [105, 109, 97, 103, 101], .str [103, 105, 102], .sl 510 2 0 1 2 none, .nilsl]] bodk227.fams bodk227.next (.str [34, 105, 109, 97, 103, 101, 34, 32, 34, 103, 105, 102, 34, 32, 40, 34, 110, 97, 109, 101, 34, 32, 34, 97, 32, 98, 34, 41, 32, 34, 60, 105, 62, 34, 32, 78, 73, 76, 32, 34, 98, 97, 115, 101, 54, 52, 34, 32, 50]) bodk249.fams bodk249.next := PCall.of (fn := Tryz.f86) (c := bodc230) (nt := 61) (ck := bodk249) (vs := [.str [34, 105, 109, 97, 103, 101, 34, 32, 34, 103, 105, 102, 34, 32, 40, 34, 110, 97, 109, 101, 34, 32, 34, 97, 32, 98, 34, 41, 32, 34, 60, 105, 62, 34, 32, 78, 73, 76, 32, 34, 98, 97, 115, 101, 54, 52, 34, 32, 50]]) Tryz.func86 (by kernel_rfl) (by kernel_rfl) (show Pc bodGl 61 64 n0 bodk229 bodc230 .ret bodk249 from bodp235) (by first | exact .inl rfl | exact .inr rfl) (by kernel_rfl) (by kernel_rfl)
def bodk253 : Ck := ⟨[(0, .ptr 531 2 0), (14, .ptr 531 2 0), (17, .str [34, 105, 109, 97, 103, 101, 34, 32, 34, 103, 105, 102, 34, 32, 40, 34, 110, 97, 109, 101, 34, 32, 34, 97, 32, 98, 34, 41, 32, 34, 60, 105, 62, 34, 32, 78, 73, 76, 32, 34, 98, 97, 115, 101, 54, 52, 34, 32, 50])], bodk249.fams, bodk249.next⟩
def bodF17 : CF := .row [.ptr 531 2 0, .sl 533 51 0 51 1 none] 2 false (some 74)
def bodF18 : CF := .row (bs [40, 40, 34, 105, 109, 97, 103, 101, 34, 32, 34, 103, 105, 102, 34, 32, 40, 34, 110, 97, 109, 101, 34, 32, 34, 97, 32, 98, 34, 41, 32, 34, 60, 105, 62, 34, 32, 78, 73, 76, 32, 34, 98, 97, 115, 101, 54, 52, 34, 32, 50]) 1 false (some 5)
def bodk254 : Ck := ⟨[(0, .ptr 531 2 0)], [(0, bodG0), (143, bodF0), (357, bodF2), (510, bodF7), (514, bodF10), (531, bodF17), (532, bodF9), (533, bodF18), (534, bodF8)], 727⟩
theorem bode255 : prS [0] [0, 143, 357, 510, 514, 531, 532, 533, 534] (aOps Tryz.prog bodGl bodR (opsC bodc226) 1 4 (Ck.st 39 64 bodk253)) = some bodk254 := by kernel_rfl
theorem bodp256 {n0 : Nat} : Pc bodGl 39 64 n0 bodk221 bodc226 .normal bodk254 := Pc.region (id := idC bodc226) (ops := opsC bodc226) (by kernel_rfl) (n := 5) (by kernel_rfl) (Ps.cons bodRa bodRok (n := 3) (k := 2) bode228 (Ps.call (o := opC (opsC bodc226) 3) (f := 86) (args := [.sl 143 165 0 165 1 none, .agg [.int .i64 (.ofNat 50), .int .i64 (.ofNat 141), .int .i64 (.ofNat 143), .str [105, 109, 97, 103, 101], .str [103, 105, 102], .sl 510 2 0 1 2 none, .nilsl]]) (v := .str [34, 105, 109, 97, 103, 101, 34, 32, 34, 103, 105, 102, 34, 32, 40, 34, 110, 97, 109, 101, 34, 32, 34, 97, 32, 98, 34, 41, 32, 34, 60, 105, 62, 34, 32, 78, 73, 76, 32, 34, 98, 97, 115, 101, 54, 52, 34, 32, 50]) (d := 17) (lv := [0, 14, 17]) (live' := bodk253.live) (k := 1) (by kernel_rfl) (by kernel_rfl) (by kernel_rfl) (by kernel_rfl) (by kernel_rfl) (by kernel_rfl) bodp252 (by kernel_rfl) (ck1 := bodk253) rfl (Ps.cons bodRa bodRok (n := 1) (k := 0) bode255 Ps.nil)))
theorem bodp257 {n0 : Nat} : Pc bodGl 39 64 n0 bodk221 bodc225 .normal bodk254 := Pc.cond (c := condC bodc225) (a := thenC bodc225) (b := elseC bodc225) (t := true) (by kernel_rfl) (by kernel_rfl) bodp256
theorem bodp224 {n0 : Nat} : Pc bodGl 39 64 n0 bodk214 bodc219 .normal bodk254 := Pc.seq (a := bodc220) (b := bodc225) (by kernel_rfl) bodp223 bodp257
noncomputable def bodc259 : Code := tailC bodc218
def bodF19 : CF := .row [.ptr 531 2 0, .sl 533 52 0 52 1 none] 2 false (some 74)
def bodF20 : CF := .row (bs [40, 40, 34, 105, 109, 97, 103, 101, 34, 32, 34, 103, 105, 102, 34, 32, 40, 34, 110, 97, 109, 101, 34, 32, 34, 97, 32, 98, 34, 41, 32, 34, 60, 105, 62, 34, 32, 78, 73, 76, 32, 34, 98, 97, 115, 101, 54, 52, 34, 32, 50, 41]) 1 false (some 5)
def bodk260 : Ck := ⟨[], [(0, bodG0), (143, bodF0), (357, bodF2), (510, bodF7), (514, bodF10), (531, bodF19), (532, bodF9), (533, bodF20), (534, bodF8)], 727⟩
theorem bode261 : prC [] [0, 143, 357, 510, 514, 531, 532, 533, 534] (aCode Tryz.prog bodGl bodR 1000000 bodc259 (Ck.st 39 64 bodk254)) = some (.normal, bodk260) := by kernel_rfl
theorem bodp262 {n0 : Nat} : Pc bodGl 39 64 n0 bodk254 bodc259 .normal bodk260 := Pc.run bodMix bodRa bodRok bode261
theorem bodp258 {n0 : Nat} : Pc bodGl 39 64 n0 bodk214 bodc218 .normal bodk260 := Pc.seq (a := bodc219) (b := bodc259) (by kernel_rfl) bodp224 bodp262
theorem bodp217 {n0 : Nat} : Pc bodGl 39 64 n0 bodk208 bodc212 .normal bodk260 := Pc.seq (a := bodc213) (b := bodc218) (by kernel_rfl) bodp216 bodp258
theorem bodp211 {n0 : Nat} : Pc bodGl 39 64 n0 bodk205 bodc206 .normal bodk260 := Pc.seq (a := bodc207) (b := bodc212) (by kernel_rfl) bodp210 bodp217
theorem bodp263 {n0 : Nat} : PCall bodGl 64 n0 60 [.ptr 531 2 0, .sl 143 165 0 165 1 none, .agg [.int .i64 (.ofNat 50), .int .i64 (.ofNat 141), .int .i64 (.ofNat 143), .str [105, 109, 97, 103, 101], .str [103, 105, 102], .sl 510 2 0 1 2 none, .nilsl]] bodk203.fams bodk203.next (.tuple []) bodk260.fams bodk260.next := PCall.of (fn := Tryz.f60) (c := bodc206) (nt := 39) (ck := bodk260) (vs := []) Tryz.func60 (by kernel_rfl) (by kernel_rfl) (show Pc bodGl 39 64 n0 bodk205 bodc206 .normal bodk260 from bodp211) (by first | exact .inl rfl | exact .inr rfl) (by kernel_rfl) (by kernel_rfl)
def bodk264 : Ck := ⟨[(0, .ptr 531 2 0), (1, .sl 143 165 0 165 1 none), (5, .ptr 532 7 0), (7, .ptr 534 7 0), (20, .sl 514 14 0 2 7 none), (21, .int .i64 (.ofNat 2)), (22, .int .i64 (.ofNat 0)), (23, .bool true), (24, .ptr 514 14 0), (25, .agg [.int .i64 (.ofNat 50), .int .i64 (.ofNat 141), .int .i64 (.ofNat 143), .str [105, 109, 97, 103, 101], .str [103, 105, 102], .sl 510 2 0 1 2 none, .nilsl]), (26, .ptr 531 2 0), (27, .sl 143 165 0 165 1 none), (28, .agg [.int .i64 (.ofNat 50), .int .i64 (.ofNat 141), .int .i64 (.ofNat 143), .str [105, 109, 97, 103, 101], .str [103, 105, 102], .sl 510 2 0 1 2 none, .nilsl])], bodk260.fams, bodk260.next⟩
theorem bodp265 {n0 : Nat} : Pc bodGl 39 64 n0 bodk198 bodc202 .normal bodk264 := Pc.region (id := idC bodc202) (ops := opsC bodc202) (by kernel_rfl) (n := 4) (by kernel_rfl) (Ps.cons bodRa bodRok (n := 3) (k := 1) bode204 (Ps.call (o := opC (opsC bodc202) 3) (f := 60) (args := [.ptr 531 2 0, .sl 143 165 0 165 1 none, .agg [.int .i64 (.ofNat 50), .int .i64 (.ofNat 141), .int .i64 (.ofNat 143), .str [105, 109, 97, 103, 101], .str [103, 105, 102], .sl 510 2 0 1 2 none, .nilsl]]) (v := .tuple []) (d := 29) (lv := [0, 1, 5, 7, 20, 21, 22, 23, 24, 25, 26, 27, 28]) (live' := bodk264.live) (k := 0) (by kernel_rfl) (by kernel_rfl) (by kernel_rfl) (by kernel_rfl) (by kernel_rfl) (by kernel_rfl) bodp263 (by kernel_rfl) (ck1 := bodk264) rfl Ps.nil))
theorem bodp201 {n0 : Nat} : Pc bodGl 39 64 n0 bodk190 bodc196 .normal bodk264 := Pc.seq (a := bodc197) (b := bodc202) (by kernel_rfl) bodp200 bodp265
theorem bodp266 {n0 : Nat} : Pc bodGl 39 64 n0 bodk190 bodc195 .normal bodk264 := Pc.block (id := 1) (b := bodc196) (x := .normal) (by kernel_rfl) (by kernel_rfl) bodp201
noncomputable def bodc268 : Code := tailC bodc194
def bodk269 : Ck := ⟨[(0, .ptr 531 2 0), (1, .sl 143 165 0 165 1 none), (5, .ptr 532 7 0), (7, .ptr 534 7 0), (20, .sl 514 14 0 2 7 none), (21, .int .i64 (.ofNat 2)), (22, .int .i64 (.ofNat 1)), (23, .bool true), (24, .ptr 514 14 0), (25, .agg [.int .i64 (.ofNat 50), .int .i64 (.ofNat 141), .int .i64 (.ofNat 143), .str [105, 109, 97, 103, 101], .str [103, 105, 102], .sl 510 2 0 1 2 none, .nilsl]), (26, .ptr 531 2 0), (27, .sl 143 165 0 165 1 none), (28, .agg [.int .i64 (.ofNat 50), .int .i64 (.ofNat 141), .int .i64 (.ofNat 143), .str [105, 109, 97, 103, 101], .str [103, 105, 102], .sl 510 2 0 1 2 none, .nilsl]), (30, .int .i64 (.ofNat 1))], [(0, bodG0), (143, bodF0), (357, bodF2), (510, bodF7), (514, bodF10), (531, bodF19), (532, bodF9), (533, bodF20), (534, bodF8)], 727⟩
theorem bode270 : prC [0, 1, 5, 7, 20, 21, 22, 23, 24, 25, 26, 27, 28, 30] [0, 143, 357, 510, 514, 531, 532, 533, 534] (aCode Tryz.prog bodGl bodR 1000000 bodc268 (Ck.st 39 64 bodk264)) = some (.normal, bodk269) := by kernel_rfl
theorem bodp271 {n0 : Nat} : Pc bodGl 39 64 n0 bodk264 bodc268 .normal bodk269 := Pc.run bodMix bodRa bodRok bode270
theorem bodp267 {n0 : Nat} : Pc bodGl 39 64 n0 bodk190 bodc194 .normal bodk269 := Pc.seq (a := bodc195) (b := bodc268) (by kernel_rfl) bodp266 bodp271
theorem bodp193 {n0 : Nat} : Pc bodGl 39 64 n0 bodk184 bodc188 .normal bodk269 := Pc.seq (a := bodc189) (b := bodc194) (by kernel_rfl) bodp192 bodp267
theorem bodp187 {n0 : Nat} : Pc bodGl 39 64 n0 bodk176 bodc182 .normal bodk269 := Pc.seq (a := bodc183) (b := bodc188) (by kernel_rfl) bodp186 bodp193
def bodF21 : CF := .row [.ptr 531 2 0, .sl 533 91 0 91 1 none] 2 false (some 74)
def bodF22 : CF := .row (bs [40, 40, 34, 105, 109, 97, 103, 101, 34, 32, 34, 103, 105, 102, 34, 32, 40, 34, 110, 97, 109, 101, 34, 32, 34, 97, 32, 98, 34, 41, 32, 34, 60, 105, 62, 34, 32, 78, 73, 76, 32, 34, 98, 97, 115, 101, 54, 52, 34, 32, 50, 41, 40, 34, 116, 101, 120, 116, 34, 32, 34, 112, 108, 97, 105, 110, 34, 32, 78, 73, 76, 32, 78, 73, 76, 32, 78, 73, 76, 32, 34, 55, 98, 105, 116, 34, 32, 52, 32, 50, 41]) 1 false (some 5)
def bodF23 : CF := .row [.int .i64 (.ofNat 150), .int .i64 (.ofNat 152), .int .i64 (.ofNat 156), .str [116, 101, 120, 116], .str [112, 108, 97, 105, 110], .nilsl, .nilsl] 7 false (some 66)
def bodk272 : Ck := ⟨[(0, .ptr 531 2 0), (1, .sl 143 165 0 165 1 none), (5, .ptr 532 7 0), (7, .ptr 727 7 0), (20, .sl 514 14 0 2 7 none), (21, .int .i64 (.ofNat 2)), (22, .int .i64 (.ofNat 2)), (23, .bool true), (24, .ptr 514 14 7), (25, .agg [.int .i64 (.ofNat 150), .int .i64 (.ofNat 152), .int .i64 (.ofNat 156), .str [116, 101, 120, 116], .str [112, 108, 97, 105, 110], .nilsl, .nilsl]), (26, .ptr 531 2 0), (27, .sl 143 165 0 165 1 none), (28, .agg [.int .i64 (.ofNat 150), .int .i64 (.ofNat 152), .int .i64 (.ofNat 156), .str [116, 101, 120, 116], .str [112, 108, 97, 105, 110], .nilsl, .nilsl]), (30, .int .i64 (.ofNat 2))], [(0, bodG0), (143, bodF0), (357, bodF2), (510, bodF7), (514, bodF10), (531, bodF21), (532, bodF9), (533, bodF22), (727, bodF23)], 789⟩
theorem bode273 : prS [0, 1, 5, 7, 20, 21, 22, 23, 24, 25, 26, 27, 28, 30] [0, 143, 357, 510, 514, 531, 532, 533, 727] (aRnd Tryz.prog bodGl bodR 1000000 bodc182 1 (Ck.st 39 64 bodk269)) = some bodk272 := by kernel_rfl
def bodk274 : Ck := ⟨[(0, .ptr 531 2 0), (5, .ptr 532 7 0)], [(0, bodG0), (357, bodF2), (510, bodF7), (514, bodF10), (531, bodF21), (532, bodF9), (533, bodF22)], 789⟩
theorem bode275 : prC [0, 5] [0, 357, 510, 514, 531, 532, 533] (aCode Tryz.prog bodGl bodR 1000000 bodc182 (Ck.st 39 64 bodk272)) = some ((.exit 0), bodk274) := by kernel_rfl
theorem bodp276 {n0 : Nat} : Pc bodGl 39 64 n0 bodk272 bodc182 (.exit 0) bodk274 := Pc.run bodMix bodRa bodRok bode275
theorem bodp277 {n0 : Nat} : Pc bodGl 39 64 n0 bodk176 bodc181 (.exit 0) bodk274 := Pc.loop (c := bodc182) (n := 3) (by kernel_rfl) (Pr.more (n := 2) bodp187 (Pr.run (n := 1) bodMix bodRa bodRok (k := 1) bode273 (Pr.last (fun h => by cases h) bodp276)))
theorem bodp278 {n0 : Nat} : Pc bodGl 39 64 n0 bodk176 bodc180 .normal bodk274 := Pc.block (id := 0) (b := bodc181) (x := (.exit 0)) (by kernel_rfl) (by kernel_rfl) bodp277
theorem bodp179 {n0 : Nat} : Pc bodGl 39 64 n0 bodk168 bodc174 .normal bodk274 := Pc.seq (a := bodc175) (b := bodc180) (by kernel_rfl) bodp178 bodp278
noncomputable def bodc280 : Code := tailC bodc173
def bodF24 : CF := .row [.ptr 531 2 0, .sl 533 99 0 99 1 none] 2 false (some 74)
def bodF25 : CF := .row (bs [40, 40, 34, 105, 109, 97, 103, 101, 34, 32, 34, 103, 105, 102, 34, 32, 40, 34, 110, 97, 109, 101, 34, 32, 34, 97, 32, 98, 34, 41, 32, 34, 60, 105, 62, 34, 32, 78, 73, 76, 32, 34, 98, 97, 115, 101, 54, 52, 34, 32, 50, 41, 40, 34, 116, 101, 120, 116, 34, 32, 34, 112, 108, 97, 105, 110, 34, 32, 78, 73, 76, 32, 78, 73, 76, 32, 78, 73, 76, 32, 34, 55, 98, 105, 116, 34, 32, 52, 32, 50, 41, 32, 34, 109, 105, 120, 101, 100, 34]) 1 false (some 5)
def bodk281 : Ck := ⟨[(0, .ptr 531 2 0)], [(0, bodG0), (531, bodF24), (533, bodF25)], 798⟩
theorem bode282 : prC [0] [0, 531, 533] (aCode Tryz.prog bodGl bodR 1000000 bodc280 (Ck.st 39 64 bodk274)) = some (.normal, bodk281) := by kernel_rfl
theorem bodp283 {n0 : Nat} : Pc bodGl 39 64 n0 bodk274 bodc280 .normal bodk281 := Pc.run bodMix bodRa bodRok bode282
theorem bodp279 {n0 : Nat} : Pc bodGl 39 64 n0 bodk168 bodc173 .normal bodk281 := Pc.seq (a := bodc174) (b := bodc280) (by kernel_rfl) bodp179 bodp283
theorem bodp284 {n0 : Nat} : Pc bodGl 39 64 n0 bodk168 bodc172 .normal bodk281 := Pc.cond (c := condC bodc172) (a := thenC bodc172) (b := elseC bodc172) (t := false) (by kernel_rfl) (by kernel_rfl) bodp279
theorem bodp171 {n0 : Nat} : Pc bodGl 39 64 n0 bodk161 bodc166 .normal bodk281 := Pc.seq (a := bodc167) (b := bodc172) (by kernel_rfl) bodp170 bodp284
noncomputable def bodc286 : Code := tailC bodc165
def bodF26 : CF := .row [.ptr 531 2 0, .sl 533 100 0 100 1 none] 2 false (some 74)
def bodF27 : CF := .row (bs [40, 40, 34, 105, 109, 97, 103, 101, 34, 32, 34, 103, 105, 102, 34, 32, 40, 34, 110, 97, 109, 101, 34, 32, 34, 97, 32, 98, 34, 41, 32, 34, 60, 105, 62, 34, 32, 78, 73, 76, 32, 34, 98, 97, 115, 101, 54, 52, 34, 32, 50, 41, 40, 34, 116, 101, 120, 116, 34, 32, 34, 112, 108, 97, 105, 110, 34, 32, 78, 73, 76, 32, 78, 73, 76, 32, 78, 73, 76, 32, 34, 55, 98, 105, 116, 34, 32, 52, 32, 50, 41, 32, 34, 109, 105, 120, 101, 100, 34, 41]) 1 false (some 5)
def bodk287 : Ck := ⟨[], [(0, bodG0), (531, bodF26), (533, bodF27)], 798⟩
theorem bode288 : prC [] [0, 531, 533] (aCode Tryz.prog bodGl bodR 1000000 bodc286 (Ck.st 39 64 bodk281)) = some (.normal, bodk287) := by kernel_rfl
theorem bodp289 {n0 : Nat} : Pc bodGl 39 64 n0 bodk281 bodc286 .normal bodk287 := Pc.run bodMix bodRa bodRok bode288
theorem bodp285 {n0 : Nat} : Pc bodGl 39 64 n0 bodk161 bodc165 .normal bodk287 := Pc.seq (a := bodc166) (b := bodc286) (by kernel_rfl) bodp171 bodp289
theorem bodp164 {n0 : Nat} : Pc bodGl 39 64 n0 bodk155 bodc159 .normal bodk287 := Pc.seq (a := bodc160) (b := bodc165) (by kernel_rfl) bodp163 bodp285
theorem bodp158 {n0 : Nat} : Pc bodGl 39 64 n0 bodk152 bodc153 .normal bodk287 := Pc.seq (a := bodc154) (b := bodc159) (by kernel_rfl) bodp157 bodp164
theorem bodp290 {n0 : Nat} : PCall bodGl 64 n0 60 [.ptr 531 2 0, .sl 143 165 0 165 1 none, .agg [.int .i64 (.ofNat 0), .int .i64 (.ofNat 45), .int .i64 (.ofNat 165), .str [109, 117, 108, 116, 105, 112, 97, 114, 116], .str [109, 105, 120, 101, 100], .sl 357 2 0 1 2 none, .sl 514 14 0 2 7 none]] bodk150.fams bodk150.next (.tuple []) bodk287.fams bodk287.next := PCall.of (fn := Tryz.f60) (c := bodc153) (nt := 39) (ck := bodk287) (vs := []) Tryz.func60 (by kernel_rfl) (by kernel_rfl) (show Pc bodGl 39 64 n0 bodk152 bodc153 .normal bodk287 from bodp158) (by first | exact .inl rfl | exact .inr rfl) (by kernel_rfl) (by kernel_rfl)
def bodk291 : Ck := ⟨[(4, .str []), (5, .ptr 531 2 0)], bodk287.fams, bodk287.next⟩
theorem bodp292 {n0 : Nat} : Pc bodGl 10 64 n0 bodk144 bodc149 .normal bodk291 := Pc.region (id := idC bodc149) (ops := opsC bodc149) (by kernel_rfl) (n := 3) (by kernel_rfl) (Ps.cons bodRa bodRok (n := 2) (k := 1) bode151 (Ps.call (o := opC (opsC bodc149) 2) (f := 60) (args := [.ptr 531 2 0, .sl 143 165 0 165 1 none, .agg [.int .i64 (.ofNat 0), .int .i64 (.ofNat 45), .int .i64 (.ofNat 165), .str [109, 117, 108, 116, 105, 112, 97, 114, 116], .str [109, 105, 120, 101, 100], .sl 357 2 0 1 2 none, .sl 514 14 0 2 7 none]]) (v := .tuple []) (d := 8) (lv := [4, 5]) (live' := bodk291.live) (k := 0) (by kernel_rfl) (by kernel_rfl) (by kernel_rfl) (by kernel_rfl) (by kernel_rfl) (by kernel_rfl) bodp290 (by kernel_rfl) (ck1 := bodk291) rfl Ps.nil))
noncomputable def bodc294 : Code := tailC bodc148
def bodk295 : Ck := ⟨[(4, .str [40, 40, 34, 105, 109, 97, 103, 101, 34, 32, 34, 103, 105, 102, 34, 32, 40, 34, 110, 97, 109, 101, 34, 32, 34, 97, 32, 98, 34, 41, 32, 34, 60, 105, 62, 34, 32, 78, 73, 76, 32, 34, 98, 97, 115, 101, 54, 52, 34, 32, 50, 41, 40, 34, 116, 101, 120, 116, 34, 32, 34, 112, 108, 97, 105, 110, 34, 32, 78, 73, 76, 32, 78, 73, 76, 32, 78, 73, 76, 32, 34, 55, 98, 105, 116, 34, 32, 52, 32, 50, 41, 32, 34, 109, 105, 120, 101, 100, 34, 41])], [(0, bodG0)], 798⟩
theorem bode296 : prC [4] [0] (aCode Tryz.prog bodGl bodR 1000000 bodc294 (Ck.st 10 64 bodk291)) = some (.ret, bodk295) := by kernel_rfl
theorem bodp297 {n0 : Nat} : Pc bodGl 10 64 n0 bodk291 bodc294 .ret bodk295 := Pc.run bodMix bodRa bodRok bode296
theorem bodp293 {n0 : Nat} : Pc bodGl 10 64 n0 bodk144 bodc148 .ret bodk295 := Pc.seq (a := bodc149) (b := bodc294) (by kernel_rfl) bodp292 bodp297
theorem bodp147 {n0 : Nat} : Pc bodGl 10 64 n0 bodk138 bodc142 .ret bodk295 := Pc.seq (a := bodc143) (b := bodc148) (by kernel_rfl) bodp146 bodp293
theorem bodp141 {n0 : Nat} : Pc bodGl 10 64 n0 bodk135 bodc136 .ret bodk295 := Pc.seq (a := bodc137) (b := bodc142) (by kernel_rfl) bodp140 bodp147
theorem bodp298 {n0 : Nat} : PCall bodGl 64 n0 36 [.sl 143 165 0 165 1 none, .agg [.int .i64 (.ofNat 0), .int .i64 (.ofNat 45), .int .i64 (.ofNat 165), .str [109, 117, 108, 116, 105, 112, 97, 114, 116], .str [109, 105, 120, 101, 100], .sl 357 2 0 1 2 none, .sl 514 14 0 2 7 none]] bodk134.fams bodk134.next (.str [40, 40, 34, 105, 109, 97, 103, 101, 34, 32, 34, 103, 105, 102, 34, 32, 40, 34, 110, 97, 109, 101, 34, 32, 34, 97, 32, 98, 34, 41, 32, 34, 60, 105, 62, 34, 32, 78, 73, 76, 32, 34, 98, 97, 115, 101, 54, 52, 34, 32, 50, 41, 40, 34, 116, 101, 120, 116, 34, 32, 34, 112, 108, 97, 105, 110, 34, 32, 78, 73, 76, 32, 78, 73, 76, 32, 78, 73, 76, 32, 34, 55, 98, 105, 116, 34, 32, 52, 32, 50, 41, 32, 34, 109, 105, 120, 101, 100, 34, 41]) bodk295.fams bodk295.next := PCall.of (fn := Tryz.f36) (c := bodc136) (nt := 10) (ck := bodk295) (vs := [.str [40, 40, 34, 105, 109, 97, 103, 101, 34, 32, 34, 103, 105, 102, 34, 32, 40, 34, 110, 97, 109, 101, 34, 32, 34, 97, 32, 98, 34, 41, 32, 34, 60, 105, 62, 34, 32, 78, 73, 76, 32, 34, 98, 97, 115, 101, 54, 52, 34, 32, 50, 41, 40, 34, 116, 101, 120, 116, 34, 32, 34, 112, 108, 97, 105, 110, 34, 32, 78, 73, 76, 32, 78, 73, 76, 32, 78, 73, 76, 32, 34, 55, 98, 105, 116, 34, 32, 52, 32, 50, 41, 32, 34, 109, 105, 120, 101, 100, 34, 41]]) Tryz.func36 (by kernel_rfl) (by kernel_rfl) (show Pc bodGl 10 64 n0 bodk135 bodc136 .ret bodk295 from bodp141) (by first | exact .inl rfl | exact .inr rfl) (by kernel_rfl) (by kernel_rfl)
def bodk299 : Ck := ⟨[(2, .str []), (6, .str [40, 40, 34, 105, 109, 97, 103, 101, 34, 32, 34, 103, 105, 102, 34, 32, 40, 34, 110, 97, 109, 101, 34, 32, 34, 97, 32, 98, 34, 41, 32, 34, 60, 105, 62, 34, 32, 78, 73, 76, 32, 34, 98, 97, 115, 101, 54, 52, 34, 32, 50, 41, 40, 34, 116, 101, 120, 116, 34, 32, 34, 112, 108, 97, 105, 110, 34, 32, 78, 73, 76, 32, 78, 73, 76, 32, 78, 73, 76, 32, 34, 55, 98, 105, 116, 34, 32, 52, 32, 50, 41, 32, 34, 109, 105, 120, 101, 100, 34, 41])], bodk295.fams, bodk295.next⟩
def bodk300 : Ck := ⟨[(2, .str [40, 40, 34, 105, 109, 97, 103, 101, 34, 32, 34, 103, 105, 102, 34, 32, 40, 34, 110, 97, 109, 101, 34, 32, 34, 97, 32, 98, 34, 41, 32, 34, 60, 105, 62, 34, 32, 78, 73, 76, 32, 34, 98, 97, 115, 101, 54, 52, 34, 32, 50, 41, 40, 34, 116, 101, 120, 116, 34, 32, 34, 112, 108, 97, 105, 110, 34, 32, 78, 73, 76, 32, 78, 73, 76, 32, 78, 73, 76, 32, 34, 55, 98, 105, 116, 34, 32, 52, 32, 50, 41, 32, 34, 109, 105, 120, 101, 100, 34, 41])], [(0, bodG0)], 798⟩
theorem bode301 : prS [2] [0] (aOps Tryz.prog bodGl bodR (opsC bodc29) 1 4 (Ck.st 7 64 bodk299)) = some bodk300 := by kernel_rfl
theorem bodp302 {n0 : Nat} : Pc bodGl 7 64 n0 bodk24 bodc29 .normal bodk300 := Pc.region (id := idC bodc29) (ops := opsC bodc29) (by kernel_rfl) (n := 5) (by kernel_rfl) (Ps.cons bodRa bodRok (n := 2) (k := 3) bode31 (Ps.call (o := opC (opsC bodc29) 2) (f := 37) (args := [.sl 143 165 0 165 1 none]) (v := .agg [.int .i64 (.ofNat 0), .int .i64 (.ofNat 45), .int .i64 (.ofNat 165), .str [109, 117, 108, 116, 105, 112, 97, 114, 116], .str [109, 105, 120, 101, 100], .sl 357 2 0 1 2 none, .sl 514 14 0 2 7 none]) (d := 5) (lv := [2, 3, 5]) (live' := bodk134.live) (k := 2) (by kernel_rfl) (by kernel_rfl) (by kernel_rfl) (by kernel_rfl) (by kernel_rfl) (by kernel_rfl) bodp133 (by kernel_rfl) (ck1 := bodk134) rfl (Ps.call (o := opC (opsC bodc29) 3) (f := 36) (args := [.sl 143 165 0 165 1 none, .agg [.int .i64 (.ofNat 0), .int .i64 (.ofNat 45), .int .i64 (.ofNat 165), .str [109, 117, 108, 116, 105, 112, 97, 114, 116], .str [109, 105, 120, 101, 100], .sl 357 2 0 1 2 none, .sl 514 14 0 2 7 none]]) (v := .str [40, 40, 34, 105, 109, 97, 103, 101, 34, 32, 34, 103, 105, 102, 34, 32, 40, 34, 110, 97, 109, 101, 34, 32, 34, 97, 32, 98, 34, 41, 32, 34, 60, 105, 62, 34, 32, 78, 73, 76, 32, 34, 98, 97, 115, 101, 54, 52, 34, 32, 50, 41, 40, 34, 116, 101, 120, 116, 34, 32, 34, 112, 108, 97, 105, 110, 34, 32, 78, 73, 76, 32, 78, 73, 76, 32, 78, 73, 76, 32, 34, 55, 98, 105, 116, 34, 32, 52, 32, 50, 41, 32, 34, 109, 105, 120, 101, 100, 34, 41]) (d := 6) (lv := [2, 6]) (live' := bodk299.live) (k := 1) (by kernel_rfl) (by kernel_rfl) (by kernel_rfl) (by kernel_rfl) (by kernel_rfl) (by kernel_rfl) bodp298 (by kernel_rfl) (ck1 := bodk299) rfl (Ps.cons bodRa bodRok (n := 1) (k := 0) bode301 Ps.nil))))
noncomputable def bodc304 : Code := tailC bodc28
def bodk305 : Ck := ⟨[(2, .str [40, 40, 34, 105, 109, 97, 103, 101, 34, 32, 34, 103, 105, 102, 34, 32, 40, 34, 110, 97, 109, 101, 34, 32, 34, 97, 32, 98, 34, 41, 32, 34, 60, 105, 62, 34, 32, 78, 73, 76, 32, 34, 98, 97, 115, 101, 54, 52, 34, 32, 50, 41, 40, 34, 116, 101, 120, 116, 34, 32, 34, 112, 108, 97, 105, 110, 34, 32, 78, 73, 76, 32, 78, 73, 76, 32, 78, 73, 76, 32, 34, 55, 98, 105, 116, 34, 32, 52, 32, 50, 41, 32, 34, 109, 105, 120, 101, 100, 34, 41])], [(0, bodG0)], 798⟩
theorem bode306 : prC [2] [0] (aCode Tryz.prog bodGl bodR 1000000 bodc304 (Ck.st 7 64 bodk300)) = some (.ret, bodk305) := by kernel_rfl
theorem bodp307 {n0 : Nat} : Pc bodGl 7 64 n0 bodk300 bodc304 .ret bodk305 := Pc.run bodMix bodRa bodRok bode306
theorem bodp303 {n0 : Nat} : Pc bodGl 7 64 n0 bodk24 bodc28 .ret bodk305 := Pc.seq (a := bodc29) (b := bodc304) (by kernel_rfl) bodp302 bodp307
theorem bodp27 {n0 : Nat} : Pc bodGl 7 64 n0 bodk21 bodc22 .ret bodk305 := Pc.seq (a := bodc23) (b := bodc28) (by kernel_rfl) bodp26 bodp303
theorem bodp308 {n0 : Nat} : PCall bodGl 64 n0 18 [.sl 143 165 0 165 1 none] bodk19.fams bodk19.next (.str [40, 40, 34, 105, 109, 97, 103, 101, 34, 32, 34, 103, 105, 102, 34, 32, 40, 34, 110, 97, 109, 101, 34, 32, 34, 97, 32, 98, 34, 41, 32, 34, 60, 105, 62, 34, 32, 78, 73, 76, 32, 34, 98, 97, 115, 101, 54, 52, 34, 32, 50, 41, 40, 34, 116, 101, 120, 116, 34, 32, 34, 112, 108, 97, 105, 110, 34, 32, 78, 73, 76, 32, 78, 73, 76, 32, 78, 73, 76, 32, 34, 55, 98, 105, 116, 34, 32, 52, 32, 50, 41, 32, 34, 109, 105, 120, 101, 100, 34, 41]) bodk305.fams bodk305.next := PCall.of (fn := Tryz.f18) (c := bodc22) (nt := 7) (ck := bodk305) (vs := [.str [40, 40, 34, 105, 109, 97, 103, 101, 34, 32, 34, 103, 105, 102, 34, 32, 40, 34, 110, 97, 109, 101, 34, 32, 34, 97, 32, 98, 34, 41, 32, 34, 60, 105, 62, 34, 32, 78, 73, 76, 32, 34, 98, 97, 115, 101, 54, 52, 34, 32, 50, 41, 40, 34, 116, 101, 120, 116, 34, 32, 34, 112, 108, 97, 105, 110, 34, 32, 78, 73, 76, 32, 78, 73, 76, 32, 78, 73, 76, 32, 34, 55, 98, 105, 116, 34, 32, 52, 32, 50, 41, 32, 34, 109, 105, 120, 101, 100, 34, 41]]) Tryz.func18 (by kernel_rfl) (by kernel_rfl) (show Pc bodGl 7 64 n0 bodk21 bodc22 .ret bodk305 from bodp27) (by first | exact .inl rfl | exact .inr rfl) (by kernel_rfl) (by kernel_rfl)
def bodk309 : Ck := ⟨[(0, .bool false), (6, .str [40, 40, 34, 105, 109, 97, 103, 101, 34, 32, 34, 103, 105, 102, 34, 32, 40, 34, 110, 97, 109, 101, 34, 32, 34, 97, 32, 98, 34, 41, 32, 34, 60, 105, 62, 34, 32, 78, 73, 76, 32, 34, 98, 97, 115, 101, 54, 52, 34, 32, 50, 41, 40, 34, 116, 101, 120, 116, 34, 32, 34, 112, 108, 97, 105, 110, 34, 32, 78, 73, 76, 32, 78, 73, 76, 32, 78, 73, 76, 32, 34, 55, 98, 105, 116, 34, 32, 52, 32, 50, 41, 32, 34, 109, 105, 120, 101, 100, 34, 41])], bodk305.fams, bodk305.next⟩
def bodk310 : Ck := ⟨[(0, .bool true)], [(0, bodG0)], 798⟩
theorem bode311 : prS [0] [0] (aOps Tryz.prog bodGl bodR (opsC bodc18) 2 2 (Ck.st 8 64 bodk309)) = some bodk310 := by kernel_rfl
theorem bodp312 {n0 : Nat} : Pc bodGl 8 64 n0 bodk13 bodc18 .normal bodk310 := Pc.region (id := idC bodc18) (ops := opsC bodc18) (by kernel_rfl) (n := 4) (by kernel_rfl) (Ps.cons bodRa bodRok (n := 1) (k := 3) bode20 (Ps.call (o := opC (opsC bodc18) 1) (f := 18) (args := [.sl 143 165 0 165 1 none]) (v := .str [40, 40, 34, 105, 109, 97, 103, 101, 34, 32, 34, 103, 105, 102, 34, 32, 40, 34, 110, 97, 109, 101, 34, 32, 34, 97, 32, 98, 34, 41, 32, 34, 60, 105, 62, 34, 32, 78, 73, 76, 32, 34, 98, 97, 115, 101, 54, 52, 34, 32, 50, 41, 40, 34, 116, 101, 120, 116, 34, 32, 34, 112, 108, 97, 105, 110, 34, 32, 78, 73, 76, 32, 78, 73, 76, 32, 78, 73, 76, 32, 34, 55, 98, 105, 116, 34, 32, 52, 32, 50, 41, 32, 34, 109, 105, 120, 101, 100, 34, 41]) (d := 6) (lv := [0, 6]) (live' := bodk309.live) (k := 2) (by kernel_rfl) (by kernel_rfl) (by kernel_rfl) (by kernel_rfl) (by kernel_rfl) (by kernel_rfl) bodp308 (by kernel_rfl) (ck1 := bodk309) rfl (Ps.cons bodRa bodRok (n := 2) (k := 0) bode311 Ps.nil)))
noncomputable def bodc314 : Code := tailC bodc17
def bodk315 : Ck := ⟨[(0, .bool true)], [(0, bodG0)], 798⟩
theorem bode316 : prC [0] [0] (aCode Tryz.prog bodGl bodR 1000000 bodc314 (Ck.st 8 64 bodk310)) = some (.ret, bodk315) := by kernel_rfl
theorem bodp317 {n0 : Nat} : Pc bodGl 8 64 n0 bodk310 bodc314 .ret bodk315 := Pc.run bodMix bodRa bodRok bode316
theorem bodp313 {n0 : Nat} : Pc bodGl 8 64 n0 bodk13 bodc17 .ret bodk315 := Pc.seq (a := bodc18) (b := bodc314) (by kernel_rfl) bodp312 bodp317
theorem bodp16 {n0 : Nat} : Pc bodGl 8 64 n0 bodk7 bodc11 .ret bodk315 := Pc.seq (a := bodc12) (b := bodc17) (by kernel_rfl) bodp15 bodp313
theorem bodp10 {n0 : Nat} : Pc bodGl 8 64 n0 bodk1 bodc5 .ret bodk315 := Pc.seq (a := bodc6) (b := bodc11) (by kernel_rfl) bodp9 bodp16
theorem bodp4 {n0 : Nat} : Pc bodGl 8 64 n0 bodstart bodt0 .ret bodk315 := Pc.seq (a := bodc0) (b := bodc5) (by kernel_rfl) bodp3 bodp10
theorem bodAll (n0 : Nat) : Pc bodGl 8 64 n0 (ck0 bodGs 64) bodt0 .ret bodk315 := bodp4
theorem bodPieces (w : World) (ha : GAll w bodGs) : Calls Tryz.prog 5 #[] w fun e w' => e = .returned (.bool true) ∧ Below w.heap.size w w' := known_pieces (fn := Tryz.f5) (c := bodt0) (ck := bodk315) Tryz.func5 (by kernel_rfl) (by kernel_rfl) bodAll (by first | exact .inl rfl | exact .inr rfl) (by kernel_rfl) w ha
theorem bodWalk (w : World) (hm : ∃ m, w.cell? ⟨0, 0, none⟩ = some (.int .i64 m)) (_ : 0 < w.heap.size) : Calls Tryz.prog 5 #[] w fun e w' => e = .returned (.bool true) ∧ Below w.heap.size w w' :=
  bodPieces w (gAll_one (gAt_int hm))
end Go.Proofs.YtcommopnnoicoaaGreatDoor
