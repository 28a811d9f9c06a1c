/- The walk of RespKnown, run by the abstract machine in pieces: the closed statement answers true, whatever the memory, where the library's variable MaxLen holds some int. -/
import Derived.Test.YteeabadldfkdiaaGreatDoorAm26
import Derived.Test.YteeabadldfkdiaaGreatDoorProg
import Derived.Test.YteeabadldfkdiaaGreatDoorShelf
import Derived.Lib.LaidTab
import Derived.KernelRfl
namespace Go.Proofs.YteeabadldfkdiaaGreatDoor
open Go.RowKit Go.Proofs.YteeabadldfkdiaaGreatDoor.Am

def reXs : List (Nat × Nat × Nat) := [(210, 1, 0), (287, 2, 0), (309, 2, 0), (314, 3, 0), (211, 4, 5), (163, 5, 0)]
theorem reXsOK : xtAll Tryz.prog reXs :=
  ⟨⟨by kernel_rfl, says1 (by kernel_rfl)⟩, ⟨by kernel_rfl, says2 (by kernel_rfl)⟩, ⟨by kernel_rfl, says2 (by kernel_rfl)⟩, ⟨by kernel_rfl, says3 (by kernel_rfl)⟩, ⟨by kernel_rfl, says4 #[3] 28 (by kernel_rfl) (by kernel_rfl)⟩, ⟨by kernel_rfl, says5 (by kernel_rfl)⟩, trivial⟩
def reV0 : List AV := [.unk .i64]
def reL3 : List Nat := [1, 10, 100, 1000, 10000, 100000, 1000000, 10000000, 100000000, 1000000000, 10000000000, 100000000000, 1000000000000, 10000000000000, 100000000000000, 1000000000000000, 10000000000000000, 100000000000000000, 1000000000000000000, 10000000000000000000]
def reT3 : List Int := reL3.map Int.ofNat
def reV3 : List AV := [.int .u64 1, .int .u64 10, .int .u64 100, .int .u64 1000, .int .u64 10000, .int .u64 100000, .int .u64 1000000, .int .u64 10000000, .int .u64 100000000, .int .u64 1000000000, .int .u64 10000000000, .int .u64 100000000000, .int .u64 1000000000000, .int .u64 10000000000000, .int .u64 100000000000000, .int .u64 1000000000000000, .int .u64 10000000000000000, .int .u64 100000000000000000, .int .u64 1000000000000000000, .int .u64 10000000000000000000]
def reGs : List (Nat × List AV) := [(0, reV0), (3, reV3)]
noncomputable def reOver (f : FuncId) : Option (List AV → AH → Option (AV × AH)) := cond (Nat.beq f 249) (some (ovIndex 0)) (cond (Nat.beq f 179) (some (ovIndexS 0)) (none))
theorem reCon : IdxCon Tryz.prog 249 0 where
  none p q n c d w := Tryz.bytes_Index_none p q n c d w
  nil p2 k c2 w h1 h2 := Tryz.bytes_Index_nil p2 k c2 w h1 h2
  full a1 a2 n c1 k c2 xs ys m w hx hy h1 h2 h3 h4 h5 h6 h7 h8 := (Tryz.bytes_Index_at a1 a2 n c1 k c2 xs ys m w hx hy h1 h2 h3 h4 h5 h6 h7 h8).mono fun e w' ⟨he, q, hq⟩ => ⟨he, by rw [hq]; rfl⟩
theorem reConS : IdxConS Tryz.prog 179 0 := fun s t m w hs hm => Tryz.strings_Index s t m w hs hm
noncomputable def reGl : Gl Tryz.prog := Gl.mkG Tryz.prog reGs reXs reXsOK
theorem reOver_ok : OverOK Tryz.prog reGl reOver := by
  intro f g hf args h v h' e
  unfold reOver at hf
  cases h_ovIndex : Nat.beq f 249 with
  | true =>
    have := Nat.eq_of_beq_eq_true h_ovIndex
    subst this
    rw [h_ovIndex] at hf
    injection hf with hf
    subst hf
    exact ovIndex_ok reCon rfl args h v h' e
  | false =>
    rw [h_ovIndex] at hf
    cases h_ovIndexS : Nat.beq f 179 with
    | true =>
      have := Nat.eq_of_beq_eq_true h_ovIndexS
      subst this
      rw [h_ovIndexS] at hf
      injection hf with hf
      subst hf
      exact ovIndexS_ok reConS rfl args h v h' e
    | false =>
      rw [h_ovIndexS] at hf
      cases hf
theorem reMix : Tryz.prog.follows .mixedOrders = true := by kernel_rfl
noncomputable def reR : Rec := aRec Tryz.prog reGl reOver 1000000 1000000
theorem reRa : RecAF reR := (aCall_ok reMix reOver_ok 1000000 1000000).1
theorem reRok : RecOK Tryz.prog reGl reR := (aCall_ok reMix reOver_ok 1000000 1000000).2
set_option maxRecDepth 100000
def reG0 : CF := .row reV0 1 true none
def reG3 : CF := .row reV3 20 true none
noncomputable def ret0 : Code := bodyC Tryz.prog 5
noncomputable def restart : Ck := ck0 reGs 64
noncomputable def rec0 : Code := headC ret0
def rek1 : Ck := ⟨[(0, .bool false)], [(0, reG0), (3, reG3)], 64⟩
noncomputable def rec5 : Code := tailC ret0
noncomputable def rec6 : Code := headC rec5
def rek7 : Ck := ⟨[(0, .bool false)], [(0, reG0), (3, reG3)], 126⟩
noncomputable def rec11 : Code := tailC rec5
noncomputable def rec12 : Code := headC rec11
def reF0 : CF := .row [.str [], .str [119, 104, 97, 116], .str [98, 111, 100, 121], .str [98, 111, 100, 121, 91], .str [98, 111, 100, 121, 91, 120, 93], .str [98, 111, 100, 121, 91, 93, 60, 49, 62], .str [98, 111, 100, 121, 91, 93, 60, 49, 46, 48, 62], .str [98, 111, 100, 121, 91, 93, 60, 97, 46, 49, 62], .str [98, 111, 100, 121, 91, 93, 120], .str [98, 111, 100, 121, 46, 112, 101, 101, 107, 91, 49, 46, 93]] 10 false (some 9)
def rek13 : Ck := ⟨[(0, .bool false), (1, .sl 126 10 0 10 1 (some 10))], [(0, reG0), (3, reG3), (126, reF0)], 127⟩
noncomputable def rec17 : Code := tailC rec11
noncomputable def rec18 : Code := headC rec17
def rek19 : Ck := ⟨[(0, .bool false)], [(0, reG0), (3, reG3)], 229⟩
noncomputable def rec23 : Code := tailC rec17
noncomputable def rec24 : Code := headC rec23
def rek25 : Ck := ⟨[(0, .bool false), (4, .int .i64 (.ofNat 3))], [(0, reG0), (3, reG3)], 235⟩
noncomputable def rec29 : Code := tailC rec23
noncomputable def rec30 : Code := headC rec29
def rek31 : Ck := ⟨[(0, .bool false), (4, .int .i64 (.ofNat 3)), (6, .int .i64 (.ofNat 3))], [(0, reG0), (3, reG3)], 236⟩
noncomputable def rec35 : Code := tailC rec29
noncomputable def rec36 : Code := headC rec35
def rek37 : Ck := ⟨[(0, .bool false), (4, .int .i64 (.ofNat 3)), (6, .int .i64 (.ofNat 3)), (8, .int .i64 (.ofNat 3))], [(0, reG0), (3, reG3)], 244⟩
noncomputable def rec41 : Code := tailC rec35
noncomputable def rec42 : Code := headC rec41
def reF1 : CF := .row [.str [102, 114, 111, 109]] 1 false (some 9)
def reF2 : CF := .row [.int .i64 (.ofNat 7), .nilsl, .int .i64 (.ofNat 3), .sl 253 1 0 1 1 (some 1), .bool true, .bool true, .int .i64 (.ofNat 1), .int .i64 (.ofNat 3)] 8 false (some 70)
def rek43 : Ck := ⟨[(0, .bool false), (4, .int .i64 (.ofNat 3)), (6, .int .i64 (.ofNat 3)), (8, .int .i64 (.ofNat 3)), (9, .sl 257 8 0 1 8 (some 8))], [(0, reG0), (3, reG3), (253, reF1), (257, reF2)], 258⟩
noncomputable def rec47 : Code := tailC rec41
noncomputable def rec48 : Code := headC rec47
def reF3 : CF := .row [.int .i64 (.ofNat 7), .nilsl, .int .i64 (.ofNat 0), .nilsl, .bool false, .bool false, .int .i64 (.ofNat 0), .int .i64 (.ofNat 0)] 8 false (some 70)
def rek49 : Ck := ⟨[(0, .bool false), (4, .int .i64 (.ofNat 3)), (6, .int .i64 (.ofNat 3)), (8, .int .i64 (.ofNat 3)), (9, .sl 257 8 0 1 8 (some 8)), (11, .sl 270 8 0 1 8 (some 8))], [(0, reG0), (3, reG3), (253, reF1), (257, reF2), (270, reF3)], 271⟩
noncomputable def rec53 : Code := tailC rec47
noncomputable def rec54 : Code := headC rec53
def rek55 : Ck := ⟨[(0, .bool false), (4, .int .i64 (.ofNat 3)), (6, .int .i64 (.ofNat 3)), (8, .int .i64 (.ofNat 3)), (9, .sl 257 8 0 1 8 (some 8)), (11, .sl 270 8 0 1 8 (some 8))], [(0, reG0), (3, reG3), (253, reF1), (257, reF2), (270, reF3)], 271⟩
noncomputable def rec59 : Code := tailC rec53
noncomputable def rec60 : Code := headC rec59
def rek61 : Ck := ⟨[(0, .bool false), (9, .sl 257 8 0 1 8 (some 8)), (11, .sl 270 8 0 1 8 (some 8)), (113, .bool true), (116, .agg [.int .i64 (.ofNat 7), .nilsl, .int .i64 (.ofNat 3), .sl 253 1 0 1 1 (some 1), .bool true, .bool true, .int .i64 (.ofNat 1), .int .i64 (.ofNat 3)])], [(0, reG0), (3, reG3), (253, reF1), (257, reF2), (270, reF3)], 920⟩
def rek63 : Ck := ⟨[(0, .bool true)], [(0, reG0), (3, reG3)], 981⟩
noncomputable def rec67 : Code := tailC rec59
def rek68 : Ck := ⟨[(0, .bool true)], [(0, reG0), (3, reG3)], 981⟩
end Go.Proofs.YteeabadldfkdiaaGreatDoor
