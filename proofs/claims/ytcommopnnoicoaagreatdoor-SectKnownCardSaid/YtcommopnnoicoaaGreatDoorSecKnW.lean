/- The walk of SectKnown, run by the abstract machine in pieces: the closed statement answers true, whatever the memory, where the library's variable MaxLen holds some int. -/
import Derived.Test.YtcommopnnoicoaaGreatDoorAm26
import Derived.Test.YtcommopnnoicoaaGreatDoorProg
import Derived.Test.YtcommopnnoicoaaGreatDoorShelf
import Derived.KernelRfl
namespace Go.Proofs.YtcommopnnoicoaaGreatDoor
open Go.RowKit Go.Proofs.YtcommopnnoicoaaGreatDoor.Am

def secXs : List (Nat × Nat × Nat) := [(101, 1, 0), (140, 2, 0), (116, 2, 0), (143, 3, 0), (102, 4, 5)]
theorem secXsOK : xtAll Tryz.prog secXs :=
  ⟨⟨by kernel_rfl, says1 (by kernel_rfl)⟩, ⟨by kernel_rfl, says2 (by kernel_rfl)⟩, ⟨by kernel_rfl, says2 (by kernel_rfl)⟩, ⟨by kernel_rfl, says3 (by kernel_rfl)⟩, ⟨by kernel_rfl, says4 #[3] 23 (by kernel_rfl) (by kernel_rfl)⟩, trivial⟩
def secV0 : List AV := [.unk .i64]
def secGs : List (Nat × List AV) := [(0, secV0)]
noncomputable def secOver (f : FuncId) : Option (List AV → AH → Option (AV × AH)) := cond (Nat.beq f 56) (some (ovIndex 0)) (cond (Nat.beq f 113) (some (ovIndexS 0)) (none))
theorem secCon : IdxCon Tryz.prog 56 0 where
  none p q n c d w := Tryz.bytes_Index_none p q n c d w
  nil p2 k c2 w h1 h2 := Tryz.bytes_Index_nil p2 k c2 w h1 h2
  full a1 a2 n c1 k c2 xs ys m w hx hy h1 h2 h3 h4 h5 h6 h7 h8 := (Tryz.bytes_Index_at a1 a2 n c1 k c2 xs ys m w hx hy h1 h2 h3 h4 h5 h6 h7 h8).mono fun e w' ⟨he, q, hq⟩ => ⟨he, by rw [hq]; rfl⟩
theorem secConS : IdxConS Tryz.prog 113 0 := fun s t m w hs hm => Tryz.strings_Index s t m w hs hm
noncomputable def secGl : Gl Tryz.prog := Gl.mkG Tryz.prog secGs secXs secXsOK
theorem secOver_ok : OverOK Tryz.prog secGl secOver := by
  intro f g hf args h v h' e
  unfold secOver at hf
  cases h_ovIndex : Nat.beq f 56 with
  | true =>
    have := Nat.eq_of_beq_eq_true h_ovIndex
    subst this
    rw [h_ovIndex] at hf
    injection hf with hf
    subst hf
    exact ovIndex_ok secCon rfl args h v h' e
  | false =>
    rw [h_ovIndex] at hf
    cases h_ovIndexS : Nat.beq f 113 with
    | true =>
      have := Nat.eq_of_beq_eq_true h_ovIndexS
      subst this
      rw [h_ovIndexS] at hf
      injection hf with hf
      subst hf
      exact ovIndexS_ok secConS rfl args h v h' e
    | false =>
      rw [h_ovIndexS] at hf
      cases hf
theorem secMix : Tryz.prog.follows .mixedOrders = true := by kernel_rfl
noncomputable def secR : Rec := aRec Tryz.prog secGl secOver 1000000 1000000
theorem secRa : RecAF secR := (aCall_ok secMix secOver_ok 1000000 1000000).1
theorem secRok : RecOK Tryz.prog secGl secR := (aCall_ok secMix secOver_ok 1000000 1000000).2
set_option maxRecDepth 100000
def secG0 : CF := .row secV0 1 true none
noncomputable def sect0 : Code := bodyC Tryz.prog 4
noncomputable def secstart : Ck := ck0 secGs 64
noncomputable def secc0 : Code := headC sect0
def seck1 : Ck := ⟨[(0, .bool false)], [(0, secG0)], 64⟩
theorem sece2 : prC [0] [0] (aCode Tryz.prog secGl secR 1000000 secc0 (Ck.st 173 64 secstart)) = some (.normal, seck1) := by kernel_rfl
theorem secp3 {n0 : Nat} : Pc secGl 173 64 n0 secstart secc0 .normal seck1 := Pc.run secMix secRa secRok sece2
noncomputable def secc5 : Code := tailC sect0
noncomputable def secc6 : Code := headC secc5
def seck7 : Ck := ⟨[(0, .bool false)], [(0, secG0)], 83⟩
theorem sece8 : prC [0] [0] (aCode Tryz.prog secGl secR 1000000 secc6 (Ck.st 173 64 seck1)) = some (.normal, seck7) := by kernel_rfl
theorem secp9 {n0 : Nat} : Pc secGl 173 64 n0 seck1 secc6 .normal seck7 := Pc.run secMix secRa secRok sece8
noncomputable def secc11 : Code := tailC secc5
noncomputable def secc12 : Code := headC secc11
def secF0 : CF := .row [.str [120], .str [49, 46], .str [48], .str [48, 49], .str [50, 48, 49], .str [49, 46, 116, 101, 120, 116], .str [109, 105, 109, 101], .str [104, 101, 97, 100, 101, 114, 46, 102, 105, 101, 108, 100, 115], .str [104, 101, 97, 100, 101, 114, 46, 102, 105, 101, 108, 100, 115, 32, 40, 41], .str [104, 101, 97, 100, 101, 114, 46, 102, 105, 101, 108, 100, 115, 32, 40, 97, 32, 32, 98, 41], .str [104, 101, 97, 100, 101, 114, 46, 102, 105, 101, 108, 100, 115, 40, 97, 41], .str [49, 46, 50, 32], .str [104, 101, 97, 100, 101, 114, 46], .str [116, 101, 120, 116, 32, 40, 97, 41]] 14 false (some 9)
def seck13 : Ck := ⟨[(0, .bool false), (1, .sl 83 14 0 14 1 (some 14))], [(0, secG0), (83, secF0)], 84⟩
theorem sece14 : prC [0, 1] [0, 83] (aCode Tryz.prog secGl secR 1000000 secc12 (Ck.st 173 64 seck7)) = some (.normal, seck13) := by kernel_rfl
theorem secp15 {n0 : Nat} : Pc secGl 173 64 n0 seck7 secc12 .normal seck13 := Pc.run secMix secRa secRok sece14
noncomputable def secc17 : Code := tailC secc11
noncomputable def secc18 : Code := headC secc17
def seck19 : Ck := ⟨[(0, .bool false)], [(0, secG0)], 139⟩
theorem sece20 : prC [0] [0] (aCode Tryz.prog secGl secR 1000000 secc18 (Ck.st 173 64 seck13)) = some (.normal, seck19) := by kernel_rfl
theorem secp21 {n0 : Nat} : Pc secGl 173 64 n0 seck13 secc18 .normal seck19 := Pc.run secMix secRa secRok sece20
noncomputable def secc23 : Code := tailC secc17
noncomputable def secc24 : Code := headC secc23
def secF1 : CF := .row [.str [84, 111], .str [99, 99]] 2 false (some 9)
def secF2 : CF := .row [.nilsl, .int .i64 (.ofNat 4), .sl 141 2 0 2 1 (some 2)] 3 false (some 33)
def seck25 : Ck := ⟨[(0, .bool false), (5, .ptr 143 3 0), (6, .int .i64 (.ofNat 0))], [(0, secG0), (141, secF1), (143, secF2)], 144⟩
theorem sece26 : prC [0, 5, 6] [0, 141, 143] (aCode Tryz.prog secGl secR 1000000 secc24 (Ck.st 173 64 seck19)) = some (.normal, seck25) := by kernel_rfl
theorem secp27 {n0 : Nat} : Pc secGl 173 64 n0 seck19 secc24 .normal seck25 := Pc.run secMix secRa secRok sece26
noncomputable def secc29 : Code := tailC secc23
noncomputable def secc30 : Code := headC secc29
def secF3 : CF := .row (bs [84, 111, 58, 32, 97, 13, 10, 67, 99, 58, 32, 98, 13, 10, 88, 58, 32, 99, 13, 10, 13, 10, 98, 111, 100, 121]) 1 false (some 5)
def seck31 : Ck := ⟨[(0, .bool false), (5, .ptr 143 3 0), (6, .int .i64 (.ofNat 0)), (7, .sl 145 26 0 26 1 none)], [(0, secG0), (141, secF1), (143, secF2), (145, secF3)], 171⟩
theorem sece32 : prC [0, 5, 6, 7] [0, 141, 143, 145] (aCode Tryz.prog secGl secR 1000000 secc30 (Ck.st 173 64 seck25)) = some (.normal, seck31) := by kernel_rfl
theorem secp33 {n0 : Nat} : Pc secGl 173 64 n0 seck25 secc30 .normal seck31 := Pc.run secMix secRa secRok sece32
noncomputable def secc35 : Code := tailC secc29
noncomputable def secc36 : Code := headC secc35
def secF4 : CF := .row (bs [88, 58, 32, 99, 13, 10, 13, 10]) 6 false (some 5)
def seck37 : Ck := ⟨[(0, .bool false), (5, .ptr 143 3 0), (6, .int .i64 (.ofNat 0)), (7, .sl 145 26 0 26 1 none), (8, .sl 219 8 0 8 1 none), (9, .bool true)], [(0, secG0), (141, secF1), (143, secF2), (145, secF3), (219, secF4)], 220⟩
theorem sece38 : prC [0, 5, 6, 7, 8, 9] [0, 141, 143, 145, 219] (aCode Tryz.prog secGl secR 1000000 secc36 (Ck.st 173 64 seck31)) = some (.normal, seck37) := by kernel_rfl
theorem secp39 {n0 : Nat} : Pc secGl 173 64 n0 seck31 secc36 .normal seck37 := Pc.run secMix secRa secRok sece38
noncomputable def secc41 : Code := tailC secc35
noncomputable def secc42 : Code := headC secc41
def secF5 : CF := .row [.nilsl, .int .i64 (.ofNat 2), .nilsl] 3 false (some 33)
def seck43 : Ck := ⟨[(0, .bool false), (5, .ptr 143 3 0), (6, .int .i64 (.ofNat 0)), (7, .sl 145 26 0 26 1 none), (8, .sl 219 8 0 8 1 none), (9, .bool true), (10, .ptr 223 3 0)], [(0, secG0), (141, secF1), (143, secF2), (145, secF3), (219, secF4), (223, secF5)], 224⟩
theorem sece44 : prC [0, 5, 6, 7, 8, 9, 10] [0, 141, 143, 145, 219, 223] (aCode Tryz.prog secGl secR 1000000 secc42 (Ck.st 173 64 seck37)) = some (.normal, seck43) := by kernel_rfl
theorem secp45 {n0 : Nat} : Pc secGl 173 64 n0 seck37 secc42 .normal seck43 := Pc.run secMix secRa secRok sece44
noncomputable def secc47 : Code := tailC secc41
noncomputable def secc48 : Code := headC secc47
def secF6 : CF := .row (bs [98, 111, 100, 121]) 4 false (some 5)
def seck49 : Ck := ⟨[(0, .bool false), (5, .ptr 143 3 0), (6, .int .i64 (.ofNat 0)), (7, .sl 145 26 0 26 1 none), (8, .sl 219 8 0 8 1 none), (9, .bool true), (12, .sl 229 4 0 4 1 none), (13, .bool true)], [(0, secG0), (141, secF1), (143, secF2), (145, secF3), (219, secF4), (229, secF6)], 230⟩
theorem sece50 : prC [0, 5, 6, 7, 8, 9, 12, 13] [0, 141, 143, 145, 219, 229] (aCode Tryz.prog secGl secR 1000000 secc48 (Ck.st 173 64 seck43)) = some (.normal, seck49) := by kernel_rfl
theorem secp51 {n0 : Nat} : Pc secGl 173 64 n0 seck43 secc48 .normal seck49 := Pc.run secMix secRa secRok sece50
noncomputable def secc53 : Code := tailC secc47
noncomputable def secc54 : Code := headC secc53
def secF7 : CF := .row [.nilsl, .int .i64 (.ofNat 0), .nilsl] 3 false (some 33)
def seck55 : Ck := ⟨[(0, .bool false), (5, .ptr 143 3 0), (6, .int .i64 (.ofNat 0)), (7, .sl 145 26 0 26 1 none), (8, .sl 219 8 0 8 1 none), (9, .bool true), (12, .sl 229 4 0 4 1 none), (13, .bool true), (14, .ptr 233 3 0), (15, .int .i64 (.ofNat 0))], [(0, secG0), (141, secF1), (143, secF2), (145, secF3), (219, secF4), (229, secF6), (233, secF7)], 234⟩
theorem sece56 : prC [0, 5, 6, 7, 8, 9, 12, 13, 14, 15] [0, 141, 143, 145, 219, 229, 233] (aCode Tryz.prog secGl secR 1000000 secc54 (Ck.st 173 64 seck49)) = some (.normal, seck55) := by kernel_rfl
theorem secp57 {n0 : Nat} : Pc secGl 173 64 n0 seck49 secc54 .normal seck55 := Pc.run secMix secRa secRok sece56
noncomputable def secc59 : Code := tailC secc53
noncomputable def secc60 : Code := headC secc59
def secF8 : CF := .row (bs [84, 111, 58, 32, 97, 13, 10, 67, 99, 58, 32, 98, 13, 10, 88, 58, 32, 99, 13, 10, 13, 10, 98, 111, 100, 121]) 26 false (some 5)
def seck61 : Ck := ⟨[(0, .bool false), (5, .ptr 143 3 0), (6, .int .i64 (.ofNat 0)), (7, .sl 145 26 0 26 1 none), (8, .sl 219 8 0 8 1 none), (9, .bool true), (12, .sl 229 4 0 4 1 none), (13, .bool true), (15, .int .i64 (.ofNat 0)), (16, .sl 239 26 0 26 1 none), (17, .bool true)], [(0, secG0), (141, secF1), (143, secF2), (145, secF3), (219, secF4), (229, secF6), (239, secF8)], 240⟩
theorem sece62 : prC [0, 5, 6, 7, 8, 9, 12, 13, 15, 16, 17] [0, 141, 143, 145, 219, 229, 239] (aCode Tryz.prog secGl secR 1000000 secc60 (Ck.st 173 64 seck55)) = some (.normal, seck61) := by kernel_rfl
theorem secp63 {n0 : Nat} : Pc secGl 173 64 n0 seck55 secc60 .normal seck61 := Pc.run secMix secRa secRok sece62
noncomputable def secc65 : Code := tailC secc59
noncomputable def secc66 : Code := headC secc65
def secF9 : CF := .row [.int .i64 (.ofNat 1)] 1 false (some 3)
def secF10 : CF := .row [.sl 242 1 0 1 1 none, .int .i64 (.ofNat 0), .nilsl] 3 false (some 33)
def seck67 : Ck := ⟨[(0, .bool false), (5, .ptr 143 3 0), (6, .int .i64 (.ofNat 0)), (7, .sl 145 26 0 26 1 none), (8, .sl 219 8 0 8 1 none), (9, .bool true), (12, .sl 229 4 0 4 1 none), (13, .bool true), (15, .int .i64 (.ofNat 0)), (16, .sl 239 26 0 26 1 none), (17, .bool true), (18, .ptr 245 3 0)], [(0, secG0), (141, secF1), (143, secF2), (145, secF3), (219, secF4), (229, secF6), (239, secF8), (242, secF9), (245, secF10)], 246⟩
theorem sece68 : prC [0, 5, 6, 7, 8, 9, 12, 13, 15, 16, 17, 18] [0, 141, 143, 145, 219, 229, 239, 242, 245] (aCode Tryz.prog secGl secR 1000000 secc66 (Ck.st 173 64 seck61)) = some (.normal, seck67) := by kernel_rfl
theorem secp69 {n0 : Nat} : Pc secGl 173 64 n0 seck61 secc66 .normal seck67 := Pc.run secMix secRa secRok sece68
noncomputable def secc71 : Code := tailC secc65
noncomputable def secc72 : Code := headC secc71
def seck73 : Ck := ⟨[(0, .bool false), (5, .ptr 143 3 0), (6, .int .i64 (.ofNat 0)), (7, .sl 145 26 0 26 1 none), (8, .sl 219 8 0 8 1 none), (9, .bool true), (12, .sl 229 4 0 4 1 none), (13, .bool true), (15, .int .i64 (.ofNat 0)), (16, .sl 239 26 0 26 1 none), (17, .bool true), (81, .sl 145 26 0 26 1 none), (82, .agg [.sl 242 1 0 1 1 none, .int .i64 (.ofNat 0), .nilsl])], [(0, secG0), (141, secF1), (143, secF2), (145, secF3), (219, secF4), (229, secF6), (239, secF8), (242, secF9)], 246⟩
theorem sece74 : prS [0, 5, 6, 7, 8, 9, 12, 13, 15, 16, 17, 81, 82] [0, 141, 143, 145, 219, 229, 239, 242] (aOps Tryz.prog secGl secR (opsC secc72) 2 0 (Ck.st 173 64 seck67)) = some seck73 := by kernel_rfl
def seck75 : Ck := ⟨argL [.sl 145 26 0 26 1 none, .agg [.sl 242 1 0 1 1 none, .int .i64 (.ofNat 0), .nilsl]] 0, seck73.fams, seck73.next⟩
noncomputable def secc76 : Code := bodyC Tryz.prog 13
def seck77 : Ck := ⟨[(4, .sl 307 4 0 4 1 none), (5, .bool true)], [(0, secG0), (141, secF1), (143, secF2), (145, secF3), (219, secF4), (229, secF6), (239, secF8), (307, secF6)], 308⟩
theorem sece78 : prC [4, 5] [0, 141, 143, 145, 219, 229, 239, 307] (aCode Tryz.prog secGl secR 1000000 secc76 (Ck.st 49 64 seck75)) = some (.ret, seck77) := by kernel_rfl
theorem secp79 {n0 : Nat} : Pc secGl 49 64 n0 seck75 secc76 .ret seck77 := Pc.run secMix secRa secRok sece78
theorem secp80 {n0 : Nat} : PCall secGl 64 n0 13 [.sl 145 26 0 26 1 none, .agg [.sl 242 1 0 1 1 none, .int .i64 (.ofNat 0), .nilsl]] seck73.fams seck73.next (.tuple [.sl 307 4 0 4 1 none, .bool true]) seck77.fams seck77.next := PCall.of (fn := Tryz.f13) (c := secc76) (nt := 49) (ck := seck77) (vs := [.sl 307 4 0 4 1 none, .bool true]) Tryz.func13 (by kernel_rfl) (by kernel_rfl) (show Pc secGl 49 64 n0 seck75 secc76 .ret seck77 from secp79) (by first | exact .inl rfl | exact .inr rfl) (by kernel_rfl) (by kernel_rfl)
def seck81 : Ck := ⟨[(0, .bool false), (5, .ptr 143 3 0), (6, .int .i64 (.ofNat 0)), (7, .sl 145 26 0 26 1 none), (8, .sl 219 8 0 8 1 none), (9, .bool true), (12, .sl 229 4 0 4 1 none), (13, .bool true), (15, .int .i64 (.ofNat 0)), (16, .sl 239 26 0 26 1 none), (17, .bool true), (83, .tuple [.sl 307 4 0 4 1 none, .bool true])], seck77.fams, seck77.next⟩
def seck82 : Ck := ⟨[(0, .bool false), (5, .ptr 143 3 0), (6, .int .i64 (.ofNat 0)), (7, .sl 145 26 0 26 1 none), (8, .sl 219 8 0 8 1 none), (9, .bool true), (12, .sl 229 4 0 4 1 none), (13, .bool true), (15, .int .i64 (.ofNat 0)), (16, .sl 239 26 0 26 1 none), (17, .bool true), (20, .sl 307 4 0 4 1 none), (21, .bool true)], [(0, secG0), (141, secF1), (143, secF2), (145, secF3), (219, secF4), (229, secF6), (239, secF8), (307, secF6)], 308⟩
theorem sece83 : prS [0, 5, 6, 7, 8, 9, 12, 13, 15, 16, 17, 20, 21] [0, 141, 143, 145, 219, 229, 239, 307] (aOps Tryz.prog secGl secR (opsC secc72) 5 3 (Ck.st 173 64 seck81)) = some seck82 := by kernel_rfl
theorem secp84 {n0 : Nat} : Pc secGl 173 64 n0 seck67 secc72 .normal seck82 := Pc.region (id := idC secc72) (ops := opsC secc72) (by kernel_rfl) (n := 8) (by kernel_rfl) (Ps.cons secRa secRok (n := 2) (k := 6) sece74 (Ps.call (o := opC (opsC secc72) 2) (f := 13) (args := [.sl 145 26 0 26 1 none, .agg [.sl 242 1 0 1 1 none, .int .i64 (.ofNat 0), .nilsl]]) (v := .tuple [.sl 307 4 0 4 1 none, .bool true]) (d := 83) (lv := [0, 5, 6, 7, 8, 9, 12, 13, 15, 16, 17, 83]) (live' := seck81.live) (k := 5) (by kernel_rfl) (by kernel_rfl) (by kernel_rfl) (by kernel_rfl) (by kernel_rfl) (by kernel_rfl) secp80 (by kernel_rfl) (ck1 := seck81) rfl (Ps.cons secRa secRok (n := 5) (k := 0) sece83 Ps.nil)))
noncomputable def secc86 : Code := tailC secc71
def seck87 : Ck := ⟨[(0, .bool true)], [(0, secG0)], 381⟩
theorem sece88 : prC [0] [0] (aCode Tryz.prog secGl secR 1000000 secc86 (Ck.st 173 64 seck82)) = some (.ret, seck87) := by kernel_rfl
theorem secp89 {n0 : Nat} : Pc secGl 173 64 n0 seck82 secc86 .ret seck87 := Pc.run secMix secRa secRok sece88
theorem secp85 {n0 : Nat} : Pc secGl 173 64 n0 seck67 secc71 .ret seck87 := Pc.seq (a := secc72) (b := secc86) (by kernel_rfl) secp84 secp89
theorem secp70 {n0 : Nat} : Pc secGl 173 64 n0 seck61 secc65 .ret seck87 := Pc.seq (a := secc66) (b := secc71) (by kernel_rfl) secp69 secp85
theorem secp64 {n0 : Nat} : Pc secGl 173 64 n0 seck55 secc59 .ret seck87 := Pc.seq (a := secc60) (b := secc65) (by kernel_rfl) secp63 secp70
theorem secp58 {n0 : Nat} : Pc secGl 173 64 n0 seck49 secc53 .ret seck87 := Pc.seq (a := secc54) (b := secc59) (by kernel_rfl) secp57 secp64
theorem secp52 {n0 : Nat} : Pc secGl 173 64 n0 seck43 secc47 .ret seck87 := Pc.seq (a := secc48) (b := secc53) (by kernel_rfl) secp51 secp58
theorem secp46 {n0 : Nat} : Pc secGl 173 64 n0 seck37 secc41 .ret seck87 := Pc.seq (a := secc42) (b := secc47) (by kernel_rfl) secp45 secp52
theorem secp40 {n0 : Nat} : Pc secGl 173 64 n0 seck31 secc35 .ret seck87 := Pc.seq (a := secc36) (b := secc41) (by kernel_rfl) secp39 secp46
theorem secp34 {n0 : Nat} : Pc secGl 173 64 n0 seck25 secc29 .ret seck87 := Pc.seq (a := secc30) (b := secc35) (by kernel_rfl) secp33 secp40
theorem secp28 {n0 : Nat} : Pc secGl 173 64 n0 seck19 secc23 .ret seck87 := Pc.seq (a := secc24) (b := secc29) (by kernel_rfl) secp27 secp34
theorem secp22 {n0 : Nat} : Pc secGl 173 64 n0 seck13 secc17 .ret seck87 := Pc.seq (a := secc18) (b := secc23) (by kernel_rfl) secp21 secp28
theorem secp16 {n0 : Nat} : Pc secGl 173 64 n0 seck7 secc11 .ret seck87 := Pc.seq (a := secc12) (b := secc17) (by kernel_rfl) secp15 secp22
theorem secp10 {n0 : Nat} : Pc secGl 173 64 n0 seck1 secc5 .ret seck87 := Pc.seq (a := secc6) (b := secc11) (by kernel_rfl) secp9 secp16
theorem secp4 {n0 : Nat} : Pc secGl 173 64 n0 secstart sect0 .ret seck87 := Pc.seq (a := secc0) (b := secc5) (by kernel_rfl) secp3 secp10
theorem secAll (n0 : Nat) : Pc secGl 173 64 n0 (ck0 secGs 64) sect0 .ret seck87 := secp4
theorem secPieces (w : World) (ha : GAll w secGs) : Calls Tryz.prog 4 #[] w fun e w' => e = .returned (.bool true) ∧ Below w.heap.size w w' := known_pieces (fn := Tryz.f4) (c := sect0) (ck := seck87) Tryz.func4 (by kernel_rfl) (by kernel_rfl) secAll (by first | exact .inl rfl | exact .inr rfl) (by kernel_rfl) w ha
theorem secWalk (w : World) (hm : ∃ m, w.cell? ⟨0, 0, none⟩ = some (.int .i64 m)) (_ : 0 < w.heap.size) : Calls Tryz.prog 4 #[] w fun e w' => e = .returned (.bool true) ∧ Below w.heap.size w w' :=
  secPieces w (gAll_one (gAt_int hm))
end Go.Proofs.YtcommopnnoicoaaGreatDoor
