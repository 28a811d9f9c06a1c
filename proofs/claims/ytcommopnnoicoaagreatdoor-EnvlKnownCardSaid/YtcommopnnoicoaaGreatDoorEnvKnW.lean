/- The walk of EnvlKnown, run by the abstract machine in pieces: the closed statement answers true, whatever the memory, where the library's variable MaxLen holds some int. -/
import Derived.Test.YtcommopnnoicoaaGreatDoorAm26
import Derived.Test.YtcommopnnoicoaaGreatDoorProg
import Derived.Test.YtcommopnnoicoaaGreatDoorShelf
import Derived.KernelRfl
namespace Go.Proofs.YtcommopnnoicoaaGreatDoor
open Go.RowKit Go.Proofs.YtcommopnnoicoaaGreatDoor.Am

def envXs : List (Nat × Nat × Nat) := [(101, 1, 0), (140, 2, 0), (116, 2, 0), (143, 3, 0), (102, 4, 5)]
theorem envXsOK : xtAll Tryz.prog envXs :=
  ⟨⟨by kernel_rfl, says1 (by kernel_rfl)⟩, ⟨by kernel_rfl, says2 (by kernel_rfl)⟩, ⟨by kernel_rfl, says2 (by kernel_rfl)⟩, ⟨by kernel_rfl, says3 (by kernel_rfl)⟩, ⟨by kernel_rfl, says4 #[3] 23 (by kernel_rfl) (by kernel_rfl)⟩, trivial⟩
def envV0 : List AV := [.unk .i64]
def envGs : List (Nat × List AV) := [(0, envV0)]
noncomputable def envOver (f : FuncId) : Option (List AV → AH → Option (AV × AH)) := cond (Nat.beq f 56) (some (ovIndex 0)) (cond (Nat.beq f 113) (some (ovIndexS 0)) (none))
theorem envCon : IdxCon Tryz.prog 56 0 where
  none p q n c d w := Tryz.bytes_Index_none p q n c d w
  nil p2 k c2 w h1 h2 := Tryz.bytes_Index_nil p2 k c2 w h1 h2
  full a1 a2 n c1 k c2 xs ys m w hx hy h1 h2 h3 h4 h5 h6 h7 h8 := (Tryz.bytes_Index_at a1 a2 n c1 k c2 xs ys m w hx hy h1 h2 h3 h4 h5 h6 h7 h8).mono fun e w' ⟨he, q, hq⟩ => ⟨he, by rw [hq]; rfl⟩
theorem envConS : IdxConS Tryz.prog 113 0 := fun s t m w hs hm => Tryz.strings_Index s t m w hs hm
noncomputable def envGl : Gl Tryz.prog := Gl.mkG Tryz.prog envGs envXs envXsOK
theorem envOver_ok : OverOK Tryz.prog envGl envOver := by
  intro f g hf args h v h' e
  unfold envOver at hf
  cases h_ovIndex : Nat.beq f 56 with
  | true =>
    have := Nat.eq_of_beq_eq_true h_ovIndex
    subst this
    rw [h_ovIndex] at hf
    injection hf with hf
    subst hf
    exact ovIndex_ok envCon rfl args h v h' e
  | false =>
    rw [h_ovIndex] at hf
    cases h_ovIndexS : Nat.beq f 113 with
    | true =>
      have := Nat.eq_of_beq_eq_true h_ovIndexS
      subst this
      rw [h_ovIndexS] at hf
      injection hf with hf
      subst hf
      exact ovIndexS_ok envConS rfl args h v h' e
    | false =>
      rw [h_ovIndexS] at hf
      cases hf
theorem envMix : Tryz.prog.follows .mixedOrders = true := by kernel_rfl
noncomputable def envR : Rec := aRec Tryz.prog envGl envOver 1000000 1000000
theorem envRa : RecAF envR := (aCall_ok envMix envOver_ok 1000000 1000000).1
theorem envRok : RecOK Tryz.prog envGl envR := (aCall_ok envMix envOver_ok 1000000 1000000).2
set_option maxRecDepth 100000
def envG0 : CF := .row envV0 1 true none
noncomputable def envt0 : Code := bodyC Tryz.prog 3
noncomputable def envstart : Ck := ck0 envGs 64
noncomputable def envc0 : Code := headC envt0
def envk1 : Ck := ⟨[(0, .bool false)], [(0, envG0)], 64⟩
theorem enve2 : prC [0] [0] (aCode Tryz.prog envGl envR 1000000 envc0 (Ck.st 33 64 envstart)) = some (.normal, envk1) := by kernel_rfl
theorem envp3 {n0 : Nat} : Pc envGl 33 64 n0 envstart envc0 .normal envk1 := Pc.run envMix envRa envRok enve2
noncomputable def envc5 : Code := tailC envt0
noncomputable def envc6 : Code := headC envc5
def envk7 : Ck := ⟨[(0, .bool false)], [(0, envG0)], 99⟩
theorem enve8 : prC [0] [0] (aCode Tryz.prog envGl envR 1000000 envc6 (Ck.st 33 64 envk1)) = some (.normal, envk7) := by kernel_rfl
theorem envp9 {n0 : Nat} : Pc envGl 33 64 n0 envk1 envc6 .normal envk7 := Pc.run envMix envRa envRok enve8
noncomputable def envc11 : Code := tailC envc5
noncomputable def envc12 : Code := headC envc11
def envF0 : CF := .row (bs [68, 97, 116, 101, 58, 32, 100, 13, 10, 83, 117, 98, 106, 101, 99, 116, 58, 32, 115, 13, 10, 32, 116, 13, 10, 70, 114, 111, 109, 58, 32, 65, 110, 110, 32, 60, 97, 64, 98, 62, 13, 10, 82, 101, 112, 108, 121, 45, 84, 111, 58, 32, 114, 64, 115, 13, 10, 84, 111, 58, 32, 98, 97, 100, 13, 10, 77, 101, 115, 115, 97, 103, 101, 45, 73, 68, 58, 32, 60, 49, 62, 13, 10, 13, 10]) 1 false (some 5)
def envk13 : Ck := ⟨[(0, .bool false), (1, .sl 100 85 0 85 1 none)], [(0, envG0), (100, envF0)], 185⟩
theorem enve14 : prC [0, 1] [0, 100] (aCode Tryz.prog envGl envR 1000000 envc12 (Ck.st 33 64 envk7)) = some (.normal, envk13) := by kernel_rfl
theorem envp15 {n0 : Nat} : Pc envGl 33 64 n0 envk7 envc12 .normal envk13 := Pc.run envMix envRa envRok enve14
noncomputable def envc17 : Code := tailC envc11
noncomputable def envc18 : Code := headC envc17
def envk19 : Ck := ⟨[(0, .bool false), (1, .sl 100 85 0 85 1 none), (6, .sl 100 85 0 85 1 none)], [(0, envG0), (100, envF0)], 185⟩
theorem enve20 : prS [0, 1, 6] [0, 100] (aOps Tryz.prog envGl envR (opsC envc18) 1 0 (Ck.st 33 64 envk13)) = some envk19 := by kernel_rfl
def envk21 : Ck := ⟨argL [.sl 100 85 0 85 1 none] 0, envk19.fams, envk19.next⟩
noncomputable def envc22 : Code := bodyC Tryz.prog 8
noncomputable def envc23 : Code := headC envc22
def envF1 : CF := .row [.str [], .str [], .str [], .str [], .nilsl, .nilsl, .nilsl, .nilsl, .nilsl, .nilsl] 10 false (some 27)
def envk24 : Ck := ⟨[(0, .sl 100 85 0 85 1 none), (2, .ptr 185 10 0)], [(0, envG0), (100, envF0), (185, envF1)], 186⟩
theorem enve25 : prC [0, 2] [0, 100, 185] (aCode Tryz.prog envGl envR 1000000 envc23 (Ck.st 42 64 envk21)) = some (.normal, envk24) := by kernel_rfl
theorem envp26 {n0 : Nat} : Pc envGl 42 64 n0 envk21 envc23 .normal envk24 := Pc.run envMix envRa envRok enve25
noncomputable def envc28 : Code := tailC envc22
noncomputable def envc29 : Code := headC envc28
def envk30 : Ck := ⟨[(0, .sl 100 85 0 85 1 none), (2, .ptr 185 10 0), (5, .str [100]), (6, .sl 100 85 0 85 1 none)], [(0, envG0), (100, envF0), (185, envF1)], 265⟩
theorem enve31 : prS [0, 2, 5, 6] [0, 100, 185] (aOps Tryz.prog envGl envR (opsC envc29) 3 0 (Ck.st 42 64 envk24)) = some envk30 := by kernel_rfl
def envk32 : Ck := ⟨[(0, .sl 100 85 0 85 1 none), (2, .ptr 185 10 0), (5, .str [100]), (7, .str [115, 32, 116]), (8, .sl 100 85 0 85 1 none)], [(0, envG0), (100, envF0), (185, envF1)], 345⟩
theorem enve33 : prS [0, 2, 5, 7, 8] [0, 100, 185] (aOps Tryz.prog envGl envR (opsC envc29) 2 3 (Ck.st 42 64 envk30)) = some envk32 := by kernel_rfl
def envk34 : Ck := ⟨[(0, .sl 100 85 0 85 1 none), (2, .ptr 185 10 0), (5, .str [100]), (7, .str [115, 32, 116]), (9, .str []), (10, .sl 100 85 0 85 1 none)], [(0, envG0), (100, envF0), (185, envF1)], 429⟩
theorem enve35 : prS [0, 2, 5, 7, 9, 10] [0, 100, 185] (aOps Tryz.prog envGl envR (opsC envc29) 2 5 (Ck.st 42 64 envk32)) = some envk34 := by kernel_rfl
def envk36 : Ck := ⟨[(0, .sl 100 85 0 85 1 none), (2, .ptr 185 10 0), (5, .str [100]), (7, .str [115, 32, 116]), (9, .str []), (11, .str [60, 49, 62]), (12, .sl 100 85 0 85 1 none)], [(0, envG0), (100, envF0), (185, envF1)], 513⟩
theorem enve37 : prS [0, 2, 5, 7, 9, 11, 12] [0, 100, 185] (aOps Tryz.prog envGl envR (opsC envc29) 2 7 (Ck.st 42 64 envk34)) = some envk36 := by kernel_rfl
def envF2 : CF := .row [.str [65, 110, 110], .str [97], .str [98]] 3 false (some 45)
def envk38 : Ck := ⟨[(0, .sl 100 85 0 85 1 none), (2, .ptr 185 10 0), (5, .str [100]), (7, .str [115, 32, 116]), (9, .str []), (11, .str [60, 49, 62]), (13, .sl 613 3 0 1 3 none), (14, .sl 100 85 0 85 1 none)], [(0, envG0), (100, envF0), (185, envF1), (613, envF2)], 614⟩
theorem enve39 : prS [0, 2, 5, 7, 9, 11, 13, 14] [0, 100, 185, 613] (aOps Tryz.prog envGl envR (opsC envc29) 2 9 (Ck.st 42 64 envk36)) = some envk38 := by kernel_rfl
def envk40 : Ck := ⟨[(0, .sl 100 85 0 85 1 none), (2, .ptr 185 10 0), (5, .str [100]), (7, .str [115, 32, 116]), (9, .str []), (11, .str [60, 49, 62]), (13, .sl 613 3 0 1 3 none), (15, .nilsl), (16, .sl 100 85 0 85 1 none)], [(0, envG0), (100, envF0), (185, envF1), (613, envF2)], 698⟩
theorem enve41 : prS [0, 2, 5, 7, 9, 11, 13, 15, 16] [0, 100, 185, 613] (aOps Tryz.prog envGl envR (opsC envc29) 2 11 (Ck.st 42 64 envk38)) = some envk40 := by kernel_rfl
def envF3 : CF := .row [.str [], .str [114], .str [115]] 3 false (some 45)
def envk42 : Ck := ⟨[(0, .sl 100 85 0 85 1 none), (2, .ptr 185 10 0), (5, .str [100]), (7, .str [115, 32, 116]), (9, .str []), (11, .str [60, 49, 62]), (13, .sl 613 3 0 1 3 none), (15, .nilsl), (17, .sl 798 3 0 1 3 none), (18, .sl 100 85 0 85 1 none)], [(0, envG0), (100, envF0), (185, envF1), (613, envF2), (798, envF3)], 799⟩
theorem enve43 : prS [0, 2, 5, 7, 9, 11, 13, 15, 17, 18] [0, 100, 185, 613, 798] (aOps Tryz.prog envGl envR (opsC envc29) 2 13 (Ck.st 42 64 envk40)) = some envk42 := by kernel_rfl
def envk44 : Ck := ⟨[(0, .sl 100 85 0 85 1 none), (2, .ptr 185 10 0), (5, .str [100]), (7, .str [115, 32, 116]), (9, .str []), (11, .str [60, 49, 62]), (13, .sl 613 3 0 1 3 none), (15, .nilsl), (17, .sl 798 3 0 1 3 none), (19, .nilsl), (20, .sl 100 85 0 85 1 none)], [(0, envG0), (100, envF0), (185, envF1), (613, envF2), (798, envF3)], 895⟩
theorem enve45 : prS [0, 2, 5, 7, 9, 11, 13, 15, 17, 19, 20] [0, 100, 185, 613, 798] (aOps Tryz.prog envGl envR (opsC envc29) 2 15 (Ck.st 42 64 envk42)) = some envk44 := by kernel_rfl
def envk46 : Ck := ⟨[(2, .ptr 185 10 0), (5, .str [100]), (7, .str [115, 32, 116]), (9, .str []), (11, .str [60, 49, 62]), (13, .sl 613 3 0 1 3 none), (15, .nilsl), (17, .sl 798 3 0 1 3 none), (19, .nilsl), (21, .nilsl), (22, .sl 100 85 0 85 1 none)], [(0, envG0), (100, envF0), (185, envF1), (613, envF2), (798, envF3)], 979⟩
theorem enve47 : prS [2, 5, 7, 9, 11, 13, 15, 17, 19, 21, 22] [0, 100, 185, 613, 798] (aOps Tryz.prog envGl envR (opsC envc29) 2 17 (Ck.st 42 64 envk44)) = some envk46 := by kernel_rfl
def envF4 : CF := .row [.str [100], .str [115, 32, 116], .str [], .str [60, 49, 62], .sl 613 3 0 1 3 none, .nilsl, .sl 798 3 0 1 3 none, .nilsl, .nilsl, .nilsl] 10 false (some 27)
def envk48 : Ck := ⟨[(2, .ptr 185 10 0), (3, .ptr 1063 10 0)], [(0, envG0), (100, envF0), (185, envF1), (613, envF2), (798, envF3), (1063, envF4)], 1064⟩
theorem enve49 : prS [2, 3] [0, 100, 185, 613, 798, 1063] (aOps Tryz.prog envGl envR (opsC envc29) 4 19 (Ck.st 42 64 envk46)) = some envk48 := by kernel_rfl
theorem envp50 {n0 : Nat} : Pc envGl 42 64 n0 envk24 envc29 .normal envk48 := Pc.region (id := idC envc29) (ops := opsC envc29) (by kernel_rfl) (n := 23) (by kernel_rfl) (Ps.cons envRa envRok (n := 3) (k := 20) enve31 (Ps.cons envRa envRok (n := 2) (k := 18) enve33 (Ps.cons envRa envRok (n := 2) (k := 16) enve35 (Ps.cons envRa envRok (n := 2) (k := 14) enve37 (Ps.cons envRa envRok (n := 2) (k := 12) enve39 (Ps.cons envRa envRok (n := 2) (k := 10) enve41 (Ps.cons envRa envRok (n := 2) (k := 8) enve43 (Ps.cons envRa envRok (n := 2) (k := 6) enve45 (Ps.cons envRa envRok (n := 2) (k := 4) enve47 (Ps.cons envRa envRok (n := 4) (k := 0) enve49 Ps.nil))))))))))
noncomputable def envc52 : Code := tailC envc28
def envF5 : CF := .row [.str [100], .str [115, 32, 116], .str [], .str [60, 49, 62], .sl 613 3 0 1 3 none, .sl 1065 3 0 1 3 none, .sl 798 3 0 1 3 none, .nilsl, .nilsl, .nilsl] 10 false (some 27)
def envk53 : Ck := ⟨[(2, .ptr 185 10 0)], [(0, envG0), (100, envF0), (185, envF5), (613, envF2), (798, envF3), (1065, envF2)], 1066⟩
theorem enve54 : prC [2] [0, 100, 185, 613, 798, 1065] (aCode Tryz.prog envGl envR 1000000 envc52 (Ck.st 42 64 envk48)) = some (.ret, envk53) := by kernel_rfl
theorem envp55 {n0 : Nat} : Pc envGl 42 64 n0 envk48 envc52 .ret envk53 := Pc.run envMix envRa envRok enve54
theorem envp51 {n0 : Nat} : Pc envGl 42 64 n0 envk24 envc28 .ret envk53 := Pc.seq (a := envc29) (b := envc52) (by kernel_rfl) envp50 envp55
theorem envp27 {n0 : Nat} : Pc envGl 42 64 n0 envk21 envc22 .ret envk53 := Pc.seq (a := envc23) (b := envc28) (by kernel_rfl) envp26 envp51
theorem envp56 {n0 : Nat} : PCall envGl 64 n0 8 [.sl 100 85 0 85 1 none] envk19.fams envk19.next (.agg [.str [100], .str [115, 32, 116], .str [], .str [60, 49, 62], .sl 613 3 0 1 3 none, .sl 1065 3 0 1 3 none, .sl 798 3 0 1 3 none, .nilsl, .nilsl, .nilsl]) envk53.fams envk53.next := PCall.of (fn := Tryz.f8) (c := envc22) (nt := 42) (ck := envk53) (vs := [.agg [.str [100], .str [115, 32, 116], .str [], .str [60, 49, 62], .sl 613 3 0 1 3 none, .sl 1065 3 0 1 3 none, .sl 798 3 0 1 3 none, .nilsl, .nilsl, .nilsl]]) Tryz.func8 (by kernel_rfl) (by kernel_rfl) (show Pc envGl 42 64 n0 envk21 envc22 .ret envk53 from envp27) (by first | exact .inl rfl | exact .inr rfl) (by kernel_rfl) (by kernel_rfl)
def envk57 : Ck := ⟨[(0, .bool false), (1, .sl 100 85 0 85 1 none), (7, .agg [.str [100], .str [115, 32, 116], .str [], .str [60, 49, 62], .sl 613 3 0 1 3 none, .sl 1065 3 0 1 3 none, .sl 798 3 0 1 3 none, .nilsl, .nilsl, .nilsl])], envk53.fams, envk53.next⟩
def envk58 : Ck := ⟨[(0, .bool false), (1, .sl 100 85 0 85 1 none), (2, .ptr 1066 10 0)], [(0, envG0), (100, envF0), (613, envF2), (798, envF3), (1065, envF2), (1066, envF5)], 1067⟩
theorem enve59 : prS [0, 1, 2] [0, 100, 613, 798, 1065, 1066] (aOps Tryz.prog envGl envR (opsC envc18) 2 2 (Ck.st 33 64 envk57)) = some envk58 := by kernel_rfl
theorem envp60 {n0 : Nat} : Pc envGl 33 64 n0 envk13 envc18 .normal envk58 := Pc.region (id := idC envc18) (ops := opsC envc18) (by kernel_rfl) (n := 4) (by kernel_rfl) (Ps.cons envRa envRok (n := 1) (k := 3) enve20 (Ps.call (o := opC (opsC envc18) 1) (f := 8) (args := [.sl 100 85 0 85 1 none]) (v := .agg [.str [100], .str [115, 32, 116], .str [], .str [60, 49, 62], .sl 613 3 0 1 3 none, .sl 1065 3 0 1 3 none, .sl 798 3 0 1 3 none, .nilsl, .nilsl, .nilsl]) (d := 7) (lv := [0, 1, 7]) (live' := envk57.live) (k := 2) (by kernel_rfl) (by kernel_rfl) (by kernel_rfl) (by kernel_rfl) (by kernel_rfl) (by kernel_rfl) envp56 (by kernel_rfl) (ck1 := envk57) rfl (Ps.cons envRa envRok (n := 2) (k := 0) enve59 Ps.nil)))
noncomputable def envc62 : Code := tailC envc17
noncomputable def envc63 : Code := headC envc62
def envk64 : Ck := ⟨[(0, .bool false), (2, .ptr 1066 10 0), (8, .sl 100 85 0 85 1 none)], [(0, envG0), (100, envF0), (613, envF2), (798, envF3), (1065, envF2), (1066, envF5)], 1067⟩
theorem enve65 : prS [0, 2, 8] [0, 100, 613, 798, 1065, 1066] (aOps Tryz.prog envGl envR (opsC envc63) 1 0 (Ck.st 33 64 envk58)) = some envk64 := by kernel_rfl
def envk66 : Ck := ⟨argL [.sl 100 85 0 85 1 none] 0, envk64.fams, envk64.next⟩
noncomputable def envc67 : Code := bodyC Tryz.prog 9
noncomputable def envc68 : Code := headC envc67
def envk69 : Ck := ⟨[(0, .sl 100 85 0 85 1 none), (2, .str [])], [(0, envG0), (100, envF0), (613, envF2), (798, envF3), (1065, envF2), (1066, envF5)], 1067⟩
theorem enve70 : prC [0, 2] [0, 100, 613, 798, 1065, 1066] (aCode Tryz.prog envGl envR 1000000 envc68 (Ck.st 36 64 envk66)) = some (.normal, envk69) := by kernel_rfl
theorem envp71 {n0 : Nat} : Pc envGl 36 64 n0 envk66 envc68 .normal envk69 := Pc.run envMix envRa envRok enve70
noncomputable def envc73 : Code := tailC envc67
noncomputable def envc74 : Code := headC envc73
def envk75 : Ck := ⟨[(0, .sl 100 85 0 85 1 none), (2, .str []), (4, .sl 100 85 0 85 1 none)], [(0, envG0), (100, envF0), (613, envF2), (798, envF3), (1065, envF2), (1066, envF5)], 1067⟩
theorem enve76 : prS [0, 2, 4] [0, 100, 613, 798, 1065, 1066] (aOps Tryz.prog envGl envR (opsC envc74) 1 0 (Ck.st 36 64 envk69)) = some envk75 := by kernel_rfl
def envk77 : Ck := ⟨argL [.sl 100 85 0 85 1 none] 0, envk75.fams, envk75.next⟩
noncomputable def envc78 : Code := bodyC Tryz.prog 8
noncomputable def envc79 : Code := headC envc78
def envk80 : Ck := ⟨[(0, .sl 100 85 0 85 1 none), (2, .ptr 1067 10 0)], [(0, envG0), (100, envF0), (613, envF2), (798, envF3), (1065, envF2), (1066, envF5), (1067, envF1)], 1068⟩
theorem enve81 : prC [0, 2] [0, 100, 613, 798, 1065, 1066, 1067] (aCode Tryz.prog envGl envR 1000000 envc79 (Ck.st 42 64 envk77)) = some (.normal, envk80) := by kernel_rfl
theorem envp82 {n0 : Nat} : Pc envGl 42 64 n0 envk77 envc79 .normal envk80 := Pc.run envMix envRa envRok enve81
noncomputable def envc84 : Code := tailC envc78
noncomputable def envc85 : Code := headC envc84
def envk86 : Ck := ⟨[(0, .sl 100 85 0 85 1 none), (2, .ptr 1067 10 0), (5, .str [100]), (6, .sl 100 85 0 85 1 none)], [(0, envG0), (100, envF0), (613, envF2), (798, envF3), (1065, envF2), (1066, envF5), (1067, envF1)], 1147⟩
theorem enve87 : prS [0, 2, 5, 6] [0, 100, 613, 798, 1065, 1066, 1067] (aOps Tryz.prog envGl envR (opsC envc85) 3 0 (Ck.st 42 64 envk80)) = some envk86 := by kernel_rfl
def envk88 : Ck := ⟨[(0, .sl 100 85 0 85 1 none), (2, .ptr 1067 10 0), (5, .str [100]), (7, .str [115, 32, 116]), (8, .sl 100 85 0 85 1 none)], [(0, envG0), (100, envF0), (613, envF2), (798, envF3), (1065, envF2), (1066, envF5), (1067, envF1)], 1227⟩
theorem enve89 : prS [0, 2, 5, 7, 8] [0, 100, 613, 798, 1065, 1066, 1067] (aOps Tryz.prog envGl envR (opsC envc85) 2 3 (Ck.st 42 64 envk86)) = some envk88 := by kernel_rfl
def envk90 : Ck := ⟨[(0, .sl 100 85 0 85 1 none), (2, .ptr 1067 10 0), (5, .str [100]), (7, .str [115, 32, 116]), (9, .str []), (10, .sl 100 85 0 85 1 none)], [(0, envG0), (100, envF0), (613, envF2), (798, envF3), (1065, envF2), (1066, envF5), (1067, envF1)], 1311⟩
theorem enve91 : prS [0, 2, 5, 7, 9, 10] [0, 100, 613, 798, 1065, 1066, 1067] (aOps Tryz.prog envGl envR (opsC envc85) 2 5 (Ck.st 42 64 envk88)) = some envk90 := by kernel_rfl
def envk92 : Ck := ⟨[(0, .sl 100 85 0 85 1 none), (2, .ptr 1067 10 0), (5, .str [100]), (7, .str [115, 32, 116]), (9, .str []), (11, .str [60, 49, 62]), (12, .sl 100 85 0 85 1 none)], [(0, envG0), (100, envF0), (613, envF2), (798, envF3), (1065, envF2), (1066, envF5), (1067, envF1)], 1395⟩
theorem enve93 : prS [0, 2, 5, 7, 9, 11, 12] [0, 100, 613, 798, 1065, 1066, 1067] (aOps Tryz.prog envGl envR (opsC envc85) 2 7 (Ck.st 42 64 envk90)) = some envk92 := by kernel_rfl
def envk94 : Ck := ⟨[(0, .sl 100 85 0 85 1 none), (2, .ptr 1067 10 0), (5, .str [100]), (7, .str [115, 32, 116]), (9, .str []), (11, .str [60, 49, 62]), (13, .sl 1495 3 0 1 3 none), (14, .sl 100 85 0 85 1 none)], [(0, envG0), (100, envF0), (613, envF2), (798, envF3), (1065, envF2), (1066, envF5), (1067, envF1), (1495, envF2)], 1496⟩
theorem enve95 : prS [0, 2, 5, 7, 9, 11, 13, 14] [0, 100, 613, 798, 1065, 1066, 1067, 1495] (aOps Tryz.prog envGl envR (opsC envc85) 2 9 (Ck.st 42 64 envk92)) = some envk94 := by kernel_rfl
def envk96 : Ck := ⟨[(0, .sl 100 85 0 85 1 none), (2, .ptr 1067 10 0), (5, .str [100]), (7, .str [115, 32, 116]), (9, .str []), (11, .str [60, 49, 62]), (13, .sl 1495 3 0 1 3 none), (15, .nilsl), (16, .sl 100 85 0 85 1 none)], [(0, envG0), (100, envF0), (613, envF2), (798, envF3), (1065, envF2), (1066, envF5), (1067, envF1), (1495, envF2)], 1580⟩
theorem enve97 : prS [0, 2, 5, 7, 9, 11, 13, 15, 16] [0, 100, 613, 798, 1065, 1066, 1067, 1495] (aOps Tryz.prog envGl envR (opsC envc85) 2 11 (Ck.st 42 64 envk94)) = some envk96 := by kernel_rfl
def envk98 : Ck := ⟨[(0, .sl 100 85 0 85 1 none), (2, .ptr 1067 10 0), (5, .str [100]), (7, .str [115, 32, 116]), (9, .str []), (11, .str [60, 49, 62]), (13, .sl 1495 3 0 1 3 none), (15, .nilsl), (17, .sl 1680 3 0 1 3 none), (18, .sl 100 85 0 85 1 none)], [(0, envG0), (100, envF0), (613, envF2), (798, envF3), (1065, envF2), (1066, envF5), (1067, envF1), (1495, envF2), (1680, envF3)], 1681⟩
theorem enve99 : prS [0, 2, 5, 7, 9, 11, 13, 15, 17, 18] [0, 100, 613, 798, 1065, 1066, 1067, 1495, 1680] (aOps Tryz.prog envGl envR (opsC envc85) 2 13 (Ck.st 42 64 envk96)) = some envk98 := by kernel_rfl
def envk100 : Ck := ⟨[(0, .sl 100 85 0 85 1 none), (2, .ptr 1067 10 0), (5, .str [100]), (7, .str [115, 32, 116]), (9, .str []), (11, .str [60, 49, 62]), (13, .sl 1495 3 0 1 3 none), (15, .nilsl), (17, .sl 1680 3 0 1 3 none), (19, .nilsl), (20, .sl 100 85 0 85 1 none)], [(0, envG0), (100, envF0), (613, envF2), (798, envF3), (1065, envF2), (1066, envF5), (1067, envF1), (1495, envF2), (1680, envF3)], 1777⟩
theorem enve101 : prS [0, 2, 5, 7, 9, 11, 13, 15, 17, 19, 20] [0, 100, 613, 798, 1065, 1066, 1067, 1495, 1680] (aOps Tryz.prog envGl envR (opsC envc85) 2 15 (Ck.st 42 64 envk98)) = some envk100 := by kernel_rfl
def envk102 : Ck := ⟨[(2, .ptr 1067 10 0), (5, .str [100]), (7, .str [115, 32, 116]), (9, .str []), (11, .str [60, 49, 62]), (13, .sl 1495 3 0 1 3 none), (15, .nilsl), (17, .sl 1680 3 0 1 3 none), (19, .nilsl), (21, .nilsl), (22, .sl 100 85 0 85 1 none)], [(0, envG0), (100, envF0), (613, envF2), (798, envF3), (1065, envF2), (1066, envF5), (1067, envF1), (1495, envF2), (1680, envF3)], 1861⟩
theorem enve103 : prS [2, 5, 7, 9, 11, 13, 15, 17, 19, 21, 22] [0, 100, 613, 798, 1065, 1066, 1067, 1495, 1680] (aOps Tryz.prog envGl envR (opsC envc85) 2 17 (Ck.st 42 64 envk100)) = some envk102 := by kernel_rfl
def envF6 : CF := .row [.str [100], .str [115, 32, 116], .str [], .str [60, 49, 62], .sl 1495 3 0 1 3 none, .nilsl, .sl 1680 3 0 1 3 none, .nilsl, .nilsl, .nilsl] 10 false (some 27)
def envk104 : Ck := ⟨[(2, .ptr 1067 10 0), (3, .ptr 1945 10 0)], [(0, envG0), (100, envF0), (613, envF2), (798, envF3), (1065, envF2), (1066, envF5), (1067, envF1), (1495, envF2), (1680, envF3), (1945, envF6)], 1946⟩
theorem enve105 : prS [2, 3] [0, 100, 613, 798, 1065, 1066, 1067, 1495, 1680, 1945] (aOps Tryz.prog envGl envR (opsC envc85) 4 19 (Ck.st 42 64 envk102)) = some envk104 := by kernel_rfl
theorem envp106 {n0 : Nat} : Pc envGl 42 64 n0 envk80 envc85 .normal envk104 := Pc.region (id := idC envc85) (ops := opsC envc85) (by kernel_rfl) (n := 23) (by kernel_rfl) (Ps.cons envRa envRok (n := 3) (k := 20) enve87 (Ps.cons envRa envRok (n := 2) (k := 18) enve89 (Ps.cons envRa envRok (n := 2) (k := 16) enve91 (Ps.cons envRa envRok (n := 2) (k := 14) enve93 (Ps.cons envRa envRok (n := 2) (k := 12) enve95 (Ps.cons envRa envRok (n := 2) (k := 10) enve97 (Ps.cons envRa envRok (n := 2) (k := 8) enve99 (Ps.cons envRa envRok (n := 2) (k := 6) enve101 (Ps.cons envRa envRok (n := 2) (k := 4) enve103 (Ps.cons envRa envRok (n := 4) (k := 0) enve105 Ps.nil))))))))))
noncomputable def envc108 : Code := tailC envc84
def envF7 : CF := .row [.str [100], .str [115, 32, 116], .str [], .str [60, 49, 62], .sl 1495 3 0 1 3 none, .sl 1947 3 0 1 3 none, .sl 1680 3 0 1 3 none, .nilsl, .nilsl, .nilsl] 10 false (some 27)
def envk109 : Ck := ⟨[(2, .ptr 1067 10 0)], [(0, envG0), (100, envF0), (613, envF2), (798, envF3), (1065, envF2), (1066, envF5), (1067, envF7), (1495, envF2), (1680, envF3), (1947, envF2)], 1948⟩
theorem enve110 : prC [2] [0, 100, 613, 798, 1065, 1066, 1067, 1495, 1680, 1947] (aCode Tryz.prog envGl envR 1000000 envc108 (Ck.st 42 64 envk104)) = some (.ret, envk109) := by kernel_rfl
theorem envp111 {n0 : Nat} : Pc envGl 42 64 n0 envk104 envc108 .ret envk109 := Pc.run envMix envRa envRok enve110
theorem envp107 {n0 : Nat} : Pc envGl 42 64 n0 envk80 envc84 .ret envk109 := Pc.seq (a := envc85) (b := envc108) (by kernel_rfl) envp106 envp111
theorem envp83 {n0 : Nat} : Pc envGl 42 64 n0 envk77 envc78 .ret envk109 := Pc.seq (a := envc79) (b := envc84) (by kernel_rfl) envp82 envp107
theorem envp112 {n0 : Nat} : PCall envGl 64 n0 8 [.sl 100 85 0 85 1 none] envk75.fams envk75.next (.agg [.str [100], .str [115, 32, 116], .str [], .str [60, 49, 62], .sl 1495 3 0 1 3 none, .sl 1947 3 0 1 3 none, .sl 1680 3 0 1 3 none, .nilsl, .nilsl, .nilsl]) envk109.fams envk109.next := PCall.of (fn := Tryz.f8) (c := envc78) (nt := 42) (ck := envk109) (vs := [.agg [.str [100], .str [115, 32, 116], .str [], .str [60, 49, 62], .sl 1495 3 0 1 3 none, .sl 1947 3 0 1 3 none, .sl 1680 3 0 1 3 none, .nilsl, .nilsl, .nilsl]]) Tryz.func8 (by kernel_rfl) (by kernel_rfl) (show Pc envGl 42 64 n0 envk77 envc78 .ret envk109 from envp83) (by first | exact .inl rfl | exact .inr rfl) (by kernel_rfl) (by kernel_rfl)
def envk113 : Ck := ⟨[(0, .sl 100 85 0 85 1 none), (2, .str []), (5, .agg [.str [100], .str [115, 32, 116], .str [], .str [60, 49, 62], .sl 1495 3 0 1 3 none, .sl 1947 3 0 1 3 none, .sl 1680 3 0 1 3 none, .nilsl, .nilsl, .nilsl])], envk109.fams, envk109.next⟩
def envk114 : Ck := ⟨[(0, .sl 100 85 0 85 1 none), (2, .str []), (3, .ptr 1948 10 0)], [(0, envG0), (100, envF0), (613, envF2), (798, envF3), (1065, envF2), (1066, envF5), (1495, envF2), (1680, envF3), (1947, envF2), (1948, envF7)], 1949⟩
theorem enve115 : prS [0, 2, 3] [0, 100, 613, 798, 1065, 1066, 1495, 1680, 1947, 1948] (aOps Tryz.prog envGl envR (opsC envc74) 2 2 (Ck.st 36 64 envk113)) = some envk114 := by kernel_rfl
theorem envp116 {n0 : Nat} : Pc envGl 36 64 n0 envk69 envc74 .normal envk114 := Pc.region (id := idC envc74) (ops := opsC envc74) (by kernel_rfl) (n := 4) (by kernel_rfl) (Ps.cons envRa envRok (n := 1) (k := 3) enve76 (Ps.call (o := opC (opsC envc74) 1) (f := 8) (args := [.sl 100 85 0 85 1 none]) (v := .agg [.str [100], .str [115, 32, 116], .str [], .str [60, 49, 62], .sl 1495 3 0 1 3 none, .sl 1947 3 0 1 3 none, .sl 1680 3 0 1 3 none, .nilsl, .nilsl, .nilsl]) (d := 5) (lv := [0, 2, 5]) (live' := envk113.live) (k := 2) (by kernel_rfl) (by kernel_rfl) (by kernel_rfl) (by kernel_rfl) (by kernel_rfl) (by kernel_rfl) envp112 (by kernel_rfl) (ck1 := envk113) rfl (Ps.cons envRa envRok (n := 2) (k := 0) enve115 Ps.nil)))
noncomputable def envc118 : Code := tailC envc73
noncomputable def envc119 : Code := headC envc118
def envk120 : Ck := ⟨[(2, .str [40, 34, 100, 34, 32, 34, 115, 32, 116, 34, 32, 40, 40, 34, 65, 110, 110, 34, 32, 78, 73, 76, 32, 34, 97, 34, 32, 34, 98, 34, 41, 41, 32, 40, 40, 34, 65, 110, 110, 34, 32, 78, 73, 76, 32, 34, 97, 34, 32, 34, 98, 34, 41, 41, 32, 40, 40, 78, 73, 76, 32, 78, 73, 76, 32, 34, 114, 34, 32, 34, 115, 34, 41, 41, 32, 78, 73, 76, 32, 78, 73, 76, 32, 78, 73, 76, 32, 78, 73, 76, 32, 34, 60, 49, 62, 34, 41])], [(0, envG0), (613, envF2), (798, envF3), (1065, envF2), (1066, envF5)], 2352⟩
theorem enve121 : prC [2] [0, 613, 798, 1065, 1066] (aCode Tryz.prog envGl envR 1000000 envc119 (Ck.st 36 64 envk114)) = some (.normal, envk120) := by kernel_rfl
theorem envp122 {n0 : Nat} : Pc envGl 36 64 n0 envk114 envc119 .normal envk120 := Pc.run envMix envRa envRok enve121
noncomputable def envc124 : Code := tailC envc118
def envk125 : Ck := ⟨[(2, .str [40, 34, 100, 34, 32, 34, 115, 32, 116, 34, 32, 40, 40, 34, 65, 110, 110, 34, 32, 78, 73, 76, 32, 34, 97, 34, 32, 34, 98, 34, 41, 41, 32, 40, 40, 34, 65, 110, 110, 34, 32, 78, 73, 76, 32, 34, 97, 34, 32, 34, 98, 34, 41, 41, 32, 40, 40, 78, 73, 76, 32, 78, 73, 76, 32, 34, 114, 34, 32, 34, 115, 34, 41, 41, 32, 78, 73, 76, 32, 78, 73, 76, 32, 78, 73, 76, 32, 78, 73, 76, 32, 34, 60, 49, 62, 34, 41])], [(0, envG0), (613, envF2), (798, envF3), (1065, envF2), (1066, envF5)], 2352⟩
theorem enve126 : prC [2] [0, 613, 798, 1065, 1066] (aCode Tryz.prog envGl envR 1000000 envc124 (Ck.st 36 64 envk120)) = some (.ret, envk125) := by kernel_rfl
theorem envp127 {n0 : Nat} : Pc envGl 36 64 n0 envk120 envc124 .ret envk125 := Pc.run envMix envRa envRok enve126
theorem envp123 {n0 : Nat} : Pc envGl 36 64 n0 envk114 envc118 .ret envk125 := Pc.seq (a := envc119) (b := envc124) (by kernel_rfl) envp122 envp127
theorem envp117 {n0 : Nat} : Pc envGl 36 64 n0 envk69 envc73 .ret envk125 := Pc.seq (a := envc74) (b := envc118) (by kernel_rfl) envp116 envp123
theorem envp72 {n0 : Nat} : Pc envGl 36 64 n0 envk66 envc67 .ret envk125 := Pc.seq (a := envc68) (b := envc73) (by kernel_rfl) envp71 envp117
theorem envp128 {n0 : Nat} : PCall envGl 64 n0 9 [.sl 100 85 0 85 1 none] envk64.fams envk64.next (.str [40, 34, 100, 34, 32, 34, 115, 32, 116, 34, 32, 40, 40, 34, 65, 110, 110, 34, 32, 78, 73, 76, 32, 34, 97, 34, 32, 34, 98, 34, 41, 41, 32, 40, 40, 34, 65, 110, 110, 34, 32, 78, 73, 76, 32, 34, 97, 34, 32, 34, 98, 34, 41, 41, 32, 40, 40, 78, 73, 76, 32, 78, 73, 76, 32, 34, 114, 34, 32, 34, 115, 34, 41, 41, 32, 78, 73, 76, 32, 78, 73, 76, 32, 78, 73, 76, 32, 78, 73, 76, 32, 34, 60, 49, 62, 34, 41]) envk125.fams envk125.next := PCall.of (fn := Tryz.f9) (c := envc67) (nt := 36) (ck := envk125) (vs := [.str [40, 34, 100, 34, 32, 34, 115, 32, 116, 34, 32, 40, 40, 34, 65, 110, 110, 34, 32, 78, 73, 76, 32, 34, 97, 34, 32, 34, 98, 34, 41, 41, 32, 40, 40, 34, 65, 110, 110, 34, 32, 78, 73, 76, 32, 34, 97, 34, 32, 34, 98, 34, 41, 41, 32, 40, 40, 78, 73, 76, 32, 78, 73, 76, 32, 34, 114, 34, 32, 34, 115, 34, 41, 41, 32, 78, 73, 76, 32, 78, 73, 76, 32, 78, 73, 76, 32, 78, 73, 76, 32, 34, 60, 49, 62, 34, 41]]) Tryz.func9 (by kernel_rfl) (by kernel_rfl) (show Pc envGl 36 64 n0 envk66 envc67 .ret envk125 from envp72) (by first | exact .inl rfl | exact .inr rfl) (by kernel_rfl) (by kernel_rfl)
def envk129 : Ck := ⟨[(0, .bool false), (2, .ptr 1066 10 0), (9, .str [40, 34, 100, 34, 32, 34, 115, 32, 116, 34, 32, 40, 40, 34, 65, 110, 110, 34, 32, 78, 73, 76, 32, 34, 97, 34, 32, 34, 98, 34, 41, 41, 32, 40, 40, 34, 65, 110, 110, 34, 32, 78, 73, 76, 32, 34, 97, 34, 32, 34, 98, 34, 41, 41, 32, 40, 40, 78, 73, 76, 32, 78, 73, 76, 32, 34, 114, 34, 32, 34, 115, 34, 41, 41, 32, 78, 73, 76, 32, 78, 73, 76, 32, 78, 73, 76, 32, 78, 73, 76, 32, 34, 60, 49, 62, 34, 41])], envk125.fams, envk125.next⟩
def envk130 : Ck := ⟨[(0, .bool true)], [(0, envG0)], 2542⟩
theorem enve131 : prS [0] [0] (aOps Tryz.prog envGl envR (opsC envc63) 24 2 (Ck.st 33 64 envk129)) = some envk130 := by kernel_rfl
theorem envp132 {n0 : Nat} : Pc envGl 33 64 n0 envk58 envc63 .normal envk130 := Pc.region (id := idC envc63) (ops := opsC envc63) (by kernel_rfl) (n := 26) (by kernel_rfl) (Ps.cons envRa envRok (n := 1) (k := 25) enve65 (Ps.call (o := opC (opsC envc63) 1) (f := 9) (args := [.sl 100 85 0 85 1 none]) (v := .str [40, 34, 100, 34, 32, 34, 115, 32, 116, 34, 32, 40, 40, 34, 65, 110, 110, 34, 32, 78, 73, 76, 32, 34, 97, 34, 32, 34, 98, 34, 41, 41, 32, 40, 40, 34, 65, 110, 110, 34, 32, 78, 73, 76, 32, 34, 97, 34, 32, 34, 98, 34, 41, 41, 32, 40, 40, 78, 73, 76, 32, 78, 73, 76, 32, 34, 114, 34, 32, 34, 115, 34, 41, 41, 32, 78, 73, 76, 32, 78, 73, 76, 32, 78, 73, 76, 32, 78, 73, 76, 32, 34, 60, 49, 62, 34, 41]) (d := 9) (lv := [0, 2, 9]) (live' := envk129.live) (k := 24) (by kernel_rfl) (by kernel_rfl) (by kernel_rfl) (by kernel_rfl) (by kernel_rfl) (by kernel_rfl) envp128 (by kernel_rfl) (ck1 := envk129) rfl (Ps.cons envRa envRok (n := 24) (k := 0) enve131 Ps.nil)))
noncomputable def envc134 : Code := tailC envc62
def envk135 : Ck := ⟨[(0, .bool true)], [(0, envG0)], 2542⟩
theorem enve136 : prC [0] [0] (aCode Tryz.prog envGl envR 1000000 envc134 (Ck.st 33 64 envk130)) = some (.ret, envk135) := by kernel_rfl
theorem envp137 {n0 : Nat} : Pc envGl 33 64 n0 envk130 envc134 .ret envk135 := Pc.run envMix envRa envRok enve136
theorem envp133 {n0 : Nat} : Pc envGl 33 64 n0 envk58 envc62 .ret envk135 := Pc.seq (a := envc63) (b := envc134) (by kernel_rfl) envp132 envp137
theorem envp61 {n0 : Nat} : Pc envGl 33 64 n0 envk13 envc17 .ret envk135 := Pc.seq (a := envc18) (b := envc62) (by kernel_rfl) envp60 envp133
theorem envp16 {n0 : Nat} : Pc envGl 33 64 n0 envk7 envc11 .ret envk135 := Pc.seq (a := envc12) (b := envc17) (by kernel_rfl) envp15 envp61
theorem envp10 {n0 : Nat} : Pc envGl 33 64 n0 envk1 envc5 .ret envk135 := Pc.seq (a := envc6) (b := envc11) (by kernel_rfl) envp9 envp16
theorem envp4 {n0 : Nat} : Pc envGl 33 64 n0 envstart envt0 .ret envk135 := Pc.seq (a := envc0) (b := envc5) (by kernel_rfl) envp3 envp10
theorem envAll (n0 : Nat) : Pc envGl 33 64 n0 (ck0 envGs 64) envt0 .ret envk135 := envp4
theorem envPieces (w : World) (ha : GAll w envGs) : Calls Tryz.prog 3 #[] w fun e w' => e = .returned (.bool true) ∧ Below w.heap.size w w' := known_pieces (fn := Tryz.f3) (c := envt0) (ck := envk135) Tryz.func3 (by kernel_rfl) (by kernel_rfl) envAll (by first | exact .inl rfl | exact .inr rfl) (by kernel_rfl) w ha
theorem envWalk (w : World) (hm : ∃ m, w.cell? ⟨0, 0, none⟩ = some (.int .i64 m)) (_ : 0 < w.heap.size) : Calls Tryz.prog 3 #[] w fun e w' => e = .returned (.bool true) ∧ Below w.heap.size w w' :=
  envPieces w (gAll_one (gAt_int hm))
end Go.Proofs.YtcommopnnoicoaaGreatDoor
