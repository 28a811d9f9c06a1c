/- The walk of SeqKnown, run by the abstract machine in pieces: the closed statement answers true, whatever the memory. -/
import Derived.Test.YtomjccaknglibaaDoorAm26
import Derived.Test.YtomjccaknglibaaDoorProg
import Derived.KernelRfl
namespace Go.Proofs.YtomjccaknglibaaDoor
open Go.RowKit Go.Proofs.YtomjccaknglibaaDoor.Am

def sqXs : List (Nat × Nat × Nat) := [(106, 1, 0), (111, 2, 0), (85, 2, 0), (92, 3, 0), (107, 4, 5)]
theorem sqXsOK : xtAll Tryd.prog sqXs :=
  ⟨⟨by kernel_rfl, says1 (by kernel_rfl)⟩, ⟨by kernel_rfl, says2 (by kernel_rfl)⟩, ⟨by kernel_rfl, says2 (by kernel_rfl)⟩, ⟨by kernel_rfl, says3 (by kernel_rfl)⟩, ⟨by kernel_rfl, says4 #[3] 35 (by kernel_rfl) (by kernel_rfl)⟩, trivial⟩
def sqGs : List (Nat × List AV) := []
noncomputable def sqOver (_f : FuncId) : Option (List AV → AH → Option (AV × AH)) := none
noncomputable def sqGl : Gl Tryd.prog := Gl.mkG Tryd.prog sqGs sqXs sqXsOK
theorem sqOver_ok : OverOK Tryd.prog sqGl sqOver := by
  intro f g hf args h v h' e
  unfold sqOver at hf
  cases hf
theorem sqMix : Tryd.prog.follows .mixedOrders = true := by kernel_rfl
noncomputable def sqR : Rec := aRec Tryd.prog sqGl sqOver 1000000 1000000
theorem sqRa : RecAF sqR := (aCall_ok sqMix sqOver_ok 1000000 1000000).1
theorem sqRok : RecOK Tryd.prog sqGl sqR := (aCall_ok sqMix sqOver_ok 1000000 1000000).2
set_option maxRecDepth 100000
noncomputable def sqt0 : Code := bodyC Tryd.prog 3
noncomputable def sqstart : Ck := ck0 sqGs 0
noncomputable def sqc0 : Code := headC sqt0
def sqk1 : Ck := ⟨[(0, .bool false)], [], 0⟩
theorem sqe2 : prC [0] [] (aCode Tryd.prog sqGl sqR 1000000 sqc0 (Ck.st 138 0 sqstart)) = some (.normal, sqk1) := by kernel_rfl
theorem sqp3 {n0 : Nat} : Pc sqGl 138 0 n0 sqstart sqc0 .normal sqk1 := Pc.run sqMix sqRa sqRok sqe2
noncomputable def sqc5 : Code := tailC sqt0
noncomputable def sqc6 : Code := headC sqc5
def sqk7 : Ck := ⟨[(0, .bool false)], [], 29⟩
theorem sqe8 : prC [0] [] (aCode Tryd.prog sqGl sqR 1000000 sqc6 (Ck.st 138 0 sqk1)) = some (.normal, sqk7) := by kernel_rfl
theorem sqp9 {n0 : Nat} : Pc sqGl 138 0 n0 sqk1 sqc6 .normal sqk7 := Pc.run sqMix sqRa sqRok sqe8
noncomputable def sqc11 : Code := tailC sqc5
noncomputable def sqc12 : Code := headC sqc11
def sqk13 : Ck := ⟨[(0, .bool false), (2, .int .i64 (.ofNat 3))], [], 32⟩
theorem sqe14 : prC [0, 2] [] (aCode Tryd.prog sqGl sqR 1000000 sqc12 (Ck.st 138 0 sqk7)) = some (.normal, sqk13) := by kernel_rfl
theorem sqp15 {n0 : Nat} : Pc sqGl 138 0 n0 sqk7 sqc12 .normal sqk13 := Pc.run sqMix sqRa sqRok sqe14
noncomputable def sqc17 : Code := tailC sqc11
noncomputable def sqc18 : Code := headC sqc17
def sqk19 : Ck := ⟨[(0, .bool false), (2, .int .i64 (.ofNat 3)), (4, .int .i64 (.ofNat 3))], [], 35⟩
theorem sqe20 : prC [0, 2, 4] [] (aCode Tryd.prog sqGl sqR 1000000 sqc18 (Ck.st 138 0 sqk13)) = some (.normal, sqk19) := by kernel_rfl
theorem sqp21 {n0 : Nat} : Pc sqGl 138 0 n0 sqk13 sqc18 .normal sqk19 := Pc.run sqMix sqRa sqRok sqe20
noncomputable def sqc23 : Code := tailC sqc17
noncomputable def sqc24 : Code := headC sqc23
def sqk25 : Ck := ⟨[(0, .bool false), (2, .int .i64 (.ofNat 3)), (4, .int .i64 (.ofNat 3)), (6, .int .i64 (.ofNat 3))], [], 38⟩
theorem sqe26 : prC [0, 2, 4, 6] [] (aCode Tryd.prog sqGl sqR 1000000 sqc24 (Ck.st 138 0 sqk19)) = some (.normal, sqk25) := by kernel_rfl
theorem sqp27 {n0 : Nat} : Pc sqGl 138 0 n0 sqk19 sqc24 .normal sqk25 := Pc.run sqMix sqRa sqRok sqe26
noncomputable def sqc29 : Code := tailC sqc23
noncomputable def sqc30 : Code := headC sqc29
def sqk31 : Ck := ⟨[(0, .bool false), (2, .int .i64 (.ofNat 3)), (4, .int .i64 (.ofNat 3)), (6, .int .i64 (.ofNat 3)), (8, .int .i64 (.ofNat 3))], [], 43⟩
theorem sqe32 : prC [0, 2, 4, 6, 8] [] (aCode Tryd.prog sqGl sqR 1000000 sqc30 (Ck.st 138 0 sqk25)) = some (.normal, sqk31) := by kernel_rfl
theorem sqp33 {n0 : Nat} : Pc sqGl 138 0 n0 sqk25 sqc30 .normal sqk31 := Pc.run sqMix sqRa sqRok sqe32
noncomputable def sqc35 : Code := tailC sqc29
noncomputable def sqc36 : Code := headC sqc35
def sqk37 : Ck := ⟨[(0, .bool false), (2, .int .i64 (.ofNat 3)), (4, .int .i64 (.ofNat 3)), (6, .int .i64 (.ofNat 3)), (8, .int .i64 (.ofNat 3)), (10, .int .i64 (.ofNat 3))], [], 46⟩
theorem sqe38 : prC [0, 2, 4, 6, 8, 10] [] (aCode Tryd.prog sqGl sqR 1000000 sqc36 (Ck.st 138 0 sqk31)) = some (.normal, sqk37) := by kernel_rfl
theorem sqp39 {n0 : Nat} : Pc sqGl 138 0 n0 sqk31 sqc36 .normal sqk37 := Pc.run sqMix sqRa sqRok sqe38
noncomputable def sqc41 : Code := tailC sqc35
noncomputable def sqc42 : Code := headC sqc41
def sqk43 : Ck := ⟨[(0, .bool false), (2, .int .i64 (.ofNat 3)), (4, .int .i64 (.ofNat 3)), (6, .int .i64 (.ofNat 3)), (8, .int .i64 (.ofNat 3)), (10, .int .i64 (.ofNat 3)), (11, .str [49])], [], 46⟩
theorem sqe44 : prC [0, 2, 4, 6, 8, 10, 11] [] (aCode Tryd.prog sqGl sqR 1000000 sqc42 (Ck.st 138 0 sqk37)) = some (.normal, sqk43) := by kernel_rfl
theorem sqp45 {n0 : Nat} : Pc sqGl 138 0 n0 sqk37 sqc42 .normal sqk43 := Pc.run sqMix sqRa sqRok sqe44
noncomputable def sqc47 : Code := tailC sqc41
noncomputable def sqc48 : Code := headC sqc47
def sqk49 : Ck := ⟨[(0, .bool false), (2, .int .i64 (.ofNat 3)), (4, .int .i64 (.ofNat 3)), (6, .int .i64 (.ofNat 3)), (8, .int .i64 (.ofNat 3)), (10, .int .i64 (.ofNat 3)), (11, .str [49, 44, 49, 44, 49, 44, 49, 44, 49, 44, 49, 44, 49, 44, 49, 44, 49, 44, 49, 44, 49, 44, 49, 44, 49, 44, 49, 44, 49, 44, 49, 44, 49, 44, 49, 44, 49, 44, 49, 44, 49, 44, 49, 44, 49, 44, 49, 44, 49, 44, 49, 44, 49, 44, 49, 44, 49, 44, 49, 44, 49, 44, 49, 44, 49, 44, 49, 44, 49, 44, 49, 44, 49, 44, 49, 44, 49, 44, 49, 44, 49, 44, 49, 44, 49, 44, 49, 44, 49, 44, 49, 44, 49, 44, 49, 44, 49, 44, 49, 44, 49, 44, 49, 44, 49, 44, 49, 44, 49, 44, 49, 44, 49, 44, 49, 44, 49, 44, 49, 44, 49, 44, 49, 44, 49, 44, 49, 44, 49, 44, 49, 44, 49, 44, 49, 44, 49, 44, 49, 44, 49, 44, 49, 44, 49, 44, 49, 44, 49, 44, 49, 44, 49, 44, 49, 44, 49, 44, 49, 44, 49, 44, 49, 44, 49, 44, 49, 44, 49, 44, 49, 44, 49, 44, 49, 44, 49, 44, 49, 44, 49, 44, 49, 44, 49, 44, 49, 44, 49, 44, 49, 44, 49, 44, 49, 44, 49, 44, 49, 44, 49])], [], 46⟩
theorem sqe50 : prC [0, 2, 4, 6, 8, 10, 11] [] (aCode Tryd.prog sqGl sqR 1000000 sqc48 (Ck.st 138 0 sqk43)) = some (.normal, sqk49) := by kernel_rfl
theorem sqp51 {n0 : Nat} : Pc sqGl 138 0 n0 sqk43 sqc48 .normal sqk49 := Pc.run sqMix sqRa sqRok sqe50
noncomputable def sqc53 : Code := tailC sqc47
noncomputable def sqc54 : Code := headC sqc53
def sqk55 : Ck := ⟨[(0, .bool false), (2, .int .i64 (.ofNat 3)), (4, .int .i64 (.ofNat 3)), (6, .int .i64 (.ofNat 3)), (8, .int .i64 (.ofNat 3)), (10, .int .i64 (.ofNat 3)), (14, .int .i64 (.ofNat 2))], [], 151⟩
theorem sqe56 : prC [0, 2, 4, 6, 8, 10, 14] [] (aCode Tryd.prog sqGl sqR 1000000 sqc54 (Ck.st 138 0 sqk49)) = some (.normal, sqk55) := by kernel_rfl
theorem sqp57 {n0 : Nat} : Pc sqGl 138 0 n0 sqk49 sqc54 .normal sqk55 := Pc.run sqMix sqRa sqRok sqe56
noncomputable def sqc59 : Code := tailC sqc53
def sqk60 : Ck := ⟨[(0, .bool true)], [], 267⟩
theorem sqe61 : prC [0] [] (aCode Tryd.prog sqGl sqR 1000000 sqc59 (Ck.st 138 0 sqk55)) = some (.ret, sqk60) := by kernel_rfl
theorem sqp62 {n0 : Nat} : Pc sqGl 138 0 n0 sqk55 sqc59 .ret sqk60 := Pc.run sqMix sqRa sqRok sqe61
theorem sqp58 {n0 : Nat} : Pc sqGl 138 0 n0 sqk49 sqc53 .ret sqk60 := Pc.seq (a := sqc54) (b := sqc59) (by kernel_rfl) sqp57 sqp62
theorem sqp52 {n0 : Nat} : Pc sqGl 138 0 n0 sqk43 sqc47 .ret sqk60 := Pc.seq (a := sqc48) (b := sqc53) (by kernel_rfl) sqp51 sqp58
theorem sqp46 {n0 : Nat} : Pc sqGl 138 0 n0 sqk37 sqc41 .ret sqk60 := Pc.seq (a := sqc42) (b := sqc47) (by kernel_rfl) sqp45 sqp52
theorem sqp40 {n0 : Nat} : Pc sqGl 138 0 n0 sqk31 sqc35 .ret sqk60 := Pc.seq (a := sqc36) (b := sqc41) (by kernel_rfl) sqp39 sqp46
theorem sqp34 {n0 : Nat} : Pc sqGl 138 0 n0 sqk25 sqc29 .ret sqk60 := Pc.seq (a := sqc30) (b := sqc35) (by kernel_rfl) sqp33 sqp40
theorem sqp28 {n0 : Nat} : Pc sqGl 138 0 n0 sqk19 sqc23 .ret sqk60 := Pc.seq (a := sqc24) (b := sqc29) (by kernel_rfl) sqp27 sqp34
theorem sqp22 {n0 : Nat} : Pc sqGl 138 0 n0 sqk13 sqc17 .ret sqk60 := Pc.seq (a := sqc18) (b := sqc23) (by kernel_rfl) sqp21 sqp28
theorem sqp16 {n0 : Nat} : Pc sqGl 138 0 n0 sqk7 sqc11 .ret sqk60 := Pc.seq (a := sqc12) (b := sqc17) (by kernel_rfl) sqp15 sqp22
theorem sqp10 {n0 : Nat} : Pc sqGl 138 0 n0 sqk1 sqc5 .ret sqk60 := Pc.seq (a := sqc6) (b := sqc11) (by kernel_rfl) sqp9 sqp16
theorem sqp4 {n0 : Nat} : Pc sqGl 138 0 n0 sqstart sqt0 .ret sqk60 := Pc.seq (a := sqc0) (b := sqc5) (by kernel_rfl) sqp3 sqp10
theorem sqAll (n0 : Nat) : Pc sqGl 138 0 n0 (ck0 sqGs 0) sqt0 .ret sqk60 := sqp4
theorem sqPieces (w : World) (ha : GAll w sqGs) : Calls Tryd.prog 3 #[] w fun e w' => e = .returned (.bool true) ∧ Below w.heap.size w w' := known_pieces (fn := Tryd.f3) (c := sqt0) (ck := sqk60) Tryd.func3 (by kernel_rfl) (by kernel_rfl) sqAll (by first | exact .inl rfl | exact .inr rfl) (by kernel_rfl) w ha
theorem sqWalk (w : World) : Calls Tryd.prog 3 #[] w fun e w' => e = .returned (.bool true) ∧ Below w.heap.size w w' :=
  sqPieces w (fun g cs h => by cases h)
end Go.Proofs.YtomjccaknglibaaDoor
