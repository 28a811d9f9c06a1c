/- The walk of FlagKnown, run by the abstract machine in pieces: the closed statement answers true, whatever the memory. -/
import Derived.Test.YtbjcbenoapechaaDoorAm24
import Derived.Test.YtbjcbenoapechaaDoorProg
import Derived.KernelRfl
namespace Go.Proofs.YtbjcbenoapechaaDoor
open Go.RowKit Go.Proofs.YtbjcbenoapechaaDoor.Am

def flaXs : List (Nat × Nat × Nat) := [(141, 1, 0), (142, 2, 0), (186, 2, 0), (152, 3, 0), (158, 4, 5), (128, 5, 0)]
theorem flaXsOK : xtAll Tryd.prog flaXs :=
  ⟨⟨by kernel_rfl, says1 (by kernel_rfl)⟩, ⟨by kernel_rfl, says2 (by kernel_rfl)⟩, ⟨by kernel_rfl, says2 (by kernel_rfl)⟩, ⟨by kernel_rfl, says3 (by kernel_rfl)⟩, ⟨by kernel_rfl, says4 #[3] 29 (by kernel_rfl) (by kernel_rfl)⟩, ⟨by kernel_rfl, says5 (by kernel_rfl)⟩, trivial⟩
def flaGs : List (Nat × List AV) := []
noncomputable def flaOver (_f : FuncId) : Option (List AV → AH → Option (AV × AH)) := none
noncomputable def flaGl : Gl Tryd.prog := Gl.mkG Tryd.prog flaGs flaXs flaXsOK
theorem flaOver_ok : OverOK Tryd.prog flaGl flaOver := by
  intro f g hf args h v h' e
  unfold flaOver at hf
  cases hf
theorem flaMix : Tryd.prog.follows .mixedOrders = true := by kernel_rfl
noncomputable def flaR : Rec := aRec Tryd.prog flaGl flaOver 1000000 1000000
theorem flaRa : RecAF flaR := (aCall_ok flaMix flaOver_ok 1000000 1000000).1
theorem flaRok : RecOK Tryd.prog flaGl flaR := (aCall_ok flaMix flaOver_ok 1000000 1000000).2
set_option maxRecDepth 100000
noncomputable def flat0 : Code := bodyC Tryd.prog 3
noncomputable def flah0 : Code := headC flat0
def flak0 : Ck := ⟨[(0, .bool false)], [], 0⟩
theorem flae0 : prC [0] [] (aCode Tryd.prog flaGl flaR 1000000 flah0 (Ck.st 119 0 (ck0 flaGs 0))) = some (.normal, flak0) := by kernel_rfl
theorem flap0 {n0 : Nat} : Pc flaGl 119 0 n0 (ck0 flaGs 0) flah0 .normal flak0 := Pc.run flaMix flaRa flaRok flae0
noncomputable def flat1 : Code := tailC flat0
noncomputable def flah1 : Code := headC flat1
def flak1 : Ck := ⟨[(0, .bool false)], [], 33⟩
theorem flae1 : prC [0] [] (aCode Tryd.prog flaGl flaR 1000000 flah1 (Ck.st 119 0 flak0)) = some (.normal, flak1) := by kernel_rfl
theorem flap1 {n0 : Nat} : Pc flaGl 119 0 n0 flak0 flah1 .normal flak1 := Pc.run flaMix flaRa flaRok flae1
noncomputable def flat2 : Code := tailC flat1
noncomputable def flah2 : Code := headC flat2
def flaF0 : CF := .row [.str [], .str [40], .str [40, 97], .str [40, 32, 97, 41], .str [40, 97, 32, 32, 98, 41], .str [40, 97, 32, 65, 41], .str [40, 92, 120, 41], .str [40, 97, 34, 41], .str [40, 92, 83, 101, 101, 110, 32, 92, 83, 69, 69, 78, 41], .str [40, 40, 41, 41]] 10 false (some 9)
def flak2 : Ck := ⟨[(0, .bool false), (1, .sl 33 10 0 10 1 (some 10))], [(33, flaF0)], 34⟩
theorem flae2 : prC [0, 1] [33] (aCode Tryd.prog flaGl flaR 1000000 flah2 (Ck.st 119 0 flak1)) = some (.normal, flak2) := by kernel_rfl
theorem flap2 {n0 : Nat} : Pc flaGl 119 0 n0 flak1 flah2 .normal flak2 := Pc.run flaMix flaRa flaRok flae2
noncomputable def flat3 : Code := tailC flat2
noncomputable def flah3 : Code := headC flat3
def flak3 : Ck := ⟨[(0, .bool false)], [], 77⟩
theorem flae3 : prC [0] [] (aCode Tryd.prog flaGl flaR 1000000 flah3 (Ck.st 119 0 flak2)) = some (.normal, flak3) := by kernel_rfl
theorem flap3 {n0 : Nat} : Pc flaGl 119 0 n0 flak2 flah3 .normal flak3 := Pc.run flaMix flaRa flaRok flae3
noncomputable def flat4 : Code := tailC flat3
noncomputable def flah4 : Code := headC flat4
def flak4 : Ck := ⟨[(0, .bool false), (5, .str [40, 97])], [], 77⟩
theorem flae4 : prC [0, 5] [] (aCode Tryd.prog flaGl flaR 1000000 flah4 (Ck.st 119 0 flak3)) = some (.normal, flak4) := by kernel_rfl
theorem flap4 {n0 : Nat} : Pc flaGl 119 0 n0 flak3 flah4 .normal flak4 := Pc.run flaMix flaRa flaRok flae4
noncomputable def flat5 : Code := tailC flat4
noncomputable def flah5 : Code := headC flat5
def flak5 : Ck := ⟨[(0, .bool false), (5, .str [40, 97, 32, 107, 97, 97, 32, 107, 98, 97, 32, 107, 99, 97, 32, 107, 100, 97, 32, 107, 101, 97, 32, 107, 102, 97, 32, 107, 103, 97, 32, 107, 104, 97, 32, 107, 105, 97, 32, 107, 106, 97, 32, 107, 107, 97, 32, 107, 108, 97, 32, 107, 109, 97, 32, 107, 110, 97, 32, 107, 111, 97, 32, 107, 112, 97, 32, 107, 113, 97, 32, 107, 114, 97, 32, 107, 115, 97, 32, 107, 116, 97, 32, 107, 117, 97, 32, 107, 118, 97, 32, 107, 119, 97, 32, 107, 120, 97, 32, 107, 121, 97, 32, 107, 122, 97, 32, 107, 97, 98, 32, 107, 98, 98, 32, 107, 99, 98, 32, 107, 100, 98])], [], 107⟩
theorem flae5 : prC [0, 5] [] (aCode Tryd.prog flaGl flaR 1000000 flah5 (Ck.st 119 0 flak4)) = some (.normal, flak5) := by kernel_rfl
theorem flap5 {n0 : Nat} : Pc flaGl 119 0 n0 flak4 flah5 .normal flak5 := Pc.run flaMix flaRa flaRok flae5
noncomputable def flat6 : Code := tailC flat5
noncomputable def flah6 : Code := headC flat6
def flak6x0 : Ck := ⟨[(0, .bool false), (51, .tuple [.agg [.nilsl], .int .i64 (.ofNat 2)])], [], 172⟩
theorem flae6x0 : prS [0, 51] [] (aOps Tryd.prog flaGl flaR (opsC flah6) 3 0 (Ck.st 119 0 flak5)) = some flak6x0 := by kernel_rfl
def flak6 : Ck := ⟨[(0, .bool false), (8, .int .i64 (.ofNat 2))], [], 173⟩
theorem flae6x1 : prS [0, 8] [] (aOps Tryd.prog flaGl flaR (opsC flah6) 6 3 (Ck.st 119 0 flak6x0)) = some flak6 := by kernel_rfl
theorem flap6 {n0 : Nat} : Pc flaGl 119 0 n0 flak5 flah6 .normal flak6 := Pc.region (id := idC flah6) (ops := opsC flah6) (by kernel_rfl) (n := 9) (by kernel_rfl) (Ps.cons flaRa flaRok (n := 3) (k := 6) flae6x0 (Ps.cons flaRa flaRok (n := 6) (k := 0) flae6x1 Ps.nil))
noncomputable def flat7 : Code := tailC flat6
noncomputable def flah7 : Code := headC flat7
def flaF1 : CF := .row [.nilsl] 1 false (some 25)
def flak7 : Ck := ⟨[(0, .bool false), (8, .int .i64 (.ofNat 2)), (9, .ptr 178 1 0), (10, .int .i64 (.ofNat 0))], [(178, flaF1)], 179⟩
theorem flae7 : prC [0, 8, 9, 10] [178] (aCode Tryd.prog flaGl flaR 1000000 flah7 (Ck.st 119 0 flak6)) = some (.normal, flak7) := by kernel_rfl
theorem flap7 {n0 : Nat} : Pc flaGl 119 0 n0 flak6 flah7 .normal flak7 := Pc.run flaMix flaRa flaRok flae7
noncomputable def flat8 : Code := tailC flat7
noncomputable def flah8 : Code := headC flat8
def flaF2 : CF := .row [.str [92, 68, 114, 97, 102, 116], .str [65], .str [98]] 1 false (some 9)
def flaF3 : CF := .row [.sl 205 3 0 3 1 none] 1 false (some 25)
def flak8 : Ck := ⟨[(0, .bool false), (8, .int .i64 (.ofNat 2)), (9, .ptr 178 1 0), (10, .int .i64 (.ofNat 0)), (11, .ptr 210 1 0)], [(178, flaF1), (205, flaF2), (210, flaF3)], 211⟩
theorem flae8 : prC [0, 8, 9, 10, 11] [178, 205, 210] (aCode Tryd.prog flaGl flaR 1000000 flah8 (Ck.st 119 0 flak7)) = some (.normal, flak8) := by kernel_rfl
theorem flap8 {n0 : Nat} : Pc flaGl 119 0 n0 flak7 flah8 .normal flak8 := Pc.run flaMix flaRa flaRok flae8
noncomputable def flat9 : Code := tailC flat8
noncomputable def flah9 : Code := headC flat9
def flak9 : Ck := ⟨[(0, .bool true)], [], 358⟩
theorem flae9 : prC [0] [] (aCode Tryd.prog flaGl flaR 1000000 flah9 (Ck.st 119 0 flak8)) = some (.normal, flak9) := by kernel_rfl
theorem flap9 {n0 : Nat} : Pc flaGl 119 0 n0 flak8 flah9 .normal flak9 := Pc.run flaMix flaRa flaRok flae9
noncomputable def flat10 : Code := tailC flat9
def flak10 : Ck := ⟨[(0, .bool true)], [], 358⟩
theorem flae10 : prC [0] [] (aCode Tryd.prog flaGl flaR 1000000 flat10 (Ck.st 119 0 flak9)) = some (.ret, flak10) := by kernel_rfl
theorem flap10 {n0 : Nat} : Pc flaGl 119 0 n0 flak9 flat10 .ret flak10 := Pc.run flaMix flaRa flaRok flae10
theorem flaAll (n0 : Nat) : Pc flaGl 119 0 n0 (ck0 flaGs 0) flat0 .ret flak10 := Pc.seq (c := flat0) (a := flah0) (b := flat1) (by kernel_rfl) flap0 (Pc.seq (c := flat1) (a := flah1) (b := flat2) (by kernel_rfl) flap1 (Pc.seq (c := flat2) (a := flah2) (b := flat3) (by kernel_rfl) flap2 (Pc.seq (c := flat3) (a := flah3) (b := flat4) (by kernel_rfl) flap3 (Pc.seq (c := flat4) (a := flah4) (b := flat5) (by kernel_rfl) flap4 (Pc.seq (c := flat5) (a := flah5) (b := flat6) (by kernel_rfl) flap5 (Pc.seq (c := flat6) (a := flah6) (b := flat7) (by kernel_rfl) flap6 (Pc.seq (c := flat7) (a := flah7) (b := flat8) (by kernel_rfl) flap7 (Pc.seq (c := flat8) (a := flah8) (b := flat9) (by kernel_rfl) flap8 (Pc.seq (c := flat9) (a := flah9) (b := flat10) (by kernel_rfl) flap9 (flap10))))))))))
theorem flaPieces (w : World) (ha : GAll w flaGs) : Calls Tryd.prog 3 #[] w fun e w' => e = .returned (.bool true) ∧ Below w.heap.size w w' := known_pieces (fn := Tryd.f3) (c := flat0) (ck := flak10) Tryd.func3 (by kernel_rfl) (by kernel_rfl) flaAll (by first | exact .inl rfl | exact .inr rfl) (by kernel_rfl) w ha
theorem flaWalk (w : World) : Calls Tryd.prog 3 #[] w fun e w' => e = .returned (.bool true) ∧ Below w.heap.size w w' :=
  flaPieces w (fun g cs h => by cases h)
end Go.Proofs.YtbjcbenoapechaaDoor
