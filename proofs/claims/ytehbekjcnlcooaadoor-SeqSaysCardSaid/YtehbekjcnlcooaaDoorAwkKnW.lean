/- The walk of awake, run by the abstract machine in pieces: the closed statement answers true, whatever the memory. -/
import Derived.Test.YtehbekjcnlcooaaDoorAm26
import Derived.Test.YtehbekjcnlcooaaDoorProg
import Derived.KernelRfl
namespace Go.Proofs.YtehbekjcnlcooaaDoor
open Go.RowKit Go.Proofs.YtehbekjcnlcooaaDoor.Am

def awkXs : List (Nat × Nat × Nat) := [(68, 1, 0), (88, 2, 0), (72, 3, 0), (69, 4, 5)]
theorem awkXsOK : xtAll Tryd.prog awkXs :=
  ⟨⟨by kernel_rfl, says1 (by kernel_rfl)⟩, ⟨by kernel_rfl, says2 (by kernel_rfl)⟩, ⟨by kernel_rfl, says3 (by kernel_rfl)⟩, ⟨by kernel_rfl, says4 #[3] 70 (by kernel_rfl) (by kernel_rfl)⟩, trivial⟩
def awkGs : List (Nat × List AV) := []
noncomputable def awkOver (_f : FuncId) : Option (List AV → AH → Option (AV × AH)) := none
noncomputable def awkGl : Gl Tryd.prog := Gl.mkG Tryd.prog awkGs awkXs awkXsOK
theorem awkOver_ok : OverOK Tryd.prog awkGl awkOver := by
  intro f g hf args h v h' e
  unfold awkOver at hf
  cases hf
theorem awkMix : Tryd.prog.follows .mixedOrders = true := by kernel_rfl
noncomputable def awkR : Rec := aRec Tryd.prog awkGl awkOver 1000000 1000000
theorem awkRa : RecAF awkR := (aCall_ok awkMix awkOver_ok 1000000 1000000).1
theorem awkRok : RecOK Tryd.prog awkGl awkR := (aCall_ok awkMix awkOver_ok 1000000 1000000).2
set_option maxRecDepth 100000
noncomputable def awkt0 : Code := bodyC Tryd.prog 5
noncomputable def awkstart : Ck := ck0 awkGs 0
noncomputable def awkc0 : Code := headC awkt0
def awkk1 : Ck := ⟨[(0, .bool false)], [], 0⟩
theorem awke2 : prC [0] [] (aCode Tryd.prog awkGl awkR 1000000 awkc0 (Ck.st 36 0 awkstart)) = some (.normal, awkk1) := by kernel_rfl
theorem awkp3 {n0 : Nat} : Pc awkGl 36 0 n0 awkstart awkc0 .normal awkk1 := Pc.run awkMix awkRa awkRok awke2
noncomputable def awkc5 : Code := tailC awkt0
def awkk6 : Ck := ⟨[(0, .bool true)], [], 29⟩
theorem awke7 : prC [0] [] (aCode Tryd.prog awkGl awkR 1000000 awkc5 (Ck.st 36 0 awkk1)) = some (.ret, awkk6) := by kernel_rfl
theorem awkp8 {n0 : Nat} : Pc awkGl 36 0 n0 awkk1 awkc5 .ret awkk6 := Pc.run awkMix awkRa awkRok awke7
theorem awkp4 {n0 : Nat} : Pc awkGl 36 0 n0 awkstart awkt0 .ret awkk6 := Pc.seq (a := awkc0) (b := awkc5) (by kernel_rfl) awkp3 awkp8
theorem awkAll (n0 : Nat) : Pc awkGl 36 0 n0 (ck0 awkGs 0) awkt0 .ret awkk6 := awkp4
theorem awkPieces (w : World) (ha : GAll w awkGs) : Calls Tryd.prog 5 #[] w fun e w' => e = .returned (.bool true) ∧ Below w.heap.size w w' := known_pieces (fn := Tryd.f5) (c := awkt0) (ck := awkk6) Tryd.func5 (by kernel_rfl) (by kernel_rfl) awkAll (by first | exact .inl rfl | exact .inr rfl) (by kernel_rfl) w ha
theorem awkWalk (w : World) : Calls Tryd.prog 5 #[] w fun e w' => e = .returned (.bool true) ∧ Below w.heap.size w w' :=
  awkPieces w (fun g cs h => by cases h)
end Go.Proofs.YtehbekjcnlcooaaDoor
