/- The walk of KvKnown, run by the abstract machine in pieces: the closed statement answers true, whatever the memory. -/
import Derived.Test.YtknallpinjoppaaAm26
import Derived.Test.YtknallpinjoppaaProg
import Derived.Test.YtknallpinjoppaaAm28
import Derived.Test.YtknallpinjoppaaIShelf
import Derived.KernelRfl
namespace Go.Proofs.Ytknallpinjoppaa
open Go.RowKit Go.Proofs.Ytknallpinjoppaa.Am

def kvXs : List (Nat × Nat × Nat) := []
theorem kvXsOK : xtAll Try.prog kvXs :=
  trivial
def kvGs : List (Nat × List AV) := []
noncomputable def kvOver (f : FuncId) : Option (List AV → AH → Option (AV × AH)) := cond (Nat.beq f 22) (some (ovInsS 9)) (none)
theorem kvIns : InsCon Try.prog 22 9 := {
  shift b off n c i vb voff m vc cs vs w := Go.Proofs.Any2.slices_Insert_string_shift Try.insl b off n c i vb voff m vc cs vs w
  room b off n c vb voff m vc vs w := Go.Proofs.Any2.slices_Insert_string_end_room Try.insl b off n c vb voff m vc vs w
  egrow base n c vb voff m vc cs vs w := Go.Proofs.Any2.slices_Insert_string_end_grow Try.insl base n c vb voff m vc cs vs w
  grow b off n c i vb voff m vc cs vs w := Go.Proofs.Any2.slices_Insert_string_grow Try.insl b off n c i vb voff m vc cs vs w }
noncomputable def kvGl : Gl Try.prog := Gl.mkG Try.prog kvGs kvXs kvXsOK
theorem kvOver_ok : OverOK Try.prog kvGl kvOver := by
  intro f g hf args h v h' e
  unfold kvOver at hf
  cases h_ovInsS : Nat.beq f 22 with
  | true =>
    have := Nat.eq_of_beq_eq_true h_ovInsS
    subst this
    rw [h_ovInsS] at hf
    injection hf with hf
    subst hf
    exact ovInsS_ok kvIns args h v h' e
  | false =>
    rw [h_ovInsS] at hf
    cases hf
theorem kvMix : Try.prog.follows .mixedOrders = true := by kernel_rfl
noncomputable def kvR : Rec := aRec Try.prog kvGl kvOver 1000000 1000000
theorem kvRa : RecAF kvR := (aCall_ok kvMix kvOver_ok 1000000 1000000).1
theorem kvRok : RecOK Try.prog kvGl kvR := (aCall_ok kvMix kvOver_ok 1000000 1000000).2
set_option maxRecDepth 100000
noncomputable def kvt0 : Code := bodyC Try.prog 3
noncomputable def kvstart : Ck := ck0 kvGs 0
noncomputable def kvc0 : Code := headC kvt0
def kvk1 : Ck := ⟨[(0, .bool false)], [], 0⟩
noncomputable def kvc5 : Code := tailC kvt0
def kvk6 : Ck := ⟨[(0, .bool true)], [], 137⟩
end Go.Proofs.Ytknallpinjoppaa
