/- The walk of KvKnown, run by the abstract machine in pieces: the closed statement answers true, whatever the memory. -/
import Derived.Test.YtknallpinjoppaaKvnE1
import Derived.Test.YtknallpinjoppaaKvnE2
namespace Go.Proofs.Ytknallpinjoppaa
open Go.RowKit Go.Proofs.Ytknallpinjoppaa.Am
set_option maxRecDepth 100000
theorem kvp3 {n0 : Nat} : Pc kvGl 151 0 n0 kvstart kvc0 .normal kvk1 := Pc.run kvMix kvRa kvRok kve2
theorem kvp8 {n0 : Nat} : Pc kvGl 151 0 n0 kvk1 kvc5 .ret kvk6 := Pc.run kvMix kvRa kvRok kve7
theorem kvp4 {n0 : Nat} : Pc kvGl 151 0 n0 kvstart kvt0 .ret kvk6 := Pc.seq (a := kvc0) (b := kvc5) (by kernel_rfl) kvp3 kvp8
theorem kvAll (n0 : Nat) : Pc kvGl 151 0 n0 (ck0 kvGs 0) kvt0 .ret kvk6 := kvp4
theorem kvPieces (w : World) (ha : GAll w kvGs) : Calls Try.prog 3 #[] w fun e w' => e = .returned (.bool true) ∧ Below w.heap.size w w' := known_pieces (fn := Try.f3) (c := kvt0) (ck := kvk6) Try.func3 (by kernel_rfl) (by kernel_rfl) kvAll (by first | exact .inl rfl | exact .inr rfl) (by kernel_rfl) w ha
theorem kvWalk (w : World) : Calls Try.prog 3 #[] w fun e w' => e = .returned (.bool true) ∧ Below w.heap.size w w' :=
  kvPieces w (fun g cs h => by cases h)
end Go.Proofs.Ytknallpinjoppaa
