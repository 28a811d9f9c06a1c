/- The walk of MailKnown, run by the abstract machine in pieces: the closed statement answers true, whatever the memory, where the library's variable MaxLen holds some int. -/
import Derived.Test.YteeabadldfkdiaaGreatDoorMaiE1
import Derived.Test.YteeabadldfkdiaaGreatDoorMaiE2
import Derived.Test.YteeabadldfkdiaaGreatDoorMaiE3
namespace Go.Proofs.YteeabadldfkdiaaGreatDoor
open Go.RowKit Go.Proofs.YteeabadldfkdiaaGreatDoor.Am
set_option maxRecDepth 100000
theorem mlp3 {n0 : Nat} : Pc mlGl 131 64 n0 mlstart mlc0 .normal mlk1 := Pc.run mlMix mlRa mlRok mle2
theorem mlp8 {n0 : Nat} : Pc mlGl 131 64 n0 mlk1 mlc5 .ret mlk6 := Pc.run mlMix mlRa mlRok mle7
theorem mlp4 {n0 : Nat} : Pc mlGl 131 64 n0 mlstart mlt0 .ret mlk6 := Pc.seq (a := mlc0) (b := mlc5) (by kernel_rfl) mlp3 mlp8
theorem mlAll (n0 : Nat) : Pc mlGl 131 64 n0 (ck0 mlGs 64) mlt0 .ret mlk6 := mlp4
theorem mlPieces (w : World) (ha : GAll w mlGs) : Calls Tryz.prog 3 #[] w fun e w' => e = .returned (.bool true) ∧ Below w.heap.size w w' := known_pieces (fn := Tryz.f3) (c := mlt0) (ck := mlk6) Tryz.func3 (by kernel_rfl) (by kernel_rfl) mlAll (by first | exact .inl rfl | exact .inr rfl) (by kernel_rfl) w ha
theorem mlWalk (w : World) (hm : ∃ m, w.cell? ⟨0, 0, none⟩ = some (.int .i64 m)) (_ : 0 < w.heap.size) : Calls Tryz.prog 3 #[] w fun e w' => e = .returned (.bool true) ∧ Below w.heap.size w w' :=
  mlPieces w (gAll_one (gAt_int hm))
end Go.Proofs.YteeabadldfkdiaaGreatDoor
