/- The law RespKnown of the document's formal specification: for every input the function RespKnown returns true, and its arguments read as they did; the tables of the library that it reads are as the program's text lays them (the card ties them). The walk: reWalk. -/
import Derived.Test.YteeabadldfkdiaaGreatDoorCards
import Derived.Test.YteeabadldfkdiaaGreatDoorTie
import Derived.Test.YteeabadldfkdiaaGreatDoorRspKnW
import Derived.ProofKit
import Derived.OpenShut
import Derived.ShutString
import Derived.ChangeOld
import Derived.Below
import Derived.Deep.DeepHandedRow
import Derived.Lib.LaidTab
import Derived.Stop.LaidErr
import Derived.SizedLaws
import Derived.Shelf.Vars
import Derived.Test.YteeabadldfkdiaaGreatDoorLawRespKnownA
import Derived.Test.YteeabadldfkdiaaGreatDoorLawRespKnownJ
set_option linter.unusedVariables false
namespace Go.Proofs.YteeabadldfkdiaaGreatDoor.lawRespKnown
open Go.ChangeShapes Go.WideShapes Go.ChangeAt Go.RowKit
open Go.ChangeMaps (open_string shut_string)

theorem instanced : Func.isInstance Tryz.prog Tryz.f5 Rows.respKnownRow.origin Rows.respKnownRow.targs := of_decide_eq_true (by kernel_rfl)
theorem wrapped : Func.isWrapper Tryz.prog Tryz.f5 Rows.respKnownRow.wrapper Rows.respKnownRow.mainSum := by
  unfold Func.isWrapper; first | (rw [if_pos (by decide +kernel)]; kernel_rfl) | (rw [if_neg (by decide +kernel)]; exact ⟨rfl, rfl⟩)
theorem said : Rows.RespKnownSaid :=
  OpenClaim.holds_of_cond 5 Tryz.f5 rfl rfl rfl rfl rfl rfl rfl ⟨rfl, rfl, rfl, rfl, rfl⟩ rfl rfl rfl rfl rfl named Tryz.func5 joined
    instanced wrapped
    (fun os started H enc _ F => by rw [OpenClaim.pre_eq_preRow]; exact lifted os started H enc F)

theorem plain (f : FuncId) (fn : Func) (hf : Tryz.pinned.checked.prog.funcNamed Rows.respKnownRow.func = some f) (hfn : Tryz.pinned.checked.prog.funcs[f]? = some fn) :
    false = Tryz.pinned.checked.prog.looks [] ∧ ∀ (j : Nat) t, fn.params[j]? = some t → Tryz.pinned.checked.prog.wantsStandIn t = false := by
  obtain rfl : f = 5 := Option.some.inj ((show Tryz.prog.funcNamed Rows.respKnownRow.func = some 5 by kernel_rfl).symm.trans hf) |>.symm
  obtain rfl : fn = Tryz.f5 := (Option.some.inj (Tryz.func5.symm.trans hfn)).symm
  refine ⟨by kernel_rfl, fun j t ht => ?_⟩
  rw [Tryz.params5] at ht
  simp at ht

/-- The card. -/
theorem proved : Rows.RespKnownCardSaid :=
  Claim7.holds_tied_plain_at .later [] _ _ _ _ said (fun _ h => by cases h) (by kernel_rfl) (fun _ h => by cases h) respKnown_row_tie rfl ⟨rfl, rfl⟩ (by kernel_rfl) rfl plain (by kernel_rfl)
end Go.Proofs.YteeabadldfkdiaaGreatDoor.lawRespKnown
