/- The law MailFull of the document's formal specification: for every input the function MailFull returns true, and its arguments read as they did; the tables of the library that it reads are as the program's text lays them (the card ties them). The walk: mfWalk. -/
import Derived.Test.YtknallpinjoppaaGreatDoorCards
import Derived.Test.YtknallpinjoppaaGreatDoorTie
import Derived.Test.YtknallpinjoppaaGreatDoorMafKnW
import Derived.ProofKit
import Derived.OpenShut
import Derived.ShutString
import Derived.ChangeOld
import Derived.Below
import Derived.Deep.DeepHandedRow
import Derived.Lib.LaidTab
import Derived.Stop.LaidErr
import Derived.SizedLaws
import Derived.Shelf.Vars
import Derived.Test.YtknallpinjoppaaGreatDoorLawMailFullA
import Derived.Test.YtknallpinjoppaaGreatDoorLawMailFullJ
set_option linter.unusedVariables false
namespace Go.Proofs.YtknallpinjoppaaGreatDoor.lawMailFull
open Go.ChangeShapes Go.WideShapes Go.ChangeAt Go.RowKit
open Go.ChangeMaps (open_string shut_string)

theorem instanced : Func.isInstance Tryz.prog Tryz.f3 Rows.mailFullRow.origin Rows.mailFullRow.targs := of_decide_eq_true (by kernel_rfl)
theorem wrapped : Func.isWrapper Tryz.prog Tryz.f3 Rows.mailFullRow.wrapper Rows.mailFullRow.mainSum := by
  unfold Func.isWrapper; first | (rw [if_pos (by decide +kernel)]; kernel_rfl) | (rw [if_neg (by decide +kernel)]; exact ⟨rfl, rfl⟩)
theorem said : Rows.MailFullSaid :=
  OpenClaim.holds_of_cond 3 Tryz.f3 rfl rfl rfl rfl rfl rfl rfl ⟨rfl, rfl, rfl, rfl, rfl⟩ rfl rfl rfl rfl rfl named Tryz.func3 joined
    instanced wrapped
    (fun os started H enc _ F => by rw [OpenClaim.pre_eq_preRow]; exact lifted os started H enc F)

theorem plain (f : FuncId) (fn : Func) (hf : Tryz.pinned.checked.prog.funcNamed Rows.mailFullRow.func = some f) (hfn : Tryz.pinned.checked.prog.funcs[f]? = some fn) :
    false = Tryz.pinned.checked.prog.looks [] ∧ ∀ (j : Nat) t, fn.params[j]? = some t → Tryz.pinned.checked.prog.wantsStandIn t = false := by
  obtain rfl : f = 3 := Option.some.inj ((show Tryz.prog.funcNamed Rows.mailFullRow.func = some 3 by kernel_rfl).symm.trans hf) |>.symm
  obtain rfl : fn = Tryz.f3 := (Option.some.inj (Tryz.func3.symm.trans hfn)).symm
  refine ⟨by kernel_rfl, fun j t ht => ?_⟩
  rw [Tryz.params3] at ht
  have hm : t = 3 := by
    have := Array.mem_of_getElem? ht
    simp at this
    first | exact this | omega | grind
  subst hm
  exact (show Tryz.prog.wantsStandIn 3 = false by kernel_rfl)

/-- The card. -/
theorem proved : Rows.MailFullCardSaid :=
  Claim7.holds_tied_plain_at .later [] _ _ _ _ said (fun _ h => by cases h) (by kernel_rfl) (fun _ h => by cases h) mailFull_row_tie rfl ⟨rfl, rfl⟩ (by kernel_rfl) rfl plain (by kernel_rfl)
end Go.Proofs.YtknallpinjoppaaGreatDoor.lawMailFull
