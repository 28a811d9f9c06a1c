/- The law MailFull of the document's formal specification: for every input the function MailFull returns true, and its arguments read as they did; the tables of the library that it reads are as the program's text lays them (the card ties them). The walk: mfWalk. -/
import Derived.Test.YtknallpinjoppaaGreatDoorCards
import Derived.Test.YtknallpinjoppaaGreatDoorTie
import Derived.Test.YtknallpinjoppaaGreatDoorMafKnW
import Derived.ProofKit
import Derived.OpenShut
import Derived.ShutString
import Derived.ChangeOld
import Derived.Below
import Derived.Deep.DeepHandedRow
import Derived.Lib.LaidTab
import Derived.Stop.LaidErr
import Derived.SizedLaws
import Derived.Shelf.Vars
set_option linter.unusedVariables false
namespace Go.Proofs.YtknallpinjoppaaGreatDoor.lawMailFull
open Go.ChangeShapes Go.WideShapes Go.ChangeAt Go.RowKit
open Go.ChangeMaps (open_string shut_string)

theorem named : Tryz.prog.funcNamed Rows.mailFullRow.func = some 3 := by kernel_rfl
theorem joined : joinedFacts Tryz.prog 3 Tryz.f3 (OpenSpec.ofChange Rows.mailFullSpec).bare Rows.mailFullRow = true := by kernel_rfl
end Go.Proofs.YtknallpinjoppaaGreatDoor.lawMailFull
