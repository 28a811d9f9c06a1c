/- The law ViewEnds of the document's formal specification: for every input the function ViewEnds returns true, and its arguments read as they did; the tables of the library that it reads are as the program's text lays them (the card ties them). The walk: veWalk. -/
import Derived.Test.YtknallpinjoppaaGreatDoorCards
import Derived.Test.YtknallpinjoppaaGreatDoorTie
import Derived.Test.YtknallpinjoppaaGreatDoorVieKnW
import Derived.ProofKit
import Derived.OpenShut
import Derived.ShutString
import Derived.ChangeOld
import Derived.Below
import Derived.Deep.DeepHandedRow
import Derived.Lib.LaidTab
import Derived.Stop.LaidErr
import Derived.SizedLaws
import Derived.Shelf.Vars
set_option linter.unusedVariables false
namespace Go.Proofs.YtknallpinjoppaaGreatDoor.lawViewEnds
open Go.ChangeShapes Go.WideShapes Go.ChangeAt Go.RowKit
open Go.ChangeMaps (open_string shut_string)

theorem named : Tryz.prog.funcNamed Rows.viewEndsRow.func = some 4 := by kernel_rfl
theorem joined : joinedFacts Tryz.prog 4 Tryz.f4 (OpenSpec.ofChange Rows.viewEndsSpec).bare Rows.viewEndsRow = true := by kernel_rfl
end Go.Proofs.YtknallpinjoppaaGreatDoor.lawViewEnds
