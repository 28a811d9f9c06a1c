/-
  DERIVED. GIVEN WITH THE SEED: THE CARDS: each row of YtknallpinjoppaaGreatDoorRows.lean that lists a variable, with what it lists TIED to the program's text (the seventh form; the later family's looks); each row that meets fmt, with fmt's text TOLD by the authors' own Lean function (tested against real Go, not proved from fmt's source: count such statements apart). THE CARD IS WHAT COUNTS. Prove the row's statement (the work); the ties are given (YtknallpinjoppaaGreatDoorTie.lean); close each card by the builder's one call (the guide's Derived/Test/ToyasCard.lean, 'card_holds'). Laid BY PROGRAM, IN A SANDBOX (cutbox-door.mjs). By AI agents, Wed Nov 11 2026. No macro, syntax, notation, axiom, sorry.
-/
import Derived.Test.YtknallpinjoppaaGreatDoorRows
import GoSem.ClaimSeven
namespace Go.Proofs.YtknallpinjoppaaGreatDoor
namespace Rows

/-- THE TIED CARD OF 'frankinglaw20.MailFull'. -/
def mailFullCard : Claim7 := { stood := { row := mailFullRow, standIns := [], harness := (true, "c93289f4bff09628909947a7a25196df7dbeaac10393672311d876545ec48491"), looks := false }, kinds := [], alts := [], laidByText := true, laidKinds := [.data, .pinned], laidTests := true, laidLooks := .later }
def MailFullCardSaid : Prop := Claim7.holds Tryz.pinned (.plain (OpenSpec.ofChange mailFullSpec)) mailFullCard

/-- THE TIED CARD OF 'frankinglaw21.ViewEnds'. -/
def viewEndsCard : Claim7 := { stood := { row := viewEndsRow, standIns := [], harness := (true, "c93289f4bff09628909947a7a25196df7dbeaac10393672311d876545ec48491"), looks := false }, kinds := [], alts := [], laidByText := true, laidKinds := [.data, .pinned], laidTests := true, laidLooks := .later }
def ViewEndsCardSaid : Prop := Claim7.holds Tryz.pinned (.plain (OpenSpec.ofChange viewEndsSpec)) viewEndsCard

/-- THE SECOND FORM's CARD OF 'frankinglaw20.MailFull'. -/
def mailFullUptoCard : Claim7 := { stood := { row := mailFullUptoRow, standIns := [], harness := (true, "c93289f4bff09628909947a7a25196df7dbeaac10393672311d876545ec48491"), looks := false }, kinds := [], alts := [], laidByText := true, laidKinds := [.data, .pinned], laidTests := true, laidLooks := .later }
def MailFullUptoCardSaid : Prop := Claim7.holds Tryz.pinned (.plain (OpenSpec.upto mailFullSpec)) mailFullUptoCard

/-- THE SECOND FORM's CARD OF 'frankinglaw21.ViewEnds'. -/
def viewEndsUptoCard : Claim7 := { stood := { row := viewEndsUptoRow, standIns := [], harness := (true, "c93289f4bff09628909947a7a25196df7dbeaac10393672311d876545ec48491"), looks := false }, kinds := [], alts := [], laidByText := true, laidKinds := [.data, .pinned], laidTests := true, laidLooks := .later }
def ViewEndsUptoCardSaid : Prop := Claim7.holds Tryz.pinned (.plain (OpenSpec.upto viewEndsSpec)) viewEndsUptoCard
end Rows
end Go.Proofs.YtknallpinjoppaaGreatDoor
