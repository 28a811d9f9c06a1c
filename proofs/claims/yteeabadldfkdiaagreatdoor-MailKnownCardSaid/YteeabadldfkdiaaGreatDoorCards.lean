/-
  DERIVED. GIVEN WITH THE SEED: THE CARDS: each row of YteeabadldfkdiaaGreatDoorRows.lean that lists a variable, with what it lists TIED to the program's text (the seventh form; the later family's looks); each row that meets fmt, with fmt's text TOLD by the authors' own Lean function (tested against real Go, not proved from fmt's source: count such statements apart). THE CARD IS WHAT COUNTS. Prove the row's statement (the work); the ties are given (YteeabadldfkdiaaGreatDoorTie.lean); close each card by the builder's one call (the guide's Derived/Test/ToyasCard.lean, 'card_holds'). Laid BY PROGRAM, IN A SANDBOX (cutbox-door.mjs). By AI agents, Wed Nov 11 2026. No macro, syntax, notation, axiom, sorry.
-/
import Derived.Test.YteeabadldfkdiaaGreatDoorRows
import GoSem.ClaimSeven
namespace Go.Proofs.YteeabadldfkdiaaGreatDoor
namespace Rows

/-- THE TIED CARD OF 'frankinglaw20.MailKnown'. -/
def mailKnownCard : Claim7 := { stood := { row := mailKnownRow, standIns := [], harness := (true, "2b04a5f36c8e784736965f44057fc9e849d6830a7eeaa80a2f971ea5e47bfcb6"), looks := false }, kinds := [], alts := [], laidByText := true, laidKinds := [.data, .pinned], laidTests := true, laidLooks := .later }
def MailKnownCardSaid : Prop := Claim7.holds Tryz.pinned (.plain (OpenSpec.ofChange mailKnownSpec)) mailKnownCard

/-- THE TIED CARD OF 'frankinglaw21.ViewKnown'. -/
def viewKnownCard : Claim7 := { stood := { row := viewKnownRow, standIns := [], harness := (true, "2b04a5f36c8e784736965f44057fc9e849d6830a7eeaa80a2f971ea5e47bfcb6"), looks := false }, kinds := [], alts := [], laidByText := true, laidKinds := [.data, .pinned], laidTests := true, laidLooks := .later }
def ViewKnownCardSaid : Prop := Claim7.holds Tryz.pinned (.plain (OpenSpec.ofChange viewKnownSpec)) viewKnownCard

/-- THE TIED CARD OF 'frankinglaw24.RespKnown'. -/
def respKnownCard : Claim7 := { stood := { row := respKnownRow, standIns := [], harness := (true, "2b04a5f36c8e784736965f44057fc9e849d6830a7eeaa80a2f971ea5e47bfcb6"), looks := false }, kinds := [], alts := [], laidByText := true, laidKinds := [.data, .data, .data, .data, .pinned], laidTests := true, laidLooks := .later }
def RespKnownCardSaid : Prop := Claim7.holds Tryz.pinned (.plain (OpenSpec.ofChange respKnownSpec)) respKnownCard

/-- THE SECOND FORM's CARD OF 'frankinglaw20.MailKnown'. -/
def mailKnownUptoCard : Claim7 := { stood := { row := mailKnownUptoRow, standIns := [], harness := (true, "2b04a5f36c8e784736965f44057fc9e849d6830a7eeaa80a2f971ea5e47bfcb6"), looks := false }, kinds := [], alts := [], laidByText := true, laidKinds := [.data, .pinned], laidTests := true, laidLooks := .later }
def MailKnownUptoCardSaid : Prop := Claim7.holds Tryz.pinned (.plain (OpenSpec.upto mailKnownSpec)) mailKnownUptoCard

/-- THE SECOND FORM's CARD OF 'frankinglaw21.ViewKnown'. -/
def viewKnownUptoCard : Claim7 := { stood := { row := viewKnownUptoRow, standIns := [], harness := (true, "2b04a5f36c8e784736965f44057fc9e849d6830a7eeaa80a2f971ea5e47bfcb6"), looks := false }, kinds := [], alts := [], laidByText := true, laidKinds := [.data, .pinned], laidTests := true, laidLooks := .later }
def ViewKnownUptoCardSaid : Prop := Claim7.holds Tryz.pinned (.plain (OpenSpec.upto viewKnownSpec)) viewKnownUptoCard

/-- THE SECOND FORM's CARD OF 'frankinglaw24.RespKnown'. -/
def respKnownUptoCard : Claim7 := { stood := { row := respKnownUptoRow, standIns := [], harness := (true, "2b04a5f36c8e784736965f44057fc9e849d6830a7eeaa80a2f971ea5e47bfcb6"), looks := false }, kinds := [], alts := [], laidByText := true, laidKinds := [.data, .data, .data, .data, .pinned], laidTests := true, laidLooks := .later }
def RespKnownUptoCardSaid : Prop := Claim7.holds Tryz.pinned (.plain (OpenSpec.upto respKnownSpec)) respKnownUptoCard
end Rows
end Go.Proofs.YteeabadldfkdiaaGreatDoor
