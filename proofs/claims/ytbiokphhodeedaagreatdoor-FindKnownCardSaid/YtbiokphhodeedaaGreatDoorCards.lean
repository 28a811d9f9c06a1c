/-
  DERIVED. GIVEN WITH THE SEED: THE CARDS: each row of YtbiokphhodeedaaGreatDoorRows.lean that lists a variable, with what it lists TIED to the program's text (the seventh form; the later family's looks); each row that meets fmt, with fmt's text TOLD by the authors' own Lean function (tested against real Go, not proved from fmt's source: count such statements apart). THE CARD IS WHAT COUNTS. Prove the row's statement (the work); the ties are given (YtbiokphhodeedaaGreatDoorTie.lean); close each card by the builder's one call (the guide's Derived/Test/ToyasCard.lean, 'card_holds'). Laid BY PROGRAM, IN A SANDBOX (cutbox-door.mjs). By AI agents, Wed Nov 11 2026. No macro, syntax, notation, axiom, sorry.
-/
import Derived.Test.YtbiokphhodeedaaGreatDoorRows
import GoSem.ClaimSeven
namespace Go.Proofs.YtbiokphhodeedaaGreatDoor
namespace Rows

/-- THE TIED CARD OF 'frankinglaw22.FindKnown'. -/
def findKnownCard : Claim7 := { stood := { row := findKnownRow, standIns := [], harness := (true, "c12bb524f192991b417ac81b607650e1e461bc9d454332ce5e2d749de4ec5989"), looks := false }, kinds := [], alts := [], laidByText := true, laidKinds := [.data, .pinned], laidTests := true, laidLooks := .later }
def FindKnownCardSaid : Prop := Claim7.holds Tryz.pinned (.plain (OpenSpec.ofChange findKnownSpec)) findKnownCard

/-- THE SECOND FORM's CARD OF 'frankinglaw22.FindKnown'. -/
def findKnownUptoCard : Claim7 := { stood := { row := findKnownUptoRow, standIns := [], harness := (true, "c12bb524f192991b417ac81b607650e1e461bc9d454332ce5e2d749de4ec5989"), looks := false }, kinds := [], alts := [], laidByText := true, laidKinds := [.data, .pinned], laidTests := true, laidLooks := .later }
def FindKnownUptoCardSaid : Prop := Claim7.holds Tryz.pinned (.plain (OpenSpec.upto findKnownSpec)) findKnownUptoCard
end Rows
end Go.Proofs.YtbiokphhodeedaaGreatDoor
