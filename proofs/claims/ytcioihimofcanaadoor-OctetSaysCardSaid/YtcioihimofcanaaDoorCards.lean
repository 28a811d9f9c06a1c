/-
  DERIVED. GIVEN WITH THE SEED: THE CARDS: each row of YtcioihimofcanaaDoorRows.lean that lists a variable, with what it lists TIED to the program's text (the seventh form; the later family's looks); each row that meets fmt, with fmt's text TOLD by the authors' own Lean function (tested against real Go, not proved from fmt's source: count such statements apart). THE CARD IS WHAT COUNTS. Prove the row's statement (the work); the ties are given (YtcioihimofcanaaDoorTie.lean); close each card by the builder's one call (the guide's Derived/Test/ToyasCard.lean, 'card_holds'). Laid BY PROGRAM, IN A SANDBOX (cutbox-door.mjs). By AI agents, Wed Nov 11 2026. No macro, syntax, notation, axiom, sorry.
-/
import Derived.Test.YtcioihimofcanaaDoorRows
import GoSem.ClaimSeven
namespace Go.Proofs.YtcioihimofcanaaDoor
namespace Rows

/-- THE TIED CARD OF 'frankinglaw1.OctetKnown'. -/
def octetKnownCard : Claim7 := { stood := { row := octetKnownRow, standIns := [], harness := (true, "15af57f8c7418bc257595b063c2ef2740f1a751598f00a56521ac29ca9f6d9c6"), looks := false }, kinds := [], alts := [], laidByText := true, laidKinds := [.data, .data, .data], laidTests := true, laidLooks := .later }
def OctetKnownCardSaid : Prop := Claim7.holds Tryd.pinned (.plain (OpenSpec.ofChange octetKnownSpec)) octetKnownCard

/-- THE TIED CARD OF 'frankinglaw1.OctetSays'. -/
def octetSaysCard : Claim7 := { stood := { row := octetSaysRow, standIns := [], harness := (true, "15af57f8c7418bc257595b063c2ef2740f1a751598f00a56521ac29ca9f6d9c6"), looks := false }, kinds := [], alts := [], laidByText := true, laidKinds := [.data, .data, .data], laidTests := true, laidLooks := .later }
def OctetSaysCardSaid : Prop := Claim7.holds Tryd.pinned (.plain (OpenSpec.ofChange octetSaysSpec)) octetSaysCard

/-- THE SECOND FORM's CARD OF 'frankinglaw1.OctetKnown'. -/
def octetKnownUptoCard : Claim7 := { stood := { row := octetKnownUptoRow, standIns := [], harness := (true, "15af57f8c7418bc257595b063c2ef2740f1a751598f00a56521ac29ca9f6d9c6"), looks := false }, kinds := [], alts := [], laidByText := true, laidKinds := [.data, .data, .data], laidTests := true, laidLooks := .later }
def OctetKnownUptoCardSaid : Prop := Claim7.holds Tryd.pinned (.plain (OpenSpec.upto octetKnownSpec)) octetKnownUptoCard

/-- THE SECOND FORM's CARD OF 'frankinglaw1.OctetSays'. -/
def octetSaysUptoCard : Claim7 := { stood := { row := octetSaysUptoRow, standIns := [], harness := (true, "15af57f8c7418bc257595b063c2ef2740f1a751598f00a56521ac29ca9f6d9c6"), looks := false }, kinds := [], alts := [], laidByText := true, laidKinds := [.data, .data, .data], laidTests := true, laidLooks := .later }
def OctetSaysUptoCardSaid : Prop := Claim7.holds Tryd.pinned (.plain (OpenSpec.upto octetSaysSpec)) octetSaysUptoCard
end Rows
end Go.Proofs.YtcioihimofcanaaDoor
