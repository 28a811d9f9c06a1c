/-
  DERIVED. GIVEN WITH THE SEED: THE CARDS: each row of YtomjccaknglibaaDoorRows.lean that lists a variable, with what it lists TIED to the program's text (the seventh form; the later family's looks); each row that meets fmt, with fmt's text TOLD by the authors' own Lean function (tested against real Go, not proved from fmt's source: count such statements apart). THE CARD IS WHAT COUNTS. Prove the row's statement (the work); the ties are given (YtomjccaknglibaaDoorTie.lean); close each card by the builder's one call (the guide's Derived/Test/ToyasCard.lean, 'card_holds'). Laid BY PROGRAM, IN A SANDBOX (cutbox-door.mjs). By AI agents, Wed Nov 11 2026. No macro, syntax, notation, axiom, sorry.
-/
import Derived.Test.YtomjccaknglibaaDoorRows
import GoSem.ClaimSeven
namespace Go.Proofs.YtomjccaknglibaaDoor
namespace Rows

/-- THE TIED CARD OF 'frankinglaw9.SeqKnown'. -/
def seqKnownCard : Claim7 := { stood := { row := seqKnownRow, standIns := [], harness := (true, "94fbf2cbedd2b808c390e0bd1b181e61d3305bb4bc4a8729168fa62c668ac1a6"), looks := false }, kinds := [], alts := [], laidByText := true, laidKinds := [.data, .data, .data, .data, .pinned], laidTests := true, laidLooks := .later }
def SeqKnownCardSaid : Prop := Claim7.holds Tryd.pinned (.plain (OpenSpec.ofChange seqKnownSpec)) seqKnownCard

/-- THE TIED CARD OF 'frankinglaw11.HeadKnown'. -/
def headKnownCard : Claim7 := { stood := { row := headKnownRow, standIns := [], harness := (true, "94fbf2cbedd2b808c390e0bd1b181e61d3305bb4bc4a8729168fa62c668ac1a6"), looks := false }, kinds := [], alts := [], laidByText := true, laidKinds := [.data, .pinned], laidTests := true, laidLooks := .later }
def HeadKnownCardSaid : Prop := Claim7.holds Tryd.pinned (.plain (OpenSpec.ofChange headKnownSpec)) headKnownCard

/-- THE SECOND FORM's CARD OF 'frankinglaw9.SeqKnown'. -/
def seqKnownUptoCard : Claim7 := { stood := { row := seqKnownUptoRow, standIns := [], harness := (true, "94fbf2cbedd2b808c390e0bd1b181e61d3305bb4bc4a8729168fa62c668ac1a6"), looks := false }, kinds := [], alts := [], laidByText := true, laidKinds := [.data, .data, .data, .data, .pinned], laidTests := true, laidLooks := .later }
def SeqKnownUptoCardSaid : Prop := Claim7.holds Tryd.pinned (.plain (OpenSpec.upto seqKnownSpec)) seqKnownUptoCard

/-- THE SECOND FORM's CARD OF 'frankinglaw11.HeadKnown'. -/
def headKnownUptoCard : Claim7 := { stood := { row := headKnownUptoRow, standIns := [], harness := (true, "94fbf2cbedd2b808c390e0bd1b181e61d3305bb4bc4a8729168fa62c668ac1a6"), looks := false }, kinds := [], alts := [], laidByText := true, laidKinds := [.data, .pinned], laidTests := true, laidLooks := .later }
def HeadKnownUptoCardSaid : Prop := Claim7.holds Tryd.pinned (.plain (OpenSpec.upto headKnownSpec)) headKnownUptoCard
end Rows
end Go.Proofs.YtomjccaknglibaaDoor
