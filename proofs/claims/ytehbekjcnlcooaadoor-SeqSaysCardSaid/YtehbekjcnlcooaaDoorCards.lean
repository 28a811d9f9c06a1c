/-
  DERIVED. GIVEN WITH THE SEED: THE CARDS: each row of YtehbekjcnlcooaaDoorRows.lean that lists a variable, with what it lists TIED to the program's text (the seventh form; the later family's looks); each row that meets fmt, with fmt's text TOLD by the authors' own Lean function (tested against real Go, not proved from fmt's source: count such statements apart). THE CARD IS WHAT COUNTS. Prove the row's statement (the work); the ties are given (YtehbekjcnlcooaaDoorTie.lean); close each card by the builder's one call (the guide's Derived/Test/ToyasCard.lean, 'card_holds'). Laid BY PROGRAM, IN A SANDBOX (cutbox-door.mjs). By AI agents, Wed Nov 11 2026. No macro, syntax, notation, axiom, sorry.
-/
import Derived.Test.YtehbekjcnlcooaaDoorRows
import GoSem.ClaimSeven
namespace Go.Proofs.YtehbekjcnlcooaaDoor
namespace Rows

/-- THE TIED CARD OF 'frankinglaw9.SeqBack'. -/
def seqBackCard : Claim7 := { stood := { row := seqBackRow, standIns := [], harness := (true, "e3228df7ed8b94bcf9c9b5fcd6a8f66fca1987463ffb688525bb26b8575914b3"), looks := false }, kinds := [], alts := [], laidByText := true, laidKinds := [.data, .data, .data, .data, .pinned], laidTests := true, laidLooks := .later }
def SeqBackCardSaid : Prop := Claim7.holds Tryd.pinned (.plain (OpenSpec.ofChange seqBackSpec)) seqBackCard

/-- THE TIED CARD OF 'frankinglaw9.SeqSays'. -/
def seqSaysCard : Claim7 := { stood := { row := seqSaysRow, standIns := [], harness := (true, "e3228df7ed8b94bcf9c9b5fcd6a8f66fca1987463ffb688525bb26b8575914b3"), looks := false }, kinds := [], alts := [], laidByText := true, laidKinds := [.data, .data, .data, .data, .pinned], laidTests := true, laidLooks := .later }
def SeqSaysCardSaid : Prop := Claim7.holds Tryd.pinned (.plain (OpenSpec.ofChange seqSaysSpec)) seqSaysCard

/-- THE SECOND FORM's CARD OF 'frankinglaw9.SeqBack'. -/
def seqBackUptoCard : Claim7 := { stood := { row := seqBackUptoRow, standIns := [], harness := (true, "e3228df7ed8b94bcf9c9b5fcd6a8f66fca1987463ffb688525bb26b8575914b3"), looks := false }, kinds := [], alts := [], laidByText := true, laidKinds := [.data, .data, .data, .data, .pinned], laidTests := true, laidLooks := .later }
def SeqBackUptoCardSaid : Prop := Claim7.holds Tryd.pinned (.plain (OpenSpec.upto seqBackSpec)) seqBackUptoCard

/-- THE SECOND FORM's CARD OF 'frankinglaw9.SeqSays'. -/
def seqSaysUptoCard : Claim7 := { stood := { row := seqSaysUptoRow, standIns := [], harness := (true, "e3228df7ed8b94bcf9c9b5fcd6a8f66fca1987463ffb688525bb26b8575914b3"), looks := false }, kinds := [], alts := [], laidByText := true, laidKinds := [.data, .data, .data, .data, .pinned], laidTests := true, laidLooks := .later }
def SeqSaysUptoCardSaid : Prop := Claim7.holds Tryd.pinned (.plain (OpenSpec.upto seqSaysSpec)) seqSaysUptoCard
end Rows
end Go.Proofs.YtehbekjcnlcooaaDoor
