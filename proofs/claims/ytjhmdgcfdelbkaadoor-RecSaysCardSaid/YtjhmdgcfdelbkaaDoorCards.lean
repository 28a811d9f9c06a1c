/-
  DERIVED. GIVEN WITH THE SEED: THE CARDS: each row of YtjhmdgcfdelbkaaDoorRows.lean that lists a variable, with what it lists TIED to the program's text (the seventh form; the later family's looks); each row that meets fmt, with fmt's text TOLD by the authors' own Lean function (tested against real Go, not proved from fmt's source: count such statements apart). THE CARD IS WHAT COUNTS. Prove the row's statement (the work); the ties are given (YtjhmdgcfdelbkaaDoorTie.lean); close each card by the builder's one call (the guide's Derived/Test/ToyasCard.lean, 'card_holds'). Laid BY PROGRAM, IN A SANDBOX (cutbox-door.mjs). By AI agents, Wed Nov 11 2026. No macro, syntax, notation, axiom, sorry.
-/
import Derived.Test.YtjhmdgcfdelbkaaDoorRows
import GoSem.ClaimSeven
namespace Go.Proofs.YtjhmdgcfdelbkaaDoor
namespace Rows

/-- THE TIED CARD OF 'frankinglaw5.RecSays'. -/
def recSaysCard : Claim7 := { stood := { row := recSaysRow, standIns := [], harness := (true, "dea535669a878f4f3f2fe471c1ec341dce67f96afe6ac35c7c2499a4ffdce392"), looks := false }, kinds := [], alts := [], laidByText := true, laidKinds := [.data], laidTests := true, laidLooks := .later }
def RecSaysCardSaid : Prop := Claim7.holds Tryd.pinned (.plain (OpenSpec.ofChange recSaysSpec)) recSaysCard

/-- THE SECOND FORM's CARD OF 'frankinglaw5.RecSays'. -/
def recSaysUptoCard : Claim7 := { stood := { row := recSaysUptoRow, standIns := [], harness := (true, "dea535669a878f4f3f2fe471c1ec341dce67f96afe6ac35c7c2499a4ffdce392"), looks := false }, kinds := [], alts := [], laidByText := true, laidKinds := [.data], laidTests := true, laidLooks := .later }
def RecSaysUptoCardSaid : Prop := Claim7.holds Tryd.pinned (.plain (OpenSpec.upto recSaysSpec)) recSaysUptoCard
end Rows
end Go.Proofs.YtjhmdgcfdelbkaaDoor
