/-
  DERIVED. GIVEN WITH THE SEED: THE CARDS: each row of YtcommopnnoicoaaGreatDoorRows.lean that lists a variable, with what it lists TIED to the program's text (the seventh form; the later family's looks); each row that meets fmt, with fmt's text TOLD by the authors' own Lean function (tested against real Go, not proved from fmt's source: count such statements apart). THE CARD IS WHAT COUNTS. Prove the row's statement (the work); the ties are given (YtcommopnnoicoaaGreatDoorTie.lean); close each card by the builder's one call (the guide's Derived/Test/ToyasCard.lean, 'card_holds'). Laid BY PROGRAM, IN A SANDBOX (cutbox-door.mjs). By AI agents, Wed Nov 11 2026. No macro, syntax, notation, axiom, sorry.
-/
import Derived.Test.YtcommopnnoicoaaGreatDoorRows
import GoSem.ClaimSeven
namespace Go.Proofs.YtcommopnnoicoaaGreatDoor
namespace Rows

/-- THE TIED CARD OF 'frankinglaw15.EnvlKnown'. -/
def envlKnownCard : Claim7 := { stood := { row := envlKnownRow, standIns := [], harness := (true, "e77d25398c7b9b4354a3c207bb86b27227026cd2cb116b9a9dbc958d8da4d0c1"), looks := false }, kinds := [], alts := [], laidByText := true, laidKinds := [.data, .data, .data, .data, .pinned], laidTests := true, laidLooks := .later }
def EnvlKnownCardSaid : Prop := Claim7.holds Tryz.pinned (.plain (OpenSpec.ofChange envlKnownSpec)) envlKnownCard

/-- THE TIED CARD OF 'frankinglaw17.SectKnown'. -/
def sectKnownCard : Claim7 := { stood := { row := sectKnownRow, standIns := [], harness := (true, "e77d25398c7b9b4354a3c207bb86b27227026cd2cb116b9a9dbc958d8da4d0c1"), looks := false }, kinds := [], alts := [], laidByText := true, laidKinds := [.data, .data, .data, .data, .pinned], laidTests := true, laidLooks := .later }
def SectKnownCardSaid : Prop := Claim7.holds Tryz.pinned (.plain (OpenSpec.ofChange sectKnownSpec)) sectKnownCard

/-- THE TIED CARD OF 'frankinglaw16.BodsKnown'. -/
def bodsKnownCard : Claim7 := { stood := { row := bodsKnownRow, standIns := [], harness := (true, "e77d25398c7b9b4354a3c207bb86b27227026cd2cb116b9a9dbc958d8da4d0c1"), looks := false }, kinds := [], alts := [], laidByText := true, laidKinds := [.data, .data, .data, .data, .pinned], laidTests := true, laidLooks := .later }
def BodsKnownCardSaid : Prop := Claim7.holds Tryz.pinned (.plain (OpenSpec.ofChange bodsKnownSpec)) bodsKnownCard

/-- THE SECOND FORM's CARD OF 'frankinglaw15.EnvlKnown'. -/
def envlKnownUptoCard : Claim7 := { stood := { row := envlKnownUptoRow, standIns := [], harness := (true, "e77d25398c7b9b4354a3c207bb86b27227026cd2cb116b9a9dbc958d8da4d0c1"), looks := false }, kinds := [], alts := [], laidByText := true, laidKinds := [.data, .data, .data, .data, .pinned], laidTests := true, laidLooks := .later }
def EnvlKnownUptoCardSaid : Prop := Claim7.holds Tryz.pinned (.plain (OpenSpec.upto envlKnownSpec)) envlKnownUptoCard

/-- THE SECOND FORM's CARD OF 'frankinglaw17.SectKnown'. -/
def sectKnownUptoCard : Claim7 := { stood := { row := sectKnownUptoRow, standIns := [], harness := (true, "e77d25398c7b9b4354a3c207bb86b27227026cd2cb116b9a9dbc958d8da4d0c1"), looks := false }, kinds := [], alts := [], laidByText := true, laidKinds := [.data, .data, .data, .data, .pinned], laidTests := true, laidLooks := .later }
def SectKnownUptoCardSaid : Prop := Claim7.holds Tryz.pinned (.plain (OpenSpec.upto sectKnownSpec)) sectKnownUptoCard

/-- THE SECOND FORM's CARD OF 'frankinglaw16.BodsKnown'. -/
def bodsKnownUptoCard : Claim7 := { stood := { row := bodsKnownUptoRow, standIns := [], harness := (true, "e77d25398c7b9b4354a3c207bb86b27227026cd2cb116b9a9dbc958d8da4d0c1"), looks := false }, kinds := [], alts := [], laidByText := true, laidKinds := [.data, .data, .data, .data, .pinned], laidTests := true, laidLooks := .later }
def BodsKnownUptoCardSaid : Prop := Claim7.holds Tryz.pinned (.plain (OpenSpec.upto bodsKnownSpec)) bodsKnownUptoCard
end Rows
end Go.Proofs.YtcommopnnoicoaaGreatDoor
