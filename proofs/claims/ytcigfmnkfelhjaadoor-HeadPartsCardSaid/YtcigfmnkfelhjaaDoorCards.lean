/-
  DERIVED. GIVEN WITH THE SEED: THE CARDS: each row of YtcigfmnkfelhjaaDoorRows.lean that lists a variable, with what it lists TIED to the program's text (the seventh form; the later family's looks); each row that meets fmt, with fmt's text TOLD by the authors' own Lean function (tested against real Go, not proved from fmt's source: count such statements apart). THE CARD IS WHAT COUNTS. Prove the row's statement (the work); the ties are given (YtcigfmnkfelhjaaDoorTie.lean); close each card by the builder's one call (the guide's Derived/Test/ToyasCard.lean, 'card_holds'). Laid BY PROGRAM, IN A SANDBOX (cutbox-door.mjs). By AI agents, Wed Nov 11 2026. No macro, syntax, notation, axiom, sorry.
-/
import Derived.Test.YtcigfmnkfelhjaaDoorRows
import GoSem.ClaimSeven
namespace Go.Proofs.YtcigfmnkfelhjaaDoor
namespace Rows

/-- THE TIED CARD OF 'frankinglaw11.HeadParts'. -/
def headPartsCard : Claim7 := { stood := { row := headPartsRow, standIns := [], harness := (true, "22810d354c907bb48a9514ed01b39fd6de685e2a790deb05b4d0cdaaa906b65f"), looks := false }, kinds := [], alts := [], laidByText := true, laidKinds := [.data, .pinned], laidTests := true, laidLooks := .later }
def HeadPartsCardSaid : Prop := Claim7.holds Tryd.pinned (.plain (OpenSpec.ofChange headPartsSpec)) headPartsCard

/-- THE TIED CARD OF 'frankinglaw11.HeadBuilt'. -/
def headBuiltCard : Claim7 := { stood := { row := headBuiltRow, standIns := [], harness := (true, "22810d354c907bb48a9514ed01b39fd6de685e2a790deb05b4d0cdaaa906b65f"), looks := false }, kinds := [], alts := [], laidByText := true, laidKinds := [.data, .pinned], laidTests := true, laidLooks := .later }
def HeadBuiltCardSaid : Prop := Claim7.holds Tryd.pinned (.plain (OpenSpec.ofChange headBuiltSpec)) headBuiltCard

/-- THE TIED CARD OF 'frankinglaw11.HeadFolds'. -/
def headFoldsCard : Claim7 := { stood := { row := headFoldsRow, standIns := [], harness := (true, "22810d354c907bb48a9514ed01b39fd6de685e2a790deb05b4d0cdaaa906b65f"), looks := false }, kinds := [], alts := [], laidByText := true, laidKinds := [.data, .pinned], laidTests := true, laidLooks := .later }
def HeadFoldsCardSaid : Prop := Claim7.holds Tryd.pinned (.plain (OpenSpec.ofChange headFoldsSpec)) headFoldsCard

/-- THE SECOND FORM's CARD OF 'frankinglaw11.HeadParts'. -/
def headPartsUptoCard : Claim7 := { stood := { row := headPartsUptoRow, standIns := [], harness := (true, "22810d354c907bb48a9514ed01b39fd6de685e2a790deb05b4d0cdaaa906b65f"), looks := false }, kinds := [], alts := [], laidByText := true, laidKinds := [.data, .pinned], laidTests := true, laidLooks := .later }
def HeadPartsUptoCardSaid : Prop := Claim7.holds Tryd.pinned (.plain (OpenSpec.upto headPartsSpec)) headPartsUptoCard

/-- THE SECOND FORM's CARD OF 'frankinglaw11.HeadBuilt'. -/
def headBuiltUptoCard : Claim7 := { stood := { row := headBuiltUptoRow, standIns := [], harness := (true, "22810d354c907bb48a9514ed01b39fd6de685e2a790deb05b4d0cdaaa906b65f"), looks := false }, kinds := [], alts := [], laidByText := true, laidKinds := [.data, .pinned], laidTests := true, laidLooks := .later }
def HeadBuiltUptoCardSaid : Prop := Claim7.holds Tryd.pinned (.plain (OpenSpec.upto headBuiltSpec)) headBuiltUptoCard

/-- THE SECOND FORM's CARD OF 'frankinglaw11.HeadFolds'. -/
def headFoldsUptoCard : Claim7 := { stood := { row := headFoldsUptoRow, standIns := [], harness := (true, "22810d354c907bb48a9514ed01b39fd6de685e2a790deb05b4d0cdaaa906b65f"), looks := false }, kinds := [], alts := [], laidByText := true, laidKinds := [.data, .pinned], laidTests := true, laidLooks := .later }
def HeadFoldsUptoCardSaid : Prop := Claim7.holds Tryd.pinned (.plain (OpenSpec.upto headFoldsSpec)) headFoldsUptoCard
end Rows
end Go.Proofs.YtcigfmnkfelhjaaDoor
