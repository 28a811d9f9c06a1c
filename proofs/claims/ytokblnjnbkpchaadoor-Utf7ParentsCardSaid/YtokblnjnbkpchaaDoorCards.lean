/-
  DERIVED. GIVEN WITH THE SEED: THE CARDS: each row of YtokblnjnbkpchaaDoorRows.lean that lists a variable, with what it lists TIED to the program's text (the seventh form; the later family's looks); each row that meets fmt, with fmt's text TOLD by the authors' own Lean function (tested against real Go, not proved from fmt's source: count such statements apart). THE CARD IS WHAT COUNTS. Prove the row's statement (the work); the ties are given (YtokblnjnbkpchaaDoorTie.lean); close each card by the builder's one call (the guide's Derived/Test/ToyasCard.lean, 'card_holds'). Laid BY PROGRAM, IN A SANDBOX (cutbox-door.mjs). By AI agents, Wed Nov 11 2026. No macro, syntax, notation, axiom, sorry.
-/
import Derived.Test.YtokblnjnbkpchaaDoorRows
import GoSem.ClaimSeven
namespace Go.Proofs.YtokblnjnbkpchaaDoor
namespace Rows

/-- THE TIED CARD OF 'frankinglaw8.Utf7Stars'. -/
def utf7StarsCard : Claim7 := { stood := { row := utf7StarsRow, standIns := [], harness := (true, "377ead611ebb224a3613cad126d0bf97ad276d5d9ad6d0295af6afce141e306f"), looks := false }, kinds := [], alts := [], laidByText := true, laidKinds := [.data, .pinned], laidTests := true, laidLooks := .later }
def Utf7StarsCardSaid : Prop := Claim7.holds Tryd.pinned (.plain (OpenSpec.ofChange utf7StarsSpec)) utf7StarsCard

/-- THE TIED CARD OF 'frankinglaw8.Utf7Parents'. -/
def utf7ParentsCard : Claim7 := { stood := { row := utf7ParentsRow, standIns := [], harness := (true, "377ead611ebb224a3613cad126d0bf97ad276d5d9ad6d0295af6afce141e306f"), looks := false }, kinds := [], alts := [], laidByText := true, laidKinds := [.data, .pinned], laidTests := true, laidLooks := .later }
def Utf7ParentsCardSaid : Prop := Claim7.holds Tryd.pinned (.plain (OpenSpec.ofChange utf7ParentsSpec)) utf7ParentsCard

/-- THE SECOND FORM's CARD OF 'frankinglaw8.Utf7Stars'. -/
def utf7StarsUptoCard : Claim7 := { stood := { row := utf7StarsUptoRow, standIns := [], harness := (true, "377ead611ebb224a3613cad126d0bf97ad276d5d9ad6d0295af6afce141e306f"), looks := false }, kinds := [], alts := [], laidByText := true, laidKinds := [.data, .pinned], laidTests := true, laidLooks := .later }
def Utf7StarsUptoCardSaid : Prop := Claim7.holds Tryd.pinned (.plain (OpenSpec.upto utf7StarsSpec)) utf7StarsUptoCard

/-- THE SECOND FORM's CARD OF 'frankinglaw8.Utf7Parents'. -/
def utf7ParentsUptoCard : Claim7 := { stood := { row := utf7ParentsUptoRow, standIns := [], harness := (true, "377ead611ebb224a3613cad126d0bf97ad276d5d9ad6d0295af6afce141e306f"), looks := false }, kinds := [], alts := [], laidByText := true, laidKinds := [.data, .pinned], laidTests := true, laidLooks := .later }
def Utf7ParentsUptoCardSaid : Prop := Claim7.holds Tryd.pinned (.plain (OpenSpec.upto utf7ParentsSpec)) utf7ParentsUptoCard
end Rows
end Go.Proofs.YtokblnjnbkpchaaDoor
