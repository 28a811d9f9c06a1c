/-
  DERIVED. GIVEN WITH THE SEED: THE CARDS: each row of YtbjcbenoapechaaDoorRows.lean that lists a variable, with what it lists TIED to the program's text (the seventh form; the later family's looks); each row that meets fmt, with fmt's text TOLD by the authors' own Lean function (tested against real Go, not proved from fmt's source: count such statements apart). THE CARD IS WHAT COUNTS. Prove the row's statement (the work); the ties are given (YtbjcbenoapechaaDoorTie.lean); close each card by the builder's one call (the guide's Derived/Test/ToyasCard.lean, 'card_holds'). Laid BY PROGRAM, IN A SANDBOX (cutbox-door.mjs). By AI agents, Wed Nov 11 2026. No macro, syntax, notation, axiom, sorry.
-/
import Derived.Test.YtbjcbenoapechaaDoorRows
import GoSem.ClaimSeven
namespace Go.Proofs.YtbjcbenoapechaaDoor
namespace Rows

/-- THE TIED CARD OF 'frankinglaw19.FlagKnown'. -/
def flagKnownCard : Claim7 := { stood := { row := flagKnownRow, standIns := [], harness := (true, "ba7e0775d7258b8373e1eb338c2495ca2e5db02ecd40ca4995573fb4e140b853"), looks := false }, kinds := [], alts := [], laidByText := true, laidKinds := [.data, .pinned], laidTests := true, laidLooks := .later }
def FlagKnownCardSaid : Prop := Claim7.holds Tryd.pinned (.plain (OpenSpec.ofChange flagKnownSpec)) flagKnownCard

/-- THE TIED CARD OF 'frankinglaw12.AddrKnown'. -/
def addrKnownCard : Claim7 := { stood := { row := addrKnownRow, standIns := [], harness := (true, "ba7e0775d7258b8373e1eb338c2495ca2e5db02ecd40ca4995573fb4e140b853"), looks := false }, kinds := [], alts := [], laidByText := true, laidKinds := [.data, .data, .data, .data, .pinned], laidTests := true, laidLooks := .later }
def AddrKnownCardSaid : Prop := Claim7.holds Tryd.pinned (.plain (OpenSpec.ofChange addrKnownSpec)) addrKnownCard

/-- THE TIED CARD OF 'frankinglaw8.Utf7Known'. -/
def utf7KnownCard : Claim7 := { stood := { row := utf7KnownRow, standIns := [], harness := (true, "ba7e0775d7258b8373e1eb338c2495ca2e5db02ecd40ca4995573fb4e140b853"), looks := false }, kinds := [], alts := [], laidByText := true, laidKinds := [.data, .pinned], laidTests := true, laidLooks := .later }
def Utf7KnownCardSaid : Prop := Claim7.holds Tryd.pinned (.plain (OpenSpec.ofChange utf7KnownSpec)) utf7KnownCard

/-- THE TIED CARD OF 'frankinglaw14.PartKnown'. -/
def partKnownCard : Claim7 := { stood := { row := partKnownRow, standIns := [], harness := (true, "ba7e0775d7258b8373e1eb338c2495ca2e5db02ecd40ca4995573fb4e140b853"), looks := false }, kinds := [], alts := [], laidByText := true, laidKinds := [.data, .pinned], laidTests := true, laidLooks := .later }
def PartKnownCardSaid : Prop := Claim7.holds Tryd.pinned (.plain (OpenSpec.ofChange partKnownSpec)) partKnownCard

/-- THE SECOND FORM's CARD OF 'frankinglaw19.FlagKnown'. -/
def flagKnownUptoCard : Claim7 := { stood := { row := flagKnownUptoRow, standIns := [], harness := (true, "ba7e0775d7258b8373e1eb338c2495ca2e5db02ecd40ca4995573fb4e140b853"), looks := false }, kinds := [], alts := [], laidByText := true, laidKinds := [.data, .pinned], laidTests := true, laidLooks := .later }
def FlagKnownUptoCardSaid : Prop := Claim7.holds Tryd.pinned (.plain (OpenSpec.upto flagKnownSpec)) flagKnownUptoCard

/-- THE SECOND FORM's CARD OF 'frankinglaw12.AddrKnown'. -/
def addrKnownUptoCard : Claim7 := { stood := { row := addrKnownUptoRow, standIns := [], harness := (true, "ba7e0775d7258b8373e1eb338c2495ca2e5db02ecd40ca4995573fb4e140b853"), looks := false }, kinds := [], alts := [], laidByText := true, laidKinds := [.data, .data, .data, .data, .pinned], laidTests := true, laidLooks := .later }
def AddrKnownUptoCardSaid : Prop := Claim7.holds Tryd.pinned (.plain (OpenSpec.upto addrKnownSpec)) addrKnownUptoCard

/-- THE SECOND FORM's CARD OF 'frankinglaw8.Utf7Known'. -/
def utf7KnownUptoCard : Claim7 := { stood := { row := utf7KnownUptoRow, standIns := [], harness := (true, "ba7e0775d7258b8373e1eb338c2495ca2e5db02ecd40ca4995573fb4e140b853"), looks := false }, kinds := [], alts := [], laidByText := true, laidKinds := [.data, .pinned], laidTests := true, laidLooks := .later }
def Utf7KnownUptoCardSaid : Prop := Claim7.holds Tryd.pinned (.plain (OpenSpec.upto utf7KnownSpec)) utf7KnownUptoCard

/-- THE SECOND FORM's CARD OF 'frankinglaw14.PartKnown'. -/
def partKnownUptoCard : Claim7 := { stood := { row := partKnownUptoRow, standIns := [], harness := (true, "ba7e0775d7258b8373e1eb338c2495ca2e5db02ecd40ca4995573fb4e140b853"), looks := false }, kinds := [], alts := [], laidByText := true, laidKinds := [.data, .pinned], laidTests := true, laidLooks := .later }
def PartKnownUptoCardSaid : Prop := Claim7.holds Tryd.pinned (.plain (OpenSpec.upto partKnownSpec)) partKnownUptoCard
end Rows
end Go.Proofs.YtbjcbenoapechaaDoor
