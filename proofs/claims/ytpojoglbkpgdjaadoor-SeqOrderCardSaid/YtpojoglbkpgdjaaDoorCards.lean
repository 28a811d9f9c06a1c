/-
  DERIVED. GIVEN WITH THE SEED: THE CARDS: each row of YtpojoglbkpgdjaaDoorRows.lean that lists a variable, with what it lists TIED to the program's text (the seventh form; the later family's looks); each row that meets fmt, with fmt's text TOLD by the authors' own Lean function (tested against real Go, not proved from fmt's source: count such statements apart). THE CARD IS WHAT COUNTS. Prove the row's statement (the work); the ties are given (YtpojoglbkpgdjaaDoorTie.lean); close each card by the builder's one call (the guide's Derived/Test/ToyasCard.lean, 'card_holds'). Laid BY PROGRAM, IN A SANDBOX (cutbox-door.mjs). By AI agents, Wed Nov 11 2026. No macro, syntax, notation, axiom, sorry.
-/
import Derived.Test.YtpojoglbkpgdjaaDoorRows
import GoSem.ClaimSeven
namespace Go.Proofs.YtpojoglbkpgdjaaDoor
namespace Rows

/-- THE TIED CARD OF 'frankinglaw9.SeqOrder'. -/
def seqOrderCard : Claim7 := { stood := { row := seqOrderRow, standIns := [], harness := (true, "1f785619ccb4114e9b63065c7654f0179899de11912f443247ec48a98e9ca13a"), looks := false }, kinds := [], alts := [], laidByText := true, laidKinds := [.data, .data, .data, .data, .pinned], laidTests := true, laidLooks := .later }
def SeqOrderCardSaid : Prop := Claim7.holds Tryd.pinned (.plain (OpenSpec.ofChange seqOrderSpec)) seqOrderCard

/-- THE TIED CARD OF 'frankinglaw9.SeqAll'. -/
def seqAllCard : Claim7 := { stood := { row := seqAllRow, standIns := [], harness := (true, "1f785619ccb4114e9b63065c7654f0179899de11912f443247ec48a98e9ca13a"), looks := false }, kinds := [], alts := [], laidByText := true, laidKinds := [.data, .data, .data, .data, .pinned], laidTests := true, laidLooks := .later }
def SeqAllCardSaid : Prop := Claim7.holds Tryd.pinned (.plain (OpenSpec.ofChange seqAllSpec)) seqAllCard

/-- THE SECOND FORM's CARD OF 'frankinglaw9.SeqOrder'. -/
def seqOrderUptoCard : Claim7 := { stood := { row := seqOrderUptoRow, standIns := [], harness := (true, "1f785619ccb4114e9b63065c7654f0179899de11912f443247ec48a98e9ca13a"), looks := false }, kinds := [], alts := [], laidByText := true, laidKinds := [.data, .data, .data, .data, .pinned], laidTests := true, laidLooks := .later }
def SeqOrderUptoCardSaid : Prop := Claim7.holds Tryd.pinned (.plain (OpenSpec.upto seqOrderSpec)) seqOrderUptoCard

/-- THE SECOND FORM's CARD OF 'frankinglaw9.SeqAll'. -/
def seqAllUptoCard : Claim7 := { stood := { row := seqAllUptoRow, standIns := [], harness := (true, "1f785619ccb4114e9b63065c7654f0179899de11912f443247ec48a98e9ca13a"), looks := false }, kinds := [], alts := [], laidByText := true, laidKinds := [.data, .data, .data, .data, .pinned], laidTests := true, laidLooks := .later }
def SeqAllUptoCardSaid : Prop := Claim7.holds Tryd.pinned (.plain (OpenSpec.upto seqAllSpec)) seqAllUptoCard
end Rows
end Go.Proofs.YtpojoglbkpgdjaaDoor
