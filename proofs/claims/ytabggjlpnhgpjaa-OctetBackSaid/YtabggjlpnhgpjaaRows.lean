/-
  No cell of these rows narrows 'for every input' (looked for: loops, veiled, ifaces, maps, wideKeys, modest, calm, conditions, laid).
  DERIVED. THE GIVEN ROWS OF THIS SEAT. 4 by the template 'for every input the law returns true; each argument reads behind the call as it read before'; 0 by the template 'total and deterministic' (their statements: YtabggjlpnhgpjaaTotals.lean).
  GIVEN WITH THE SEED: the statements are not yours to turn. If you find one false, say at which input.
  Laid BY PROGRAM, IN A SANDBOX (cutbox-rows.mjs): the forced cells as the released guide's own fill.sh prints them over the translation 71ea1adf4f043cb2… (all of the seat's roots in one cut). By AI agents, Wed Nov 11 2026. No macro, syntax, notation, axiom, sorry.
-/
import Derived.Test.YtabggjlpnhgpjaaChecked
import GoSem.Claim
import GoSem.ClaimJoined
import GoSem.ClaimMapViews
import Derived.JoinedTies
import Derived.KernelRfl
namespace Go.Proofs.Ytabggjlpnhgpjaa
/- THE CELL 'sum', in the pinned program and in every row, IS THE sha256 OF THE DUMP (.gsa) THAT YtabggjlpnhgpjaaProg.lean LOADS. Nothing in Lean hashes anything: it is a label: what it is worth is what the hold of that sum in a sandbox is worth. -/
noncomputable def Try.pinned : Pinned := { name := "ytabggjlpnhgpjaa", sum := "71ea1adf4f043cb2f14d84ad078f6c2f74635f4a05481a324576c830d37eb77d", checked := Try.checked }
namespace Rows
def none {H : Type} : Left H := { results := [], args := [] }

/-- 'frankinglaw1.OctetBack': WHATEVER THE INPUT: true; the input reads as it did. -/
def octetBackSpec : ChangeSpec := { name := "octetBack", fn := fun _ => fun
  | [d1, d2] => { results := [.lit (.bool true)], args := [d1, d2] }
  | _ => none }
def octetBackRow : OpenClaim := { program := "ytabggjlpnhgpjaa", sum := "71ea1adf4f043cb2f14d84ad078f6c2f74635f4a05481a324576c830d37eb77d", func := "franking/frankinglaw1.OctetBack", spec := "octetBack", inPlace := ["internal/abi.NoEscape", "internal/bytealg.IndexByte", "internal/bytealg.Index"], named := ["internal/bytealg.MaxLen"], apart := false }
def OctetBackSaid : Prop := octetBackRow.holds Try.pinned (OpenSpec.ofChange octetBackSpec)

/-- ITS FALSE NEIGHBOUR: 'it returns false'. Refute it at one input. -/
def octetBackWrong : ChangeSpec := { name := "octetBack", fn := fun _ => fun
  | [d1, d2] => { results := [.lit (.bool false)], args := [d1, d2] }
  | _ => none }
def OctetBackWrongFalsely : Prop := octetBackRow.holds Try.pinned (OpenSpec.ofChange octetBackWrong)

/-- 'frankinglaw1.OctetAtoms': WHATEVER THE INPUT: true; the input reads as it did. -/
def octetAtomsSpec : ChangeSpec := { name := "octetAtoms", fn := fun _ => fun
  | [d] => { results := [.lit (.bool true)], args := [d] }
  | _ => none }
def octetAtomsRow : OpenClaim := { program := "ytabggjlpnhgpjaa", sum := "71ea1adf4f043cb2f14d84ad078f6c2f74635f4a05481a324576c830d37eb77d", func := "franking/frankinglaw1.OctetAtoms", spec := "octetAtoms", inPlace := ["internal/abi.NoEscape"], apart := false }
def OctetAtomsSaid : Prop := octetAtomsRow.holds Try.pinned (OpenSpec.ofChange octetAtomsSpec)

/-- ITS FALSE NEIGHBOUR: 'it returns false'. Refute it at one input. -/
def octetAtomsWrong : ChangeSpec := { name := "octetAtoms", fn := fun _ => fun
  | [d] => { results := [.lit (.bool false)], args := [d] }
  | _ => none }
def OctetAtomsWrongFalsely : Prop := octetAtomsRow.holds Try.pinned (OpenSpec.ofChange octetAtomsWrong)

/-- 'frankinglaw1.OctetLines': WHATEVER THE INPUT: true; the input reads as it did. -/
def octetLinesSpec : ChangeSpec := { name := "octetLines", fn := fun _ => fun
  | [d1, d2] => { results := [.lit (.bool true)], args := [d1, d2] }
  | _ => none }
def octetLinesRow : OpenClaim := { program := "ytabggjlpnhgpjaa", sum := "71ea1adf4f043cb2f14d84ad078f6c2f74635f4a05481a324576c830d37eb77d", func := "franking/frankinglaw1.OctetLines", spec := "octetLines", inPlace := ["internal/abi.NoEscape", "internal/bytealg.IndexByte", "internal/bytealg.Index"], named := ["internal/bytealg.MaxLen"], apart := false }
def OctetLinesSaid : Prop := octetLinesRow.holds Try.pinned (OpenSpec.ofChange octetLinesSpec)

/-- ITS FALSE NEIGHBOUR: 'it returns false'. Refute it at one input. -/
def octetLinesWrong : ChangeSpec := { name := "octetLines", fn := fun _ => fun
  | [d1, d2] => { results := [.lit (.bool false)], args := [d1, d2] }
  | _ => none }
def OctetLinesWrongFalsely : Prop := octetLinesRow.holds Try.pinned (OpenSpec.ofChange octetLinesWrong)

/-- 'frankinglaw2.QueueKnown': WHATEVER THE INPUT: true; the input reads as it did. -/
def queueKnownSpec : ChangeSpec := { name := "queueKnown", fn := fun _ => fun
  | [] => { results := [.lit (.bool true)], args := [] }
  | _ => none }
def queueKnownRow : OpenClaim := { program := "ytabggjlpnhgpjaa", sum := "71ea1adf4f043cb2f14d84ad078f6c2f74635f4a05481a324576c830d37eb77d", func := "franking/frankinglaw2.QueueKnown", spec := "queueKnown", apart := false }
def QueueKnownSaid : Prop := queueKnownRow.holds Try.pinned (OpenSpec.ofChange queueKnownSpec)

/-- ITS FALSE NEIGHBOUR: 'it returns false'. Refute it at one input. -/
def queueKnownWrong : ChangeSpec := { name := "queueKnown", fn := fun _ => fun
  | [] => { results := [.lit (.bool false)], args := [] }
  | _ => none }
def QueueKnownWrongFalsely : Prop := queueKnownRow.holds Try.pinned (OpenSpec.ofChange queueKnownWrong)

/- THE SECOND FORM. 'bulk': how many values and letters a reading holds, each counted each time it is reached (what is shared counts as often as it is met; a slice's spare places count too). A statement '..UptoSaid' is the law's where the arguments, and the package variables that the reading takes, are together of bulk at most 1048576: NARROWER than '..Said'. Prove '..Said' where nothing that the law and all that it calls make is longer than what came in: it says more and counts as full. Else prove '..UptoSaid'. A law counts once. -/
mutual
def uptoBulk {H : Type} : DataW H → Nat
  | .lit (.string bytes) => bytes.length + 1
  | .lit _ => 1
  | .nil => 1
  | .ptr d => uptoBulk d + 1
  | .slice elems spare => uptoBulkAll elems + uptoBulkAll spare + 1
  | .agg parts => uptoBulkAll parts + 1
  | .iface _ d => uptoBulk d + 1
  | .map entries => uptoBulkEntries entries + 1
  | .held _ => 1
def uptoBulkAll {H : Type} : List (DataW H) → Nat
  | [] => 0
  | d :: r => uptoBulk d + uptoBulkAll r
def uptoBulkEntries {H : Type} : List (Lit × DataW H) → Nat
  | [] => 0
  | x :: r => uptoBulkEntry x + uptoBulkEntries r
def uptoBulkEntry {H : Type} : Lit × DataW H → Nat
  | (.string bytes, d) => bytes.length + uptoBulk d + 1
  | (_, d) => uptoBulk d + 1
 end
def uptoSmall : (H : Type) → List (DataW H) → Bool := fun _ ds => decide (uptoBulkAll ds ≤ 1048576)
def OpenSpec.upto (s : _root_.Go.ChangeSpec) : _root_.Go.OpenSpec := { _root_.Go.OpenSpec.ofChange s with cond := some uptoSmall }

/-- 'frankinglaw1.OctetBack', WHERE WHAT IT READS IS OF BULK AT MOST 1048576: true; the input reads as it did. -/
def octetBackUptoRow : OpenClaim := { program := "ytabggjlpnhgpjaa", sum := "71ea1adf4f043cb2f14d84ad078f6c2f74635f4a05481a324576c830d37eb77d", func := "franking/frankinglaw1.OctetBack", spec := "octetBack", inPlace := ["internal/abi.NoEscape", "internal/bytealg.IndexByte", "internal/bytealg.Index"], named := ["internal/bytealg.MaxLen"], apart := false, narrowed := true }
def OctetBackUptoSaid : Prop := octetBackUptoRow.holds Try.pinned (OpenSpec.upto octetBackSpec)

/-- 'frankinglaw1.OctetAtoms', WHERE WHAT IT READS IS OF BULK AT MOST 1048576: true; the input reads as it did. -/
def octetAtomsUptoRow : OpenClaim := { program := "ytabggjlpnhgpjaa", sum := "71ea1adf4f043cb2f14d84ad078f6c2f74635f4a05481a324576c830d37eb77d", func := "franking/frankinglaw1.OctetAtoms", spec := "octetAtoms", inPlace := ["internal/abi.NoEscape"], apart := false, narrowed := true }
def OctetAtomsUptoSaid : Prop := octetAtomsUptoRow.holds Try.pinned (OpenSpec.upto octetAtomsSpec)

/-- 'frankinglaw1.OctetLines', WHERE WHAT IT READS IS OF BULK AT MOST 1048576: true; the input reads as it did. -/
def octetLinesUptoRow : OpenClaim := { program := "ytabggjlpnhgpjaa", sum := "71ea1adf4f043cb2f14d84ad078f6c2f74635f4a05481a324576c830d37eb77d", func := "franking/frankinglaw1.OctetLines", spec := "octetLines", inPlace := ["internal/abi.NoEscape", "internal/bytealg.IndexByte", "internal/bytealg.Index"], named := ["internal/bytealg.MaxLen"], apart := false, narrowed := true }
def OctetLinesUptoSaid : Prop := octetLinesUptoRow.holds Try.pinned (OpenSpec.upto octetLinesSpec)

/-- 'frankinglaw2.QueueKnown', WHERE WHAT IT READS IS OF BULK AT MOST 1048576: true; the input reads as it did. -/
def queueKnownUptoRow : OpenClaim := { program := "ytabggjlpnhgpjaa", sum := "71ea1adf4f043cb2f14d84ad078f6c2f74635f4a05481a324576c830d37eb77d", func := "franking/frankinglaw2.QueueKnown", spec := "queueKnown", apart := false, narrowed := true }
def QueueKnownUptoSaid : Prop := queueKnownUptoRow.holds Try.pinned (OpenSpec.upto queueKnownSpec)

end Rows
end Go.Proofs.Ytabggjlpnhgpjaa
