/- The walk of WalKnown, run by the abstract machine in pieces: the closed statement answers true, whatever the memory. -/
import Derived.Test.YteeabadldfkdiaaDoorWalE1
import Derived.Test.YteeabadldfkdiaaDoorWalE2
import Derived.Test.YteeabadldfkdiaaDoorWalE3
namespace Go.Proofs.YteeabadldfkdiaaDoor
open Go.RowKit Go.Proofs.YteeabadldfkdiaaDoor.Am
set_option maxRecDepth 100000
theorem wkp3 {n0 : Nat} : Pc wkGl 128 64 n0 wkstart wkc0 .normal wkk1 := Pc.run wkMix wkRa wkRok wke2
theorem wkp13 {n0 : Nat} : Pc wkGl 81 64 n0 wkk8 wkc10 .normal wkk11 := Pc.run wkMix wkRa wkRok wke12
theorem wkp19 {n0 : Nat} : Pc wkGl 81 64 n0 wkk11 wkc16 .normal wkk17 := Pc.run wkMix wkRa wkRok wke18
theorem wkp25 {n0 : Nat} : Pc wkGl 81 64 n0 wkk17 wkc22 .normal wkk23 := Pc.run wkMix wkRa wkRok wke24
theorem wkp30 {n0 : Nat} : Pc wkGl 81 64 n0 wkk23 wkc27 .ret wkk28 := Pc.run wkMix wkRa wkRok wke29
theorem wkp26 {n0 : Nat} : Pc wkGl 81 64 n0 wkk17 wkc21 .ret wkk28 := Pc.seq (a := wkc22) (b := wkc27) (by kernel_rfl) wkp25 wkp30
theorem wkp20 {n0 : Nat} : Pc wkGl 81 64 n0 wkk11 wkc15 .ret wkk28 := Pc.seq (a := wkc16) (b := wkc21) (by kernel_rfl) wkp19 wkp26
theorem wkp14 {n0 : Nat} : Pc wkGl 81 64 n0 wkk8 wkc9 .ret wkk28 := Pc.seq (a := wkc10) (b := wkc15) (by kernel_rfl) wkp13 wkp20
theorem wkp31 {n0 : Nat} : PCall wkGl 64 n0 5 [] wkk1.fams wkk1.next (.bool true) wkk28.fams wkk28.next := PCall.of (fn := Tryd.f5) (c := wkc9) (nt := 81) (ck := wkk28) (vs := [.bool true]) Tryd.func5 (by kernel_rfl) (by kernel_rfl) (show Pc wkGl 81 64 n0 wkk8 wkc9 .ret wkk28 from wkp14) (by first | exact .inl rfl | exact .inr rfl) (by kernel_rfl) (by kernel_rfl)
theorem wkp35 {n0 : Nat} : Pc wkGl 128 64 n0 wkk1 wkc7 .normal wkk33 := Pc.region (id := idC wkc7) (ops := opsC wkc7) (by kernel_rfl) (n := 2) (by kernel_rfl) (Ps.call (o := opC (opsC wkc7) 0) (f := 5) (args := []) (v := .bool true) (d := 19) (lv := [0, 19]) (live' := wkk32.live) (k := 1) (by kernel_rfl) (by kernel_rfl) (by kernel_rfl) (by kernel_rfl) (by kernel_rfl) (by kernel_rfl) wkp31 (by kernel_rfl) (ck1 := wkk32) rfl (Ps.cons wkRa wkRok (n := 1) (k := 0) wke34 Ps.nil))
theorem wkp40 {n0 : Nat} : Pc wkGl 128 64 n0 wkk33 wkc37 .normal wkk38 := Pc.run wkMix wkRa wkRok wke39
theorem wkp36 {n0 : Nat} : Pc wkGl 128 64 n0 wkk1 wkc6 .normal wkk38 := Pc.seq (a := wkc7) (b := wkc37) (by kernel_rfl) wkp35 wkp40
theorem wkp46 {n0 : Nat} : Pc wkGl 128 64 n0 wkk38 wkc43 .normal wkk44 := Pc.run wkMix wkRa wkRok wke45
theorem wkp52 {n0 : Nat} : Pc wkGl 128 64 n0 wkk44 wkc49 .normal wkk50 := Pc.run wkMix wkRa wkRok wke51
theorem wkp58 {n0 : Nat} : Pc wkGl 128 64 n0 wkk50 wkc55 .normal wkk56 := Pc.run wkMix wkRa wkRok wke57
theorem wkp64 {n0 : Nat} : Pc wkGl 128 64 n0 wkk56 wkc61 .normal wkk62 := Pc.run wkMix wkRa wkRok wke63
theorem wkp70 {n0 : Nat} : Pc wkGl 128 64 n0 wkk62 wkc67 .normal wkk68 := Pc.run wkMix wkRa wkRok wke69
theorem wkp76 {n0 : Nat} : Pc wkGl 128 64 n0 wkk68 wkc73 .normal wkk74 := Pc.run wkMix wkRa wkRok wke75
theorem wkp81 {n0 : Nat} : Pc wkGl 128 64 n0 wkk74 wkc78 .ret wkk79 := Pc.run wkMix wkRa wkRok wke80
theorem wkp77 {n0 : Nat} : Pc wkGl 128 64 n0 wkk68 wkc72 .ret wkk79 := Pc.seq (a := wkc73) (b := wkc78) (by kernel_rfl) wkp76 wkp81
theorem wkp71 {n0 : Nat} : Pc wkGl 128 64 n0 wkk62 wkc66 .ret wkk79 := Pc.seq (a := wkc67) (b := wkc72) (by kernel_rfl) wkp70 wkp77
theorem wkp65 {n0 : Nat} : Pc wkGl 128 64 n0 wkk56 wkc60 .ret wkk79 := Pc.seq (a := wkc61) (b := wkc66) (by kernel_rfl) wkp64 wkp71
theorem wkp59 {n0 : Nat} : Pc wkGl 128 64 n0 wkk50 wkc54 .ret wkk79 := Pc.seq (a := wkc55) (b := wkc60) (by kernel_rfl) wkp58 wkp65
theorem wkp53 {n0 : Nat} : Pc wkGl 128 64 n0 wkk44 wkc48 .ret wkk79 := Pc.seq (a := wkc49) (b := wkc54) (by kernel_rfl) wkp52 wkp59
theorem wkp47 {n0 : Nat} : Pc wkGl 128 64 n0 wkk38 wkc42 .ret wkk79 := Pc.seq (a := wkc43) (b := wkc48) (by kernel_rfl) wkp46 wkp53
theorem wkp41 {n0 : Nat} : Pc wkGl 128 64 n0 wkk1 wkc5 .ret wkk79 := Pc.seq (a := wkc6) (b := wkc42) (by kernel_rfl) wkp36 wkp47
theorem wkp4 {n0 : Nat} : Pc wkGl 128 64 n0 wkstart wkt0 .ret wkk79 := Pc.seq (a := wkc0) (b := wkc5) (by kernel_rfl) wkp3 wkp41
theorem wkAll (n0 : Nat) : Pc wkGl 128 64 n0 (ck0 wkGs 64) wkt0 .ret wkk79 := wkp4
theorem wkPieces (w : World) (ha : GAll w wkGs) : Calls Tryd.prog 3 #[] w fun e w' => e = .returned (.bool true) ∧ Below w.heap.size w w' := known_pieces (fn := Tryd.f3) (c := wkt0) (ck := wkk79) Tryd.func3 (by kernel_rfl) (by kernel_rfl) wkAll (by first | exact .inl rfl | exact .inr rfl) (by kernel_rfl) w ha
theorem gAt_nts {P : Program} {w : World} {g : Nat} {name : String} {k : IntKind} (l : List Nat) (cs : List AV) (hcs : cs = l.map fun n => .int k (.ofNat n)) (h0 : 0 < l.length) (h : Lib.TabIs P w name k (l.map Int.ofNat)) (hg : P.globalNamed name = some g) : GAt w g cs := by
  have hc : ∀ i, i < l.length → w.cell? ⟨g, i, none⟩ = some (.int k (Int.ofNat l[i]!)) := fun i hi => by
    have h1 := Lib.TabIs.cell h hg i (by simpa using hi)
    rw [h1]
    simp [hi]
  have key : ∃ arr et fz, w.heap[g]? = some (.cells arr et fz) := by
    have h1 := hc 0 h0
    unfold World.cell? at h1
    split at h1
    · rename_i c et fz hc
      exact ⟨c, et, fz, hc⟩
    · cases h1
  obtain ⟨arr, et, fz, hb⟩ := key
  refine ⟨arr, et, fz, hb, fun i a ha => ?_⟩
  subst hcs
  rw [List.getElem?_map] at ha
  cases hl : l[i]? with
  | none => rw [hl] at ha; cases ha
  | some n =>
    rw [hl] at ha
    injection ha with ha
    subst ha
    obtain ⟨hi, hn⟩ := List.getElem?_eq_some_iff.1 hl
    have h2 := hc i hi
    have h3 : w.cell? ⟨g, i, none⟩ = arr[i]? := by simp [World.cell?, hb]
    rw [h3] at h2
    refine ⟨_, h2, ?_⟩
    have h4 : l[i]! = n := by simp [hi, hn]
    rw [h4]
    exact .int _ _
theorem gAll_cons {w : World} {g : Nat} {cs : List AV} {r : List (Nat × List AV)} (h1 : GAt w g cs) (h2 : GAll w r) : GAll w ((g, cs) :: r) := by
  intro g2 cs2 h
  simp only [gLook] at h
  cases hb : Nat.beq g g2 with
  | true =>
    rw [hb] at h
    have := Nat.eq_of_beq_eq_true hb
    subst this
    injection h with h
    subst h
    exact h1
  | false => rw [hb] at h; exact h2 g2 cs2 h
theorem gAll_nil {w : World} : GAll w [] := fun g cs h => by cases h
theorem wkWalk (w : World) (ht1 : Lib.TabIs Tryd.prog w "franking/crc.steps" .u32 wkT1) (_ : 1 < w.heap.size) : Calls Tryd.prog 3 #[] w fun e w' => e = .returned (.bool true) ∧ Below w.heap.size w w' :=
  wkPieces w (gAll_cons (gAt_nts wkL1 wkV1 (by kernel_rfl) (by decide) ht1 (by kernel_rfl)) (gAll_nil))
end Go.Proofs.YteeabadldfkdiaaDoor
