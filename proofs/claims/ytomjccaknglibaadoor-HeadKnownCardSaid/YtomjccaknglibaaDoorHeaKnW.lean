/- The walk of HeadKnown, run by the abstract machine in pieces: the closed statement answers true, whatever the memory, where the library's variable MaxLen holds some int. -/
import Derived.Test.YtomjccaknglibaaDoorAm26
import Derived.Test.YtomjccaknglibaaDoorProg
import Derived.Test.YtomjccaknglibaaDoorShelf
import Derived.KernelRfl
namespace Go.Proofs.YtomjccaknglibaaDoor
open Go.RowKit Go.Proofs.YtomjccaknglibaaDoor.Am

def hdXs : List (Nat × Nat × Nat) := [(106, 1, 0), (111, 2, 0), (85, 2, 0), (92, 3, 0), (107, 4, 5)]
theorem hdXsOK : xtAll Tryd.prog hdXs :=
  ⟨⟨by kernel_rfl, says1 (by kernel_rfl)⟩, ⟨by kernel_rfl, says2 (by kernel_rfl)⟩, ⟨by kernel_rfl, says2 (by kernel_rfl)⟩, ⟨by kernel_rfl, says3 (by kernel_rfl)⟩, ⟨by kernel_rfl, says4 #[3] 35 (by kernel_rfl) (by kernel_rfl)⟩, trivial⟩
def hdV0 : List AV := [.unk .i64]
def hdGs : List (Nat × List AV) := [(0, hdV0)]
noncomputable def hdOver (f : FuncId) : Option (List AV → AH → Option (AV × AH)) := cond (Nat.beq f 37) (some (ovIndex 0)) (cond (Nat.beq f 69) (some (ovIndexS 0)) (none))
theorem hdCon : IdxCon Tryd.prog 37 0 := {
  none p q n c d w := Tryd.bytes_Index_none p q n c d w
  nil p2 k c2 w h1 h2 := Tryd.bytes_Index_nil p2 k c2 w h1 h2
  full a1 a2 n c1 k c2 xs ys m w hx hy h1 h2 h3 h4 h5 h6 h7 h8 := (Tryd.bytes_Index_at a1 a2 n c1 k c2 xs ys m w hx hy h1 h2 h3 h4 h5 h6 h7 h8).mono fun e w' ⟨he, q, hq⟩ => ⟨he, by rw [hq]; rfl⟩ }
theorem hdConS : IdxConS Tryd.prog 69 0 := fun s t m w hs hm => Tryd.strings_Index s t m w hs hm
noncomputable def hdGl : Gl Tryd.prog := Gl.mkG Tryd.prog hdGs hdXs hdXsOK
theorem hdOver_ok : OverOK Tryd.prog hdGl hdOver := by
  intro f g hf args h v h' e
  unfold hdOver at hf
  cases h_ovIndex : Nat.beq f 37 with
  | true =>
    have := Nat.eq_of_beq_eq_true h_ovIndex
    subst this
    rw [h_ovIndex] at hf
    injection hf with hf
    subst hf
    exact ovIndex_ok hdCon rfl args h v h' e
  | false =>
    rw [h_ovIndex] at hf
    cases h_ovIndexS : Nat.beq f 69 with
    | true =>
      have := Nat.eq_of_beq_eq_true h_ovIndexS
      subst this
      rw [h_ovIndexS] at hf
      injection hf with hf
      subst hf
      exact ovIndexS_ok hdConS rfl args h v h' e
    | false =>
      rw [h_ovIndexS] at hf
      cases hf
theorem hdMix : Tryd.prog.follows .mixedOrders = true := by kernel_rfl
noncomputable def hdR : Rec := aRec Tryd.prog hdGl hdOver 1000000 1000000
theorem hdRa : RecAF hdR := (aCall_ok hdMix hdOver_ok 1000000 1000000).1
theorem hdRok : RecOK Tryd.prog hdGl hdR := (aCall_ok hdMix hdOver_ok 1000000 1000000).2
set_option maxRecDepth 100000
def hdG0 : CF := .row hdV0 1 true none
noncomputable def hdt0 : Code := bodyC Tryd.prog 4
noncomputable def hdstart : Ck := ck0 hdGs 64
noncomputable def hdc0 : Code := headC hdt0
def hdk1 : Ck := ⟨[(0, .bool false)], [(0, hdG0)], 64⟩
theorem hde2 : prC [0] [0] (aCode Tryd.prog hdGl hdR 1000000 hdc0 (Ck.st 116 64 hdstart)) = some (.normal, hdk1) := by kernel_rfl
theorem hdp3 {n0 : Nat} : Pc hdGl 116 64 n0 hdstart hdc0 .normal hdk1 := Pc.run hdMix hdRa hdRok hde2
noncomputable def hdc5 : Code := tailC hdt0
noncomputable def hdc6 : Code := headC hdc5
def hdk7 : Ck := ⟨[(0, .bool false)], [(0, hdG0)], 127⟩
theorem hde8 : prC [0] [0] (aCode Tryd.prog hdGl hdR 1000000 hdc6 (Ck.st 116 64 hdk1)) = some (.normal, hdk7) := by kernel_rfl
theorem hdp9 {n0 : Nat} : Pc hdGl 116 64 n0 hdk1 hdc6 .normal hdk7 := Pc.run hdMix hdRa hdRok hde8
noncomputable def hdc11 : Code := tailC hdc5
noncomputable def hdc12 : Code := headC hdc11
def hdF0 : CF := .row (bs [65, 58, 32, 49, 13, 10, 110, 111, 13, 10, 32, 109, 111, 114, 101, 13, 10, 66, 58, 32, 32, 50, 32, 13, 10, 9, 51, 13, 10, 65, 58, 32, 52, 13, 10, 67, 32, 100, 58, 32, 53, 13, 10, 13, 10, 68, 58, 32, 54, 13, 10]) 1 false (some 5)
def hdk13 : Ck := ⟨[(0, .bool false), (1, .sl 128 51 0 51 1 none)], [(0, hdG0), (128, hdF0)], 179⟩
theorem hde14 : prC [0, 1] [0, 128] (aCode Tryd.prog hdGl hdR 1000000 hdc12 (Ck.st 116 64 hdk7)) = some (.normal, hdk13) := by kernel_rfl
theorem hdp15 {n0 : Nat} : Pc hdGl 116 64 n0 hdk7 hdc12 .normal hdk13 := Pc.run hdMix hdRa hdRok hde14
noncomputable def hdc17 : Code := tailC hdc11
noncomputable def hdc18 : Code := headC hdc17
def hdF1 : CF := .row [.str [65], .str [49], .int .i64 (.ofNat 0), .int .i64 (.ofNat 6), .str [66], .str [50, 32, 9, 51], .int .i64 (.ofNat 17), .int .i64 (.ofNat 29), .str [65], .str [52], .int .i64 (.ofNat 29), .int .i64 (.ofNat 35)] 12 false (some 44)
def hdk19 : Ck := ⟨[(0, .bool false), (1, .sl 128 51 0 51 1 none), (2, .sl 215 12 0 3 4 none)], [(0, hdG0), (128, hdF0), (215, hdF1)], 236⟩
theorem hde20 : prC [0, 1, 2] [0, 128, 215] (aCode Tryd.prog hdGl hdR 1000000 hdc18 (Ck.st 116 64 hdk13)) = some (.normal, hdk19) := by kernel_rfl
theorem hdp21 {n0 : Nat} : Pc hdGl 116 64 n0 hdk13 hdc18 .normal hdk19 := Pc.run hdMix hdRa hdRok hde20
noncomputable def hdc23 : Code := tailC hdc17
noncomputable def hdc24 : Code := headC hdc23
def hdk25 : Ck := ⟨[(0, .bool false), (1, .sl 128 51 0 51 1 none), (2, .sl 215 12 0 3 4 none)], [(0, hdG0), (128, hdF0), (215, hdF1)], 236⟩
theorem hde26 : prC [0, 1, 2] [0, 128, 215] (aCode Tryd.prog hdGl hdR 1000000 hdc24 (Ck.st 116 64 hdk19)) = some (.normal, hdk25) := by kernel_rfl
theorem hdp27 {n0 : Nat} : Pc hdGl 116 64 n0 hdk19 hdc24 .normal hdk25 := Pc.run hdMix hdRa hdRok hde26
noncomputable def hdc29 : Code := tailC hdc23
noncomputable def hdc30 : Code := headC hdc29
def hdk31 : Ck := ⟨[(0, .bool false), (1, .sl 128 51 0 51 1 none), (2, .sl 215 12 0 3 4 none), (3, .str [49]), (4, .bool true)], [(0, hdG0), (128, hdF0), (215, hdF1)], 294⟩
theorem hde32 : prC [0, 1, 2, 3, 4] [0, 128, 215] (aCode Tryd.prog hdGl hdR 1000000 hdc30 (Ck.st 116 64 hdk25)) = some (.normal, hdk31) := by kernel_rfl
theorem hdp33 {n0 : Nat} : Pc hdGl 116 64 n0 hdk25 hdc30 .normal hdk31 := Pc.run hdMix hdRa hdRok hde32
noncomputable def hdc35 : Code := tailC hdc29
def hdk36 : Ck := ⟨[(0, .bool true)], [(0, hdG0)], 492⟩
theorem hde37 : prC [0] [0] (aCode Tryd.prog hdGl hdR 1000000 hdc35 (Ck.st 116 64 hdk31)) = some (.ret, hdk36) := by kernel_rfl
theorem hdp38 {n0 : Nat} : Pc hdGl 116 64 n0 hdk31 hdc35 .ret hdk36 := Pc.run hdMix hdRa hdRok hde37
theorem hdp34 {n0 : Nat} : Pc hdGl 116 64 n0 hdk25 hdc29 .ret hdk36 := Pc.seq (a := hdc30) (b := hdc35) (by kernel_rfl) hdp33 hdp38
theorem hdp28 {n0 : Nat} : Pc hdGl 116 64 n0 hdk19 hdc23 .ret hdk36 := Pc.seq (a := hdc24) (b := hdc29) (by kernel_rfl) hdp27 hdp34
theorem hdp22 {n0 : Nat} : Pc hdGl 116 64 n0 hdk13 hdc17 .ret hdk36 := Pc.seq (a := hdc18) (b := hdc23) (by kernel_rfl) hdp21 hdp28
theorem hdp16 {n0 : Nat} : Pc hdGl 116 64 n0 hdk7 hdc11 .ret hdk36 := Pc.seq (a := hdc12) (b := hdc17) (by kernel_rfl) hdp15 hdp22
theorem hdp10 {n0 : Nat} : Pc hdGl 116 64 n0 hdk1 hdc5 .ret hdk36 := Pc.seq (a := hdc6) (b := hdc11) (by kernel_rfl) hdp9 hdp16
theorem hdp4 {n0 : Nat} : Pc hdGl 116 64 n0 hdstart hdt0 .ret hdk36 := Pc.seq (a := hdc0) (b := hdc5) (by kernel_rfl) hdp3 hdp10
theorem hdAll (n0 : Nat) : Pc hdGl 116 64 n0 (ck0 hdGs 64) hdt0 .ret hdk36 := hdp4
theorem hdPieces (w : World) (ha : GAll w hdGs) : Calls Tryd.prog 4 #[] w fun e w' => e = .returned (.bool true) ∧ Below w.heap.size w w' := known_pieces (fn := Tryd.f4) (c := hdt0) (ck := hdk36) Tryd.func4 (by kernel_rfl) (by kernel_rfl) hdAll (by first | exact .inl rfl | exact .inr rfl) (by kernel_rfl) w ha
theorem hdWalk (w : World) (hm : ∃ m, w.cell? ⟨0, 0, none⟩ = some (.int .i64 m)) (_ : 0 < w.heap.size) : Calls Tryd.prog 4 #[] w fun e w' => e = .returned (.bool true) ∧ Below w.heap.size w w' :=
  hdPieces w (gAll_one (gAt_int hm))
end Go.Proofs.YtomjccaknglibaaDoor
