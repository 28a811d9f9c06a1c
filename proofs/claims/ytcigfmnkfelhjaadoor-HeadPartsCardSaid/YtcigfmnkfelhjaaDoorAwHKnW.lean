/- The walk of awake, run by the abstract machine in pieces: the closed statement answers true, whatever the memory, where the library's variable MaxLen holds some int. -/
import Derived.Test.YtcigfmnkfelhjaaDoorAm26
import Derived.Test.YtcigfmnkfelhjaaDoorProg
import Derived.Test.YtcigfmnkfelhjaaDoorShelf
import Derived.KernelRfl
namespace Go.Proofs.YtcigfmnkfelhjaaDoor
open Go.RowKit Go.Proofs.YtcigfmnkfelhjaaDoor.Am

def awkXs : List (Nat × Nat × Nat) := [(64, 1, 0), (68, 2, 0), (51, 2, 0), (57, 3, 0), (65, 4, 5)]
theorem awkXsOK : xtAll Tryd.prog awkXs :=
  ⟨⟨by kernel_rfl, says1 (by kernel_rfl)⟩, ⟨by kernel_rfl, says2 (by kernel_rfl)⟩, ⟨by kernel_rfl, says2 (by kernel_rfl)⟩, ⟨by kernel_rfl, says3 (by kernel_rfl)⟩, ⟨by kernel_rfl, says4 #[3] 22 (by kernel_rfl) (by kernel_rfl)⟩, trivial⟩
def awkV0 : List AV := [.unk .i64]
def awkGs : List (Nat × List AV) := [(0, awkV0)]
noncomputable def awkOver (f : FuncId) : Option (List AV → AH → Option (AV × AH)) := cond (Nat.beq f 25) (some (ovIndex 0)) (cond (Nat.beq f 48) (some (ovIndexS 0)) (none))
theorem awkCon : IdxCon Tryd.prog 25 0 := {
  none p q n c d w := Tryd.bytes_Index_none p q n c d w
  nil p2 k c2 w h1 h2 := Tryd.bytes_Index_nil p2 k c2 w h1 h2
  full a1 a2 n c1 k c2 xs ys m w hx hy h1 h2 h3 h4 h5 h6 h7 h8 := (Tryd.bytes_Index_at a1 a2 n c1 k c2 xs ys m w hx hy h1 h2 h3 h4 h5 h6 h7 h8).mono fun e w' ⟨he, q, hq⟩ => ⟨he, by rw [hq]; rfl⟩ }
theorem awkConS : IdxConS Tryd.prog 48 0 := fun s t m w hs hm => Tryd.strings_Index s t m w hs hm
noncomputable def awkGl : Gl Tryd.prog := Gl.mkG Tryd.prog awkGs awkXs awkXsOK
theorem awkOver_ok : OverOK Tryd.prog awkGl awkOver := by
  intro f g hf args h v h' e
  unfold awkOver at hf
  cases h_ovIndex : Nat.beq f 25 with
  | true =>
    have := Nat.eq_of_beq_eq_true h_ovIndex
    subst this
    rw [h_ovIndex] at hf
    injection hf with hf
    subst hf
    exact ovIndex_ok awkCon rfl args h v h' e
  | false =>
    rw [h_ovIndex] at hf
    cases h_ovIndexS : Nat.beq f 48 with
    | true =>
      have := Nat.eq_of_beq_eq_true h_ovIndexS
      subst this
      rw [h_ovIndexS] at hf
      injection hf with hf
      subst hf
      exact ovIndexS_ok awkConS rfl args h v h' e
    | false =>
      rw [h_ovIndexS] at hf
      cases hf
theorem awkMix : Tryd.prog.follows .mixedOrders = true := by kernel_rfl
noncomputable def awkR : Rec := aRec Tryd.prog awkGl awkOver 1000000 1000000
theorem awkRa : RecAF awkR := (aCall_ok awkMix awkOver_ok 1000000 1000000).1
theorem awkRok : RecOK Tryd.prog awkGl awkR := (aCall_ok awkMix awkOver_ok 1000000 1000000).2
set_option maxRecDepth 100000
def awkG0 : CF := .row awkV0 1 true none
noncomputable def awkt0 : Code := bodyC Tryd.prog 6
noncomputable def awkstart : Ck := ck0 awkGs 64
noncomputable def awkc0 : Code := headC awkt0
def awkk1 : Ck := ⟨[(0, .bool false)], [(0, awkG0)], 64⟩
theorem awke2 : prC [0] [0] (aCode Tryd.prog awkGl awkR 1000000 awkc0 (Ck.st 33 64 awkstart)) = some (.normal, awkk1) := by kernel_rfl
theorem awkp3 {n0 : Nat} : Pc awkGl 33 64 n0 awkstart awkc0 .normal awkk1 := Pc.run awkMix awkRa awkRok awke2
noncomputable def awkc5 : Code := tailC awkt0
def awkk6 : Ck := ⟨[(0, .bool true)], [(0, awkG0)], 127⟩
theorem awke7 : prC [0] [0] (aCode Tryd.prog awkGl awkR 1000000 awkc5 (Ck.st 33 64 awkk1)) = some (.ret, awkk6) := by kernel_rfl
theorem awkp8 {n0 : Nat} : Pc awkGl 33 64 n0 awkk1 awkc5 .ret awkk6 := Pc.run awkMix awkRa awkRok awke7
theorem awkp4 {n0 : Nat} : Pc awkGl 33 64 n0 awkstart awkt0 .ret awkk6 := Pc.seq (a := awkc0) (b := awkc5) (by kernel_rfl) awkp3 awkp8
theorem awkAll (n0 : Nat) : Pc awkGl 33 64 n0 (ck0 awkGs 64) awkt0 .ret awkk6 := awkp4
theorem awkPieces (w : World) (ha : GAll w awkGs) : Calls Tryd.prog 6 #[] w fun e w' => e = .returned (.bool true) ∧ Below w.heap.size w w' := known_pieces (fn := Tryd.f6) (c := awkt0) (ck := awkk6) Tryd.func6 (by kernel_rfl) (by kernel_rfl) awkAll (by first | exact .inl rfl | exact .inr rfl) (by kernel_rfl) w ha
theorem awkWalk (w : World) (hm : ∃ m, w.cell? ⟨0, 0, none⟩ = some (.int .i64 m)) (_ : 0 < w.heap.size) : Calls Tryd.prog 6 #[] w fun e w' => e = .returned (.bool true) ∧ Below w.heap.size w w' :=
  awkPieces w (gAll_one (gAt_int hm))
end Go.Proofs.YtcigfmnkfelhjaaDoor
