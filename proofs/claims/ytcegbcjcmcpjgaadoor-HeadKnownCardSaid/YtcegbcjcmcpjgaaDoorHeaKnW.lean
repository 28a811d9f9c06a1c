/- The walk of HeadKnown, run by the abstract machine: the closed statement of chapter 11 answers true, whatever the memory, where the library's variable MaxLen holds some int. -/
import Derived.Test.YtcegbcjcmcpjgaaDoorAm21
import Derived.Test.YtcegbcjcmcpjgaaDoorProg
import Derived.Test.YtcegbcjcmcpjgaaDoorShelf
import Derived.KernelRfl
namespace Go.Proofs.YtcegbcjcmcpjgaaDoor
open Go.RowKit Go.Proofs.YtcegbcjcmcpjgaaDoor.Am

def heaXs : List (Nat × Nat × Nat) := [(56, 2, 0), (71, 3, 0), (78, 1, 0), (79, 4, 5), (82, 2, 0)]
theorem heaXsOK : xtAll Tryd.prog heaXs :=
  ⟨⟨by kernel_rfl, says2 (by kernel_rfl)⟩, ⟨by kernel_rfl, says3 (by kernel_rfl)⟩, ⟨by kernel_rfl, says1 (by kernel_rfl)⟩, ⟨by kernel_rfl, says4 #[3] 23 (by kernel_rfl) (by kernel_rfl)⟩, ⟨by kernel_rfl, says2 (by kernel_rfl)⟩, trivial⟩
def heaGs : List (Nat × List AV) := [(0, [.unk .i64])]
def heaOver (f : FuncId) : Option (List AV → AH → Option (AV × AH)) := cond (Nat.beq f 29) (some (ovIndex 0)) (cond (Nat.beq f 64) (some (ovIndexS 0)) none)
theorem heaCon : IdxCon Tryd.prog 29 0 where
  none p q n c d w := Tryd.bytes_Index_none p q n c d w
  nil p2 k c2 w h1 h2 := Tryd.bytes_Index_nil p2 k c2 w h1 h2
  full a1 a2 n c1 k c2 xs ys m w hx hy h1 h2 h3 h4 h5 h6 h7 h8 := (Tryd.bytes_Index_at a1 a2 n c1 k c2 xs ys m w hx hy h1 h2 h3 h4 h5 h6 h7 h8).mono fun e w' ⟨he, q, hq⟩ => ⟨he, by rw [hq]; rfl⟩
theorem heaConS : IdxConS Tryd.prog 64 0 := fun s t m w hs hm => Tryd.strings_Index s t m w hs hm
theorem heaOver_ok : OverOK Tryd.prog (Gl.mkG Tryd.prog heaGs heaXs heaXsOK) heaOver := by
  intro f g hf args h v h' e
  unfold heaOver at hf
  cases h1 : Nat.beq f 29 with
  | true =>
    have := Nat.eq_of_beq_eq_true h1
    subst this
    rw [h1] at hf
    injection hf with hf
    subst hf
    exact ovIndex_ok heaCon rfl args h v h' e
  | false =>
    rw [h1] at hf
    cases h2 : Nat.beq f 64 with
    | true =>
      have := Nat.eq_of_beq_eq_true h2
      subst this
      rw [h2] at hf
      injection hf with hf
      subst hf
      exact ovIndexS_ok heaConS rfl args h v h' e
    | false => rw [h2] at hf; cases hf

set_option maxRecDepth 100000 in
theorem headKnown_run : okG (aCall Tryd.prog (Gl.mkG Tryd.prog heaGs heaXs heaXsOK) heaOver 1000000 3 [] (h0g heaGs 8)) = true := by kernel_rfl
theorem headKnown_walk (w : World) (hm : ∃ m, w.cell? ⟨0, 0, none⟩ = some (.int .i64 m)) (_ : 0 < w.heap.size) : Calls Tryd.prog 3 #[] w fun e w' => e = .returned (.bool true) ∧ Below w.heap.size w w' :=
  known_soundG (by kernel_rfl) heaOver_ok (by kernel_rfl) headKnown_run w (gAll_one (gAt_int hm))
end Go.Proofs.YtcegbcjcmcpjgaaDoor
