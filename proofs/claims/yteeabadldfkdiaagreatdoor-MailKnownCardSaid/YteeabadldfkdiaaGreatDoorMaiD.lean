/- The walk of MailKnown, run by the abstract machine in pieces: the closed statement answers true, whatever the memory, where the library's variable MaxLen holds some int. -/
import Derived.Test.YteeabadldfkdiaaGreatDoorAm26
import Derived.Test.YteeabadldfkdiaaGreatDoorProg
import Derived.Test.YteeabadldfkdiaaGreatDoorShelf
import Derived.Test.YteeabadldfkdiaaGreatDoorKShelf
import Derived.Test.YteeabadldfkdiaaGreatDoorAm27
import Derived.KernelRfl
namespace Go.Proofs.YteeabadldfkdiaaGreatDoor
open Go.RowKit Go.Proofs.YteeabadldfkdiaaGreatDoor.Am Go.Maps Go.Sort Go.Shelf

def mlXs : List (Nat × Nat × Nat) := [(210, 1, 0), (287, 2, 0), (309, 2, 0), (314, 3, 0), (211, 4, 5), (163, 5, 0)]
theorem mlXsOK : xtAll Tryz.prog mlXs :=
  ⟨⟨by kernel_rfl, says1 (by kernel_rfl)⟩, ⟨by kernel_rfl, says2 (by kernel_rfl)⟩, ⟨by kernel_rfl, says2 (by kernel_rfl)⟩, ⟨by kernel_rfl, says3 (by kernel_rfl)⟩, ⟨by kernel_rfl, says4 #[3] 28 (by kernel_rfl) (by kernel_rfl)⟩, ⟨by kernel_rfl, says5 (by kernel_rfl)⟩, trivial⟩
def mlV0 : List AV := [.unk .i64]
def mlGs : List (Nat × List AV) := [(0, mlV0)]
noncomputable def mlOver (f : FuncId) : Option (List AV → AH → Option (AV × AH)) := cond (Nat.beq f 249) (some (ovIndex 0)) (cond (Nat.beq f 179) (some (ovIndexS 0)) (cond (Nat.beq f 36) (some (ovKeysI 76 2)) (none)))
theorem mlSortI (m : Nat) : AnyZI.SortsIn Tryz.prog Tryz.sorted36_ren Fence.wide m :=
  ⟨fun blk off cap ss W hH hblk hsz => callsIn_wide.2 (AnyM.slices_Sort_int Tryz.sort75 blk off cap ss W hH hblk hsz),
   fun p cap W => callsIn_wide.2 (AnyM.slices_Sort_int_none Tryz.sort75 p cap W)⟩
theorem mlKeysI : KeysConI Tryz.prog 36 76 2 :=
  keysConI_of (by kernel_rfl) fun w Bm b nn D0 R hB hc ho hm hb => by
    have hseq := AnyZI.keys_gives (ρ := Tryz.keys37_ren) { Tryz.keys37 with } Fence.wide 2 trivial rfl (by omega) Bm b nn D0 w hB hc ho
    exact callsIn_wide.1 (AnyZI.sorted_in Tryz.sorted36 Fence.wide 5 trivial trivial trivial trivial rfl (by omega) (mlSortI _) (enters_of Tryz.func75 (by kernel_rfl) rfl) 76 #[.pointer (some ⟨Bm, 0, none⟩)] trivial (enters_of Tryz.func76 (by kernel_rfl) rfl) _ _ hm hb w hseq)
theorem mlCon : IdxCon Tryz.prog 249 0 where
  none p q n c d w := Tryz.bytes_Index_none p q n c d w
  nil p2 k c2 w h1 h2 := Tryz.bytes_Index_nil p2 k c2 w h1 h2
  full a1 a2 n c1 k c2 xs ys m w hx hy h1 h2 h3 h4 h5 h6 h7 h8 := (Tryz.bytes_Index_at a1 a2 n c1 k c2 xs ys m w hx hy h1 h2 h3 h4 h5 h6 h7 h8).mono fun e w' ⟨he, q, hq⟩ => ⟨he, by rw [hq]; rfl⟩
theorem mlConS : IdxConS Tryz.prog 179 0 := fun s t m w hs hm => Tryz.strings_Index s t m w hs hm
noncomputable def mlGl : Gl Tryz.prog := Gl.mkG Tryz.prog mlGs mlXs mlXsOK
theorem mlOver_ok : OverOK Tryz.prog mlGl mlOver := by
  intro f g hf args h v h' e
  unfold mlOver at hf
  cases h_ovIndex : Nat.beq f 249 with
  | true =>
    have := Nat.eq_of_beq_eq_true h_ovIndex
    subst this
    rw [h_ovIndex] at hf
    injection hf with hf
    subst hf
    exact ovIndex_ok mlCon rfl args h v h' e
  | false =>
    rw [h_ovIndex] at hf
    cases h_ovIndexS : Nat.beq f 179 with
    | true =>
      have := Nat.eq_of_beq_eq_true h_ovIndexS
      subst this
      rw [h_ovIndexS] at hf
      injection hf with hf
      subst hf
      exact ovIndexS_ok mlConS rfl args h v h' e
    | false =>
      rw [h_ovIndexS] at hf
      cases h_ovKeysI : Nat.beq f 36 with
      | true =>
        have := Nat.eq_of_beq_eq_true h_ovKeysI
        subst this
        rw [h_ovKeysI] at hf
        injection hf with hf
        subst hf
        exact ovKeysI_ok mlKeysI args h v h' e
      | false =>
        rw [h_ovKeysI] at hf
        cases hf
theorem mlMix : Tryz.prog.follows .mixedOrders = true := by kernel_rfl
noncomputable def mlR : Rec := aRec Tryz.prog mlGl mlOver 1000000 1000000
theorem mlRa : RecAF mlR := (aCall_ok mlMix mlOver_ok 1000000 1000000).1
theorem mlRok : RecOK Tryz.prog mlGl mlR := (aCall_ok mlMix mlOver_ok 1000000 1000000).2
set_option maxRecDepth 100000
def mlG0 : CF := .row mlV0 1 true none
noncomputable def mlt0 : Code := bodyC Tryz.prog 3
noncomputable def mlstart : Ck := ck0 mlGs 64
noncomputable def mlc0 : Code := headC mlt0
def mlk1 : Ck := ⟨[(0, .bool false)], [(0, mlG0)], 64⟩
noncomputable def mlc5 : Code := tailC mlt0
def mlk6 : Ck := ⟨[(0, .bool true)], [(0, mlG0)], 357⟩
end Go.Proofs.YteeabadldfkdiaaGreatDoor
