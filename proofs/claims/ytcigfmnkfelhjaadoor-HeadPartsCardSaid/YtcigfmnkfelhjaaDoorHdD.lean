/- Package head: Split, Fields, octet.Same as they are. -/
import Derived.Test.YtcigfmnkfelhjaaDoorHdC
import Derived.Lib.SmallJoins
set_option linter.unusedVariables false
namespace Go.Proofs.YtcigfmnkfelhjaaDoor
open Go.RowKit

theorem MaxLenIs.below {w w' : World} (h : MaxLenIs w) (hb : Below w.heap.size w w') (hg : 0 < w.heap.size) : MaxLenIs w' := by
  obtain ⟨m, hm⟩ := h
  exact ⟨m, (hb.cell (p := ⟨0, 0, none⟩) hg).trans hm⟩
/-- The offset behind the header. -/
def endF (l : List UInt8) : Nat := if Lib.hasPrefix l [13, 10] then 2 else if 0 ≤ Lib.index l [13, 10, 13, 10] then (Lib.index l [13, 10, 13, 10]).toNat + 4 else l.length
theorem endF_le (l : List UInt8) : endF l ≤ l.length := by
  unfold endF
  split
  · rename_i h
    match l, h with
    | [], h => simp [Lib.hasPrefix, List.isPrefixOf] at h
    | [a], h => simp [Lib.hasPrefix, List.isPrefixOf] at h
    | a :: b :: r, _ => simp
  · split
    · rename_i h0
      have := Lib.index_room l [13, 10, 13, 10] h0
      simp at this
      omega
    · exact Nat.le_refl _
theorem bytesOf_nums (l : List UInt8) : Lib.bytesOf (l.map fun c => (c.toNat : Int)) = l := nums_bytes l
set_option maxHeartbeats 2000000 in
theorem split_any (A : Option Addr) (l : List UInt8) (c : Nat) (w : World) (hr : Rd w A l) (hl : l.length ≤ 1000000) (hc : l.length ≤ c) (hm : MaxLenIs w) (hg : 0 < w.heap.size) :
    Calls Tryd.prog 14 #[.slice A l.length c] w fun e w' => e = .returned (.tuple #[.int .i64 (endF l : Int), .int .i64 (endF l : Int)]) ∧ Below w.heap.size w w' := by
  have kc := fun (w : World) (C : Array Value) (n c g : Nat) (hg : g = w.heap.size) => Joins.run_convert_bytes_const_at (P := Tryd.prog) w 22 5 C n c g hg Tryd.underlying22 Tryd.underlying5
  have b0 := (Below.refl w.heap.size w).alloc (Nat.le_refl _) (.cells #[.int .u8 13, .int .u8 10] 5 (2, 3))
  have hp : Calls Tryd.prog 24 #[.slice A l.length c, .slice (some ⟨w.heap.size, 0, none⟩) 2 2] (w.alloc (.cells #[.int .u8 13, .int .u8 10] 5 (2, 3))) fun e w' => e = .returned (.bool (Lib.hasPrefix l [13, 10])) ∧ w' = (w.alloc (.cells #[.int .u8 13, .int .u8 10] 5 (2, 3))) := by
    have h := Tryd.bytes_HasPrefix_all A (some ⟨w.heap.size, 0, none⟩) l.length c 2 2 (l.map fun x => (x.toNat : Int)) [13, 10] (w.alloc (.cells #[.int .u8 13, .int .u8 10] 5 (2, 3))) (by simp) rfl hc (by
      intro hp
      obtain ⟨b, o, hA, hlt, hcell⟩ := (hr.below b0) hp
      refine ⟨b, o, hA, fun i hi => ?_⟩
      rw [hcell i hi]
      simp [List.getD, hi]) (by
      intro _
      refine ⟨w.heap.size, 0, rfl, fun i hi => ?_⟩
      rcases (by omega : i = 0 ∨ i = 1) with rfl | rfl <;> simp [World.cell?, World.alloc, -World.alloc_eq])
    rw [bytesOf_nums] at h
    exact h
  have b1 := b0.alloc b0.size (.cells #[.int .u8 13, .int .u8 10, .int .u8 13, .int .u8 10] 5 (4, 5))
  obtain ⟨W, hW⟩ : ∃ W, W = w.alloc (.cells #[.int .u8 13, .int .u8 10] 5 (2, 3)) := ⟨_, rfl⟩
  have hs : W.heap.size = w.heap.size + 1 := by rw [hW]; simp
  rw [← hW] at b0 b1 hp
  have hi : Calls Tryd.prog 25 #[.slice A l.length c, .slice (some ⟨W.heap.size, 0, none⟩) 4 4] (W.alloc (.cells #[.int .u8 13, .int .u8 10, .int .u8 13, .int .u8 10] 5 (4, 5))) fun e w' => e = .returned (.int .i64 (Lib.index l [13, 10, 13, 10])) ∧ ∃ q, w' = (W.alloc (.cells #[.int .u8 13, .int .u8 10, .int .u8 13, .int .u8 10] 5 (4, 5))).drewN q := by
    by_cases hp0 : 0 < l.length
    · have hbt : Bts 5 (W.alloc (.cells #[.int .u8 13, .int .u8 10, .int .u8 13, .int .u8 10] 5 (4, 5))) W.heap.size [13, 10, 13, 10] := Bts.new W (C := #[.int .u8 13, .int .u8 10, .int .u8 13, .int .u8 10]) (l := [13, 10, 13, 10]) (fun j hj => by
        match j, hj with
        | 0, _ => rfl
        | 1, _ => rfl
        | 2, _ => rfl
        | 3, _ => rfl)
      exact index_any A l c W.heap.size 4 [13, 10, 13, 10] _ hp0 (hr.below b1) hbt hc (by omega) (by decide) (hm.below b1 hg)
    · obtain rfl : l = [] := List.eq_nil_of_length_eq_zero (by omega)
      refine (Tryd.bytes_Index_longer A (some ⟨W.heap.size, 0, none⟩) 0 c 4 4 _ (by omega) (by omega) (by omega)).mono ?_
      rintro e w' ⟨rfl, rfl⟩
      exact ⟨rfl, 0, rfl⟩
  have hEl := endF_le l
  have hE : Hid (endF l = if Lib.hasPrefix l [13, 10] then 2 else if 0 ≤ Lib.index l [13, 10, 13, 10] then (Lib.index l [13, 10, 13, 10]).toNat + 4 else l.length) := rfl
  generalize endF l = E at *
  rw [hs] at hi
  have HP := Lib.hid hp
  have HI := Lib.hid hi
  have HW := Lib.hid hW
  clear hp hi hs
  generalize Lib.index l [13, 10, 13, 10] = I at *
  generalize Lib.hasPrefix l [13, 10] = pf at *
  cases pf with
  | true =>
    have hE2 : E = 2 := by rw [hE.out]; rfl
    subst hE2
    clear hm hE HI
    subst hW
    go_enter Tryd.func14, Tryd.ntmps14
    go_wp2_with fail
    (with_reducible refine HP.out.mono ?_)
    rintro _ w9 ⟨rfl, rfl⟩
    go_wp2
    go_ret2
    exact ⟨rfl, b0⟩
  | false =>
    by_cases h0 : 0 ≤ I
    · obtain ⟨k, rfl⟩ := Int.eq_ofNat_of_zero_le h0
      have hE2 : E = k + 4 := by rw [hE.out, if_neg (by decide), if_pos h0]; rfl
      subst hE2
      clear hm hE
      subst hW
      go_enter Tryd.func14, Tryd.ntmps14
      go_wp2_with fail
      (with_reducible refine HP.out.mono ?_)
      rintro _ w9 ⟨rfl, rfl⟩
      go_wp2_with fail
      (with_reducible refine HI.out.mono ?_)
      rintro _ w9 ⟨rfl, q, rfl⟩
      have b2 := below_drewN b1 q
      go_wp2
      go_ret2
      exact ⟨by first | rfl | simp, b2⟩
    · have hE2 : E = l.length := by rw [hE.out, if_neg (by decide), if_neg h0]
      subst hE2
      clear hm hE
      subst hW
      go_enter Tryd.func14, Tryd.ntmps14
      go_wp2_with fail
      (with_reducible refine HP.out.mono ?_)
      rintro _ w9 ⟨rfl, rfl⟩
      go_wp2_with fail
      (with_reducible refine HI.out.mono ?_)
      rintro _ w9 ⟨rfl, q, rfl⟩
      have b2 := below_drewN b1 q
      go_wp2
      go_ret2
      exact ⟨rfl, b2⟩
theorem fields_w (A : Option Addr) (l : List UInt8) (c : Nat) (w : World) (hr : Rd w A l) (hl : l.length ≤ 1000000) (hc : l.length ≤ c) (hm : MaxLenIs w) (hg : 0 < w.heap.size) :
    Calls Tryd.prog 7 #[.slice A l.length c] w fun e w' => ∃ v, e = .returned v ∧ OwnFd w' w.heap.size v (fieldsF valF l (endF l)) ∧ Below w.heap.size w w' := by
  have hE := endF_le l
  refine fields_any valF (endF l) A l c w hr hl hc hE (fun X hX => split_any A l c X (hr.below hX) hl hc (hm.below hX hg) (Nat.lt_of_lt_of_le hg hX.size)) (fun X hX => ?_) (fun s X hX hs => value_any s X hs (hm.below hX hg) (Nat.lt_of_lt_of_le hg hX.size))
  have h := lines_any A (l.take (endF l)) c X ((hr.below hX).takeH _) (by rw [List.length_take]; omega) (by rw [List.length_take]; omega) (hm.below hX hg) (Nat.lt_of_lt_of_le hg hX.size)
  rw [List.length_take, Nat.min_eq_left hE] at h
  exact h
end Go.Proofs.YtcigfmnkfelhjaaDoor
