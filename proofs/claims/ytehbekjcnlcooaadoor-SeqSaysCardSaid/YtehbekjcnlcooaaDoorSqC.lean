/- The law's helper of layer 9: own: a set as the document's own. -/
import Derived.Test.YtehbekjcnlcooaaDoorSqZ
import Derived.Deep.RegionHeld3
import Derived.OneCell
set_option linter.unusedVariables false
namespace Go.Proofs.YtehbekjcnlcooaaDoor
open Go.RowKit

theorem frozen_new0 (w : World) (cs : Array Value) (e : TypeId) : (w.alloc (.cells cs e)).frozen? ⟨w.heap.size, 0, none⟩ = false := by
  unfold World.frozen?
  rw [heap_alloc_new]
  rfl
set_option maxRecDepth 100000 in
set_option maxHeartbeats 4000000 in
theorem own_any (A : Option Addr) (xs : List (Int × Int)) (cap : Nat) (w : World) (hr : RdR SpR 2 w A xs) (hlc : xs.length ≤ cap) (hcm : cap ≤ maxLen) (h110 : xs.length ≤ 110) :
    Calls Tryd.prog 9 #[.agg #[.slice A xs.length cap]] w fun e w' => ∃ A2 cap2, e = .returned (.agg #[.slice A2 xs.length cap2]) ∧ RdR SpR 2 w' A2 xs ∧ xs.length ≤ cap2 ∧ cap2 ≤ maxLen ∧ Below w.heap.size w w' := by
  obtain ⟨i0, hi0, hz0, hz1, hz2⟩ := info_parts rspanInfo
  have hcm' : cap ≤ 9223372036854775807 := hcm
  obtain ⟨W, hW⟩ : ∃ W, W = ((w.alloc (.cells #[.slice A xs.length cap] 24)).alloc (.cells #[.slice none 0 0] 34)).alloc (.cells #[.slice none 0 0] 34) := ⟨_, rfl⟩
  have hb0 : Below w.heap.size w W := hW ▸ below3 w _ _ _
  have hsW : W.heap.size = w.heap.size + 3 := by rw [hW]; simp
  have q0 : W.cell? ⟨w.heap.size, 0, none⟩ = some (.slice A xs.length cap) := hW ▸ new1 w _ _ _ _ _
  have q1 : W.cell? ⟨w.heap.size + 1, 0, none⟩ = some (.slice none 0 0) := hW ▸ new2 w _ _ _ _ _
  have q2 : W.cell? ⟨w.heap.size + 1 + 1, 0, none⟩ = some (.slice none 0 0) := hW ▸ new3 w _ _ _ _ _
  have g1 : W.frozen? ⟨w.heap.size + 1, 0, none⟩ = false := by
    rw [hW]
    exact ((bcell ((Below.refl _ _).alloc (Nat.le_refl _) _)).2 (w.heap.size + 1) 0 (by simp)).trans (by simp)
  have g2 : W.frozen? ⟨w.heap.size + 1 + 1, 0, none⟩ = false := by
    have h9 := frozen_new0 ((w.alloc (.cells #[.slice A xs.length cap] 24)).alloc (.cells #[.slice none 0 0] 34)) #[.slice none 0 0] 34
    have e9 : ((w.alloc (.cells #[.slice A xs.length cap] 24)).alloc (.cells #[.slice none 0 0] 34)).heap.size = w.heap.size + 1 + 1 := by simp
    rw [e9] at h9
    rw [hW]
    exact h9
  have hr1 := hr
  have HW := Lib.hid hW
  clear hr hW
  go_enter Tryd.func9, Tryd.ntmps9
  go_wp2
  go_loopw [4] (fun i wr => ∃ (k : Nat) (uv : Value), k ≤ xs.length ∧ i = .int .i64 (k : Int) ∧ Below w.heap.size w wr ∧ wr.cell? ⟨w.heap.size, 0, none⟩ = some (.slice A xs.length cap) ∧ (∃ u, wr.cell? ⟨w.heap.size + 1, 0, none⟩ = some u) ∧ wr.frozen? ⟨w.heap.size + 1, 0, none⟩ = false ∧ wr.cell? ⟨w.heap.size + 1 + 1, 0, none⟩ = some uv ∧ wr.frozen? ⟨w.heap.size + 1 + 1, 0, none⟩ = false ∧ SlR SpR 59 2 wr (w.heap.size + 3) uv (xs.take k)) (fun i _ => xs.length - (intOf i).toNat)
  case atStart =>
    rw [← HW.out]
    exact ⟨0, .slice none 0 0, Nat.zero_le _, rfl, hb0, q0, ⟨_, q1⟩, g1, q2, g2, SlR.nil⟩
  case round =>
    obtain ⟨k, uv, hk, rfl, hB, k0, ⟨ru, kr⟩, kfr, k1, kf, hs⟩ := hrel
    have lu := World.block_lt_of_cell? wr _ k1
    have lu' : w.heap.size + 1 + 1 < wr.heap.size := lu
    have hsz := hB.size
    by_cases hlt : k < xs.length
    · have e0 : (0 : Int) ≤ (k : Int) := Int.natCast_nonneg _
      have e1 : (k : Int) < (xs.length : Int) := by omega
      obtain ⟨b, o, rfl, hb, _⟩ := id hr1 (by omega)
      obtain ⟨d1, d2⟩ := rd_agg hr1 k hlt
      rw [← hB.cell (p := ⟨b, o + k * 2, none⟩) hb] at d1
      rw [← hB.cell (p := ⟨b, o + k * 2 + 1, none⟩) hb] at d2
      have hbw : b < wr.heap.size := Nat.lt_of_lt_of_le hb hsz
      obtain ⟨cells, how, hel⟩ := hs
      have hlen : (xs.take k).length = k := by rw [List.length_take]; omega
      have HR := Lib.hid (show xs.take (k + 1) = xs.take k ++ [xs[k]] from List.take_succ_eq_append_getElem hlt)
      generalize xs[k] = x at d1 d2 HR
      obtain ⟨x1, x2⟩ := x
      obtain ⟨ys, hys⟩ : ∃ ys, ys = xs.take k := ⟨_, rfl⟩
      rw [← hys] at how hel hlen HR
      clear hys
      have h63 : ys.length + 1 ≤ maxLen := by unfold maxLen; omega
      have h47 : (ys.length + 1) * 16 ≤ 140737488355328 := by omega
      have hge : ∀ r, uv.ownBlock = some r → w.heap.size + 3 ≤ r := fun r hr => (how.lt r hr).1
      have hne : uv.ownBlock ≠ some (w.heap.size + 1 + 1) := fun h => by have := hge _ h; omega
      have hne1 : uv.ownBlock ≠ some (w.heap.size + 1) := fun h => by have := hge _ h; omega
      have hne0 : uv.ownBlock ≠ some w.heap.size := fun h => by have := hge _ h; omega
      have hneb : uv.ownBlock ≠ some b := fun h => by have := hge _ h; omega
      have hu0 : w.heap.size + 1 + 1 ≠ w.heap.size := by omega
      have hu1 : w.heap.size + 1 + 1 ≠ w.heap.size + 1 := by omega
      have hub : w.heap.size + 1 + 1 ≠ b := by omega
      have hel1 := hel.below SpR.keeps ((Below.refl _ wr).alloc (Nat.le_refl _) (.cells #[.int .i64 x1, .int .i64 x2] 59)) (Nat.le_refl _)
      have ku := (keep0 wr (.cells #[.int .i64 x1, .int .i64 x2] 59) _ lu').trans k1
      have kfu := ((bcell ((Below.refl _ wr).alloc (Nat.le_refl _) (.cells #[.int .i64 x1, .int .i64 x2] 59))).2 _ 0 lu').trans kf
      have kt := (keep0 wr (.cells #[.int .i64 x1, .int .i64 x2] 59) w.heap.size (by omega)).trans k0
      have ks := (keep0 wr (.cells #[.int .i64 x1, .int .i64 x2] 59) (w.heap.size + 1) (by omega)).trans kr
      have ksf := ((bcell ((Below.refl _ wr).alloc (Nat.le_refl _) (.cells #[.int .i64 x1, .int .i64 x2] 59))).2 (w.heap.size + 1) 0 (by omega)).trans kfr
      have hB' := hB.alloc hsz (.cells #[.int .i64 x1, .int .i64 x2] 59)
      have how1 := how.alloc (.cells #[.int .i64 x1, .int .i64 x2] 59)
      have hsz' : w.heap.size ≤ (wr.alloc (.cells #[.int .i64 x1, .int .i64 x2] 59)).heap.size := hB'.size
      have hbase : ∀ k, uv.ownBlock = some k → w.heap.size ≤ k := fun k hk => by have := hge k hk; omega
      have hlt0 : w.heap.size < (wr.alloc (.cells #[.int .i64 x1, .int .i64 x2] 59)).heap.size := by simp; omega
      have hlt1 : w.heap.size + 1 < (wr.alloc (.cells #[.int .i64 x1, .int .i64 x2] 59)).heap.size := by simp; omega
      clear hge hlen
      go_wp2_with fail
      go_region_law ((refine step_append_lies _ (by rfl) _ _ _ (by rfl) (w.heap.size + 3) 59 i0 _ 2 16 Tryd.underlying32 hi0 hz0 hz1 hz2 rfl (by omega) uv ys.length cells (by rfl) how1 ⟨wr.heap.size, 0, none⟩ 1 1 [.int .i64 x1, .int .i64 x2] (by rfl) (by rfl) (World.news_of_block (cs := #[.int .i64 x1, .int .i64 x2]) (t := 59) (fr := (0, 0)) (heap_alloc_new wr _)) (by simp [Value.oneCell']) (by omega) h63 h47 (by simp; omega) (wr.heap.size + 1) (by simp) ?_; intro gg cap2 w2 hown2 hgrow hat hlt2; obtain ⟨qu, qf⟩ := grown_u2 hgrow (w.heap.size + 1 + 1) hne (by simp; omega) ku kfu))
      all_goals (
        go_wp2
        go_roundw
        case rel =>
          refine ⟨k + 1, _, by omega, by go_num, ?_, ?_, ⟨ru, ?_⟩, ?_, (by first | exact World.cell?_setCell_same _ _ _ qu | exact World.cell?_setCell_same' _ _ _ (by rw [qu]; rfl)), by rw [World.frozen?_setCell]; exact qf, ?_⟩
          · first
              | exact Below.setCell (hB'.grown hgrow hsz' hbase) (show w.heap.size ≤ w.heap.size + 1 + 1 by omega) _
              | exact Below.setCell ((Below.drew hB').grown hgrow hsz' hbase) (show w.heap.size ≤ w.heap.size + 1 + 1 by omega) _
          · exact (World.cell?_setCell_far w2 ⟨w.heap.size + 1 + 1, 0, none⟩ ⟨w.heap.size, 0, none⟩ _ hu0).trans ((hgrow.cell_far ⟨w.heap.size, 0, none⟩ hlt0 (Ne.symm hne0)).trans kt)
          · exact (World.cell?_setCell_far w2 ⟨w.heap.size + 1 + 1, 0, none⟩ ⟨w.heap.size + 1, 0, none⟩ _ hu1).trans ((hgrow.cell_far ⟨w.heap.size + 1, 0, none⟩ hlt1 (Ne.symm hne1)).trans ks)
          · rw [World.frozen?_setCell]
            exact (hgrow.frozen_far ⟨w.heap.size + 1, 0, none⟩ hlt1 (Ne.symm hne1)).trans ksf
          · rw [HR.out]
            first
              | exact SlR.setLow (fun _ _ _ _ h => h) (SlR.push (w := (wr.alloc (.cells #[.int .i64 x1, .int .i64 x2] 59)).drew) SpR.keepsRow9 how1 hel1 rfl rfl hown2 hgrow) (show w.heap.size + 1 + 1 < w.heap.size + 3 by omega) _
              | exact SlR.setLow (fun _ _ _ _ h => h) (SlR.push (w := (wr.alloc (.cells #[.int .i64 x1, .int .i64 x2] 59))) SpR.keepsRow9 how1 hel1 rfl rfl hown2 hgrow) (show w.heap.size + 1 + 1 < w.heap.size + 3 by omega) _
        case measure => first | (simp [intOf]; done) | (simp [intOf]; omega))
    · obtain rfl : k = xs.length := by omega
      rw [List.take_length] at hs
      have hs2 := SlR.setLow (fun _ _ _ _ h => h) hs (a := ⟨w.heap.size + 1, 0, none⟩) (show w.heap.size + 1 < w.heap.size + 3 by omega) uv
      obtain ⟨A2, cap2, rfl, hl2, hm2, hr2⟩ := hs2.rdq (by decide)
      have hc1 := World.cell?_setCell_same' wr ⟨w.heap.size + 1, 0, none⟩ (.slice A2 xs.length cap2) (by rw [kr]; rfl)
      have hBs := hB.setCell (p := ⟨w.heap.size + 1, 0, none⟩) (Nat.le_succ _) (.slice A2 xs.length cap2)
      go_wp2
      refine bodyPost_ret (v := .agg #[.slice A2 xs.length cap2]) (by simp [results, Tryd.results9, go_sem, hc1]) rfl ⟨A2, cap2, rfl, hr2, hl2, hm2, hBs⟩
end Go.Proofs.YtehbekjcnlcooaaDoor
