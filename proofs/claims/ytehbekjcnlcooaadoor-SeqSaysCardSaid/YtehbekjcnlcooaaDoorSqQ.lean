/- Package seq: Parse of "1:*". -/
import Derived.Test.YtehbekjcnlcooaaDoorSqN
import Derived.OneCell
set_option linter.unusedVariables false
namespace Go.Proofs.YtehbekjcnlcooaaDoor
open Go.RowKit

def MaxLenIs (w : World) : Prop := ∃ m, w.cell? ⟨0, 0, none⟩ = some (.int .i64 m)
theorem MaxLenIs.below {w W : World} (h : MaxLenIs w) (hb : Below w.heap.size w W) : MaxLenIs W := by
  obtain ⟨m, hm⟩ := h
  exact ⟨m, (hb.cell (p := ⟨0, 0, none⟩) (World.block_lt_of_cell? w _ hm)).trans hm⟩
def oneStar : ByteArray := ⟨#[49, 58, 42]⟩
theorem split_star (w : World) (hm : MaxLenIs w) : Calls Tryd.prog 22 #[.string ⟨#[49, 58, 42]⟩, .string ⟨#[44]⟩] w fun e w' => e = .returned (.slice (some ⟨w.heap.size, 0, none⟩) 1 1) ∧ w' = w.alloc (.cells #[.string ⟨#[49, 58, 42]⟩] 9) := by
  obtain ⟨m, hm⟩ := hm
  have h := Tryd.strings_Split ⟨#[49, 58, 42]⟩ ⟨#[44]⟩ m w (by decide) hm (by decide)
  have e1 : Lib.countB ⟨#[49, 58, 42]⟩ ⟨#[44]⟩ = 0 := by kernel_rfl
  rw [e1] at h
  have e2 : ((Lib.splitB ⟨#[44]⟩ 0 0 ⟨#[49, 58, 42]⟩).map Value.string).toArray = #[.string ⟨#[49, 58, 42]⟩] := by kernel_rfl
  rw [e2] at h
  exact h
theorem cut_star (w : World) (hm : MaxLenIs w) : Calls Tryd.prog 23 #[.string ⟨#[49, 58, 42]⟩, .string ⟨#[58]⟩] w fun e w' => e = .returned (.tuple #[.string ⟨#[49]⟩, .string ⟨#[42]⟩, .bool true]) ∧ ∃ n, w' = w.drewN n := by
  obtain ⟨m, hm⟩ := hm
  have h := Tryd.strings_Cut ⟨#[49, 58, 42]⟩ ⟨#[58]⟩ m w (by decide) hm
  have e1 : Lib.cut [49, 58, 42] [58] = ([49], [42], true) := by kernel_rfl
  have e2 : (⟨#[49, 58, 42]⟩ : ByteArray).data.toList = [49, 58, 42] := rfl
  have e3 : (⟨#[58]⟩ : ByteArray).data.toList = [58] := rfl
  rw [e2, e3, e1] at h
  exact h
theorem num_one (w : World) : Calls Tryd.prog 24 #[.string ⟨#[49]⟩] w fun e w' => e = .returned (.tuple #[.int .i64 1, .bool true]) ∧ ∃ n, w' = w.drewN n := by
  have h := number_any ⟨#[49]⟩ w (by decide)
  have e1 : numF (⟨#[49]⟩ : ByteArray).data.toList = (1, true) := by decide
  rw [e1] at h
  exact h
theorem num_star (w : World) : Calls Tryd.prog 24 #[.string ⟨#[42]⟩] w fun e w' => e = .returned (.tuple #[.int .i64 0, .bool true]) ∧ ∃ n, w' = w.drewN n := by
  have h := number_any ⟨#[42]⟩ w (by decide)
  have e1 : numF (⟨#[42]⟩ : ByteArray).data.toList = (0, true) := by decide
  rw [e1] at h
  exact h

def StarPost (w : World) (e : Ending) (w' : World) : Prop := ∃ A cap, e = .returned (.tuple #[.agg #[.slice A 1 cap], .int .i64 0]) ∧ RdR SpR 2 w' A [(1, 0)] ∧ 1 ≤ cap ∧ cap ≤ maxLen ∧ Below w.heap.size w w'
set_option maxRecDepth 100000 in
set_option maxHeartbeats 1000000 in
theorem parse_star (w : World) (hm : MaxLenIs w) : Calls Tryd.prog 7 #[.string ⟨#[49, 58, 42]⟩] w (StarPost w) := by
  obtain ⟨i0, hi0, hz0, hz1, hz2⟩ := info_parts spInfo
  have hmB := fun W (hW : Below w.heap.size w W) => hm.below hW
  clear hm
  go_enter Tryd.func7, Tryd.ntmps7
  go_wp2_with ((with_reducible refine (split_star _ (hmB _ ((Below.refl _ w).alloc (Nat.le_refl _) _))).mono ?_))
  rintro _ w1 ⟨rfl, rfl⟩
  go_wp2
  go_loopw [4, 17] (fun v i wr => ∃ k : Nat, k ≤ 1 ∧ i = .int .i64 (k : Int) ∧ Below w.heap.size w wr ∧ (∃ u, wr.cell? ⟨w.heap.size, 0, none⟩ = some u) ∧ wr.frozen? ⟨w.heap.size, 0, none⟩ = false ∧ wr.cell? ⟨w.heap.size + 1, 0, none⟩ = some (.string ⟨#[49, 58, 42]⟩) ∧ SlR SpR 38 2 wr (w.heap.size + 2) v ([(1, 0)].take k)) (fun _ i _ => 1 - (intOf i).toNat)
  case atStart =>
    refine ⟨0, by omega, rfl, ((Below.refl _ w).alloc (Nat.le_refl _) _).alloc (by simp) _, ⟨_, (keep0 _ _ _ (by simp)).trans (new0 w _ _ _)⟩, ?_, ?_, SlR.nil⟩
    · simp
    · simp
  case round =>
    obtain ⟨k, hk, rfl, hB, ⟨u0, ku⟩, kf, kr, hs⟩ := hrel
    have hsz := hB.size
    have lu := World.block_lt_of_cell? wr _ ku
    have lr : w.heap.size + 1 < wr.heap.size := World.block_lt_of_cell? wr _ kr
    cases k with
    | zero =>
      rw [List.take_zero] at hs
      go_wp2_with ((with_reducible refine (cut_star _ (hmB _ hB)).mono ?_))
      rintro _ w2 rfl n2 hw2
      have b2 : Below wr.heap.size wr w2 := hw2 ▸ below_drewN (Below.refl _ _) _
      clear hw2
      go_wp2_with ((with_reducible refine (num_one _).mono ?_))
      rintro _ w3 ⟨rfl, n3, hw3⟩
      have b3 : Below wr.heap.size wr w3 := hw3 ▸ below_drewN b2 _
      clear hw3 b2
      go_wp2_with ((with_reducible refine (num_star _).mono ?_))
      rintro _ w4 ⟨rfl, n4, hw4⟩
      have b4 : Below wr.heap.size wr w4 := hw4 ▸ below_drewN b3 _
      clear hw4 b3
      have sz4 := b4.size
      have hs4 := hs.below SpR.keeps b4 (Nat.le_refl _)
      have hB4 := hB.trans (b4.mono hsz)
      have ku4 := (b4.cell (p := ⟨w.heap.size, 0, none⟩) lu).trans ku
      have kf4 := ((bcell b4).2 w.heap.size 0 lu).trans kf
      have kr4 := (b4.cell (p := ⟨w.heap.size + 1, 0, none⟩) lr).trans kr
      obtain ⟨cells, how, hel⟩ := hs4
      have how1 := how.alloc (.cells #[.int .i64 1, .int .i64 0] 38)
      have hel1 := hel.below SpR.keeps ((Below.refl _ w4).alloc (Nat.le_refl _) (.cells #[.int .i64 1, .int .i64 0] 38)) (Nat.le_refl _)
      have hB5 := hB4.alloc hB4.size (.cells #[.int .i64 1, .int .i64 0] 38)
      have hal : Below w4.heap.size w4 (w4.alloc (.cells #[.int .i64 1, .int .i64 0] 38)) := (Below.refl _ w4).alloc (Nat.le_refl _) _
      have ku5 := (hal.cell (p := ⟨w.heap.size, 0, none⟩) (show w.heap.size < _ by omega)).trans ku4
      have kf5 := ((bcell hal).2 w.heap.size 0 (by omega)).trans kf4
      have kr5 := (hal.cell (p := ⟨w.heap.size + 1, 0, none⟩) (show w.heap.size + 1 < _ by omega)).trans kr4
      have hnc : ∀ j u, [Value.int .i64 1, Value.int .i64 0][j]? = some u → (w4.alloc (.cells #[.int .i64 1, .int .i64 0] 38)).cell? ((⟨w4.heap.size, 0, none⟩ : Addr).add j) = some u := World.news_of_block (cs := #[.int .i64 1, .int .i64 0]) (t := 38) (fr := (0, 0)) (heap_alloc_new w4 _)
      have hsb : w.heap.size + 2 ≤ (w4.alloc (.cells #[.int .i64 1, .int .i64 0] 38)).heap.size := by simp; omega
      go_wp2_with (at_builtin; refine wpList_append_own _ rfl _ _ 22 rfl (w.heap.size + 2) 38 i0 (.agg #[.int .i64 0, .int .i64 0]) 2 16 Tryd.underlying22 hi0 hz0 hz1 hz2 rfl (by decide) _ 0 cells rfl how1 ⟨w4.heap.size, 0, none⟩ 1 1 [.int .i64 1, .int .i64 0] rfl rfl hnc (by intro u hu; simp at hu; rcases hu with rfl | rfl <;> rfl) (by decide) (by decide) hsb ?_)
      intro v5 w5 hown5 g5 _
      have hs5 := SlR.push SpR.keepsRow0 how1 hel1 rfl (show SpR _ [.int .i64 1, .int .i64 0] (1, 0) from rfl) hown5 g5
      have far : ∀ q, q < w.heap.size + 2 → ∀ r, u4.ownBlock = some r → some q ≠ some r := fun q hq r hr h => by
        have h9 := (how1.lt r hr).1
        cases h
        omega
      have hn0 : u4.ownBlock ≠ some w.heap.size := fun h => far _ (by omega) _ h rfl
      have hn1 : u4.ownBlock ≠ some (w.heap.size + 1) := fun h => far _ (by omega) _ h rfl
      have hB6 := hB5.grown g5 hB5.size (fun k hk => by have := (how1.lt k hk).1; omega)
      have ku6 := (g5.cell_far ⟨w.heap.size, 0, none⟩ (World.block_lt_of_cell? _ _ ku5) (Ne.symm hn0)).trans ku5
      have kf6 := (g5.frozen_far ⟨w.heap.size, 0, none⟩ (World.block_lt_of_cell? _ _ ku5) (Ne.symm hn0)).trans kf5
      have kr6 := (g5.cell_far ⟨w.heap.size + 1, 0, none⟩ (World.block_lt_of_cell? _ _ kr5) (Ne.symm hn1)).trans kr5
      clear how how1 hel hel1 hown5 g5 hnc far hB5 hB4 ku5 kf5 kr5 ku4 kf4 kr4 hal b4
      go_wp2
      go_roundw
      case rel => exact ⟨1, by omega, by go_num, hB6, ⟨_, ku6⟩, kf6, kr6, hs5⟩
      case measure => simp [intOf]
    | succ k =>
      obtain rfl : k = 0 := by omega
      rw [show ([((1 : Int), (0 : Int))].take (0 + 1)) = [(1, 0)] from rfl] at hs
      obtain ⟨A, cap, rfl, h1, h2, _⟩ := hs.rdq (by decide)
      have hset := fun u => (SlR.setq (fun _ _ _ _ _ h => h) hs (a := ⟨w.heap.size, 0, none⟩) (show w.heap.size < w.heap.size + 2 by omega) u).rdq (by decide)
      have hBs := fun u => hB.setCell (p := ⟨w.heap.size, 0, none⟩) (Nat.le_refl _) u
      have hcs := fun u => World.cell?_setCell_same' wr ⟨w.heap.size, 0, none⟩ u (by rw [ku]; rfl)
      clear hs
      have hc1 := hcs (.slice A 1 cap)
      obtain ⟨A3, cap3, hv3, g1, g2, hrd⟩ := hset (.slice A 1 cap)
      injection hv3 with q1 q2 q3
      subst q1
      subst q3
      have hBs1 := hBs (.slice A 1 cap)
      clear hset hBs hcs
      go_wp2
      refine bodyPost_ret (v := .tuple #[.agg #[.slice A 1 cap], .int .i64 0]) (by simp [results, Tryd.results7, go_sem, hc1]) rfl ⟨A, cap, rfl, hrd, g1, g2, hBs1⟩
end Go.Proofs.YtehbekjcnlcooaaDoor
