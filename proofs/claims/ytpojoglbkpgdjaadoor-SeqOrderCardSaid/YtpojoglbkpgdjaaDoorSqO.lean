/- SeqOrder's walk. -/
import Derived.Test.YtpojoglbkpgdjaaDoorSqB
import Derived.Test.YtpojoglbkpgdjaaDoorAwkKnW
import Derived.Deep.RegionHeld3
import Derived.Deep.AppendLies
import Derived.OneCell
set_option linter.unusedVariables false
namespace Go.Proofs.YtpojoglbkpgdjaaDoor
open Go.RowKit

def swapS (x : Int × Int) : Int × Int := (x.2, x.1)
theorem hit_swap (last n : Int) (x : Int × Int) : hitF last n (swapS x) = hitF last n x := by
  unfold hitF swapS
  rw [Int.min_comm, Int.max_comm]
theorem ok_swap (x : Int × Int) : okS (swapS x) = okS x := by
  unfold okS swapS
  rw [Int.min_comm, Int.max_comm]
theorem has_rev (xs : List (Int × Int)) (n last : Int) : hasF ((xs.map swapS).reverse) n last = hasF xs n last := by
  unfold hasF validF
  rw [List.length_reverse, List.length_map, List.all_reverse, List.any_reverse, List.all_map, List.any_map]
  rw [show hitF last n ∘ swapS = hitF last n from funext (hit_swap last n), show okS ∘ swapS = okS from funext ok_swap]
theorem rev_snoc (xs : List (Int × Int)) (j : Nat) (h : j < xs.length) : ((xs.drop j).map swapS).reverse = ((xs.drop (j + 1)).map swapS).reverse ++ [swapS xs[j]] := by
  rw [List.drop_eq_getElem_cons h, List.map_cons, List.reverse_cons]
theorem SpR.keepsRow : KeepsRow SpR 27 := fun w w' cs x row h hg hr => h
theorem spanInfo : (Tryd.prog.info? 27).map (fun i => (i.zero, i.size, i.bytes)) = some (some (.agg #[.int .i64 0, .int .i64 0]), 2, 16) := by kernel_rfl

section
variable {α : Type} {R : World → List Value → α → Prop} {e : TypeId} {k : Nat} {w : World} {B : Nat} {v : Value} {xs : List α}
theorem SlR.rd (h : SlR R e k w B v xs) (hk : 0 < k) : ∃ A cap, v = .slice A xs.length cap ∧ xs.length ≤ cap ∧ cap ≤ maxLen ∧ RdR R k w A xs := by
  obtain ⟨A, cap, rfl, h1, h2, h3⟩ := h.shape
  refine ⟨A, cap, rfl, h1, h2, fun hp => ?_⟩
  obtain ⟨g, rfl, hg⟩ := h3 hp
  refine ⟨g, 0, rfl, ?_, fun i hi => ?_⟩
  · obtain ⟨cs, _, hl, hc⟩ := h.at_ 0 hp
    exact World.block_lt_of_cell? w _ (hc 0 (by omega))
  · obtain ⟨cs, h4, h5, h6⟩ := h.at_ i hi
    exact ⟨cs, h4, h5, fun j hj => by rw [Nat.zero_add]; exact h6 j hj⟩
theorem SlR.setBelow (hR : ∀ w cs x a u, R w cs x → R (w.setCell a u) cs x) (h : SlR R e k w B v xs) {a : Addr} (ha : a.block < B) (u : Value) : SlR R e k (w.setCell a u) B v xs := by
  obtain ⟨cells, h1, h2, h3⟩ := h
  exact ⟨cells, ownsRow_setCell_below h1 ha u, h2, fun i hi => hR _ _ _ _ _ (h3 i hi)⟩
end

/-- 'Below' from the size of the first world's heap on, behind a name that the walk does not open. -/
def Bel (w W : World) : Prop := Below w.heap.size w W
theorem st_next {w wx wy : World} {g h : Nat} {x y : Value} (hb : Below wx.heap.size wx wy) (hB : Bel w wx) (c0 : wx.cell? ⟨g, 0, none⟩ = some x) (c1 : wx.cell? ⟨h, 0, none⟩ = some y) :
    wy.cell? ⟨g, 0, none⟩ = some x ∧ wy.cell? ⟨h, 0, none⟩ = some y ∧ Bel w wy := by
  have hg := World.block_lt_of_cell? wx _ c0
  have hh := World.block_lt_of_cell? wx _ c1
  exact ⟨(hb.cell (p := ⟨g, 0, none⟩) hg).trans c0, (hb.cell (p := ⟨h, 0, none⟩) hh).trans c1, Below.trans hB (hb.mono (Below.size hB))⟩
theorem grown_u {wa w2 : World} {row : Option Nat} {v : Value} (hg : wa.grownBy w2 row) (u : Nat) (hne : row ≠ some u) (hlt : u < wa.heap.size) (c : wa.cell? ⟨u, 0, none⟩ = some v) (f : wa.frozen? ⟨u, 0, none⟩ = false) :
    w2.cell? ⟨u, 0, none⟩ = some v ∧ w2.frozen? ⟨u, 0, none⟩ = false :=
  ⟨(hg.cell_far ⟨u, 0, none⟩ hlt (Ne.symm hne)).trans c, (hg.frozen_far ⟨u, 0, none⟩ hlt (Ne.symm hne)).trans f⟩
theorem st3_grow {wa w2 : World} {row : Option Nat} {T b p q : Nat} {x y z : Value} (hg : wa.grownBy w2 row) (h0 : row ≠ some T) (h1 : row ≠ some b)
    (c0 : wa.cell? ⟨T, 0, none⟩ = some x) (c1 : wa.cell? ⟨b, p, none⟩ = some y) (c2 : wa.cell? ⟨b, q, none⟩ = some z) : w2.cell? ⟨T, 0, none⟩ = some x ∧ w2.cell? ⟨b, p, none⟩ = some y ∧ w2.cell? ⟨b, q, none⟩ = some z :=
  ⟨(hg.cell_far ⟨T, 0, none⟩ (World.block_lt_of_cell? wa _ c0) (Ne.symm h0)).trans c0, (hg.cell_far ⟨b, p, none⟩ (World.block_lt_of_cell? wa _ c1) (Ne.symm h1)).trans c1, (hg.cell_far ⟨b, q, none⟩ (World.block_lt_of_cell? wa _ c2) (Ne.symm h1)).trans c2⟩
theorem st3_set {W : World} {T b p q u : Nat} {x y z v : Value} (h0 : u ≠ T) (h1 : u ≠ b)
    (c0 : W.cell? ⟨T, 0, none⟩ = some x) (c1 : W.cell? ⟨b, p, none⟩ = some y) (c2 : W.cell? ⟨b, q, none⟩ = some z) : (W.setCell ⟨u, 0, none⟩ v).cell? ⟨T, 0, none⟩ = some x ∧ (W.setCell ⟨u, 0, none⟩ v).cell? ⟨b, p, none⟩ = some y ∧ (W.setCell ⟨u, 0, none⟩ v).cell? ⟨b, q, none⟩ = some z :=
  ⟨(World.cell?_setCell_far W ⟨u, 0, none⟩ _ v h0).trans c0, (World.cell?_setCell_far W ⟨u, 0, none⟩ _ v h1).trans c1, (World.cell?_setCell_far W ⟨u, 0, none⟩ _ v h1).trans c2⟩
theorem bel_go {w wx wy : World} (hB : Bel w wx) (hb : Below wx.heap.size wx wy) : Bel w wy := Below.trans hB (hb.mono (Below.size hB))
theorem bel_end {w wx wy : World} (hb : Below wx.heap.size wx wy) (hB : Bel w wx) : Below w.heap.size w wy := Below.trans hB (hb.mono (Below.size hB))

set_option maxRecDepth 100000 in
set_option maxHeartbeats 4000000 in
theorem order_walk (A : Option Addr) (xs : List (Int × Int)) (cap : Nat) (n last : Int) (w : World) (hr : RdR SpR 2 w A xs) (hlc : xs.length ≤ cap) (hcm : cap ≤ maxLen) (hn : (Lit.int .i64 n).wf = true) (hla : (Lit.int .i64 last).wf = true) :
    Calls Tryd.prog 3 #[.agg #[.slice A xs.length cap], .int .i64 n, .int .i64 last] w fun e w' => e = .returned (.bool true) ∧ Below w.heap.size w w' := by
  obtain ⟨i0, hi0, hz0, hz1, hz2⟩ := info_parts spanInfo
  have hcm' : cap ≤ 9223372036854775807 := hcm
  clear hn hla
  go_enter Tryd.func3, Tryd.ntmps3
  go_wp2_with ((with_reducible refine (awkWalk _).mono ?_))
  rintro _ w1 ⟨rfl, hb1⟩
  have hs1 : w.heap.size + 1 ≤ w1.heap.size := by have := hb1.size; simp at this; omega
  have c1 : w1.cell? ⟨w.heap.size, 0, none⟩ = some (.slice A xs.length cap) := (hb1.cell (p := ⟨w.heap.size, 0, none⟩) (by simp)).trans (new0 w _ _ _)
  have hB1 : Below w.heap.size w w1 := ((Below.refl _ w).alloc (Nat.le_refl _) _).trans (hb1.mono (by simp))
  clear hb1
  by_cases h60 : 60 < xs.length
  · have h60' : (60 : Int) < (xs.length : Int) := by omega
    go_wp2
    go_ret
    exact ⟨rfl, hB1⟩
  have h60' : ¬ (60 : Int) < (xs.length : Int) := by omega
  have c1a := (keep0 w1 (.cells #[.slice none 0 0] 24) w.heap.size (by omega)).trans c1
  go_wp2
  go_loopw [8] (fun i wr => ∃ (k : Nat) (z : Int) (uv : Value), k ≤ xs.length ∧ i = .int .i64 z ∧ z + 1 = (k : Int) ∧ Below w.heap.size w wr ∧ wr.cell? ⟨w.heap.size, 0, none⟩ = some (.slice A xs.length cap) ∧ wr.cell? ⟨w1.heap.size, 0, none⟩ = some uv ∧ wr.frozen? ⟨w1.heap.size, 0, none⟩ = false ∧ SlR SpR 27 2 wr (w1.heap.size + 1) uv ((xs.drop k).map swapS).reverse) (fun i _ => (intOf i + 1).toNat)
  case atStart =>
    refine ⟨xs.length, (xs.length : Int) - 1, .slice none 0 0, Nat.le_refl _, rfl, by omega, hB1.alloc (by omega) _, (keep0 w1 _ _ (by omega)).trans c1, new0 w1 _ _ _, ?_, ?_⟩
    · simp
    · rw [List.drop_length]
      exact SlR.nil
  case round =>
    obtain ⟨k, z, uv, hk, rfl, hz, hB, k0, k1, kf, hs⟩ := hrel
    cases k with
    | zero =>
      obtain rfl : z = -1 := by omega
      obtain ⟨A2, cap2, rfl, hl2, hm2, hr2⟩ := hs.rd (by decide)
      rw [List.drop_zero] at hl2 hr2 k1
      have hcT : ∀ W, Bel wr W → Calls Tryd.prog 6 #[.agg #[.slice A xs.length cap], .int .i64 n, .int .i64 last] W fun e w' => e = .returned (.bool (hasF xs n last)) ∧ Below W.heap.size W w' :=
        fun W hW => has_any A xs cap n last W ((hr.below SpR.keeps hB (Nat.le_refl _)).below SpR.keeps hW (Nat.le_refl _)) hlc hcm
      have hcU : ∀ W, Bel wr W → Calls Tryd.prog 6 #[.agg #[.slice A2 ((xs.map swapS).reverse).length cap2], .int .i64 n, .int .i64 last] W fun e w' => e = .returned (.bool (hasF xs n last)) ∧ Below W.heap.size W w' := fun W hW => by
        have := has_any A2 ((xs.map swapS).reverse) cap2 n last W (hr2.below SpR.keeps hW (Nat.le_refl _)) hl2 hm2
        rwa [has_rev] at this
      have hB2 : ∀ n, Bel wr (wr.drewN n) := fun n => below_drewN (Below.refl _ wr) n
      have hsz := hB.size
      generalize hasF xs n last = r at hcT hcU
      generalize ((xs.map swapS).reverse).length = m at hcU k1
      clear hs hr hr2
      go_wp2_with fail
      go_region_held3 (fun W => W.cell? ⟨w.heap.size, 0, none⟩ = some (.slice A xs.length cap) ∧ W.cell? ⟨w1.heap.size, 0, none⟩ = some (.slice A2 m cap2) ∧ Bel wr W) (first | exact ⟨k0, k1, Below.drew (below_drewN (Below.refl _ wr) _)⟩ | exact ⟨k0, k1, hB2 _⟩ | exact st_next ‹_› (hB2 _) k0 k1 | (go_split_ands; exact st_next ‹_› ‹_› ‹_› ‹_›)) (first
        | (go_at_call 6; (with_reducible refine (hcT _ ?_).mono ?_); (first | assumption | exact hB2 _ | exact bel_go (hB2 _) ‹_›); rintro e w5 ⟨rfl, b5⟩)
        | (go_at_call 6; (with_reducible refine (hcU _ ?_).mono ?_); (first | assumption | exact hB2 _ | exact bel_go (hB2 _) ‹_›); rintro e w5 ⟨rfl, b5⟩))
      go_wp2
      go_ret
      refine ⟨rfl, ?_⟩
      go_split_ands
      exact Below.trans hB (Below.mono (show Below wr.heap.size wr _ from ‹Bel wr _›) hsz)
    | succ j =>
      obtain rfl : z = (j : Int) := by omega
      have hlt : j < xs.length := by omega
      have hsz := hB.size
      obtain ⟨b, o, rfl, hb, _⟩ := id hr (by omega)
      obtain ⟨d1, d2⟩ := rd_agg hr j hlt
      rw [← hB.cell (p := ⟨b, o + j * 2, none⟩) hb] at d1
      rw [← hB.cell (p := ⟨b, o + j * 2 + 1, none⟩) hb] at d2
      have hbw : b < wr.heap.size := Nat.lt_of_lt_of_le hb hsz
      have lu := World.block_lt_of_cell? wr _ k1
      have lu' : w1.heap.size < wr.heap.size := lu
      have e0 : (0 : Int) ≤ (j : Int) := Int.natCast_nonneg _
      have e1 : (j : Int) < (xs.length : Int) := by omega
      obtain ⟨cells, how, hel⟩ := hs
      have hlen : (((xs.drop (j + 1)).map swapS).reverse).length = xs.length - (j + 1) := by simp
      have HR := Lib.hid (rev_snoc xs j hlt)
      have HX := Lib.hid (show swapS xs[j] = (xs[j].2, xs[j].1) from rfl)
      generalize xs[j] = x at d1 d2 HR HX
      obtain ⟨x1, x2⟩ := x
      obtain ⟨ys, hys⟩ : ∃ ys, ys = ((xs.drop (j + 1)).map swapS).reverse := ⟨_, rfl⟩
      rw [← hys] at how hel hlen
      have HY := Lib.hid hys
      have h63 : ys.length + 1 ≤ maxLen := by unfold maxLen; omega
      have h47 : (ys.length + 1) * 16 ≤ 140737488355328 := by omega
      have hne : uv.ownBlock ≠ some w1.heap.size := fun h => by have := (how.lt _ h).1; omega
      have hne0 : uv.ownBlock ≠ some w.heap.size := fun h => by have := (how.lt _ h).1; omega
      clear hys hlen hr
      have hneb : uv.ownBlock ≠ some b := fun h => by have := (how.lt _ h).1; omega
      have hu0 : w1.heap.size ≠ w.heap.size := by omega
      have hub : w1.heap.size ≠ b := by omega
      have hel1 := hel.below SpR.keeps ((Below.refl _ wr).alloc (Nat.le_refl _) (.cells #[.int .i64 x2, .int .i64 x1] 27)) (Nat.le_refl _)
      have ku := (keep0 wr (.cells #[.int .i64 x2, .int .i64 x1] 27) _ lu').trans k1
      have kfu := ((bcell ((Below.refl _ wr).alloc (Nat.le_refl _) (.cells #[.int .i64 x2, .int .i64 x1] 27))).2 _ 0 lu').trans kf
      have kt := (keep0 wr (.cells #[.int .i64 x2, .int .i64 x1] 27) w.heap.size (by omega)).trans k0
      have hB' := hB.alloc hsz (.cells #[.int .i64 x2, .int .i64 x1] 27)
      have how1 := how.alloc (.cells #[.int .i64 x2, .int .i64 x1] 27)
      have hsz' : w.heap.size ≤ (wr.alloc (.cells #[.int .i64 x2, .int .i64 x1] 27)).heap.size := hB'.size
      have hbase : ∀ k, uv.ownBlock = some k → w.heap.size ≤ k := fun k hk => by have := (how1.lt k hk).1; omega
      have hlt0 : w.heap.size < (wr.alloc (.cells #[.int .i64 x2, .int .i64 x1] 27)).heap.size := by simp; omega
      go_wp2_with fail
      go_region_law ((refine step_append_lies _ (by rfl) _ _ _ (by rfl) (w1.heap.size + 1) 27 i0 _ 2 16 Tryd.underlying22 hi0 hz0 hz1 hz2 rfl (by omega) uv ys.length cells (by rfl) how1 ⟨wr.heap.size, 0, none⟩ 1 1 [.int .i64 x2, .int .i64 x1] (by rfl) (by rfl) (World.news_of_block (cs := #[.int .i64 x2, .int .i64 x1]) (t := 27) (fr := (0, 0)) (heap_alloc_new wr _)) (by simp [Value.oneCell']) (by omega) h63 h47 (by simp; omega) (wr.heap.size + 1) (by simp) ?_; intro gg cap2 w2 hown2 hgrow hat hlt2; obtain ⟨qu, qf⟩ := grown_u hgrow w1.heap.size hne (by simp; omega) ku kfu))
      all_goals (
        go_wp2
        go_roundw
        case rel =>
          refine ⟨j, (j : Int) - 1, _, by omega, by go_num, by omega, ?_, ?_, (by first | exact World.cell?_setCell_same _ _ _ qu | exact World.cell?_setCell_same' _ _ _ (by rw [qu]; rfl)), by rw [World.frozen?_setCell]; exact qf, ?_⟩
          · first
              | exact Below.setCell (hB'.grown hgrow hsz' hbase) (show w.heap.size ≤ w1.heap.size by omega) _
              | exact Below.setCell ((Below.drew hB').grown hgrow hsz' hbase) (show w.heap.size ≤ w1.heap.size by omega) _
          · exact (World.cell?_setCell_far w2 ⟨w1.heap.size, 0, none⟩ ⟨w.heap.size, 0, none⟩ _ hu0).trans ((hgrow.cell_far ⟨w.heap.size, 0, none⟩ hlt0 (Ne.symm hne0)).trans kt)
          · rw [HR.out, ← HY.out, HX.out]
            first
              | exact SlR.setBelow (fun _ _ _ _ _ h => h) (SlR.push (w := (wr.alloc (.cells #[.int .i64 x2, .int .i64 x1] 27)).drew) SpR.keepsRow how1 hel1 rfl rfl hown2 hgrow) (show w1.heap.size < w1.heap.size + 1 by omega) _
              | exact SlR.setBelow (fun _ _ _ _ _ h => h) (SlR.push (w := (wr.alloc (.cells #[.int .i64 x2, .int .i64 x1] 27))) SpR.keepsRow how1 hel1 rfl rfl hown2 hgrow) (show w1.heap.size < w1.heap.size + 1 by omega) _
        case measure => first | (simp [intOf]; done) | (simp [intOf]; omega))
end Go.Proofs.YtpojoglbkpgdjaaDoor
