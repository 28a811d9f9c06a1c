/- Package seq: Pick. -/
import Derived.Test.YtehbekjcnlcooaaDoorSqI
import Derived.Test.YtehbekjcnlcooaaDoorShelf
import Derived.OwnWalk
import Derived.Deep.AppendLies
set_option linter.unusedVariables false
namespace Go.Proofs.YtehbekjcnlcooaaDoor
open Go.RowKit

def pickF (xs : List (Int × Int)) (l : List Int) : List Int := l.filter fun n => hasF xs n (Lib.maxOf l)
theorem filter_snoc {α} (p : α → Bool) (l : List α) (k : Nat) (h : k < l.length) : (l.take (k + 1)).filter p = (l.take k).filter p ++ (if p l[k] then [l[k]] else []) := by
  rw [List.take_succ_eq_append_getElem h, List.filter_append]
  congr 1
  rw [List.filter_cons]
  split <;> simp_all

set_option maxRecDepth 100000 in
set_option maxHeartbeats 1000000 in
theorem pick_any (A : Option Addr) (xs : List (Int × Int)) (cap : Nat) (A2 : Option Addr) (l : List Int) (cap2 : Nat) (w : World) (hr : RdR SpR 2 w A xs) (hlc : xs.length ≤ cap) (hcm : cap ≤ maxLen)
    (hr2 : RdR IntR 1 w A2 l) (hlc2 : l.length ≤ cap2) (hcm2 : cap2 ≤ maxLen) (hll : l.length ≤ 1000000) :
    Calls Tryd.prog 16 #[.agg #[.slice A xs.length cap], .slice A2 l.length cap2] w fun e w' => ∃ v, e = .returned v ∧ SlR IntR 2 1 w' w.heap.size v (pickF xs l) ∧ Below w.heap.size w w' := by
  obtain ⟨i0, hi0, hz0, hz1, hz2⟩ := info_parts intInfo
  have hm2 : cap2 ≤ 9223372036854775807 := hcm2
  by_cases h0 : l.length = 0
  · have hl0 : l = [] := List.eq_nil_of_length_eq_zero h0
    subst hl0
    go_enter Tryd.func16, Tryd.ntmps16
    go_wp2
    go_ret
    exact ⟨_, rfl, SlR.nil, (Below.refl _ w).alloc (Nat.le_refl _) _⟩
  have h0' : ((l.length : Int) == 0) = false := by rw [beq_eq_false_iff_ne]; omega
  obtain ⟨b, o, rfl, hb, _⟩ := id hr2 (by omega)
  have hc := fun i hi => int_cell hr2 i hi
  have hmax : ∀ W, Below w.heap.size w W → Calls Tryd.prog 34 #[.slice (some ⟨b, o, none⟩) l.length cap2] W fun e w' => e = .returned (.int .i64 (Lib.maxOf l)) ∧ w' = W := fun W hW => by
    have := Tryd.slices_Max_int b o l.length cap2 l W (by omega) (Nat.le_refl _) (by omega) (fun j hj => by
      rw [hW.cell (p := ⟨b, o + j, none⟩) hb, hc j hj]
      simp [List.getD_eq_getElem?_getD, List.getElem?_eq_getElem hj])
    rwa [List.take_length] at this
  have hhas := fun n W (hW : Below w.heap.size w W) => has_any A xs cap n (Lib.maxOf l) W (hr.below SpR.keeps hW (Nat.le_refl _)) hlc hcm
  have HF := Lib.hid (show pickF xs l = l.filter fun n => hasF xs n (Lib.maxOf l) from rfl)
  generalize Lib.maxOf l = last at hmax hhas HF
  clear hr hr2
  go_enter Tryd.func16, Tryd.ntmps16
  go_wp2_with ((with_reducible refine (hmax _ ((Below.refl _ w).alloc (Nat.le_refl _) _)).mono ?_))
  rintro _ w1 ⟨rfl, rfl⟩
  go_wp2
  go_loopw [6, 16] (fun v i wr => ∃ (k : Nat), k ≤ l.length ∧ i = .int .i64 (k : Int) ∧ Below w.heap.size w wr ∧ wr.cell? ⟨w.heap.size, 0, none⟩ = some (.slice A xs.length cap) ∧ SlR IntR 2 1 wr (w.heap.size + 1) v ((l.take k).filter fun n => hasF xs n last)) (fun _ i _ => l.length - (intOf i).toNat)
  case atStart => exact ⟨0, Nat.zero_le _, rfl, (Below.refl _ w).alloc (Nat.le_refl _) _, new0 w _ _ _, SlR.nil⟩
  case round =>
    obtain ⟨k, hk, rfl, hB, kt, hs⟩ := hrel
    have hsz := hB.size
    by_cases hlt : k < l.length
    · have e1 : (k : Int) < (l.length : Int) := by omega
      have d := hc k hlt
      rw [← hB.cell (p := ⟨b, o + k, none⟩) hb] at d
      have hbw : b < wr.heap.size := Nat.lt_of_lt_of_le hb hsz
      have HN := Lib.hid (filter_snoc (fun n => hasF xs n last) l k hlt)
      generalize l[k] = x at d HN
      have hcall := hhas x
      go_wp2_with ((with_reducible refine (hcall _ hB).mono ?_))
      rintro _ w2 ⟨rfl, hb2⟩
      have hB2 := hB.trans (hb2.mono hsz)
      have kt2 : w2.cell? ⟨w.heap.size, 0, none⟩ = some (.slice A xs.length cap) := (hb2.cell (p := ⟨w.heap.size, 0, none⟩) (World.block_lt_of_cell? wr _ kt)).trans kt
      have hs2 := hs.below IntR.keeps hb2 (Nat.le_refl _)
      have hsz2 := hB2.size
      have ht2 := World.block_lt_of_cell? w2 _ kt2
      cases hq : hasF xs x last with
      | false =>
        have HQ := Lib.hid hq
        clear hq
        go_wp2
        go_roundw
        case rel =>
          refine ⟨k + 1, by omega, by go_num, hB2, kt2, ?_⟩
          rw [HN.out, HQ.out]
          simpa using hs2
        case measure => simp [intOf]; omega
      | true =>
        have HQ := Lib.hid hq
        clear hq
        obtain ⟨cells, how, hel⟩ := hs2
        have hfl : ((l.take k).filter fun n => hasF xs n last).length ≤ k := Nat.le_trans (List.length_filter_le _ _) (by rw [List.length_take]; omega)
        generalize ((l.take k).filter fun n => hasF xs n last) = ys at how hel hfl HN
        have h63 : ys.length + 1 ≤ maxLen := by unfold maxLen; omega
        have h47 : (ys.length + 1) * 8 ≤ 140737488355328 := by omega
        have how1 := how.alloc (.cells #[.int .i64 x] 2)
        have hel1 := hel.below IntR.keeps ((Below.refl _ w2).alloc (Nat.le_refl _) (.cells #[.int .i64 x] 2)) (Nat.le_refl _)
        have hB3 := hB2.alloc hsz2 (.cells #[.int .i64 x] 2)
        have kt3 := (keep0 w2 (.cells #[.int .i64 x] 2) _ ht2).trans kt2
        have hnc : ∀ j u, [Value.int .i64 x][j]? = some u → (w2.alloc (.cells #[.int .i64 x] 2)).cell? ((⟨w2.heap.size, 0, none⟩ : Addr).add j) = some u := World.news_of_block (cs := #[.int .i64 x]) (t := 2) (fr := (0, 0)) (heap_alloc_new w2 _)
        have hsb : w.heap.size + 1 ≤ (w2.alloc (.cells #[.int .i64 x] 2)).heap.size := by have : w.heap.size < w2.heap.size := ht2; simp; omega
        go_wp2_with (at_builtin; refine wpList_append_own _ rfl _ _ 25 rfl (w.heap.size + 1) 2 i0 (.int .i64 0) 1 8 Tryd.underlying25 hi0 hz0 hz1 hz2 rfl (by decide) _ ys.length cells rfl how1 ⟨w2.heap.size, 0, none⟩ 1 1 [.int .i64 x] rfl rfl hnc (by intro u hu; simp at hu; subst hu; rfl) h63 h47 hsb ?_)
        intro v3 w3 hown3 g3 _
        have hs3 := SlR.push IntR.keepsRow how1 hel1 rfl (show IntR _ [.int .i64 x] x from rfl) hown3 g3
        have hB4 := hB3.grown g3 (by omega) (fun k hk => by have := (how1.lt k hk).1; omega)
        have kt4 : w3.cell? ⟨w.heap.size, 0, none⟩ = some (.slice A xs.length cap) := (g3.cell_far ⟨w.heap.size, 0, none⟩ (World.block_lt_of_cell? _ _ kt3) (fun h => by have h9 : w.heap.size + 1 ≤ w.heap.size := (how1.lt _ h.symm).1; omega)).trans kt3
        clear how how1 hel hel1 hown3 g3 kt3 hB3 hnc hsb
        go_wp2
        go_roundw
        case rel =>
          refine ⟨k + 1, by omega, by go_num, hB4, kt4, ?_⟩
          rw [HN.out, HQ.out]
          simpa using hs3
        case measure => simp [intOf]; omega
    · obtain rfl : k = l.length := by omega
      go_wp2
      go_ret
      refine ⟨_, rfl, ?_, hB⟩
      rw [HF.out]
      rw [List.take_length] at hs
      obtain ⟨cells, h1, h2⟩ := hs
      exact ⟨cells, ownk_mono h1 (by omega), h2⟩
end Go.Proofs.YtehbekjcnlcooaaDoor
