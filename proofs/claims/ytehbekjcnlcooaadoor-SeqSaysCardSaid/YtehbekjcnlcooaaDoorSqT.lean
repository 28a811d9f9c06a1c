/- Merged: SqT, SqU. -/
import Derived.Test.YtehbekjcnlcooaaDoorSqQ
import Derived.Test.YtehbekjcnlcooaaDoorSqM
import Derived.Sort.OwnSortedInts
set_option linter.unusedVariables false
/- Rows of the call's own: an element is stored into; the sorted copy of a list. -/
namespace Go.Proofs.YtehbekjcnlcooaaDoor
open Go.RowKit

/-- What lies below is left by a sort of an own row, and the row holds the sorted list. -/
theorem sort_own (v : Value) (zs : List Int) (B : Nat) (w : World) (h : w.ownsRow B 2 1 v zs.length (zs.map (Value.int .i64))) (hB : B ≤ w.heap.size) (hz : zs.length ≤ 1000000) :
    Calls Tryd.prog 26 #[v] w fun e w' => e = .returned (.tuple #[]) ∧ Below B w w' ∧ w'.ownsRow B 2 1 v zs.length ((zs.mergeSort fun x y => decide (x ≤ y)).map (Value.int .i64)) := by
  by_cases h0 : zs.length = 0
  · obtain rfl := List.eq_nil_of_length_eq_zero h0
    obtain ⟨p, cap, rfl⟩ : ∃ p cap, v = .slice p 0 cap := by
      rcases h.2 with ⟨rfl, _⟩ | ⟨g, cap, cur, rfl, _⟩
      · exact ⟨_, _, rfl⟩
      · exact ⟨_, _, rfl⟩
    refine (Tryd.slices_Sort_int_none p cap w).mono ?_
    rintro e w' ⟨rfl, rfl⟩
    exact ⟨rfl, Below.refl _ _, by simpa using h⟩
  · rcases h.2 with ⟨_, h1⟩ | ⟨g, cap, cur, rfl, hg, hh, hn, hm, hs, ht⟩
    · exact absurd h1 h0
    · have hH := holds_of_blockI hh (by simpa using ht)
      refine (Tryd.slices_Sort_int g 0 cap zs w hH (Array.getElem?_eq_some_iff.1 hh).1 (by omega)).mono ?_
      rintro e w' ⟨rfl, n, os, rfl⟩
      refine ⟨rfl, ?_, ownsRow_sortedI (by rw [List.length_mergeSort]) hg hh hn hm hs⟩
      exact (Below.refl B w).grown (grownBy_sortedI _) hB (fun k hk => by cases hk; exact hg)
theorem clone_own (A : Option Addr) (l : List Int) (cap : Nat) (w : World) (hr : RdR IntR 1 w A l) (hll : l.length ≤ 1000000) :
    Calls Tryd.prog 25 #[.slice A l.length cap] w fun e w' => ∃ v, e = .returned v ∧ w'.ownsRow w.heap.size 2 1 v l.length (l.map (Value.int .i64)) ∧ Below w.heap.size w w' := by
  by_cases h0 : l.length = 0
  · obtain rfl := List.eq_nil_of_length_eq_zero h0
    cases A with
    | none =>
      refine (Tryd.slices_Clone_int_nil 0 cap w).mono ?_
      rintro e w' ⟨rfl, rfl⟩
      exact ⟨_, rfl, World.ownsRow_nil _ _ _ _, Below.refl _ _⟩
    | some a =>
      refine (Tryd.slices_Clone_int_zero a cap w).mono ?_
      rintro e w' ⟨v, rfl, h1, _, h2⟩
      exact ⟨v, rfl, h1, h2⟩
  · obtain ⟨b, o, rfl, hb, _⟩ := id hr (by omega)
    have hc := fun i hi => int_cell hr i hi
    have h := Tryd.slices_Clone_int b o l.length cap l w (Nat.le_refl _) (by omega) (fun j hj => by rw [hc j hj]; simp [List.getD_eq_getElem?_getD, List.getElem?_eq_getElem hj])
    rw [List.take_length] at h
    refine h.mono ?_
    rintro e w' ⟨v, rfl, h1, _, h2⟩
    exact ⟨v, rfl, h1, h2⟩
end Go.Proofs.YtehbekjcnlcooaaDoor

/- Package seq: Of. -/
namespace Go.Proofs.YtehbekjcnlcooaaDoor
open Go.RowKit

theorem ints_sl (B : Nat) (v : Value) (zs : List Int) (w : World) (h : w.ownsRow B 2 1 v zs.length (zs.map (Value.int .i64))) : SlR IntR 2 1 w B v zs :=
  ⟨_, h, by simp, fun i hi => by
    show _ = _
    rw [Nat.one_mul, List.drop_eq_getElem_cons (by simpa using hi)]
    simp⟩
theorem below_frz {B : Nat} {w w' : World} (h : Below B w w') (k o : Nat) (hk : k < B) : w'.frozen? ⟨k, o, none⟩ = w.frozen? ⟨k, o, none⟩ := by
  unfold World.frozen?
  rw [h.block k hk]
/-- A row of spans whose last is (a, b): where it lies. -/
theorem last_span {w : World} {B : Nat} {v : Value} {zs : List (Int × Int)} {a b : Int} (h : SlR SpR 38 2 w B v (zs ++ [(a, b)])) :
    ∃ g cap, v = .slice (some ⟨g, 0, none⟩) (zs.length + 1) cap ∧ zs.length + 1 ≤ cap ∧ cap ≤ maxLen ∧ B ≤ g ∧ g < w.heap.size ∧ w.cell? ⟨g, zs.length * 2 + 1, none⟩ = some (.int .i64 b) ∧ w.frozen? ⟨g, zs.length * 2 + 1, none⟩ = false ∧
      ∀ n, SlR SpR 38 2 (w.setCell ⟨g, zs.length * 2 + 1, none⟩ (.int .i64 n)) B v (zs ++ [(a, n)]) := by
  obtain ⟨A, cap, hv, h1, h2, h3⟩ := h.shape
  obtain ⟨g, rfl, hg⟩ := h3 (by simp)
  have hl : (zs ++ [(a, b)]).length = zs.length + 1 := by simp
  rw [hl] at hv h1
  subst hv
  obtain ⟨cs, k1, k2, k3⟩ := h.at_ zs.length (by simp)
  have e : (zs ++ [(a, b)])[zs.length] = (a, b) := by simp
  rw [e] at k1
  unfold SpR encS at k1
  subst k1
  have k4 := k3 1 (by simp)
  rw [Nat.mul_comm 2] at k4
  have hlt := World.block_lt_of_cell? w _ k4
  refine ⟨g, cap, rfl, h1, h2, hg, hlt, k4, ?_, fun n => ?_⟩
  · obtain ⟨cells, ⟨_, ⟨hv, _⟩ | ⟨g', cap', cur, hv, _, hh, _⟩⟩, _⟩ := h
    · cases hv
    · injection hv with e1
      injection e1 with e1
      injection e1 with e1
      subst e1
      simp [World.frozen?, hh]
  · have h5 := SlR.setEl h zs.length 1 (by simp) (by decide) (.int .i64 n) (a, n) (fun cs x w' h => h) (fun cs w' h6 h7 => by
      rw [e] at h6
      unfold SpR encS at h6 ⊢
      rw [h6]
      rfl)
    have e2 : (zs ++ [(a, b)]).set zs.length (a, n) = zs ++ [(a, n)] := by simp
    rw [e2] at h5
    exact h5
theorem runOf_pair (s : List Int) (hp : s.Pairwise (· ≤ ·)) (k : Nat) (y : Int × Int) (h : y ∈ runOf (s.take k)) : 1 ≤ y.1 ∧ y.1 ≤ y.2 ∧ y.2 ≤ 4294967295 := runOf_range _ (hp.take) y h

set_option maxRecDepth 100000 in
set_option maxHeartbeats 2000000 in
theorem of_any (A : Option Addr) (l : List Int) (cap : Nat) (w : World) (hr : RdR IntR 1 w A l) (hlc : l.length ≤ cap) (hcm : cap ≤ maxLen) (h60 : l.length ≤ 60) :
    Calls Tryd.prog 10 #[.slice A l.length cap] w fun e w' => ∃ A2 cap2, e = .returned (.agg #[.slice A2 (ofF l).length cap2]) ∧ RdR SpR 2 w' A2 (ofF l) ∧ (ofF l).length ≤ cap2 ∧ cap2 ≤ maxLen ∧ Below w.heap.size w w' := by
  obtain ⟨i0, hi0, hz0, hz1, hz2⟩ := info_parts spInfo
  have hal0 : ∀ x, Below w.heap.size w (w.alloc x) := fun x => (Below.refl _ w).alloc (Nat.le_refl _) x
  have hcl := fun W (hW : Below w.heap.size w W) => clone_own A l cap W (hr.below IntR.keeps hW (Nat.le_refl _)) (by omega)
  clear hr
  go_enter Tryd.func10, Tryd.ntmps10
  go_wp2_with ((with_reducible refine (hcl _ (hal0 _)).mono ?_))
  rintro _ w1 ⟨v1, rfl, hown1, hb1⟩
  have hown1' := ownk_mono hown1 (show w.heap.size + 1 ≤ _ by simp)
  have hs1 : w.heap.size + 1 ≤ w1.heap.size := by have := hb1.size; simp at this; omega
  have c1 : w1.cell? ⟨w.heap.size, 0, none⟩ = some (.slice none 0 0) := (hb1.cell (p := ⟨w.heap.size, 0, none⟩) (by simp)).trans (new0 w _ _ _)
  have f1 : w1.frozen? ⟨w.heap.size, 0, none⟩ = false := ((bcell hb1).2 w.heap.size 0 (by simp)).trans (by simp)
  have hB1 := (hal0 (.cells #[.slice none 0 0] 24)).trans (hb1.mono (by simp))
  have hsort := sort_own v1 l (w.heap.size + 1) w1 hown1' hs1 (by omega)
  clear hcl hb1 hown1 hown1'
  go_wp2_with ((with_reducible refine hsort.mono ?_))
  rintro _ w2 ⟨rfl, hb2, hown2⟩
  have c2 := (hb2.cell (p := ⟨w.heap.size, 0, none⟩) (by simp)).trans c1
  have f2 := (below_frz hb2 w.heap.size 0 (by omega)).trans f1
  have hB2 := hB1.trans (hb2.mono (Nat.le_succ _))
  obtain ⟨s, hsd⟩ : ∃ s, s = l.mergeSort fun x y => decide (x ≤ y) := ⟨_, rfl⟩
  have hsl : s.length = l.length := by rw [hsd, List.length_mergeSort]
  have HP := Lib.hid (show s.Pairwise (· ≤ ·) from hsd ▸ sort_pair l)
  have HO := Lib.hid (show ofF l = runOf s from by rw [hsd]; rfl)
  rw [← hsd, ← hsl] at hown2
  obtain ⟨A1, cap1, rfl, n1, n2, hrd⟩ := (ints_sl _ _ _ _ hown2).rdq (by decide)
  have hm1 : cap1 ≤ 9223372036854775807 := n2
  have hs2 : w.heap.size + 1 ≤ w2.heap.size := Nat.le_trans hs1 hb2.size
  clear hsd hown2 hsort c1 f1 hB1
  go_wp2
  go_loopw [4, 14] (fun v i wr => ∃ k : Nat, k ≤ s.length ∧ i = .int .i64 (k : Int) ∧ Below w2.heap.size w2 wr ∧ SlR SpR 38 2 wr w2.heap.size v (runOf (s.take k))) (fun _ i _ => s.length - (intOf i).toNat)
  case atStart => exact ⟨0, Nat.zero_le _, rfl, Below.refl _ _, SlR.nil⟩
  case round =>
    obtain ⟨k, hk, rfl, hB, hs⟩ := hrel
    have hsz := hB.size
    by_cases hlt : k < s.length
    · have e1 : (k : Int) < (s.length : Int) := by omega
      obtain ⟨b, o, rfl, hb, _⟩ := id hrd (by omega)
      have d := int_cell hrd k hlt
      rw [← hB.cell (p := ⟨b, o + k, none⟩) hb] at d
      have hbw : b < wr.heap.size := Nat.lt_of_lt_of_le hb hsz
      have HN := Lib.hid (runOf_snoc s k hlt)
      have HR := Lib.hid (runOf_pair s HP.out k)
      generalize s[k] = x at d HN
      by_cases t1 : x < 1
      · have hq : okN x = false := by unfold okN; simp; omega
        have HQ := Lib.hid hq
        clear hq
        go_wp2
        go_roundw
        case rel =>
          refine ⟨k + 1, by omega, by go_num, hB, ?_⟩
          rw [HN.out, HQ.out]
          exact hs
        case measure => simp [intOf]; omega
      by_cases t2 : 4294967295 < x
      · have hq : okN x = false := by unfold okN; simp; omega
        have HQ := Lib.hid hq
        clear hq
        go_wp2
        go_roundw
        case rel =>
          refine ⟨k + 1, by omega, by go_num, hB, ?_⟩
          rw [HN.out, HQ.out]
          exact hs
        case measure => simp [intOf]; omega
      have hq : okN x = true := by unfold okN; simp; omega
      have HQ := Lib.hid hq
      clear hq
      rcases List.eq_nil_or_concat (runOf (s.take k)) with he | ⟨zs, ⟨a, c⟩, he⟩
      · rw [he] at hs HN
        obtain ⟨A2, cap2, rfl, q1, q2, _⟩ := id hs.shape
        obtain ⟨cells, how, hel⟩ := hs
        have h63 : ([] : List (Int × Int)).length + 1 ≤ maxLen := by decide
        have h47 : (([] : List (Int × Int)).length + 1) * 16 ≤ 140737488355328 := by decide
        have how1 := how.alloc (.cells #[.int .i64 x, .int .i64 x] 38)
        have hel1 := hel.below SpR.keeps ((Below.refl _ wr).alloc (Nat.le_refl _) (.cells #[.int .i64 x, .int .i64 x] 38)) (Nat.le_refl _)
        have hB5 := hB.alloc hsz (.cells #[.int .i64 x, .int .i64 x] 38)
        have hnc : ∀ j u, [Value.int .i64 x, Value.int .i64 x][j]? = some u → (wr.alloc (.cells #[.int .i64 x, .int .i64 x] 38)).cell? ((⟨wr.heap.size, 0, none⟩ : Addr).add j) = some u := World.news_of_block (cs := #[.int .i64 x, .int .i64 x]) (t := 38) (fr := (0, 0)) (heap_alloc_new wr _)
        go_wp2_with (at_builtin; refine wpList_append_own _ rfl _ _ 22 rfl w2.heap.size 38 i0 (.agg #[.int .i64 0, .int .i64 0]) 2 16 Tryd.underlying22 hi0 hz0 hz1 hz2 rfl (by decide) _ 0 cells rfl how1 ⟨wr.heap.size, 0, none⟩ 1 1 [.int .i64 x, .int .i64 x] rfl rfl hnc (by intro u hu; simp at hu; subst hu; rfl) h63 h47 hB5.size ?_)
        intro v5 w5 hown5 g5 _
        have hs5 := SlR.push SpR.keepsRow0 how1 hel1 rfl (show SpR _ [.int .i64 x, .int .i64 x] (x, x) from rfl) hown5 g5
        have hB6 := hB5.grown g5 hB5.size (fun k hk => (how1.lt k hk).1)
        clear how how1 hel hel1 hown5 g5 hnc hB5
        go_wp2
        go_roundw
        case rel =>
          refine ⟨k + 1, by omega, by go_num, hB6, ?_⟩
          rw [HN.out, HQ.out, if_pos rfl, stepOf_nil]
          exact hs5
        case measure => simp [intOf]; omega
      · rw [List.concat_eq_append] at he
        have hlen := runOf_len (s.take k)
        rw [List.length_take] at hlen
        rw [he] at hs HR HN hlen
        have hcr := HR.out (a, c) (by simp)
        dsimp only at hcr
        have hzl : zs.length + 1 ≤ 60 := by simp at hlen; omega
        clear hlen
        obtain ⟨g, cap2, rfl, q1, q2, hg, hgl, cb, fb, hset⟩ := last_span hs
        have hm2 : cap2 ≤ 9223372036854775807 := q2
        have z1 : (0 : Int) ≤ (zs.length : Int) := Int.natCast_nonneg _
        by_cases t3 : x ≤ c + 1
        · have HC := Lib.hid t3
          go_wp2
          go_roundw
          case rel =>
            refine ⟨k + 1, by omega, by go_num, hB.setCell hg _, ?_⟩
            rw [HN.out, HQ.out, if_pos rfl, stepOf_snoc, if_pos HC.out]
            exact hset x
          case measure => simp [intOf]; omega
        · have HC := Lib.hid t3
          have z2 : ((zs.length : Int) + 1 == 100) = false := by rw [beq_eq_false_iff_ne]; omega
          obtain ⟨ys, hys⟩ : ∃ ys, ys = zs ++ [(a, c)] := ⟨_, rfl⟩
          rw [← hys] at hs HN
          have hyl : ys.length = zs.length + 1 := by rw [hys]; simp
          obtain ⟨cells, how, hel⟩ := hs
          rw [hyl] at how
          have HY := Lib.hid hys
          have HL := Lib.hid hyl
          clear hset hys hyl
          have h63 : zs.length + 1 + 1 ≤ maxLen := by unfold maxLen; omega
          have h47 : (zs.length + 1 + 1) * 16 ≤ 140737488355328 := by omega
          have how1 := how.alloc (.cells #[.int .i64 x, .int .i64 x] 38)
          have hel1 := hel.below SpR.keeps ((Below.refl _ wr).alloc (Nat.le_refl _) (.cells #[.int .i64 x, .int .i64 x] 38)) (Nat.le_refl _)
          have hB5 := hB.alloc hsz (.cells #[.int .i64 x, .int .i64 x] 38)
          have hnc : ∀ j u, [Value.int .i64 x, Value.int .i64 x][j]? = some u → (wr.alloc (.cells #[.int .i64 x, .int .i64 x] 38)).cell? ((⟨wr.heap.size, 0, none⟩ : Addr).add j) = some u := World.news_of_block (cs := #[.int .i64 x, .int .i64 x]) (t := 38) (fr := (0, 0)) (heap_alloc_new wr _)
          go_wp2_with (at_builtin; refine wpList_append_own _ rfl _ _ 22 rfl w2.heap.size 38 i0 (.agg #[.int .i64 0, .int .i64 0]) 2 16 Tryd.underlying22 hi0 hz0 hz1 hz2 rfl (by decide) _ (zs.length + 1) cells rfl how1 ⟨wr.heap.size, 0, none⟩ 1 1 [.int .i64 x, .int .i64 x] rfl rfl hnc (by intro u hu; simp at hu; subst hu; rfl) h63 h47 hB5.size ?_)
          intro v5 w5 hown5 g5 _
          rw [← HL.out] at hown5 how1
          have hs5 := SlR.push SpR.keepsRow0 how1 hel1 rfl (show SpR _ [.int .i64 x, .int .i64 x] (x, x) from rfl) hown5 g5
          have hB6 := hB5.grown g5 hB5.size (fun k hk => (how1.lt k hk).1)
          clear how how1 hel hel1 hown5 g5 hnc hB5
          go_wp2
          go_roundw
          case rel =>
            refine ⟨k + 1, by omega, by go_num, hB6, ?_⟩
            rw [HN.out, HQ.out, if_pos rfl, HY.out, stepOf_snoc, if_neg (Int.not_le.2 HC.out), ← HY.out]
            exact hs5
          case measure => simp [intOf]; omega
    · obtain rfl : k = s.length := by omega
      rw [List.take_length] at hs
      obtain ⟨A2, cap2, rfl, hl2, hm2, _⟩ := id (hs.rdq (by decide))
      obtain ⟨A3, cap3, hv, _, _, hr2⟩ := (SlR.setLow (fun _ _ _ _ h => h) hs (a := ⟨w.heap.size, 0, none⟩) (show w.heap.size < w2.heap.size by omega) (.slice A2 (runOf s).length cap2)).rdq (by decide)
      injection hv with e1 _ e3
      subst e1
      subst e3
      have cw := (hB.cell (p := ⟨w.heap.size, 0, none⟩) (show w.heap.size < w2.heap.size by omega)).trans c2
      have fw := (below_frz hB w.heap.size 0 (by omega)).trans f2
      have hc1 := World.cell?_setCell_same' wr ⟨w.heap.size, 0, none⟩ (.slice A2 (runOf s).length cap2) (by rw [cw]; rfl)
      have hBw := hB2.trans (hB.mono (by omega))
      have hBs := hBw.setCell (p := ⟨w.heap.size, 0, none⟩) (Nat.le_refl _) (.slice A2 (runOf s).length cap2)
      go_wp2
      refine bodyPost_ret (v := .agg #[.slice A2 (runOf s).length cap2]) (by simp [results, Tryd.results10, go_sem, hc1]) rfl ?_
      rw [HO.out]
      exact ⟨A2, cap2, rfl, hr2, hl2, hm2, hBs⟩
end Go.Proofs.YtehbekjcnlcooaaDoor
