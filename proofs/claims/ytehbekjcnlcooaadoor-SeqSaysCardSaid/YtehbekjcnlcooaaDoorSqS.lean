/- Package seq: Parse, of any text. -/
import Derived.Test.YtehbekjcnlcooaaDoorSqQ
import Derived.Lib.SplitLaws
set_option linter.unusedVariables false
namespace Go.Proofs.YtehbekjcnlcooaaDoor
open Go.RowKit

def partS (p : ByteArray) : Int × Int := ((numF (Lib.cut p.data.toList [58]).1).1, (numF (if (Lib.cut p.data.toList [58]).2.2 then (Lib.cut p.data.toList [58]).2.1 else (Lib.cut p.data.toList [58]).1)).1)
def partOk (p : ByteArray) : Bool := (numF (Lib.cut p.data.toList [58]).1).2 && (numF (if (Lib.cut p.data.toList [58]).2.2 then (Lib.cut p.data.toList [58]).2.1 else (Lib.cut p.data.toList [58]).1)).2
def partsS (s : ByteArray) : List ByteArray := Lib.splitB ⟨#[44]⟩ 0 (Lib.countB s ⟨#[44]⟩) s
def parseF (s : ByteArray) : List (Int × Int) × Int := if (partsS s).all partOk then (if 100 < (partsS s).length then ([], 2) else ((partsS s).map partS, 0)) else ([], 3)
theorem splitB_size (sep : ByteArray) : ∀ (k : Nat) (s p : ByteArray), p ∈ Lib.splitB sep 0 k s → p.size ≤ s.size
  | 0, s, p, h => by
    rw [Lib.splitB_zero] at h
    simp at h
    subst h
    exact Nat.le_refl _
  | k + 1, s, p, h => by
    unfold Lib.splitB at h
    split at h
    · simp at h
      subst h
      exact Nat.le_refl _
    · rcases List.mem_cons.1 h with rfl | h
      · rw [ByteArray.size_extract]
        omega
      · have := splitB_size sep k _ p h
        rw [ByteArray.size_extract] at this
        omega
theorem cut_len (l sep : List UInt8) : (Lib.cut l sep).1.length ≤ l.length ∧ (Lib.cut l sep).2.1.length ≤ l.length := by
  unfold Lib.cut
  split <;> simp <;> omega
theorem split_any (s : ByteArray) (w : World) (hm : MaxLenIs w) (hs : s.size < 4294967281) : Calls Tryd.prog 22 #[.string s, .string ⟨#[44]⟩] w fun e w' => e = .returned (.slice (some ⟨w.heap.size, 0, none⟩) (partsS s).length (partsS s).length) ∧ w' = w.alloc (.cells ((partsS s).map Value.string).toArray 9) := by
  obtain ⟨m, hm⟩ := hm
  have h := Tryd.strings_Split s ⟨#[44]⟩ m w hs hm (by decide)
  have e : (partsS s).length = Lib.countB s ⟨#[44]⟩ + 1 := Lib.splitB_all ⟨#[44]⟩ (by decide) 0 _ s rfl
  rw [e]
  exact h
theorem cut_any (p : ByteArray) (w : World) (hm : MaxLenIs w) (hs : p.size < 4294967281) : Calls Tryd.prog 23 #[.string p, .string ⟨#[58]⟩] w fun e w' => e = .returned (.tuple #[.string ⟨(Lib.cut p.data.toList [58]).1.toArray⟩, .string ⟨(Lib.cut p.data.toList [58]).2.1.toArray⟩, .bool (Lib.cut p.data.toList [58]).2.2]) ∧ ∃ n, w' = w.drewN n := by
  obtain ⟨m, hm⟩ := hm
  exact Tryd.strings_Cut p ⟨#[58]⟩ m w hs hm
theorem num_list (l : List UInt8) (w : World) (h : l.length ≤ 4294967281) : Calls Tryd.prog 24 #[.string ⟨l.toArray⟩] w fun e w' => e = .returned (.tuple #[.int .i64 (numF l).1, .bool (numF l).2]) ∧ ∃ n, w' = w.drewN n :=
  number_any ⟨l.toArray⟩ w (by unfold maxLen; show l.toArray.size ≤ _; simp; omega)

def ParsePost (s : ByteArray) (w : World) (e : Ending) (w' : World) : Prop := ∃ A cap, e = .returned (.tuple #[.agg #[.slice A (parseF s).1.length cap], .int .i64 (parseF s).2]) ∧ RdR SpR 2 w' A (parseF s).1 ∧ (parseF s).1.length ≤ cap ∧ cap ≤ maxLen ∧ Below w.heap.size w w'
theorem row_cell (L : List ByteArray) (w : World) (i : Nat) (h : i < L.length) : (w.alloc (.cells (L.map Value.string).toArray 9)).cell? ⟨w.heap.size, i, none⟩ = some (.string L[i]) := by
  rw [cell_of_row _ w.heap.size i _ _ _ (heap_alloc_new w _)]
  simp [h]
set_option maxRecDepth 100000 in
set_option maxHeartbeats 2000000 in
theorem parse_any (s : ByteArray) (w : World) (hm : MaxLenIs w) (hs : s.size ≤ 1000000) (hL : (partsS s).length ≤ 1000001) : Calls Tryd.prog 7 #[.string s] w (ParsePost s w) := by
  obtain ⟨i0, hi0, hz0, hz1, hz2⟩ := info_parts spInfo
  have hmB := fun W (hW : Below w.heap.size w W) => hm.below hW
  have hsp := fun W (hW : Below w.heap.size w W) => split_any s W (hmB W hW) (by omega)
  have hpz : ∀ i (h : i < (partsS s).length), (partsS s)[i].size ≤ 1000000 := fun i h => Nat.le_trans (splitB_size _ _ s _ (List.getElem_mem h)) hs
  have HF := Lib.hid (show parseF s = if (partsS s).all partOk then (if 100 < (partsS s).length then ([], 2) else ((partsS s).map partS, 0)) else ([], 3) from rfl)
  have hP : ∀ (l : List (Int × Int)) (c : Int), parseF s = (l, c) → ∀ e w', (∃ A cap, e = .returned (.tuple #[.agg #[.slice A l.length cap], .int .i64 c]) ∧ RdR SpR 2 w' A l ∧ l.length ≤ cap ∧ cap ≤ maxLen ∧ Below w.heap.size w w') → ParsePost s w e w' := fun l c h e w' hh => by
    unfold ParsePost
    rw [h]
    exact hh
  have HP := Lib.hid hP
  have HZ := Lib.hid hpz
  generalize partsS s = L at hsp HF HZ hL
  generalize ParsePost s w = Post at HP ⊢
  clear hm hP hpz
  go_enter Tryd.func7, Tryd.ntmps7
  go_wp2_with ((with_reducible refine (hsp _ ((Below.refl _ w).alloc (Nat.le_refl _) _)).mono ?_))
  rintro _ w1 ⟨rfl, rfl⟩
  have hrow := fun i (h : i < L.length) => row_cell L (w.alloc (.cells #[.slice none 0 0] 24)) i h
  have hw1 : (w.alloc (.cells #[.slice none 0 0] 24)).heap.size = w.heap.size + 1 := by simp
  rw [hw1] at hrow
  go_wp2
  go_loopw [4, 17] (fun v i wr => ∃ k : Nat, k ≤ L.length ∧ i = .int .i64 (k : Int) ∧ Below w.heap.size w wr ∧ (∃ u, wr.cell? ⟨w.heap.size, 0, none⟩ = some u) ∧ wr.frozen? ⟨w.heap.size, 0, none⟩ = false ∧ w.heap.size + 1 < wr.heap.size ∧ (∀ i (h : i < L.length), wr.cell? ⟨w.heap.size + 1, i, none⟩ = some (.string L[i])) ∧ (L.take k).all partOk = true ∧ SlR SpR 38 2 wr (w.heap.size + 2) v ((L.take k).map partS)) (fun _ i _ => L.length - (intOf i).toNat)
  case atStart =>
    refine ⟨0, Nat.zero_le _, rfl, ((Below.refl _ w).alloc (Nat.le_refl _) _).alloc (by simp) _, ⟨_, (keep0 _ _ _ (by simp)).trans (new0 w _ _ _)⟩, ?_, by simp, hrow, rfl, SlR.nil⟩
    simp
  case round =>
    obtain ⟨k, hk, rfl, hB, ⟨u0, ku⟩, kf, lr, kr, hall, hs⟩ := hrel
    have HA := Lib.hid hall
    clear hall hrow
    have hsz := hB.size
    have lu := World.block_lt_of_cell? wr _ ku
    by_cases hlt : k < L.length
    · have e1 : (k : Int) < (L.length : Int) := by omega
      have d := kr k hlt
      have hz := HZ.out k hlt
      have HN := Lib.hid (take_all_succ partOk L k hlt)
      have HM := Lib.hid (show (L.take (k + 1)).map partS = (L.take k).map partS ++ [partS L[k]] by rw [List.take_succ_eq_append_getElem hlt, List.map_append]; rfl)
      have HX := Lib.hid (show partOk L[k] = false → L.all partOk = false from fun h => List.all_eq_false.2 ⟨L[k], List.getElem_mem hlt, by simp [h]⟩)
      have KR := Lib.hid kr
      clear kr
      generalize L[k] = p at d hz HN HM HX
      have hcut := fun W (hW : MaxLenIs W) => cut_any p W hW (by omega)
      have hcl := cut_len p.data.toList [58]
      rw [len_data] at hcl
      have hps : partS p = ((numF (Lib.cut p.data.toList [58]).1).1, (numF (if (Lib.cut p.data.toList [58]).2.2 then (Lib.cut p.data.toList [58]).2.1 else (Lib.cut p.data.toList [58]).1)).1) := rfl
      have hpo : partOk p = ((numF (Lib.cut p.data.toList [58]).1).2 && (numF (if (Lib.cut p.data.toList [58]).2.2 then (Lib.cut p.data.toList [58]).2.1 else (Lib.cut p.data.toList [58]).1)).2) := rfl
      generalize Lib.cut p.data.toList [58] = C at hcut hcl hps hpo
      obtain ⟨f, t, r⟩ := C
      dsimp only at hcut hcl hps hpo
      have hn1 := fun W => num_list f W (by omega)
      cases r with
      | true =>
        rw [if_pos rfl] at hps hpo
        have hn2 := fun W => num_list t W (by omega)
        have HPS := Lib.hid (show partS p = ((numF f).1, (numF t).1) from hps)
        have HPO := Lib.hid (show partOk p = ((numF f).2 && (numF t).2) from hpo)
        generalize numF t = nb at hn2 HPS HPO
        generalize numF f = na at hn1 HPS HPO
        obtain ⟨x1, ok1⟩ := na
        obtain ⟨x2, ok2⟩ := nb
        clear hps hpo
        go_wp2_with ((with_reducible refine (hcut _ (hmB _ hB)).mono ?_))
        rintro _ w2 rfl n2 hw2
        have b2 : Below wr.heap.size wr w2 := hw2 ▸ below_drewN (Below.refl _ _) _
        clear hw2
        go_wp2_with ((with_reducible refine (hn1 _).mono ?_))
        rintro _ w3 ⟨rfl, n3, hw3⟩
        have b3 : Below wr.heap.size wr w3 := hw3 ▸ below_drewN b2 _
        clear hw3 b2
        go_wp2_with ((with_reducible refine (hn2 _).mono ?_))
        rintro _ w4 ⟨rfl, n4, hw4⟩
        have b4 : Below wr.heap.size wr w4 := hw4 ▸ below_drewN b3 _
        clear hw4 b3
        have sz4 := b4.size
        have lu4 : w.heap.size < w4.heap.size := Nat.lt_of_lt_of_le lu sz4
        have hs4 := hs.below SpR.keeps b4 (Nat.le_refl _)
        have hB4 := hB.trans (b4.mono hsz)
        have ku4 := (b4.cell (p := ⟨w.heap.size, 0, none⟩) lu).trans ku
        have kf4 := ((bcell b4).2 w.heap.size 0 lu).trans kf
        have kr4 : ∀ i (h : i < L.length), w4.cell? ⟨w.heap.size + 1, i, none⟩ = some (.string L[i]) := fun i h => (b4.cell (p := ⟨w.heap.size + 1, i, none⟩) lr).trans (KR.out i h)
        have KR4 := Lib.hid kr4
        clear kr4 hn1 hn2 hcut
        cases hok : (ok1 && ok2) with
        | false =>
          have hres : parseF s = ([], 3) := by rw [HF.out, HX.out (by rw [HPO.out]; exact hok)]; rfl
          have hpost := HP.out [] 3 hres
          have hcs := fun u => World.cell?_setCell_same' w4 ⟨w.heap.size, 0, none⟩ u (by rw [ku4]; rfl)
          have hc1 := hcs (.slice none 0 0)
          have hBs := hB4.setCell (p := ⟨w.heap.size, 0, none⟩) (Nat.le_refl _) (.slice none 0 0)
          clear hres
          cases ok1
          · go_wp2
            refine bodyPost_ret (v := .tuple #[.agg #[.slice none 0 0], .int .i64 3]) (by simp [results, Tryd.results7, go_sem, hc1]) rfl (hpost _ _ ⟨none, 0, rfl, RdR.nil, by simp, by simp, hBs⟩)
          · obtain rfl : ok2 = false := by simpa using hok
            go_wp2
            refine bodyPost_ret (v := .tuple #[.agg #[.slice none 0 0], .int .i64 3]) (by simp [results, Tryd.results7, go_sem, hc1]) rfl (hpost _ _ ⟨none, 0, rfl, RdR.nil, by simp, by simp, hBs⟩)
        | true =>
          obtain ⟨rfl, rfl⟩ : ok1 = true ∧ ok2 = true := by simpa using hok
          obtain ⟨cells, how, hel⟩ := hs4
          have hfl : ((L.take k).map partS).length ≤ k := by simp; omega
          generalize (L.take k).map partS = ys at how hel hfl HM
          have h63 : ys.length + 1 ≤ maxLen := by unfold maxLen; omega
          have h47 : (ys.length + 1) * 16 ≤ 140737488355328 := by omega
          have how1 := how.alloc (.cells #[.int .i64 x1, .int .i64 x2] 38)
          have hel1 := hel.below SpR.keeps ((Below.refl _ w4).alloc (Nat.le_refl _) (.cells #[.int .i64 x1, .int .i64 x2] 38)) (Nat.le_refl _)
          have hB5 := hB4.alloc hB4.size (.cells #[.int .i64 x1, .int .i64 x2] 38)
          have hal : Below w4.heap.size w4 (w4.alloc (.cells #[.int .i64 x1, .int .i64 x2] 38)) := (Below.refl _ w4).alloc (Nat.le_refl _) _
          have ku5 := (hal.cell (p := ⟨w.heap.size, 0, none⟩) (show w.heap.size < _ by omega)).trans ku4
          have kf5 := ((bcell hal).2 w.heap.size 0 (by omega)).trans kf4
          have kr5 : ∀ i (h : i < L.length), (w4.alloc (.cells #[.int .i64 x1, .int .i64 x2] 38)).cell? ⟨w.heap.size + 1, i, none⟩ = some (.string L[i]) := fun i h => (hal.cell (p := ⟨w.heap.size + 1, i, none⟩) (show w.heap.size + 1 < _ by omega)).trans (KR4.out i h)
          have KR5 := Lib.hid kr5
          clear kr5
          have hnc : ∀ j u, [Value.int .i64 x1, Value.int .i64 x2][j]? = some u → (w4.alloc (.cells #[.int .i64 x1, .int .i64 x2] 38)).cell? ((⟨w4.heap.size, 0, none⟩ : Addr).add j) = some u := World.news_of_block (cs := #[.int .i64 x1, .int .i64 x2]) (t := 38) (fr := (0, 0)) (heap_alloc_new w4 _)
          have hsb : w.heap.size + 2 ≤ (w4.alloc (.cells #[.int .i64 x1, .int .i64 x2] 38)).heap.size := by simp; omega
          go_wp2_with (at_builtin; refine wpList_append_own _ rfl _ _ 22 rfl (w.heap.size + 2) 38 i0 (.agg #[.int .i64 0, .int .i64 0]) 2 16 Tryd.underlying22 hi0 hz0 hz1 hz2 rfl (by decide) _ ys.length cells rfl how1 ⟨w4.heap.size, 0, none⟩ 1 1 [.int .i64 x1, .int .i64 x2] rfl rfl hnc (by intro u hu; simp at hu; rcases hu with rfl | rfl <;> rfl) h63 h47 hsb ?_)
          intro v5 w5 hown5 g5 _
          have hs5 := SlR.push SpR.keepsRow0 how1 hel1 rfl (show SpR _ [.int .i64 x1, .int .i64 x2] (x1, x2) from rfl) hown5 g5
          have hge : ∀ r, u4.ownBlock = some r → w.heap.size + 2 ≤ r := fun r hr => (how1.lt r hr).1
          have hn0 : u4.ownBlock ≠ some w.heap.size := fun h => by have := hge _ h; omega
          have hn1' : u4.ownBlock ≠ some (w.heap.size + 1) := fun h => by have := hge _ h; omega
          have hB6 := hB5.grown g5 hB5.size (fun k hk => by have := hge k hk; omega)
          have ku6 := (g5.cell_far ⟨w.heap.size, 0, none⟩ (World.block_lt_of_cell? _ _ ku5) (Ne.symm hn0)).trans ku5
          have kf6 := (g5.frozen_far ⟨w.heap.size, 0, none⟩ (World.block_lt_of_cell? _ _ ku5) (Ne.symm hn0)).trans kf5
          have lr6 : w.heap.size + 1 < w5.heap.size := Nat.lt_of_lt_of_le (show w.heap.size + 1 < (w4.alloc (.cells #[.int .i64 x1, .int .i64 x2] 38)).heap.size by omega) g5.size
          have KR6 : Hid (∀ i (h : i < L.length), w5.cell? ⟨w.heap.size + 1, i, none⟩ = some (.string L[i])) := fun i h => (g5.cell_far ⟨w.heap.size + 1, i, none⟩ (show w.heap.size + 1 < _ by omega) (Ne.symm hn1')).trans (KR5.out i h)
          clear how how1 hel hel1 hown5 g5 hnc hge hB5 hB4 ku5 kf5 ku4 kf4 hal b4
          go_wp2
          go_roundw
          case rel =>
            refine ⟨k + 1, by omega, by go_num, hB6, ⟨_, ku6⟩, kf6, lr6, KR6.out, ?_, ?_⟩
            · rw [HN.out, HA.out, HPO.out]; rfl
            · rw [HM.out, HPS.out]; exact hs5
          case measure => simp [intOf]; omega
      | false =>
        rw [if_neg (by decide)] at hps hpo
        have hn2 := fun W => num_list f W (by omega)
        have HPS := Lib.hid (show partS p = ((numF f).1, (numF f).1) from hps)
        have HPO := Lib.hid (show partOk p = ((numF f).2 && (numF f).2) from hpo)
        generalize numF f = na at hn1 hn2 HPS HPO
        obtain ⟨x1, ok1⟩ := na
        clear hps hpo
        go_wp2_with ((with_reducible refine (hcut _ (hmB _ hB)).mono ?_))
        rintro _ w2 rfl n2 hw2
        have b2 : Below wr.heap.size wr w2 := hw2 ▸ below_drewN (Below.refl _ _) _
        clear hw2
        go_wp2_with ((with_reducible refine (hn1 _).mono ?_))
        rintro _ w3 ⟨rfl, n3, hw3⟩
        have b3 : Below wr.heap.size wr w3 := hw3 ▸ below_drewN b2 _
        clear hw3 b2
        go_wp2_with ((with_reducible refine (hn2 _).mono ?_))
        rintro _ w4 ⟨rfl, n4, hw4⟩
        have b4 : Below wr.heap.size wr w4 := hw4 ▸ below_drewN b3 _
        clear hw4 b3
        have sz4 := b4.size
        have lu4 : w.heap.size < w4.heap.size := Nat.lt_of_lt_of_le lu sz4
        have hs4 := hs.below SpR.keeps b4 (Nat.le_refl _)
        have hB4 := hB.trans (b4.mono hsz)
        have ku4 := (b4.cell (p := ⟨w.heap.size, 0, none⟩) lu).trans ku
        have kf4 := ((bcell b4).2 w.heap.size 0 lu).trans kf
        have kr4 : ∀ i (h : i < L.length), w4.cell? ⟨w.heap.size + 1, i, none⟩ = some (.string L[i]) := fun i h => (b4.cell (p := ⟨w.heap.size + 1, i, none⟩) lr).trans (KR.out i h)
        have KR4 := Lib.hid kr4
        clear kr4 hn1 hn2 hcut
        cases hok : (ok1 && ok1) with
        | false =>
          have hres : parseF s = ([], 3) := by rw [HF.out, HX.out (by rw [HPO.out]; exact hok)]; rfl
          have hpost := HP.out [] 3 hres
          have hcs := fun u => World.cell?_setCell_same' w4 ⟨w.heap.size, 0, none⟩ u (by rw [ku4]; rfl)
          have hc1 := hcs (.slice none 0 0)
          have hBs := hB4.setCell (p := ⟨w.heap.size, 0, none⟩) (Nat.le_refl _) (.slice none 0 0)
          clear hres
          cases ok1
          · go_wp2
            refine bodyPost_ret (v := .tuple #[.agg #[.slice none 0 0], .int .i64 3]) (by simp [results, Tryd.results7, go_sem, hc1]) rfl (hpost _ _ ⟨none, 0, rfl, RdR.nil, by simp, by simp, hBs⟩)
          · simp at hok
        | true =>
          obtain rfl : ok1 = true := by simpa using hok
          obtain ⟨cells, how, hel⟩ := hs4
          have hfl : ((L.take k).map partS).length ≤ k := by simp; omega
          generalize (L.take k).map partS = ys at how hel hfl HM
          have h63 : ys.length + 1 ≤ maxLen := by unfold maxLen; omega
          have h47 : (ys.length + 1) * 16 ≤ 140737488355328 := by omega
          have how1 := how.alloc (.cells #[.int .i64 x1, .int .i64 x1] 38)
          have hel1 := hel.below SpR.keeps ((Below.refl _ w4).alloc (Nat.le_refl _) (.cells #[.int .i64 x1, .int .i64 x1] 38)) (Nat.le_refl _)
          have hB5 := hB4.alloc hB4.size (.cells #[.int .i64 x1, .int .i64 x1] 38)
          have hal : Below w4.heap.size w4 (w4.alloc (.cells #[.int .i64 x1, .int .i64 x1] 38)) := (Below.refl _ w4).alloc (Nat.le_refl _) _
          have ku5 := (hal.cell (p := ⟨w.heap.size, 0, none⟩) (show w.heap.size < _ by omega)).trans ku4
          have kf5 := ((bcell hal).2 w.heap.size 0 (by omega)).trans kf4
          have kr5 : ∀ i (h : i < L.length), (w4.alloc (.cells #[.int .i64 x1, .int .i64 x1] 38)).cell? ⟨w.heap.size + 1, i, none⟩ = some (.string L[i]) := fun i h => (hal.cell (p := ⟨w.heap.size + 1, i, none⟩) (show w.heap.size + 1 < _ by omega)).trans (KR4.out i h)
          have KR5 := Lib.hid kr5
          clear kr5
          have hnc : ∀ j u, [Value.int .i64 x1, Value.int .i64 x1][j]? = some u → (w4.alloc (.cells #[.int .i64 x1, .int .i64 x1] 38)).cell? ((⟨w4.heap.size, 0, none⟩ : Addr).add j) = some u := World.news_of_block (cs := #[.int .i64 x1, .int .i64 x1]) (t := 38) (fr := (0, 0)) (heap_alloc_new w4 _)
          have hsb : w.heap.size + 2 ≤ (w4.alloc (.cells #[.int .i64 x1, .int .i64 x1] 38)).heap.size := by simp; omega
          go_wp2_with (at_builtin; refine wpList_append_own _ rfl _ _ 22 rfl (w.heap.size + 2) 38 i0 (.agg #[.int .i64 0, .int .i64 0]) 2 16 Tryd.underlying22 hi0 hz0 hz1 hz2 rfl (by decide) _ ys.length cells rfl how1 ⟨w4.heap.size, 0, none⟩ 1 1 [.int .i64 x1, .int .i64 x1] rfl rfl hnc (by intro u hu; simp at hu; rcases hu with rfl | rfl <;> rfl) h63 h47 hsb ?_)
          intro v5 w5 hown5 g5 _
          have hs5 := SlR.push SpR.keepsRow0 how1 hel1 rfl (show SpR _ [.int .i64 x1, .int .i64 x1] (x1, x1) from rfl) hown5 g5
          have hge : ∀ r, u4.ownBlock = some r → w.heap.size + 2 ≤ r := fun r hr => (how1.lt r hr).1
          have hn0 : u4.ownBlock ≠ some w.heap.size := fun h => by have := hge _ h; omega
          have hn1' : u4.ownBlock ≠ some (w.heap.size + 1) := fun h => by have := hge _ h; omega
          have hB6 := hB5.grown g5 hB5.size (fun k hk => by have := hge k hk; omega)
          have ku6 := (g5.cell_far ⟨w.heap.size, 0, none⟩ (World.block_lt_of_cell? _ _ ku5) (Ne.symm hn0)).trans ku5
          have kf6 := (g5.frozen_far ⟨w.heap.size, 0, none⟩ (World.block_lt_of_cell? _ _ ku5) (Ne.symm hn0)).trans kf5
          have lr6 : w.heap.size + 1 < w5.heap.size := Nat.lt_of_lt_of_le (show w.heap.size + 1 < (w4.alloc (.cells #[.int .i64 x1, .int .i64 x1] 38)).heap.size by omega) g5.size
          have KR6 : Hid (∀ i (h : i < L.length), w5.cell? ⟨w.heap.size + 1, i, none⟩ = some (.string L[i])) := fun i h => (g5.cell_far ⟨w.heap.size + 1, i, none⟩ (show w.heap.size + 1 < _ by omega) (Ne.symm hn1')).trans (KR5.out i h)
          clear how how1 hel hel1 hown5 g5 hnc hge hB5 hB4 ku5 kf5 ku4 kf4 hal b4
          go_wp2
          go_roundw
          case rel =>
            refine ⟨k + 1, by omega, by go_num, hB6, ⟨_, ku6⟩, kf6, lr6, KR6.out, ?_, ?_⟩
            · rw [HN.out, HA.out, HPO.out]; rfl
            · rw [HM.out, HPS.out]; exact hs5
          case measure => simp [intOf]; omega
    · obtain rfl : k = L.length := by omega
      have hA := HA.out
      rw [List.take_length] at hs hA
      have hcs := fun u => World.cell?_setCell_same' wr ⟨w.heap.size, 0, none⟩ u (by rw [ku]; rfl)
      have hBs := fun u => hB.setCell (p := ⟨w.heap.size, 0, none⟩) (Nat.le_refl _) u
      have hset := fun u => (SlR.setq (fun _ _ _ _ _ h => h) hs (a := ⟨w.heap.size, 0, none⟩) (show w.heap.size < w.heap.size + 2 by omega) u).rdq (by decide)
      obtain ⟨A, cap, rfl, h1, h2, _⟩ := hs.rdq (by decide)
      have hlen : (L.map partS).length = L.length := List.length_map ..
      rw [hlen] at h1 hset
      by_cases h100 : 100 < L.length
      · have h100' : (100 : Int) < (L.length : Int) := by omega
        have hres : parseF s = ([], 2) := by rw [HF.out, hA, if_pos rfl, if_pos h100]
        have hpost := HP.out [] 2 hres
        have hc1 := hcs (.slice none 0 0)
        have hBs1 := hBs (.slice none 0 0)
        rw [hlen]
        clear hset hs hres hA hcs hBs
        go_wp2
        refine bodyPost_ret (v := .tuple #[.agg #[.slice none 0 0], .int .i64 2]) (by simp [results, Tryd.results7, go_sem, hc1]) rfl (hpost _ _ ⟨none, 0, rfl, RdR.nil, by simp, by simp, hBs1⟩)
      · have h100' : ¬ (100 : Int) < (L.length : Int) := by omega
        have hres : parseF s = (L.map partS, 0) := by rw [HF.out, hA, if_pos rfl, if_neg h100]
        have hpost := HP.out _ 0 hres
        rw [hlen] at hpost
        obtain ⟨A3, cap3, hv3, g1, g2, hrd⟩ := hset (.slice A L.length cap)
        injection hv3 with q1 q2 q3
        subst q1
        subst q3
        have hc1 := hcs (.slice A L.length cap)
        have hBs1 := hBs (.slice A L.length cap)
        rw [hlen]
        clear hset hs hres hA hcs hBs
        go_wp2
        refine bodyPost_ret (v := .tuple #[.agg #[.slice A L.length cap], .int .i64 0]) (by simp [results, Tryd.results7, go_sem, hc1]) rfl (hpost _ _ ⟨A, cap, rfl, hrd, g1, g2, hBs1⟩)
end Go.Proofs.YtehbekjcnlcooaaDoor
