/- Merged: SqX, SqY. -/
import Derived.Test.YtehbekjcnlcooaaDoorSqS
import Derived.Lib.ItoaLen
import Derived.Lib.LaidTab
set_option linter.unusedVariables false
/- Package seq: Show. -/
namespace Go.Proofs.YtehbekjcnlcooaaDoor
open Go.RowKit

def Pow10s (w : World) : Prop := Lib.TabIs Tryd.prog w "internal/strconv.uint64pow10" .u64 Lib.pow10Tab
def showN (n : Int) : List UInt8 := if n = 0 then [42] else Lib.itoa n
theorem showN_len (n : Int) (h0 : -9223372036854775808 ≤ n) (h1 : n ≤ 9223372036854775807) : (showN n).length ≤ 21 := by
  unfold showN
  split
  · simp
  · exact Lib.itoa_length_le n h0 h1
theorem show_any (n : Int) (h0 : -9223372036854775808 ≤ n) (h1 : n ≤ 9223372036854775807) (w : World) (ht : Pow10s w) :
    Calls Tryd.prog 20 #[.int .i64 n] w fun e w' => e = .returned (.string ⟨(showN n).toArray⟩) ∧ Below w.heap.size w w' := by
  by_cases h : n = 0
  · have hr : showN n = [42] := by unfold showN; rw [if_pos h]
    subst h
    rw [hr]
    go_enter Tryd.func20, Tryd.ntmps20
    go_wp2
    go_ret
    exact ⟨rfl, Below.refl _ w⟩
  · have hb : (n == 0) = false := by simpa using h
    have hr : showN n = Lib.itoa n := by unfold showN; rw [if_neg h]
    have hc : ∀ W, Pow10s W → Calls Tryd.prog 35 #[.int .i64 n, .int .i64 10] W fun e w' => e = .returned (.string ⟨(Lib.itoa n).toArray⟩) ∧ Below W.heap.size W w' := fun W hW => by
      refine (Tryd.strconv_FormatInt_10 n h0 h1 W hW).mono ?_
      rintro e w' ⟨rfl, k, os, rfl⟩
      exact ⟨rfl, below_grown W k os⟩
    rw [hr]
    go_enter Tryd.func20, Tryd.ntmps20
    go_wp2_with ((with_reducible refine (hc _ ht).mono ?_))
    rintro _ w1 ⟨rfl, hb1⟩
    go_wp2
    go_ret
    exact ⟨rfl, hb1⟩

theorem gPow10s : Tryd.prog.globalNamed "internal/strconv.uint64pow10" = some 1 := by kernel_rfl
theorem Pow10s.below {B : Nat} {w w' : World} (h : Pow10s w) (hb : Below B w w') (hB : 1 < B) : Pow10s w' := var?_below hb gPow10s hB h
def showS (x : Int × Int) : List UInt8 := showN x.1 ++ (if x.1 = x.2 then [] else 58 :: showN x.2)
def showB (x : Int × Int) : ByteArray := ⟨(showS x).toArray⟩
def showSet (xs : List (Int × Int)) : List UInt8 := if validF xs then Lib.join (xs.map showS) [44] else []
theorem showB_cat (x1 x2 : Int) (h : ¬ x1 = x2) : (⟨(showN x1).toArray⟩ : ByteArray) ++ (⟨#[58]⟩ ++ ⟨(showN x2).toArray⟩) = showB (x1, x2) := by
  unfold showB showS
  rw [if_neg h]
  apply ByteArray.ext
  simp [ByteArray.data_append]
theorem showB_one (x1 : Int) : (⟨(showN x1).toArray⟩ : ByteArray) = showB (x1, x1) := by
  unfold showB showS
  simp
theorem StrR.keepsRow : KeepsRow StrR 9 := fun w w' cs x row h hg hr => h
theorem strInfo : (Tryd.prog.info? 9).map (fun i => (i.zero, i.size, i.bytes)) = some (some (.string ByteArray.empty), 1, 16) := by kernel_rfl
end Go.Proofs.YtehbekjcnlcooaaDoor

/- Package seq: Show, the walk. -/
namespace Go.Proofs.YtehbekjcnlcooaaDoor
open Go.RowKit

theorem showS_len (x : Int × Int) (h : okS x = true) : (showS x).length ≤ 43 := by
  unfold okS at h
  simp only [decide_eq_true_eq] at h
  have a := showN_len x.1 (by omega) (by omega)
  have b := showN_len x.2 (by omega) (by omega)
  unfold showS
  split <;> simp <;> omega
theorem joinTail_len : ∀ (l : List (Int × Int)), l.all okS = true → (Lib.joinTail [44] (l.map showS)).length ≤ 44 * l.length
  | [], _ => by simp [Lib.joinTail]
  | x :: l, h => by
    simp only [List.all_cons, Bool.and_eq_true] at h
    have h1 := showS_len x h.1
    have h2 := joinTail_len l h.2
    unfold Lib.joinTail at h2 ⊢
    simp only [List.map_cons, List.flatten_cons, List.length_append, List.length_cons, List.length_nil] at h2 ⊢
    omega
theorem join_len (l : List (Int × Int)) (h : l.all okS = true) : (Lib.join (l.map showS) [44]).length ≤ 44 * l.length + 43 := by
  cases l with
  | nil => simp [Lib.join_nil]
  | cons x l =>
    simp only [List.all_cons, Bool.and_eq_true] at h
    have h1 := showS_len x h.1
    have h2 := joinTail_len l h.2
    rw [List.map_cons, Lib.join_cons, List.length_append, List.length_cons]
    omega

set_option maxRecDepth 100000 in
set_option maxHeartbeats 2000000 in
theorem Show_any (A : Option Addr) (xs : List (Int × Int)) (cap : Nat) (w : World) (hr : RdR SpR 2 w A xs) (hlc : xs.length ≤ cap) (hcm : cap ≤ maxLen) (ht : Pow10s w) (hp : 1 < w.heap.size) :
    Calls Tryd.prog 6 #[.agg #[.slice A xs.length cap]] w fun e w' => e = .returned (.string ⟨(showSet xs).toArray⟩) ∧ Below w.heap.size w w' := by
  obtain ⟨i0, hi0, hz0, hz1, hz2⟩ := info_parts strInfo
  have hcm' : cap ≤ 9223372036854775807 := hcm
  have hv := fun W (hb : Below w.heap.size w W) => valid_any A xs cap W (hr.below SpR.keeps hb (Nat.le_refl _)) hlc hcm
  have hal0 : ∀ x, Below w.heap.size w (w.alloc x) := fun x => (Below.refl _ w).alloc (Nat.le_refl _) x
  cases hq : validF xs with
  | false =>
    have hF : showSet xs = [] := by unfold showSet; rw [hq]; rfl
    rw [hq] at hv
    rw [hF]
    go_enter Tryd.func6, Tryd.ntmps6
    go_wp2_with ((with_reducible refine (hv _ (hal0 _)).mono ?_))
    rintro _ w1 ⟨rfl, hb1⟩
    go_wp2
    go_ret
    exact ⟨rfl, (hal0 _).trans (hb1.mono (by simp))⟩
  | true =>
    have hF : showSet xs = Lib.join (xs.map showS) [44] := by unfold showSet; rw [hq]; rfl
    rw [hq] at hv
    obtain ⟨hn, hok⟩ : (1 ≤ xs.length ∧ xs.length ≤ 100) ∧ xs.all okS = true := by
      unfold validF at hq
      simpa using hq
    obtain ⟨b, o, rfl, hb, _⟩ := id hr (by omega)
    have hjl := join_len xs hok
    have hshow := fun n (h0 : -9223372036854775808 ≤ n) (h1 : n ≤ 9223372036854775807) W (hW : Below w.heap.size w W) => show_any n h0 h1 W (ht.below hW hp)
    have hc := fun i hi => rd_agg hr i hi
    have hokx : ∀ i (h : i < xs.length), okS xs[i] = true := fun i h => List.all_eq_true.1 hok _ (List.getElem_mem h)
    have HOK := Lib.hid hokx
    rw [hF]
    clear hF hr hq hokx ht
    go_enter Tryd.func6, Tryd.ntmps6
    go_wp2_with ((with_reducible refine (hv _ (hal0 _)).mono ?_))
    rintro _ w1 ⟨rfl, hb1⟩
    have hB1 := (hal0 (.cells #[.slice (some ⟨b, o, none⟩) xs.length cap] 24)).trans (hb1.mono (by simp))
    have c1 : w1.cell? ⟨w.heap.size, 0, none⟩ = some (.slice (some ⟨b, o, none⟩) xs.length cap) := (hb1.cell (p := ⟨w.heap.size, 0, none⟩) (by simp)).trans (new0 w _ _ _)
    clear hb1 hv
    go_wp2
    go_loopw [3, 13] (fun v i wr => ∃ k : Nat, k ≤ xs.length ∧ i = .int .i64 (k : Int) ∧ Below w.heap.size w wr ∧ SlR StrR 9 1 wr w.heap.size v ((xs.take k).map showB)) (fun _ i _ => xs.length - (intOf i).toNat)
    case atStart => exact ⟨0, Nat.zero_le _, rfl, hB1, SlR.nil⟩
    case round =>
      obtain ⟨k, hk, rfl, hB, hs⟩ := hrel
      have hsz := hB.size
      by_cases hlt : k < xs.length
      · have e1 : (k : Int) < (xs.length : Int) := by omega
        obtain ⟨d1, d2⟩ := hc k hlt
        rw [← hB.cell (p := ⟨b, o + k * 2, none⟩) hb] at d1
        rw [← hB.cell (p := ⟨b, o + k * 2 + 1, none⟩) hb] at d2
        have hbw : b < wr.heap.size := Nat.lt_of_lt_of_le hb hsz
        have hox := HOK.out k hlt
        have HN := Lib.hid (show (xs.take (k + 1)).map showB = (xs.take k).map showB ++ [showB xs[k]] by rw [List.take_succ_eq_append_getElem hlt, List.map_append]; rfl)
        generalize xs[k] = x at d1 d2 hox HN
        obtain ⟨x1, x2⟩ := x
        have hlen := showS_len (x1, x2) hox
        unfold okS at hox
        simp only [decide_eq_true_eq] at hox
        have hs1 := fun W hW => hshow x1 (by omega) (by omega) W hW
        have hs2 := fun W hW => hshow x2 (by omega) (by omega) W hW
        have l1 := showN_len x1 (by omega) (by omega)
        have l2 := showN_len x2 (by omega) (by omega)
        have hal : Below wr.heap.size wr (wr.alloc (.cells #[.int .i64 x1, .int .i64 x2] 38)) := (Below.refl _ wr).alloc (Nat.le_refl _) _
        have hBa := hB.alloc hsz (.cells #[.int .i64 x1, .int .i64 x2] 38)
        have hnews := World.news_of_block (cs := #[.int .i64 x1, .int .i64 x2]) (t := 38) (fr := (0, 0)) (heap_alloc_new wr (.cells #[.int .i64 x1, .int .i64 x2] 38))
        have m1 := hnews 0 _ rfl
        have m2 := hnews 1 _ rfl
        rw [addp, Nat.zero_add] at m1 m2
        go_wp2_with ((with_reducible refine (hs1 _ hBa).mono ?_))
        rintro _ w2 rfl hb2
        have m1' := (hb2.cell (p := ⟨wr.heap.size, 0, none⟩) (by simp)).trans m1
        have m2' := (hb2.cell (p := ⟨wr.heap.size, 1, none⟩) (by simp)).trans m2
        have b2 := hal.trans (hb2.mono (by omega))
        have hB2 := hB.trans (b2.mono hsz)
        by_cases hxx : x1 = x2
        · subst hxx
          have e2 : (x1 != x1) = false := by simp
          have hS : (⟨(showN x1).toArray⟩ : ByteArray) = showB (x1, x1) := showB_one x1
          rw [hS]
          have hz9 : (showB (x1, x1)).size ≤ 43 := by show (showS (x1, x1)).toArray.size ≤ 43; simpa using hlen
          generalize showB (x1, x1) = S at HN hz9
          clear hS
          have hsA := hs.below StrR.keeps b2 (Nat.le_refl _)
          obtain ⟨cells, how, hel⟩ := hsA
          have hfl : ((xs.take k).map showB).length ≤ k := by simp; omega
          generalize (xs.take k).map showB = ys at how hel hfl HN
          have h63 : ys.length + 1 ≤ maxLen := by unfold maxLen; omega
          have h47 : (ys.length + 1) * 16 ≤ 140737488355328 := by omega
          have how1 := how.alloc (.cells #[.string S] 9)
          have hel1 := hel.below StrR.keeps ((Below.refl _ w2).alloc (Nat.le_refl _) (.cells #[.string S] 9)) (Nat.le_refl _)
          have hB5 := hB2.alloc hB2.size (.cells #[.string S] 9)
          have hnc : ∀ j u, [Value.string S][j]? = some u → (w2.alloc (.cells #[.string S] 9)).cell? ((⟨w2.heap.size, 0, none⟩ : Addr).add j) = some u := World.news_of_block (cs := #[.string S]) (t := 9) (fr := (0, 0)) (heap_alloc_new w2 _)
          have hsb : w.heap.size ≤ (w2.alloc (.cells #[.string S] 9)).heap.size := hB5.size
          go_wp2_with (at_builtin; refine wpList_append_own _ rfl _ _ 51 rfl w.heap.size 9 i0 (.string ByteArray.empty) 1 16 Tryd.underlying51 hi0 hz0 hz1 hz2 rfl (by decide) _ ys.length cells rfl how1 ⟨w2.heap.size, 0, none⟩ 1 1 [.string S] rfl rfl hnc (by intro u hu; simp at hu; subst hu; rfl) h63 h47 hsb ?_)
          intro v5 w5 hown5 g5 _
          have hs5 := SlR.push StrR.keepsRow how1 hel1 rfl (show StrR _ [.string S] S from ⟨rfl, by unfold maxLen; omega⟩) hown5 g5
          have hB6 := hB5.grown g5 hsb (fun k hk => (how1.lt k hk).1)
          clear how how1 hel hel1 hown5 g5 hnc hsb hB5
          go_wp2
          go_roundw
          case rel =>
            refine ⟨k + 1, by omega, by go_num, hB6, ?_⟩
            rw [HN.out]
            exact hs5
          case measure => simp [intOf]; omega
        · have e2 : (x1 != x2) = true := by simpa using hxx
          have hS := showB_cat x1 x2 hxx
          have hz9 : (showB (x1, x2)).size ≤ 43 := by show (showS (x1, x2)).toArray.size ≤ 43; simpa using hlen
          have z1 : (⟨(showN x1).toArray⟩ : ByteArray).size ≤ 21 := by show (showN x1).toArray.size ≤ 21; simpa using l1
          have z2 : (⟨(showN x2).toArray⟩ : ByteArray).size ≤ 21 := by show (showN x2).toArray.size ≤ 21; simpa using l2
          generalize (⟨(showN x1).toArray⟩ : ByteArray) = S1 at hs1 hS z1 ⊢
          generalize (⟨(showN x2).toArray⟩ : ByteArray) = S2 at hs2 hS z2
          have hSf := Lib.hid hS
          have kn1 : (9223372036854775807 < 1 + S2.size) = False := by simp; omega
          have ki1 : (IntKind.i64.max < 1 + (S2.size : Int)) = False := by simp [IntKind.max, IntKind.bits, IntKind.signed]; omega
          have kn2 : (9223372036854775807 < S1.size + (1 + S2.size)) = False := by simp; omega
          have ki2 : (IntKind.i64.max < (S1.size : Int) + (1 + (S2.size : Int))) = False := by simp [IntKind.max, IntKind.bits, IntKind.signed]; omega
          go_wp2_with ((with_reducible refine (hs2 _ hB2).mono ?_))
          rintro _ w3 ⟨rfl, hb3⟩
          have b3 := b2.trans (hb3.mono b2.size)
          have hB3 := hB.trans (b3.mono hsz)
          generalize showB (x1, x2) = S at HN hz9 hS
          have hsA := hs.below StrR.keeps b3 (Nat.le_refl _)
          obtain ⟨cells, how, hel⟩ := hsA
          have hfl : ((xs.take k).map showB).length ≤ k := by simp; omega
          generalize (xs.take k).map showB = ys at how hel hfl HN
          have h63 : ys.length + 1 ≤ maxLen := by unfold maxLen; omega
          have h47 : (ys.length + 1) * 16 ≤ 140737488355328 := by omega
          have how1 := how.alloc (.cells #[.string S] 9)
          have hel1 := hel.below StrR.keeps ((Below.refl _ w3).alloc (Nat.le_refl _) (.cells #[.string S] 9)) (Nat.le_refl _)
          have hB5 := hB3.alloc hB3.size (.cells #[.string S] 9)
          have hnc : ∀ j u, [Value.string S][j]? = some u → (w3.alloc (.cells #[.string S] 9)).cell? ((⟨w3.heap.size, 0, none⟩ : Addr).add j) = some u := World.news_of_block (cs := #[.string S]) (t := 9) (fr := (0, 0)) (heap_alloc_new w3 _)
          have hsb : w.heap.size ≤ (w3.alloc (.cells #[.string S] 9)).heap.size := hB5.size
          go_wp2_with (at_builtin; refine wpList_append_own _ rfl _ _ 51 rfl w.heap.size 9 i0 (.string ByteArray.empty) 1 16 Tryd.underlying51 hi0 hz0 hz1 hz2 rfl (by decide) _ ys.length cells rfl how1 ⟨w3.heap.size, 0, none⟩ 1 1 [.string S] rfl rfl hnc (by intro u hu; simp at hu; subst hu; rfl) h63 h47 hsb ?_)
          intro v5 w5 hown5 g5 _
          have hs5 := SlR.push StrR.keepsRow how1 hel1 rfl (show StrR _ [.string S] S from ⟨rfl, by unfold maxLen; omega⟩) hown5 g5
          have hB6 := hB5.grown g5 hsb (fun k hk => (how1.lt k hk).1)
          clear how how1 hel hel1 hown5 g5 hnc hsb hB5
          go_wp2
          go_roundw
          case rel =>
            refine ⟨k + 1, by omega, by go_num, hB6, ?_⟩
            rw [HN.out]
            exact hs5
          case measure => simp [intOf]; omega
      · obtain rfl : k = xs.length := by omega
        rw [List.take_length] at hs
        obtain ⟨A2, cap2, rfl, h1, h2, hrd⟩ := hs.rdq (by decide)
        have hml : (xs.map showB).length = xs.length := List.length_map ..
        obtain ⟨b2, o2, rfl, hb2, hrow⟩ := id hrd (by omega)
        have hj := fun W (hW : Below wr.heap.size wr W) => Tryd.strings_Join b2 o2 cap2 (xs.map showB) ⟨#[44]⟩ W (fun j x hx => by
          obtain ⟨hj, rfl⟩ := List.getElem?_eq_some_iff.1 hx
          obtain ⟨b', o', v, hA, hq, hcell⟩ := hrd.one j hj
          cases hA
          rw [hW.cell (p := ⟨b2, o2 + j, none⟩) hb2, hcell]
          have := hq.1
          simp at this
          rw [this]; simp) (Nat.lt_of_lt_of_le hb2 hW.size) (by omega) h1 (by
          rw [List.map_map]
          show (Lib.join (xs.map showS) [44]).length ≤ _
          omega)
        rw [List.map_map, hml] at hj
        have hj2 : ∀ W, Below wr.heap.size wr W → Calls Tryd.prog 21 #[.slice (some ⟨b2, o2, none⟩) xs.length cap2, .string ⟨#[44]⟩] W fun e w' => e = .returned (.string ⟨(Lib.join (xs.map showS) [44]).toArray⟩) ∧ Below W.heap.size W w' := hj
        clear hj
        go_wp2_with ((with_reducible refine (hj2 _ (Below.refl _ _)).mono ?_))
        rintro _ w2 ⟨rfl, hb9⟩
        go_wp2
        go_ret
        exact ⟨rfl, hB.trans (hb9.mono hsz)⟩
end Go.Proofs.YtehbekjcnlcooaaDoor
