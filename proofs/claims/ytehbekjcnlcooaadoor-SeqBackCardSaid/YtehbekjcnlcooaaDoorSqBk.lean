/- SeqBack's walk. -/
import Derived.Test.YtehbekjcnlcooaaDoorSqV
import Derived.Test.YtehbekjcnlcooaaDoorSqU
import Derived.Test.YtehbekjcnlcooaaDoorSqC
import Derived.Test.YtehbekjcnlcooaaDoorSqJ
import Derived.Test.YtehbekjcnlcooaaDoorAwkKnW
import Derived.BigQuiet
import Derived.Deep.RegionHeld3
import Derived.Deep.DeepCutAuto
set_option linter.unusedVariables false
namespace Go.Proofs.YtehbekjcnlcooaaDoor
open Go.RowKit

def BackShow (xs : List (Int × Int)) (S : ByteArray) : Prop := (validF xs = false → S.size = 0) ∧ (validF xs = true → S.size ≠ 0 ∧ S.size ≤ 1000000 ∧ parseF S = (xs, 0) ∧ (partsS S).length ≤ 1000001)
theorem back_show (xs : List (Int × Int)) (h110 : xs.length ≤ 110) : BackShow xs ⟨(showSet xs).toArray⟩ := by
  refine ⟨fun h => by rw [(showSet_empty xs).2 h]; rfl, fun h => ?_⟩
  have hv := h
  unfold validF at hv
  simp only [Bool.and_eq_true, decide_eq_true_eq] at hv
  have hl := join_len xs hv.2
  have hs : showSet xs = Lib.join (xs.map showS) [44] := by unfold showSet; rw [h]; rfl
  rw [← hs] at hl
  refine ⟨?_, ?_, parse_show xs h, ?_⟩
  · intro h0
    have : showSet xs = [] := List.eq_nil_of_length_eq_zero (by have h1 : (showSet xs).toArray.size = 0 := h0; rwa [List.size_toArray] at h1)
    rw [(showSet_empty xs).1 this] at h
    cases h
  · show (showSet xs).toArray.size ≤ _
    rw [List.size_toArray]
    omega
  · rw [parts_show xs h, List.length_map]
    omega
def ReadPost (xs : List (Int × Int)) (w : World) (e : Ending) (w' : World) : Prop := ∃ A cap, e = .returned (.tuple #[.agg #[.slice A xs.length cap], .int .i64 0]) ∧ RdR SpR 2 w' A xs ∧ xs.length ≤ cap ∧ cap ≤ maxLen ∧ Below w.heap.size w w'
def OwnPost (xs : List (Int × Int)) (w : World) (e : Ending) (w' : World) : Prop := ∃ A cap, e = .returned (.agg #[.slice A xs.length cap]) ∧ RdR SpR 2 w' A xs ∧ xs.length ≤ cap ∧ cap ≤ maxLen ∧ Below w.heap.size w w'
def OfPost (O : List (Int × Int)) (w : World) (e : Ending) (w' : World) : Prop := ∃ A cap, e = .returned (.agg #[.slice A O.length cap]) ∧ RdR SpR 2 w' A O ∧ O.length ≤ cap ∧ cap ≤ maxLen ∧ Below w.heap.size w w'
theorem mem_take_succ (l : List Int) (n : Int) (k : Nat) (h : k < l.length) : decide (n ∈ l.take (k + 1)) = (decide (n ∈ l.take k) || decide (l[k] = n)) := by
  rw [List.take_succ_eq_append_getElem h, Bool.eq_iff_iff, Bool.or_eq_true, decide_eq_true_iff, decide_eq_true_iff, decide_eq_true_iff, List.mem_append, List.mem_singleton, eq_comm (a := n)]
/-- 'Below' from the size of the first world's heap on, behind a name that the walk does not open. -/
def Bel8 (w W : World) : Prop := Below w.heap.size w W
theorem bel8_go {w wx wy : World} (hB : Bel8 w wx) (hb : Below wx.heap.size wx wy) : Bel8 w wy := Below.trans hB (hb.mono (Below.size hB))
theorem st8_next {w wx wy : World} {g h : Nat} {x y : Value} (hb : Below wx.heap.size wx wy) (hB : Bel8 w wx) (c0 : wx.cell? ⟨g, 0, none⟩ = some x) (c1 : wx.cell? ⟨h, 0, none⟩ = some y) :
    wy.cell? ⟨g, 0, none⟩ = some x ∧ wy.cell? ⟨h, 0, none⟩ = some y ∧ Bel8 w wy := by
  have hg := World.block_lt_of_cell? wx _ c0
  have hh := World.block_lt_of_cell? wx _ c1
  exact ⟨(hb.cell (p := ⟨g, 0, none⟩) hg).trans c0, (hb.cell (p := ⟨h, 0, none⟩) hh).trans c1, bel8_go hB hb⟩

set_option maxRecDepth 100000 in
set_option maxHeartbeats 4000000 in
theorem back_walk (A : Option Addr) (xs : List (Int × Int)) (cap : Nat) (A2 : Option Addr) (l : List Int) (cap2 : Nat) (n : Int) (w : World) (hr : RdR SpR 2 w A xs) (hlc : xs.length ≤ cap) (hcm : cap ≤ maxLen)
    (hr2 : RdR IntR 1 w A2 l) (hlc2 : l.length ≤ cap2) (hcm2 : cap2 ≤ maxLen) (hn : (Lit.int .i64 n).wf = true) (ht : Pow10s w) (hp : 1 < w.heap.size)
    (hm : ∃ m, w.cell? ⟨0, 0, none⟩ = some (.int .i64 m)) (hg : 0 < w.heap.size) :
    Calls Tryd.prog 3 #[.agg #[.slice A xs.length cap], .slice A2 l.length cap2, .int .i64 n] w fun e w' => e = .returned (.bool true) ∧ Below w.heap.size w w' := by
  have hmm : MaxLenIs w := hm
  have hcm' : cap ≤ 9223372036854775807 := hcm
  have hcm2' : cap2 ≤ 9223372036854775807 := hcm2
  clear hm hg hn
  go_enter Tryd.func3, Tryd.ntmps3
  go_wp2_with ((with_reducible refine (awkWalk _).mono ?_))
  rintro _ w1 ⟨rfl, hb1⟩
  have c1 : w1.cell? ⟨w.heap.size, 0, none⟩ = some (.slice A xs.length cap) := (hb1.cell (p := ⟨w.heap.size, 0, none⟩) (by simp)).trans (new0 w _ _ _)
  have hs1 : w.heap.size + 1 ≤ w1.heap.size := by have := hb1.size; simp at this; omega
  have hB1 : Below w.heap.size w w1 := ((Below.refl _ w).alloc (Nat.le_refl _) _).trans (hb1.mono (by simp))
  clear hb1
  by_cases h110 : 110 < xs.length
  · have h110' : (110 : Int) < (xs.length : Int) := by omega
    go_wp2
    go_ret
    exact ⟨rfl, hB1⟩
  have h110' : ¬ (110 : Int) < (xs.length : Int) := by omega
  by_cases h60 : 60 < l.length
  · have h60' : (60 : Int) < (l.length : Int) := by omega
    go_wp2
    go_ret
    exact ⟨rfl, hB1⟩
  have h60' : ¬ (60 : Int) < (l.length : Int) := by omega
  have hshow := fun W (hW : Below w1.heap.size w1 W) => Show_any A xs cap W ((hr.below SpR.keeps hB1 (Nat.le_refl _)).below SpR.keeps hW (Nat.le_refl _)) hlc hcm ((ht.below hB1 hp).below hW (by omega)) (by have := hW.size; omega)
  have HS := Lib.hid (back_show xs (by omega))
  generalize (⟨(showSet xs).toArray⟩ : ByteArray) = S at hshow HS
  go_wp2_with ((with_reducible refine (hshow _ (Below.refl _ _)).mono ?_))
  rintro _ w2 ⟨rfl, hb2⟩
  have hB2 := hB1.trans (hb2.mono hB1.size)
  have c2 := (hb2.cell (p := ⟨w.heap.size, 0, none⟩) (show w.heap.size < w1.heap.size by omega)).trans c1
  have hs2 := hb2.size
  clear hshow hb2 c1
  go_upto_if 28 with (fail)
  go_cut [] (fun wx => Below w2.heap.size w2 wx)
  case first =>
    cases hv : validF xs with
    | false =>
      have e0 := str_isnil (HS.out.1 hv)
      simp only [e0, Bool.not_true]
      go_wp2
      go_meet
      exact Below.refl _ _
    | true =>
      obtain ⟨h0, hz, hpf, hpl⟩ := HS.out.2 hv
      have e1 := str_some h0
      simp only [e1, Bool.not_false]
      have hparse : ∀ W, Below w2.heap.size w2 W → Calls Tryd.prog 7 #[.string S] W (ReadPost xs W) := fun W hW => by
        have h := parse_any S W ((hmm.below hB2).below hW) hz hpl
        unfold ParsePost at h
        rw [hpf] at h
        exact h
      clear hpf hpl
      go_wp2_with ((with_reducible refine (hparse _ (Below.refl _ _)).mono ?_))
      rintro _ w3 ⟨A3, cap3, rfl, hr3, h31, h32, b3⟩
      have hB3 := hB2.trans (b3.mono hB2.size)
      have b3' : Below w2.heap.size w2 (w3.alloc (.cells #[.slice A3 xs.length cap3] 24)) := b3.alloc b3.size _
      have k3 := new0 w3 (.slice A3 xs.length cap3) 24 (0, 0)
      have k0 : (w3.alloc (.cells #[.slice A3 xs.length cap3] 24)).cell? ⟨w.heap.size, 0, none⟩ = some (.slice A xs.length cap) := (b3'.cell (p := ⟨w.heap.size, 0, none⟩) (show w.heap.size < w2.heap.size by omega)).trans c2
      have hr3' := hr3.below SpR.keeps ((Below.refl w3.heap.size w3).alloc (Nat.le_refl _) (.cells #[.slice A3 xs.length cap3] 24)) (Nat.le_refl _)
      have hr0 := (hr.below SpR.keeps hB2 (Nat.le_refl _)).below SpR.keeps b3' (Nat.le_refl _)
      go_upto_region 8 with (fail)
      generalize (w3.alloc (.cells #[.slice A3 xs.length cap3] 24)) = W at *
      have hown : ∀ V, Bel8 W V → Calls Tryd.prog 9 #[.agg #[.slice A xs.length cap]] V (OwnPost xs V) := fun V hV => own_any A xs cap V (hr0.below SpR.keeps hV (Nat.le_refl _)) hlc hcm (by omega)
      have hsets : ∀ V A4 cap4, Bel8 W V → RdR SpR 2 V A4 xs → xs.length ≤ cap4 → cap4 ≤ maxLen → Calls Tryd.prog 8 #[.agg #[.slice A3 xs.length cap3], .agg #[.slice A4 xs.length cap4]] V fun e w' => e = .returned (.bool true) ∧ Below V.heap.size V w' := fun V A4 cap4 hV h1 h2 h3 => by
        have h := sets_any A3 A4 xs xs cap3 cap4 V (hr3'.below SpR.keeps hV (Nat.le_refl _)) h1 h31 h32 h2 h3
        simpa using h
      have hB9 : ∀ n, Bel8 W (W.drewN n) := fun n => below_drewN (Below.refl _ W) n
      clear hr3' hr0 hr3 hr hr2
      go_region_held3 (fun V => V.cell? ⟨w.heap.size, 0, none⟩ = some (.slice A xs.length cap) ∧ V.cell? ⟨w3.heap.size, 0, none⟩ = some (.slice A3 xs.length cap3) ∧ Bel8 W V) (first | exact ⟨k0, k3, Below.drew (below_drewN (Below.refl _ W) _)⟩ | exact ⟨k0, k3, hB9 _⟩ | exact st8_next ‹_› (hB9 _) k0 k3 | (go_split_ands; exact st8_next ‹_› ‹_› ‹_› ‹_›)) (first
        | (go_at_call 9; (with_reducible refine (hown _ ?_).mono ?_); (first | assumption | exact hB9 _ | exact bel8_go (hB9 _) ‹_›); rintro e w5 ⟨A4, cap4, rfl, hr4, h41, h42, b5⟩)
        | (go_at_call 8; (with_reducible refine (hsets _ _ _ ?_ ?_ ?_ ?_).mono ?_); (first | assumption | exact hB9 _ | exact bel8_go (hB9 _) ‹_›); assumption; assumption; assumption; rintro e w6 ⟨rfl, b6⟩))
      go_wp2
      go_meet
      go_split_ands
      exact Below.trans b3' (Below.mono (show Below W.heap.size W _ from ‹Bel8 W _›) b3'.size)
  case rest =>
    have hBc := hB2.trans (hcut.mono hB2.size)
    have hall : ∀ O : List (Int × Int), O = ofF l → (∀ i (hi : i < O.length), (O[i].1 ≤ O[i].2 ∧ 1 ≤ O[i].1 ∧ O[i].2 ≤ 4294967295) ∧ ∀ (h0 : 0 < i), O[i - 1].2 + 1 < O[i].1) ∧ O.length ≤ 60 ∧ (1 ≤ n → n ≤ 4294967295 → hasF O n n = decide (n ∈ l)) := fun O hO => by
      subst hO
      refine ⟨fun i hi => ⟨?_, (ofF_gap l i hi).2⟩, Nat.le_trans (ofF_len l) (by omega), fun h1 h2 => has_of l n h1 h2 (by omega)⟩
      have := ofF_range l _ (List.getElem_mem hi)
      omega
    have hof : ∀ W, Below w.heap.size w W → Calls Tryd.prog 10 #[.slice A2 l.length cap2] W (OfPost (ofF l) W) := fun W hW => of_any A2 l cap2 W (hr2.below IntR.keeps hW (Nat.le_refl _)) hlc2 hcm2 (by omega)
    obtain ⟨O, hO⟩ : ∃ O, O = ofF l := ⟨_, rfl⟩
    rw [← hO] at hof
    obtain ⟨hgap, hol, hhas⟩ := hall O hO
    have HG := Lib.hid hgap
    have HH := Lib.hid hhas
    clear hall hO hgap hhas hcut c2 hs2 hs1 HS ht hp hmm hr
    go_wp2
    go_loopw [10, 11] (fun v i wr => ∃ k : Nat, k ≤ l.length ∧ i = .int .i64 (k : Int) ∧ v = .bool (decide (n ∈ l.take k)) ∧ Below w.heap.size w wr) (fun _ i _ => l.length - (intOf i).toNat)
    case atStart => exact ⟨0, Nat.zero_le _, rfl, by simp, hBc⟩
    case round =>
      obtain ⟨k, hk, rfl, rfl, hB⟩ := hrel
      by_cases hlt : k < l.length
      · have e1 : (k : Int) < (l.length : Int) := by omega
        obtain ⟨b, o, rfl, hb, _⟩ := id hr2 (by omega)
        have d := int_cell hr2 k hlt
        rw [← hB.cell (p := ⟨b, o + k, none⟩) hb] at d
        have hbw : b < wr.heap.size := Nat.lt_of_lt_of_le hb hB.size
        have HN := Lib.hid (mem_take_succ l n k hlt)
        generalize decide (n ∈ l.take k) = r at HN ⊢
        generalize l[k] = x at d HN
        cases r with
        | true =>
          go_wp2
          go_roundw
          case rel => exact ⟨k + 1, by omega, by go_num, by rw [HN.out]; rfl, hB⟩
          case measure => simp [intOf]; omega
        | false =>
          by_cases hx : x = n
          · have hxe : (x == n) = true := by simpa using hx
            have HX := Lib.hid hx
            clear hx
            go_wp2
            go_roundw
            case rel => exact ⟨k + 1, by omega, by go_num, by rw [HN.out, decide_eq_true HX.out]; rfl, hB⟩
            case measure => simp [intOf]; omega
          · have hxe : (x == n) = false := by simpa using hx
            have HX := Lib.hid hx
            clear hx
            go_wp2
            go_roundw
            case rel => exact ⟨k + 1, by omega, by go_num, by rw [HN.out, decide_eq_false HX.out]; rfl, hB⟩
            case measure => simp [intOf]; omega
      · obtain rfl : k = l.length := by omega
        rw [List.take_length]
        generalize decide (n ∈ l) = r at HH ⊢
        have hsz := hB.size
        go_wp2_with ((with_reducible refine (hof _ hB).mono ?_))
        rintro _ w4 ⟨A5, cap5, rfl, hr5, h51, h52, b5⟩
        have hB4 := hB.trans (b5.mono hsz)
        have hB5 : Below w.heap.size w (w4.alloc (.cells #[.slice A5 O.length cap5] 24)) := hB4.alloc hB4.size _
        have k5 := new0 w4 (.slice A5 O.length cap5) 24 (0, 0)
        have hr5' := hr5.below SpR.keeps ((Below.refl w4.heap.size w4).alloc (Nat.le_refl _) (.cells #[.slice A5 O.length cap5] 24)) (Nat.le_refl _)
        have h52' : cap5 ≤ 9223372036854775807 := h52
        clear hr5 hr2 hof b5 hB hB4
        go_wp2
        generalize (w4.alloc (.cells #[.slice A5 O.length cap5] 24)) = W5 at *
        go_loopw [13] (fun i wr => ∃ k : Nat, k ≤ O.length ∧ i = .int .i64 (k : Int) ∧ (∃ m, wr = W5.drewN m)) (fun i _ => O.length - (intOf i).toNat)
        case atStart => exact ⟨0, Nat.zero_le _, rfl, 0, rfl⟩
        case round =>
          obtain ⟨j, hj, rfl, m, rfl⟩ := hrel
          by_cases hlt2 : j < O.length
          · have e1 : (j : Int) < (O.length : Int) := by omega
            obtain ⟨b, o, rfl, hb, _⟩ := id hr5' (by omega)
            obtain ⟨d1, d2⟩ := rd_agg hr5' j hlt2
            obtain ⟨⟨g1, g2, g3⟩, g4⟩ := HG.out j hlt2
            cases j with
            | zero =>
              generalize O[0] = x at d1 d2 g1 g2 g3
              obtain ⟨x1, x2⟩ := x
              dsimp only at d1 d2 g1 g2 g3
              rw [Nat.zero_mul, Nat.add_zero] at d1 d2
              have e2 : (0 : Int) < (O.length : Int) := by omega
              have f1 : decide (x2 < x1) = false := decide_eq_false (by omega)
              clear g4 hr5'
              go_wp2_with fail
              go_quiet (fail)
              go_wp2
              go_roundw
              case rel => exact ⟨1, by omega, by go_num, _, rfl⟩
              case measure => simp [intOf]; omega
            | succ i =>
              have e0 : (i : Int) < (O.length : Int) := by omega
              obtain ⟨_, d4⟩ := rd_agg hr5' i (by omega)
              have g5 := g4 (Nat.succ_pos i)
              obtain ⟨⟨g6, g7, g8⟩, _⟩ := HG.out i (by omega)
              have e5 : O[i + 1 - 1] = O[i] := rfl
              rw [e5] at g5
              generalize O[i + 1] = x at d1 d2 g1 g2 g3 g5
              generalize O[i] = y at d4 g5 g6 g7 g8
              obtain ⟨x1, x2⟩ := x
              obtain ⟨y1, y2⟩ := y
              dsimp only at d1 d2 d4 g1 g2 g3 g5 g6 g7 g8
              have f1 : decide (x2 < x1) = false := decide_eq_false (by omega)
              have f2 : decide ((0 : Int) < ((i + 1 : Nat) : Int)) = true := decide_eq_true (by omega)
              have f3 : decide (x1 ≤ y2 + 1) = false := decide_eq_false (by omega)
              have e6 : (((i + 1 : Nat) : Int) - 1) = (i : Int) := by omega
              clear g4 hr5'
              go_wp2_with fail
              go_quiet (fail)
              go_wp2
              go_roundw
              case rel => exact ⟨i + 2, by omega, by go_num, _, rfl⟩
              case measure => simp [intOf]; omega
          · obtain rfl : j = O.length := by omega
            have hBe : Below w.heap.size w (W5.drewN m) := below_drewN hB5 _
            have k5' : (W5.drewN m).cell? ⟨w4.heap.size, 0, none⟩ = some (.slice A5 O.length cap5) := k5
            by_cases n1 : n < 1
            · go_wp2
              go_ret
              exact ⟨rfl, hBe⟩
            by_cases n2 : 4294967295 < n
            · go_wp2
              go_ret
              exact ⟨rfl, hBe⟩
            have hq := HH.out (by omega) (by omega)
            have hh : ∀ W, Below W5.heap.size W5 W → Calls Tryd.prog 11 #[.agg #[.slice A5 O.length cap5], .int .i64 n, .int .i64 n] W fun e w' => e = .returned (.bool r) ∧ Below W.heap.size W w' := fun W hW => by
              have h := has_any A5 O cap5 n n W (hr5'.below SpR.keeps hW (Nat.le_refl _)) h51 h52
              rwa [hq] at h
            clear hr5' hq
            go_wp2_with ((with_reducible refine (hh _ (below_drewN (Below.refl _ _) _)).mono ?_))
            rintro _ w6 rfl b6
            have hBz := hBe.trans (b6.mono hBe.size)
            cases r
            · go_wp2
              go_ret
              exact ⟨rfl, hBz⟩
            · go_wp2
              go_ret
              exact ⟨rfl, hBz⟩
end Go.Proofs.YtehbekjcnlcooaaDoor
