/- SeqSays' walk. -/
import Derived.Test.YtehbekjcnlcooaaDoorSqRc
import Derived.Test.YtehbekjcnlcooaaDoorSqRd
import Derived.Test.YtehbekjcnlcooaaDoorSqRh
import Derived.Test.YtehbekjcnlcooaaDoorSqJ
import Derived.Test.YtehbekjcnlcooaaDoorAwkKnW
import Derived.Deep.RegionHeld3
set_option linter.unusedVariables false
namespace Go.Proofs.YtehbekjcnlcooaaDoor
open Go.RowKit

theorem parts_few (s : ByteArray) : (partsS s).length ≤ s.size + 1 := by
  rw [parts_spl, List.length_map]
  have h := splL_len 44 _ s.data.toList (Nat.le_refl _)
  rwa [show s.data.toList.length = s.size by rw [Array.length_toList]; rfl] at h
def SetP (O : List (Int × Int)) (w : World) (e : Ending) (w' : World) : Prop := ∃ A cap, e = .returned (.agg #[.slice A O.length cap]) ∧ RdR SpR 2 w' A O ∧ O.length ≤ cap ∧ cap ≤ maxLen ∧ Below w.heap.size w w'
def IntsP (O : List Int) (w : World) (e : Ending) (w' : World) : Prop := ∃ A cap, e = .returned (.slice A O.length cap) ∧ RdR IntR 1 w' A O ∧ O.length ≤ cap ∧ cap ≤ maxLen ∧ Below w.heap.size w w'
theorem ints_p {O : List Int} {w : World} {e : Ending} {w' : World} {B : Nat} (h : ∃ v, e = .returned v ∧ SlR IntR 2 1 w' B v O ∧ Below w.heap.size w w') : IntsP O w e w' := by
  obtain ⟨v, rfl, hs, hb⟩ := h
  obtain ⟨A, cap, rfl, h1, h2, h3⟩ := hs.rdq (by decide)
  exact ⟨A, cap, rfl, h3, h1, h2, hb⟩
/-- 'Below' from the size of the first world's heap on, behind a name that the walk does not open. -/
def Bel9 (w W : World) : Prop := Below w.heap.size w W
theorem bel9_go {w wx wy : World} (hB : Bel9 w wx) (hb : Below wx.heap.size wx wy) : Bel9 w wy := Below.trans hB (hb.mono (Below.size hB))
theorem st9_next {w wx wy : World} {g h q : Nat} {x y z : Value} (hb : Below wx.heap.size wx wy) (hB : Bel9 w wx) (c0 : wx.cell? ⟨g, 0, none⟩ = some x) (c1 : wx.cell? ⟨h, 0, none⟩ = some y) (c2 : wx.cell? ⟨q, 0, none⟩ = some z) :
    wy.cell? ⟨g, 0, none⟩ = some x ∧ wy.cell? ⟨h, 0, none⟩ = some y ∧ wy.cell? ⟨q, 0, none⟩ = some z ∧ Bel9 w wy := by
  have hg := World.block_lt_of_cell? wx _ c0
  have hh := World.block_lt_of_cell? wx _ c1
  have hq := World.block_lt_of_cell? wx _ c2
  exact ⟨(hb.cell (p := ⟨g, 0, none⟩) hg).trans c0, (hb.cell (p := ⟨h, 0, none⟩) hh).trans c1, (hb.cell (p := ⟨q, 0, none⟩) hq).trans c2, bel9_go hB hb⟩

set_option maxRecDepth 100000 in
set_option maxHeartbeats 8000000 in
theorem says_walk (s : ByteArray) (A : Option Addr) (xs : List (Int × Int)) (cap : Nat) (n last : Int) (A2 : Option Addr) (l : List Int) (cap2 : Nat) (w : World) (hsz1 : s.size ≤ maxLen) (hsz2 : s.size ≤ 140737488351232) (hr : RdR SpR 2 w A xs) (hlc : xs.length ≤ cap) (hcm : cap ≤ maxLen)
    (hn : (Lit.int .i64 n).wf = true) (hla : (Lit.int .i64 last).wf = true) (hr2 : RdR IntR 1 w A2 l) (hlc2 : l.length ≤ cap2) (hcm2 : cap2 ≤ maxLen) (ht : Pow10s w) (hp : 1 < w.heap.size)
    (hm : ∃ m, w.cell? ⟨0, 0, none⟩ = some (.int .i64 m)) (hg : 0 < w.heap.size) :
    Calls Tryd.prog 4 #[.string s, .agg #[.slice A xs.length cap], .int .i64 n, .int .i64 last, .slice A2 l.length cap2] w fun e w' => e = .returned (.bool true) ∧ Below w.heap.size w w' := by
  have hmm : MaxLenIs w := hm
  have hcm' : cap ≤ 9223372036854775807 := hcm
  have hcm2' : cap2 ≤ 9223372036854775807 := hcm2
  clear hm hg hn hla hsz1 hsz2
  go_enter Tryd.func4, Tryd.ntmps4
  go_wp2_with ((with_reducible refine (awkWalk _).mono ?_))
  rintro _ w1 ⟨rfl, hb1⟩
  have c1 : w1.cell? ⟨w.heap.size, 0, none⟩ = some (.slice A xs.length cap) := (hb1.cell (p := ⟨w.heap.size, 0, none⟩) (by simp)).trans (new0 w _ _ _)
  have hs1 : w.heap.size + 1 ≤ w1.heap.size := by have := hb1.size; simp at this; omega
  have hB1 : Below w.heap.size w w1 := ((Below.refl _ w).alloc (Nat.le_refl _) _).trans (hb1.mono (by simp))
  clear hb1
  by_cases h400 : 400 < s.size
  · have h400' : (400 : Int) < (s.size : Int) := by omega
    go_wp2
    go_ret
    exact ⟨rfl, hB1⟩
  have h400' : ¬ (400 : Int) < (s.size : Int) := by omega
  by_cases h110 : 110 < xs.length
  · have h110' : (110 : Int) < (xs.length : Int) := by omega
    go_wp2
    go_ret
    exact ⟨rfl, hB1⟩
  have h110' : ¬ (110 : Int) < (xs.length : Int) := by omega
  by_cases h60 : 60 < l.length
  · have h60' : (60 : Int) < (l.length : Int) := by omega
    go_wp2
    go_ret
    exact ⟨rfl, hB1⟩
  have h60' : ¬ (60 : Int) < (l.length : Int) := by omega
  have hps := parts_few s
  have hpa : ∀ W, Below w.heap.size w W → Calls Tryd.prog 7 #[.string s] W (SetPost (parseF s) W) := fun W hW => parse_any s W (hmm.below hW) (by omega) (by omega)
  have hpb : ∀ W, Calls Tryd.prog 12 #[.string s] W (SetPost (parseF s) W) := fun W => parse_r s W (by omega) (by omega)
  clear hps
  generalize parseF s = F at hpa hpb
  obtain ⟨pl, pe⟩ := F
  go_wp2_with ((with_reducible refine (hpa _ hB1).mono ?_))
  rintro _ w2 ⟨A3, cap3, rfl, hr3, h31, h32, b2⟩
  have hB2 := hB1.trans (b2.mono hB1.size)
  have s2 := hB2.size
  have c2 := (b2.cell (p := ⟨w.heap.size, 0, none⟩) (show w.heap.size < w1.heap.size by omega)).trans c1
  clear hpa
  go_wp2_with ((with_reducible refine (hpb _).mono ?_))
  rintro _ w3 ⟨A4, cap4, rfl, hr4, h41, h42, b3⟩
  have e2 := below_a1 w2 (.cells #[.slice A3 pl.length cap3] 24)
  have b3' := e2.trans (b3.mono (by simp))
  have hB3 := hB2.trans (b3'.mono s2)
  have e3 := below_a1 w3 (.cells #[.slice A4 pl.length cap4] 34)
  have hlt1 : w1.heap.size ≤ w2.heap.size := b2.size
  have hlt2 : w2.heap.size < w3.heap.size := by have := b3.size; simp at this; omega
  have k0 := ((e3.cell (p := ⟨w.heap.size, 0, none⟩) (show w.heap.size < w3.heap.size by omega)).trans (b3'.cell (p := ⟨w.heap.size, 0, none⟩) (show w.heap.size < w2.heap.size by omega))).trans c2
  have k1 := ((e3.cell (p := ⟨w2.heap.size, 0, none⟩) hlt2).trans (b3.cell (p := ⟨w2.heap.size, 0, none⟩) (by simp))).trans (new0 w2 (.slice A3 pl.length cap3) 24 (0, 0))
  have k2 := new0 w3 (.slice A4 pl.length cap4) 34 (0, 0)
  have hB4 := hB3.trans (e3.mono hB3.size)
  have hr3' := (hr3.below SpR.keeps b3' (Nat.le_refl _)).below SpR.keeps e3 (Nat.le_refl _)
  have hr4' := hr4.below SpR.keeps e3 (Nat.le_refl _)
  clear hpb hB3 hr3 hr4 e2 b3 b3' e3 c1 c2
  go_upto_region 7 with (fail)
  generalize (w3.alloc (.cells #[.slice A4 pl.length cap4] 34)) = W at *
  have hrW := hr.below SpR.keeps hB4 (Nat.le_refl _)
  have hr2W := hr2.below IntR.keeps hB4 (Nat.le_refl _)
  have htW : ∀ V, Bel9 W V → Pow10s V ∧ 1 < V.heap.size := fun V hV => ⟨(ht.below hB4 hp).below hV (by have := hB4.size; omega), by have := hB4.size; have := Below.size hV; omega⟩
  have q1 : ∀ V, Bel9 W V → Calls Tryd.prog 8 #[.agg #[.slice A3 pl.length cap3], .agg #[.slice A4 pl.length cap4]] V (BPost true V) := fun V hV => by
    have h := sets_any A3 A4 pl pl cap3 cap4 V (hr3'.below SpR.keeps hV (Nat.le_refl _)) (hr4'.below SpR.keeps hV (Nat.le_refl _)) h31 h32 h41 h42
    rw [decide_eq_true (rfl : pl = pl)] at h
    exact h
  have qO : ∀ V, Bel9 W V → Calls Tryd.prog 9 #[.agg #[.slice A xs.length cap]] V (SetP xs V) := fun V hV => own_any A xs cap V (hrW.below SpR.keeps hV (Nat.le_refl _)) hlc hcm (by omega)
  have qS : ∀ V, Bel9 W V → Calls Tryd.prog 6 #[.agg #[.slice A xs.length cap]] V (StrPost ⟨(showSet xs).toArray⟩ V) := fun V hV => Show_any A xs cap V (hrW.below SpR.keeps hV (Nat.le_refl _)) hlc hcm (htW V hV).1 (htW V hV).2
  have qT : ∀ V A5 c5, RdR SpR 2 V A5 xs → xs.length ≤ c5 → c5 ≤ maxLen → Calls Tryd.prog 13 #[.agg #[.slice A5 xs.length c5]] V (StrPost ⟨(showSet xs).toArray⟩ V) := fun V A5 c5 h1 h2 h3 => show_r A5 xs c5 V h1 h2 h3
  have qH : ∀ V, Bel9 W V → Calls Tryd.prog 11 #[.agg #[.slice A xs.length cap], .int .i64 n, .int .i64 last] V (BPost (hasF xs n last) V) := fun V hV => has_any A xs cap n last V (hrW.below SpR.keeps hV (Nat.le_refl _)) hlc hcm
  have qI : ∀ V A5 c5, RdR SpR 2 V A5 xs → xs.length ≤ c5 → c5 ≤ maxLen → Calls Tryd.prog 14 #[.agg #[.slice A5 xs.length c5], .int .i64 n, .int .i64 last] V (BPost (hasF xs n last) V) := fun V A5 c5 h1 h2 h3 => has_r A5 xs c5 n last V h1 h2 h3
  have qP : ∀ V, Bel9 W V → Calls Tryd.prog 16 #[.agg #[.slice A xs.length cap], .slice A2 l.length cap2] V (IntsP (pickF xs l) V) := fun V hV => (pick_any A xs cap A2 l cap2 V (hrW.below SpR.keeps hV (Nat.le_refl _)) hlc hcm (hr2W.below IntR.keeps hV (Nat.le_refl _)) hlc2 hcm2 (by omega)).mono fun e w' h => ints_p h
  have qQ : ∀ V A5 c5, Bel9 W V → RdR SpR 2 V A5 xs → xs.length ≤ c5 → c5 ≤ maxLen → Calls Tryd.prog 17 #[.agg #[.slice A5 xs.length c5], .slice A2 l.length cap2] V (IntsP (pickF xs l) V) := fun V A5 c5 hV h1 h2 h3 => (pick_r A5 xs c5 A2 l cap2 V h1 h2 h3 (hr2W.below IntR.keeps hV (Nat.le_refl _)) hlc2 hcm2 (by omega)).mono fun e w' h => ints_p h
  have qF : ∀ V, Bel9 W V → Calls Tryd.prog 10 #[.slice A2 l.length cap2] V (SetP (ofF l) V) := fun V hV => of_any A2 l cap2 V (hr2W.below IntR.keeps hV (Nat.le_refl _)) hlc2 hcm2 (by omega)
  have qG : ∀ V, Bel9 W V → Calls Tryd.prog 18 #[.slice A2 l.length cap2] V (SetP (ofF l) V) := fun V hV => ofset_r A2 l cap2 V (hr2W.below IntR.keeps hV (Nat.le_refl _)) hlc2 hcm2 (by omega)
  generalize (⟨(showSet xs).toArray⟩ : ByteArray) = S at qS qT
  generalize hasF xs n last = H at qH qI
  generalize pickF xs l = P at qP qQ
  generalize ofF l = O at qF qG
  have qL : ∀ V A8 c8 A9 c9, RdR IntR 1 V A8 P → P.length ≤ c8 → c8 ≤ maxLen → RdR IntR 1 V A9 P → P.length ≤ c9 → c9 ≤ maxLen → Calls Tryd.prog 15 #[.slice A8 P.length c8, .slice A9 P.length c9] V (BPost true V) := fun V A8 c8 A9 c9 h1 h2 h3 h4 h5 h6 => by
    have h := longs_any A8 A9 P P c8 c9 V h1 h4 h2 h3 h5 h6
    rw [decide_eq_true (rfl : P = P)] at h
    exact h
  have qR : ∀ V A8 c8 A9 c9, RdR SpR 2 V A8 O → O.length ≤ c8 → c8 ≤ maxLen → RdR SpR 2 V A9 O → O.length ≤ c9 → c9 ≤ maxLen → Calls Tryd.prog 8 #[.agg #[.slice A8 O.length c8], .agg #[.slice A9 O.length c9]] V (BPost true V) := fun V A8 c8 A9 c9 h1 h2 h3 h4 h5 h6 => by
    have h := sets_any A8 A9 O O c8 c9 V h1 h4 h2 h3 h5 h6
    rw [decide_eq_true (rfl : O = O)] at h
    exact h
  have hB9 : ∀ n, Bel9 W (W.drewN n) := fun n => below_drewN (Below.refl _ W) n
  clear hr3' hr4' hr hr2 hrW hr2W htW ht hp hmm h400 h110 h60 h400' h110' h60' h31 h32 h41 h42
  go_region_held3 (fun V => V.cell? ⟨w.heap.size, 0, none⟩ = some (.slice A xs.length cap) ∧ V.cell? ⟨w2.heap.size, 0, none⟩ = some (.slice A3 pl.length cap3) ∧ V.cell? ⟨w3.heap.size, 0, none⟩ = some (.slice A4 pl.length cap4) ∧ Bel9 W V) (first | exact ⟨k0, k1, k2, Below.drew (below_drewN (Below.refl _ W) _)⟩ | exact ⟨k0, k1, k2, hB9 _⟩ | exact st9_next ‹_› (hB9 _) k0 k1 k2 | (go_split_ands; exact st9_next ‹_› ‹_› ‹_› ‹_› ‹_›)) (first
    | (go_at_call 8; (with_reducible refine (q1 _ ?_).mono ?_); (first | assumption | exact hB9 _ | (go_split_ands; assumption) | exact bel9_go (hB9 _) ‹_›); rintro e wa ⟨rfl, ba⟩)
    | (go_at_call 9; (with_reducible refine (qO _ ?_).mono ?_); (first | assumption | exact hB9 _ | (go_split_ands; assumption) | exact bel9_go (hB9 _) ‹_›); rintro e w5 ⟨A5, cap5, rfl, hr5, h51, h52, b5⟩)
    | (go_at_call 6; (with_reducible refine (qS _ ?_).mono ?_); (first | assumption | exact hB9 _ | (go_split_ands; assumption) | exact bel9_go (hB9 _) ‹_›); rintro e w6 ⟨rfl, b6⟩)
    | (go_at_call 13; (with_reducible refine (qT _ _ _ ?_ h51 h52).mono ?_); (first | exact hr5 | exact hr5.below SpR.keeps b6 (Nat.le_refl _)); rintro e w7 ⟨rfl, b7⟩)
    | (go_at_call 11; (with_reducible refine (qH _ ?_).mono ?_); (first | assumption | exact hB9 _ | (go_split_ands; assumption) | exact bel9_go (hB9 _) ‹_›); rintro e w6 ⟨rfl, b6⟩)
    | (go_at_call 14; (with_reducible refine (qI _ _ _ ?_ h51 h52).mono ?_); (first | exact hr5 | exact hr5.below SpR.keeps b6 (Nat.le_refl _)); rintro e w7 ⟨rfl, b7⟩)
    | (go_at_call 16; (with_reducible refine (qP _ ?_).mono ?_); (first | assumption | exact hB9 _ | (go_split_ands; assumption) | exact bel9_go (hB9 _) ‹_›); rintro e w6 ⟨A8, cap8, rfl, hr8, h81, h82, b6⟩)
    | (go_at_call 17; (with_reducible refine (qQ _ _ _ ?_ ?_ h51 h52).mono ?_); (first | assumption | exact hB9 _ | (go_split_ands; assumption) | exact bel9_go (hB9 _) ‹_›); (first | exact hr5 | exact hr5.below SpR.keeps b6 (Nat.le_refl _)); rintro e w7 ⟨A9, cap9, rfl, hr9, h91, h92, b7⟩)
    | (go_at_call 15; (with_reducible refine (qL _ _ _ _ _ ?_ h81 h82 ?_ h91 h92).mono ?_); (first | exact hr8 | exact hr8.below IntR.keeps b7 (Nat.le_refl _) | exact (hr8.below IntR.keeps b5 (Nat.le_refl _)).below IntR.keeps b7 (Nat.le_refl _)); (first | exact hr9 | exact hr9.below IntR.keeps b6 (Nat.le_refl _)); rintro e wa ⟨rfl, ba⟩)
    | (go_at_call 10; (with_reducible refine (qF _ ?_).mono ?_); (first | assumption | exact hB9 _ | (go_split_ands; assumption) | exact bel9_go (hB9 _) ‹_›); rintro e w6 ⟨A8, cap8, rfl, hr8, h81, h82, b6⟩)
    | (go_at_call 18; (with_reducible refine (qG _ ?_).mono ?_); (first | assumption | exact hB9 _ | (go_split_ands; assumption) | exact bel9_go (hB9 _) ‹_›); rintro e w7 ⟨A9, cap9, rfl, hr9, h91, h92, b7⟩)
    | (go_at_call 8; (with_reducible refine (qR _ _ _ _ _ ?_ h81 h82 ?_ h91 h92).mono ?_); (first | exact hr8 | exact hr8.below SpR.keeps b7 (Nat.le_refl _)); (first | exact hr9 | exact hr9.below SpR.keeps b6 (Nat.le_refl _)); rintro e wa ⟨rfl, ba⟩))
  all_goals (
    try go_wp2
    go_ret
    go_split_ands
    exact ⟨rfl, Below.trans hB4 (Below.mono (show Below W.heap.size W _ from ‹Bel9 W _›) hB4.size)⟩)
end Go.Proofs.YtehbekjcnlcooaaDoor
