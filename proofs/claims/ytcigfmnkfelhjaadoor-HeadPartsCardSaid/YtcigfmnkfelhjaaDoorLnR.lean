/- The reference's Lines (from the text of package code): of any bytes. -/
import Derived.Test.YtcigfmnkfelhjaaDoorLnE
import Derived.Lib.SlBytesConst
import Derived.Deep.LoopGhost
set_option linter.unusedVariables false
namespace Go.Proofs.YtcigfmnkfelhjaaDoor
open Go.RowKit

def scan : List UInt8 → List UInt8 → List (List UInt8)
  | cur, [] => if cur = [] then [] else [cur]
  | cur, [c] => [cur ++ [c]]
  | cur, c :: d :: r => if c = 13 ∧ d = 10 then (cur ++ [13, 10]) :: scan [] r else scan (cur ++ [c]) (d :: r)
theorem slRInfo : (Tryd.prog.info? 22).map (fun i => (i.zero, i.size, i.bytes)) = some (some (.slice none 0 0), 1, 24) := by kernel_rfl
def RowsV (w : World) (B : Nat) (v : Value) (ls : List (List UInt8)) : Prop :=
  ∃ vs : List Value, w.ownsRow B 22 1 v ls.length vs ∧ vs.length = ls.length ∧ ∀ i (h : i < ls.length) (h' : i < vs.length), ∃ A cap, vs[i] = .slice A ls[i].length cap ∧ Rd w A ls[i]
theorem Rd.cell0 {w : World} {g o : Nat} {l : List UInt8} (h : Rd w (some ⟨g, o, none⟩) l) (i : Nat) (hi : i < l.length) : w.cell? ⟨g, o + i, none⟩ = some (.int .u8 (l[i].toNat : Int)) := by
  obtain ⟨b, o', hA, hb, hc⟩ := h (by omega)
  injection hA with hA
  injection hA with e1 e2
  subst e1
  subst e2
  exact hc i hi
theorem Rd.win {w : World} {g o : Nat} {l : List UInt8} (h : Rd w (some ⟨g, o, none⟩) l) (f m : Nat) (hm : m ≤ l.length) : Rd w (some ⟨g, o + f, none⟩) ((l.take m).drop f) := fun hp => by
  have hp' : 0 < l.length := by simp at hp; omega
  obtain ⟨b, o', hA, hb, hc⟩ := h hp'
  injection hA with hA
  injection hA with e1 e2
  subst e1
  subst e2
  refine ⟨g, o + f, rfl, hb, fun i hi => ?_⟩
  have hi' : f + i < m := by simp at hi; omega
  rw [Nat.add_assoc, hc (f + i) (by omega), List.getElem_drop, List.getElem_take]
theorem win_len (l : List UInt8) (f m : Nat) (hm : m ≤ l.length) : ((l.take m).drop f).length = m - f := by simp; omega
theorem win_snoc (l : List UInt8) (f k : Nat) (hf : f ≤ k) (hk : k < l.length) : (l.take (k + 1)).drop f = (l.take k).drop f ++ [l[k]] := by
  rw [List.take_succ_eq_append_getElem hk, List.drop_append_of_le_length (by simp; omega)]
theorem drop_cons_l (l : List UInt8) (k : Nat) (h : k < l.length) : l.drop k = l[k] :: l.drop (k + 1) := List.drop_eq_getElem_cons h
theorem rows_snoc {w : World} {ls : List (List UInt8)} {vs : List Value} {A : Option Addr} {l : List UInt8} {n cap : Nat} (hl : vs.length = ls.length) (he : ∀ i (h : i < ls.length) (h' : i < vs.length), ∃ A cap, vs[i] = .slice A ls[i].length cap ∧ Rd w A ls[i]) (hn : l.length = n) (hr : Rd w A l) :
    ∀ i (h : i < (ls ++ [l]).length) (h' : i < (vs ++ [Value.slice A n cap]).length), ∃ A' cap', (vs ++ [Value.slice A n cap])[i] = .slice A' (ls ++ [l])[i].length cap' ∧ Rd w A' (ls ++ [l])[i] := by
  intro i h h'
  by_cases hi : i < ls.length
  · rw [List.getElem_append_left hi, List.getElem_append_left (by omega)]
    exact he i hi (by omega)
  · have e : i = ls.length := by simp at h; omega
    subst e
    rw [List.getElem_append_right (Nat.le_refl _), List.getElem_append_right (by omega)]
    simp only [Nat.sub_self, List.getElem_cons_zero, hl]
    exact ⟨A, cap, by rw [hn], hr⟩
theorem RowsV.of {w w' : World} {v : Value} {ls : List (List UInt8)} {vs : List Value} (hown : w'.ownsRow w.heap.size 22 1 v ls.length vs) (hl : vs.length = ls.length) (he : ∀ i (h : i < ls.length) (h' : i < vs.length), ∃ A cap, vs[i] = .slice A ls[i].length cap ∧ Rd w A ls[i]) (hb : Below w.heap.size w w') : RowsV w' w.heap.size v ls :=
  ⟨vs, hown, hl, fun i h h' => by
    obtain ⟨A, cap, h1, h2⟩ := he i h h'
    exact ⟨A, cap, h1, h2.below hb⟩⟩

set_option maxRecDepth 100000 in
set_option maxHeartbeats 4000000 in
theorem r_linesN (g o : Nat) (l : List UInt8) (c : Nat) (w : World) (h : Rd w (some ⟨g, o, none⟩) l) (hgl : g < w.heap.size) (hc : l.length ≤ c) (hl : l.length ≤ 100000) :
    Calls Tryd.prog 10 #[.slice (some ⟨g, o, none⟩) l.length c] w fun e w' => ∃ v, e = .returned v ∧ RowsV w' w.heap.size v (scan [] l) ∧ Below w.heap.size w w' := by
  obtain ⟨i0, hi0, hz0, hz1, hz2⟩ := info_parts slRInfo
  go_enter Tryd.func10, Tryd.ntmps10
  go_wp2
  go_loopw [3, 4, 5] (fun v f i wr => ∃ (k f0 : Nat) (ls : List (List UInt8)) (vs : List Value), f0 ≤ k ∧ k ≤ l.length ∧ i = .int .i64 k ∧ f = .int .i64 f0 ∧ ls.length ≤ k ∧ wr.ownsRow w.heap.size 22 1 v ls.length vs ∧ Hid (vs.length = ls.length) ∧ Hid (∀ i (h : i < ls.length) (h' : i < vs.length), ∃ A cap, vs[i] = .slice A ls[i].length cap ∧ Rd w A ls[i]) ∧ Below w.heap.size w wr ∧ Hid (ls ++ scan ((l.take k).drop f0) (l.drop k) = scan [] l)) (fun _ _ i _ => l.length - (intOf i).toNat)
  case atStart =>
    refine ⟨0, 0, [], [], Nat.le_refl _, Nat.zero_le _, rfl, rfl, Nat.le_refl _, World.ownsRow_nil _ _ _ _, rfl, fun i h => absurd h (by simp), Below.refl _ _, ?_⟩
    show _ = _
    rfl
  case round =>
    obtain ⟨k, f0, ls, vs, hfk, hk, rfl, rfl, hlk, hown, HV, HE, hbel, HL⟩ := hrel
    have hsz := hbel.size
    have hB := h.below hbel
    by_cases hlt : k + 1 < l.length
    · have ck := hB.cell0 k (by omega)
      have ck1 := hB.cell0 (k + 1) hlt
      have fcf : ¬ c = f0 := by omega
      by_cases h13 : l[k].toNat = 13
      · have t1 : ((l[k].toNat : Int) == 13) = true := eq_t h13
        by_cases h10 : l[k + 1].toNat = 10
        · have t2 : ((l[k + 1].toNat : Int) == 10) = true := eq_t h10
          have H13 := Lib.hid h13
          have H10 := Lib.hid h10
          clear h13 h10
          have o1 : (0 : Int) ≤ (f0 : Int) := by omega
          have o2 : (f0 : Int) ≤ (k : Int) + 2 := by omega
          have o3 : (k : Int) + 2 ≤ (c : Int) := by omega
          have b2 := hbel.alloc hsz (.cells #[.slice (some ⟨g, o + f0, none⟩) (k + 2 - f0) (c - f0)] 22)
          go_wp2_with (at_builtin; refine wpList_append_own _ rfl _ _ 31 rfl w.heap.size 22 i0 (.slice none 0 0) 1 24 Tryd.underlying31 hi0 hz0 hz1 hz2 rfl (by decide) _ _ _ rfl (hown.alloc _) ⟨wr.heap.size, 0, none⟩ 1 1 [.slice (some ⟨g, o + f0, none⟩) (k + 2 - f0) (c - f0)] rfl rfl ?c1 ?c2 ?c3 ?c4 ?c5 ?_)
          case c1 =>
            intro j u hj
            match j, hj with
            | 0, hj => simp at hj; subst hj; simp [Addr.add]
          case c2 => intro u hu; simp at hu; subst hu; rfl
          case c3 => unfold maxLen; omega
          case c4 => omega
          case c5 => simp; omega
          intro v' w3 hown' hgrow _
          have b3 := b2.grown hgrow (by simp; omega) (fun k hk => (hown.lt k hk).1)
          go_wp2
          go_roundw
          case rel =>
            refine ⟨k + 2, k + 2, ls ++ [(l.take (k + 2)).drop f0], vs ++ [.slice (some ⟨g, o + f0, none⟩) (k + 2 - f0) (c - f0)], Nat.le_refl _, by omega, by go_num, by go_num, by simp; omega, by simpa using hown', ?_, ?_, b3, ?_⟩
            · show _ = _
              have := HV.out
              simp [this]
            · exact rows_snoc HV.out HE.out (win_len l f0 (k + 2) (by omega)) (h.win f0 (k + 2) (by omega))
            · show _ = _
              rw [← HL.out, List.append_assoc]
              congr 1
              have e1 : l[k] = 13 := UInt8.toNat_inj.1 H13.out
              have e2 : l[k + 1] = 10 := UInt8.toNat_inj.1 H10.out
              rw [drop_cons_l l k (by omega), drop_cons_l l (k + 1) hlt, scan, if_pos ⟨e1, e2⟩, win_snoc l f0 (k + 1) (by omega) (by omega), win_snoc l f0 k hfk (by omega), e1, e2, List.drop_eq_nil_of_le (by simp; omega : (l.take (k + 2)).length ≤ k + 2)]
              simp
          case measure => simp [intOf]; omega
        · have t2 : ((l[k + 1].toNat : Int) == 10) = false := eq_f h10
          have H13 := Lib.hid h13
          have H10 := Lib.hid h10
          clear h13 h10
          go_wp2
          go_roundw
          case rel =>
            refine ⟨k + 1, f0, ls, vs, by omega, by omega, by go_num, rfl, by omega, hown, HV, HE, hbel, ?_⟩
            show _ = _
            rw [← HL.out, win_snoc l f0 k hfk (by omega), drop_cons_l l k (by omega), drop_cons_l l (k + 1) hlt]
            rw [scan, if_neg (by rintro ⟨_, h2⟩; exact H10.out (by rw [h2]; rfl))]
          case measure => simp [intOf]; omega
      · have t1 : ((l[k].toNat : Int) == 13) = false := eq_f h13
        have H13 := Lib.hid h13
        clear h13
        go_wp2
        go_roundw
        case rel =>
          refine ⟨k + 1, f0, ls, vs, by omega, by omega, by go_num, rfl, by omega, hown, HV, HE, hbel, ?_⟩
          show _ = _
          rw [← HL.out, win_snoc l f0 k hfk (by omega), drop_cons_l l k (by omega), drop_cons_l l (k + 1) hlt]
          rw [scan, if_neg (by rintro ⟨h2, _⟩; exact H13.out (by rw [h2]; rfl))]
        case measure => simp [intOf]; omega
    · have hls : ls ++ (if f0 < l.length then [(l.take l.length).drop f0] else []) = scan [] l := by
        rw [← HL.out]
        congr 1
        rcases Nat.lt_or_ge k l.length with hlt2 | hge
        · have e0 : l.drop (k + 1) = [] := List.drop_eq_nil_of_le (by omega)
          have e : l.length = k + 1 := by omega
          rw [drop_cons_l l k hlt2, e0, if_pos (by omega)]
          rw [scan, ← win_snoc l f0 k hfk hlt2, ← e]
        · obtain rfl : k = l.length := by omega
          have e0 : l.drop l.length = [] := List.drop_eq_nil_of_le (Nat.le_refl _)
          rw [e0, show scan ((l.take l.length).drop f0) [] = if (l.take l.length).drop f0 = [] then [] else [(l.take l.length).drop f0] from by unfold scan; rfl]
          have hwl := win_len l f0 l.length (Nat.le_refl _)
          by_cases hf : f0 < l.length
          · rw [if_pos hf, if_neg]
            intro he
            rw [he] at hwl
            simp at hwl
            omega
          · rw [if_neg hf, if_pos]
            exact List.eq_nil_of_length_eq_zero (by omega)
      by_cases hf : f0 < l.length
      · have fcf : ¬ c = f0 := by omega
        rw [if_pos hf] at hls
        have HLS := Lib.hid hls
        clear hls
        have o2 : (f0 : Int) ≤ (l.length : Int) := by omega
        have o3 : (l.length : Int) ≤ (c : Int) := by omega
        have b2 := hbel.alloc hsz (.cells #[.slice (some ⟨g, o + f0, none⟩) (l.length - f0) (c - f0)] 22)
        go_wp2_with (at_builtin; refine wpList_append_own _ rfl _ _ 31 rfl w.heap.size 22 i0 (.slice none 0 0) 1 24 Tryd.underlying31 hi0 hz0 hz1 hz2 rfl (by decide) _ _ _ rfl (hown.alloc _) ⟨wr.heap.size, 0, none⟩ 1 1 [.slice (some ⟨g, o + f0, none⟩) (l.length - f0) (c - f0)] rfl rfl ?c1 ?c2 ?c3 ?c4 ?c5 ?_)
        case c1 =>
          intro j u hj
          match j, hj with
          | 0, hj => simp at hj; subst hj; simp [Addr.add]
        case c2 => intro u hu; simp at hu; subst hu; rfl
        case c3 => unfold maxLen; omega
        case c4 => omega
        case c5 => simp; omega
        intro v' w3 hown' hgrow _
        have b3 := b2.grown hgrow (by simp; omega) (fun k hk => (hown.lt k hk).1)
        go_wp2
        go_ret
        refine ⟨_, rfl, ?_, b3⟩
        rw [← HLS.out]
        have hv := HV.out
        exact RowsV.of (vs := vs ++ [.slice (some ⟨g, o + f0, none⟩) (l.length - f0) (c - f0)]) (by simpa using hown') (by simp [hv]) (rows_snoc HV.out HE.out (win_len l f0 l.length (Nat.le_refl _)) (h.win f0 l.length (Nat.le_refl _))) b3
      · rw [if_neg hf, List.append_nil] at hls
        have HLS := Lib.hid hls
        clear hls
        go_wp2
        go_ret
        refine ⟨_, rfl, ?_, hbel⟩
        rw [← HLS.out]
        exact RowsV.of hown HV.out HE.out hbel

/-- The reference's Lines of any bytes. -/
theorem r_lines (A : Option Addr) (l : List UInt8) (n c : Nat) (w : World) (hn : l.length = n) (h : Rd w A l) (hc : l.length ≤ c) (hl : l.length ≤ 100000) :
    Calls Tryd.prog 10 #[.slice A n c] w fun e w' => ∃ v, e = .returned v ∧ RowsV w' w.heap.size v (scan [] l) ∧ Below w.heap.size w w' := by
  subst hn
  rcases Nat.eq_zero_or_pos l.length with h0 | h0
  · obtain rfl := List.eq_nil_of_length_eq_zero h0
    go_enter Tryd.func10, Tryd.ntmps10
    go_wp2
    go_loopw [3, 4, 5] (fun v f i wr => v = .slice none 0 0 ∧ f = .int .i64 0 ∧ i = .int .i64 0 ∧ wr = w) (fun _ _ _ _ => 0)
    case atStart => exact ⟨rfl, rfl, rfl, rfl⟩
    case round =>
      obtain ⟨rfl, rfl, rfl, rfl⟩ := hrel
      go_wp2
      go_ret
      exact ⟨_, rfl, ⟨[], World.ownsRow_nil _ _ _ _, rfl, fun i h => absurd h (by simp [scan])⟩, Below.refl _ _⟩
  · obtain ⟨g, o, rfl, hg, _⟩ := h h0
    exact r_linesN g o l c w h hg hc hl
end Go.Proofs.YtcigfmnkfelhjaaDoor
