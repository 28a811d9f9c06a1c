/- Package octet: Lines alone (from XOctE, for seats without the rest of octet). -/
import Derived.Test.YtcigfmnkfelhjaaDoorLnD
import Derived.Test.YtcigfmnkfelhjaaDoorShelf
set_option linter.unusedVariables false
namespace Go.Proofs.YtcigfmnkfelhjaaDoor
open Go.RowKit


theorem index_any (A : Option Addr) (l : List UInt8) (c g c2 : Nat) (sep : List UInt8) (w : World) (hp : 0 < l.length) (h : Rd w A l) (hs : Bts 5 w g sep) (hc : l.length ≤ c) (hl : l.length < 4294967281) (hsl : sep.length ≤ 1000) (hm : ∃ m, w.cell? ⟨0, 0, none⟩ = some (.int .i64 m)) :
    Calls Tryd.prog 25 #[.slice A l.length c, .slice (some ⟨g, 0, none⟩) sep.length c2] w fun e w' => e = .returned (.int .i64 (Lib.index l sep)) ∧ ∃ q, w' = w.drewN q := by
  obtain ⟨b, o, rfl, hlt, hcell⟩ := h hp
  obtain ⟨m, hm⟩ := hm
  have := Tryd.bytes_Index_at ⟨b, o, none⟩ ⟨g, 0, none⟩ l.length c sep.length c2 (l.map fun c => (c.toNat : Int)) (sep.map fun c => (c.toNat : Int)) m w (by simp) (by simp)
    (by intro x hx; obtain ⟨c, _, rfl⟩ := List.mem_map.1 hx; have := c.toNat_lt; omega) (by intro x hx; obtain ⟨c, _, rfl⟩ := List.mem_map.1 hx; have := c.toNat_lt; omega)
    (fun i hi => by rw [add_plain, nums_get l i hi]; exact hcell i hi) (fun i hi => by rw [add_plain, Nat.zero_add, nums_get sep i hi]; exact hs.cell i hi) hc hl (by omega) hm
  rw [nums_bytes, nums_bytes] at this
  exact this

theorem clone_any (A : Option Addr) (l : List UInt8) (c : Nat) (w : World) (hp : 0 < l.length) (h : Rd w A l) (hl : l.length ≤ 140737488355328) :
    Calls Tryd.prog 26 #[.slice A l.length c] w fun e w' => ∃ g cap, e = .returned (.slice (some ⟨g, 0, none⟩) l.length cap) ∧ Bts 5 w' g l ∧ w.heap.size ≤ g ∧ l.length ≤ cap ∧ Below w.heap.size w w' := by
  obtain ⟨b, o, rfl, hlt, hcell⟩ := h hp
  refine (Tryd.bytes_Clone_at ⟨b, o, none⟩ l.length c (l.map fun c => (c.toNat : Int)) w (by simp) hl (fun i hi => by rw [add_plain, nums_get l i hi]; exact hcell i hi)).mono ?_
  rintro e w' ⟨v', rfl, hown, hne, hb⟩
  rw [nums_cells] at hown
  rcases hown.2 with ⟨h1, _⟩ | ⟨g, cap, cur, rfl, hg, hh, hn, hm, hs, ht⟩
  · exact absurd h1 hne
  · refine ⟨g, cap, rfl, ⟨cur, _, hh, .inr rfl, fun j hj => ?_⟩, hg, hn, hb⟩
    have h2 : (cur.toList.take (l.length * 1))[j]? = (Lib.byteCells l)[j]? := by rw [ht]
    rw [List.getElem?_take_of_lt (by omega)] at h2
    simpa [Lib.byteCells, hj] using h2

theorem sl30Info : (Tryd.prog.info? 22).map (fun i => (i.zero, i.size, i.bytes)) = some (some (.slice none 0 0), 1, 24) := by kernel_rfl

theorem Rd.take {w : World} {A : Option Addr} {l : List UInt8} (h : Rd w A l) (n : Nat) : Rd w A (l.take n) := fun hp => by
  obtain ⟨b, o, rfl, hlt, hc⟩ := h (by rw [List.length_take] at hp; omega)
  refine ⟨b, o, rfl, hlt, fun i hi => ?_⟩
  rw [List.getElem_take]
  exact hc i (by rw [List.length_take] at hi; omega)
/-- 's[n:]': the model keeps the address where nothing is left of the capacity. -/
theorem Rd.drop {w : World} {A : Option Addr} {l : List UInt8} (h : Rd w A l) (n cap : Nat) (hc : l.length ≤ cap) : Rd w (if cap = n then A else A.map (·.add n)) (l.drop n) := fun hp => by
  rw [List.length_drop] at hp
  obtain ⟨b, o, rfl, hlt, hcell⟩ := h (by omega)
  rw [if_neg (by omega)]
  refine ⟨b, o + n, by simp [add_plain], hlt, fun i hi => ?_⟩
  rw [List.length_drop] at hi
  rw [List.getElem_drop, Nat.add_assoc]
  exact hcell (n + i) (by omega)
theorem RowsB.snoc {w w' : World} {B : Nat} {ls : List (List UInt8)} {l : List UInt8} {vs : List Value} {v v' x : Value} (hl : vs.length = ls.length) (he : ∀ i (h : i < ls.length) (h' : i < vs.length), ElemB w B vs[i] ls[i]) (hx : ElemB w B x l)
    (hown : w'.ownsRow B 22 1 v' (ls.length + 1) (vs ++ [x])) (hg : w.grownBy w' v.ownBlock) (hk : ∀ k, v.ownBlock = some k → ∃ c fz, w.heap[k]? = some (.cells c 22 fz)) : RowsB w' B v' (ls ++ [l]) := by
  refine ⟨vs ++ [x], by simpa using hown, by simp [hl], fun i hi hi' => ?_⟩
  by_cases h : i < ls.length
  · rw [List.getElem_append_left h, List.getElem_append_left (by omega)]
    exact (he i h (by omega)).grown hg hk
  · have e : i = ls.length := by simp at hi; omega
    subst e
    rw [List.getElem_append_right (Nat.le_refl _), List.getElem_append_right (by omega)]
    simp only [Nat.sub_self, List.getElem_cons_zero, hl]
    exact hx.grown hg hk

theorem lines_end {w w1 w2 w3 : World} {A' : Option Addr} {r l : List UInt8} {c' n g cap : Nat} {ls : List (List UInt8)} {vs : List Value} {v v' : Value} (hr : Rd w A' r) (hrc : r.length ≤ c') (hrl : r.length ≤ l.length) (hcnt : ls.length + r.length ≤ l.length)
    (HL : Hid (ls ++ linesL r = linesL l)) (hlc : Hid (linesL r = r.take (cutLen r) :: linesL (r.drop (cutLen r)))) (HN : Hid (cutLen r = n)) (hn0 : 0 < n) (hnr : n ≤ r.length) (hb1 : Below w.heap.size w w1) (hbt : Bts 5 w2 g (r.take n)) (hgw : w1.heap.size ≤ g) (hcap : n ≤ cap) (b2 : Below w1.heap.size w1 w2)
    (hown : w2.ownsRow w.heap.size 22 1 v ls.length vs) (hvl : vs.length = ls.length) (hel : ∀ i (h : i < ls.length) (h' : i < vs.length), ElemB w2 w.heap.size vs[i] ls[i])
    (hown' : w3.ownsRow w.heap.size 22 1 v' (ls.length + 1) (vs ++ [.slice (some ⟨g, 0, none⟩) n cap])) (hgrow : (w2.alloc (.cells #[.slice (some ⟨g, 0, none⟩) n cap] 22)).grownBy w3 v.ownBlock) :
    (∃ (A1 : Option Addr) (r1 : List UInt8) (c1 : Nat) (ls1 : List (List UInt8)), Value.slice (if c' = n then A' else A'.map (·.add n)) (r.length - n) (c' - n) = .slice A1 r1.length c1 ∧ Rd w A1 r1 ∧ r1.length ≤ c1 ∧ r1.length ≤ l.length ∧ RowsB w3 w.heap.size v' ls1 ∧ ls1.length + r1.length ≤ l.length ∧ Below w.heap.size w w3 ∧ Hid (ls1 ++ linesL r1 = linesL l)) ∧
      lenOf (Value.slice (if c' = n then A' else A'.map (·.add n)) (r.length - n) (c' - n)) < lenOf (.slice A' r.length c') := by
  have e1 := hb1.size
  have e2 := b2.size
  have hb2 := hb1.trans (b2.mono e1)
  refine ⟨⟨_, r.drop n, _, ls ++ [r.take n], by rw [List.length_drop], hr.drop n c' hrc, by rw [List.length_drop]; omega, by rw [List.length_drop]; omega, ?_, by rw [List.length_drop]; simp; omega, ?_, ?_⟩, by simp only [lenOf]; omega⟩
  · refine RowsB.snoc hvl (fun i hi hi' => (hel i hi hi').below ((Below.refl w2.heap.size w2).alloc (Nat.le_refl _) _) (Nat.le_refl _)) ⟨g, cap, ?_, hbt.alloc _, by omega, ?_⟩ hown' hgrow (own_kind (hown.alloc _))
    · rw [List.length_take, Nat.min_eq_left hnr]
    · rw [List.length_take, Nat.min_eq_left hnr]; exact hcap
  · exact (hb2.alloc (by omega) _).grown hgrow (by simp; omega) (fun k hk => (hown.lt k hk).1)
  · show _ = _
    rw [List.append_assoc, ← HL.out, hlc.out, HN.out]
    rfl

set_option maxHeartbeats 1600000 in
theorem lines_any (A : Option Addr) (l : List UInt8) (c : Nat) (w : World) (h : Rd w A l) (hc : l.length ≤ c) (hl : l.length ≤ 2147483648) (hm : ∃ m, w.cell? ⟨0, 0, none⟩ = some (.int .i64 m)) (hg : 0 < w.heap.size) :
    Calls Tryd.prog 17 #[.slice A l.length c] w fun e w' => ∃ v, e = .returned v ∧ RowsB w' w.heap.size v (linesL l) ∧ Below w.heap.size w w' := by
  have kc := fun (w : World) (C : Array Value) (n c : Nat) => Lib.run_convert_bytes_const (P := Tryd.prog) w 22 5 C n c Tryd.underlying22 Tryd.underlying5
  obtain ⟨i0, hi0, hz0, hz1, hz2⟩ := info_parts sl30Info
  go_enter Tryd.func17, Tryd.ntmps17
  go_wp2
  go_loopw [0, 3] (fun t v wr => ∃ (A' : Option Addr) (r : List UInt8) (c' : Nat) (ls : List (List UInt8)), t = .slice A' r.length c' ∧ Rd w A' r ∧ r.length ≤ c' ∧ r.length ≤ l.length ∧ RowsB wr w.heap.size v ls ∧ ls.length + r.length ≤ l.length ∧ Below w.heap.size w wr ∧ Hid (ls ++ linesL r = linesL l)) (fun t _ _ => lenOf t)
  case atStart => exact ⟨A, l, c, [], rfl, h, hc, Nat.le_refl _, RowsB.nil _ _, by simp, Below.refl _ _, rfl⟩
  case round =>
    obtain ⟨A', r, c', ls, rfl, hr, hrc, hrl, hrows, hcnt, hb, HL⟩ := hrel
    by_cases hp : 0 < r.length
    · have hr0 := hr.below hb
      have ba := (Below.refl wr.heap.size wr).alloc (Nat.le_refl _) (.cells #[.int .u8 13, .int .u8 10] 5 (2, 3))
      have hr1 := hr0.below ba
      have hs : Bts 5 (wr.alloc (.cells #[.int .u8 13, .int .u8 10] 5 (2, 3))) wr.heap.size [13, 10] := Bts.new wr (C := #[.int .u8 13, .int .u8 10]) (l := [13, 10]) (fun j hj => by
        match j, hj with
        | 0, _ => rfl
        | 1, _ => rfl)
      have hm1 : ∃ m, (wr.alloc (.cells #[.int .u8 13, .int .u8 10] 5 (2, 3))).cell? ⟨0, 0, none⟩ = some (.int .i64 m) := by
        obtain ⟨m, hm⟩ := hm
        exact ⟨m, ((hb.trans (ba.mono hb.size)).cell (p := ⟨0, 0, none⟩) hg).trans hm⟩
      have HM := Lib.hid hm
      clear hm
      have hcl := cutLen_le r
      have hcp := cutLen_pos r (List.length_pos_iff.1 hp)
      have hlc := Lib.hid (linesL_cons r (List.length_pos_iff.1 hp))
      have hroom := Lib.index_room r [13, 10]
      go_wp2_with fail
      refine (index_any A' r c' _ 2 [13, 10] _ hp hr1 hs hrc (by omega) (by decide) hm1).mono ?_
      rintro e w1 ⟨rfl, q, hq⟩
      have b1 : Below wr.heap.size wr w1 := by rw [hq]; exact below_drewN ba q
      have h1sz := b1.size
      have hr2 := hr0.below b1
      have hbsz := hb.size
      have hb1 := hb.trans (b1.mono hbsz)
      obtain ⟨n, HN, hn0, hnr, hcase⟩ : ∃ n : Nat, Hid (cutLen r = n) ∧ 0 < n ∧ n ≤ r.length ∧ ((∃ k : Nat, Lib.index r [13, 10] = (k : Int) ∧ k + 2 = n) ∨ (Lib.index r [13, 10] < 0 ∧ r.length = n)) := by
        refine ⟨cutLen r, rfl, hcp, hcl, ?_⟩
        by_cases hi : 0 ≤ Lib.index r [13, 10]
        · obtain ⟨k, hk⟩ := Int.eq_ofNat_of_zero_le hi
          exact .inl ⟨k, hk, by unfold cutLen; rw [if_pos hi, hk]; omega⟩
        · exact .inr ⟨by omega, by unfold cutLen; rw [if_neg hi]⟩
      have hrt := hr2.take n
      have elen : (r.take n).length = n := by rw [List.length_take]; omega
      have hclone := clone_any A' (r.take n) c' w1 (by omega) hrt (by omega)
      rw [elen] at hclone
      have HC := Lib.hid hclone
      have hrows1 := hrows.below b1 (Nat.le_refl _)
      have HE := Lib.hid elen
      clear hq hm1 hs hr1 ba kc hclone elen hroom hcl hcp hrt
      rcases hcase with ⟨k, hk, rfl⟩ | ⟨hk, hk2⟩
      · rw [hk]
        have HK := Lib.hid hk
        clear hk
        go_wp2_with fail
        refine HC.out.mono ?_
        rintro e w2 ⟨g, cap, rfl, hbt, hgw, hcap, b2⟩
        obtain ⟨vs, hown, hvl, hel⟩ := hrows1.below b2 (Nat.le_refl _)
        have b2sz := b2.size
        go_wp2_with (at_builtin; refine wpList_append_own _ rfl _ _ 31 rfl w.heap.size 22 i0 (.slice none 0 0) 1 24 Tryd.underlying31 hi0 hz0 hz1 hz2 rfl (by decide) _ _ _ rfl (hown.alloc _) ⟨w2.heap.size, 0, none⟩ 1 1 [.slice (some ⟨g, 0, none⟩) (k + 2) cap] rfl rfl ?c1 ?c2 ?c3 ?c4 ?c5 ?_)
        case c1 =>
          intro j u hj
          match j, hj with
          | 0, hj => simp at hj; subst hj; simp [Addr.add]
        case c2 => intro u hu; simp at hu; subst hu; rfl
        case c3 => unfold maxLen; omega
        case c4 => omega
        case c5 => simp; omega
        intro v' w3 hown' hgrow _
        go_wp2
        exact lines_end hr hrc hrl hcnt HL hlc HN hn0 hnr hb1 hbt hgw hcap b2 hown hvl hel hown' hgrow
      · subst hk2
        clear HE
        go_wp2_with fail
        refine HC.out.mono ?_
        rintro e w2 ⟨g, cap, rfl, hbt, hgw, hcap, b2⟩
        obtain ⟨vs, hown, hvl, hel⟩ := hrows1.below b2 (Nat.le_refl _)
        have b2sz := b2.size
        go_wp2_with (at_builtin; refine wpList_append_own _ rfl _ _ 31 rfl w.heap.size 22 i0 (.slice none 0 0) 1 24 Tryd.underlying31 hi0 hz0 hz1 hz2 rfl (by decide) _ _ _ rfl (hown.alloc _) ⟨w2.heap.size, 0, none⟩ 1 1 [.slice (some ⟨g, 0, none⟩) (r.length) cap] rfl rfl ?c1 ?c2 ?c3 ?c4 ?c5 ?_)
        case c1 =>
          intro j u hj
          match j, hj with
          | 0, hj => simp at hj; subst hj; simp [Addr.add]
        case c2 => intro u hu; simp at hu; subst hu; rfl
        case c3 => unfold maxLen; omega
        case c4 => omega
        case c5 => simp; omega
        intro v' w3 hown' hgrow _
        go_wp2
        have hend := lines_end hr hrc hrl hcnt HL hlc HN hn0 hnr hb1 hbt hgw hcap b2 hown hvl hel hown' hgrow
        rw [Nat.sub_self] at hend
        exact hend
    · obtain rfl : r = [] := List.eq_nil_of_length_eq_zero (by omega)
      go_wp2
      go_ret
      refine ⟨_, rfl, ?_, hb⟩
      have := HL.out
      rw [linesL_nil, List.append_nil] at this
      rw [← this]
      exact hrows
end Go.Proofs.YtcigfmnkfelhjaaDoor
