/- Package rec: numbers of several bytes; slices.Reverse at bytes. -/
import Derived.Test.YtjhmdgcfdelbkaaDoorCrcB
import Derived.Test.YtjhmdgcfdelbkaaDoorAp
import Derived.BigRegion
set_option linter.unusedVariables false
namespace Go.Proofs.YtjhmdgcfdelbkaaDoor
open Go.RowKit

theorem u8Info : (Tryd.prog.info? 5).map (fun i => (i.zero, i.size, i.bytes)) = some (some (.int .u8 0), 1, 1) := by kernel_rfl
/-- The number that bytes are, the most significant one first. -/
def beN (l : List UInt8) : Nat := l.foldl (fun n c => n * 256 + c.toNat) 0
theorem beN_snoc (l : List UInt8) (c : UInt8) : beN (l ++ [c]) = beN l * 256 + c.toNat := by simp [beN]
theorem beN_lt (l : List UInt8) : beN l < 256 ^ l.length := by
  induction h : l.length generalizing l with
  | zero => rw [List.eq_nil_of_length_eq_zero h]; decide
  | succ n ih =>
    obtain ⟨a, c, rfl⟩ : ∃ a c, l = a ++ [c] := by
      rcases List.eq_nil_or_concat l with h0 | ⟨a, c, h0⟩
      · subst h0; simp at h
      · exact ⟨a, c, by simpa using h0⟩
    have hc := c.toNat_lt
    have := ih a (by simpa using h)
    rw [beN_snoc, Nat.pow_succ]
    omega

set_option maxHeartbeats 1000000 in
theorem number_any (A : Option Addr) (l : List UInt8) (c : Nat) (w : World) (hr : Rd w A l) (hl : l.length ≤ 8) :
    Calls Tryd.prog 17 #[.slice A l.length c] w fun e w' => e = .returned (.int .u64 (beN l : Int)) ∧ w = w' := by
  go_enter Tryd.func17, Tryd.ntmps17
  go_wp2
  go_loop [3, 8] (fun r i => ∃ (k x : Nat), k ≤ l.length ∧ i = .int .i64 k ∧ r = .int .u64 (x : Int) ∧ Hid (beN (l.take k) = x)) (fun _ i => l.length - (intOf i).toNat)
  case atStart => exact ⟨0, 0, Nat.zero_le _, rfl, rfl, rfl⟩
  case round =>
    obtain ⟨k, x, hk, rfl, rfl, HX⟩ := hrel
    by_cases hlt : k < l.length
    · obtain ⟨b, o, rfl, hb, hcell⟩ := hr (by omega)
      have hcell := hcell k hlt
      have hc8 := l[k].toNat_lt
      have hx : x < 72057594037927936 := by
        have h1 := beN_lt (l.take k)
        rw [HX.out] at h1
        have h2 : (l.take k).length ≤ 7 := by rw [List.length_take]; omega
        have h3 : (256 : Nat) ^ (l.take k).length ≤ 256 ^ 7 := Nat.pow_le_pow_right (by decide) h2
        have h4 : (256 : Nat) ^ 7 = 72057594037927936 := by decide
        omega
      obtain ⟨y, HY, e1⟩ : ∃ y : Nat, Hid (x * 256 + l[k].toNat = y) ∧ bits .or .u64 ((x : Int) * 256) (l[k].toNat : Int) = (y : Int) := by
        refine ⟨_, rfl, ?_⟩
        have h := u64_or_nat (x * 256) l[k].toNat (by omega) (by omega)
        have h2 := Nat.two_pow_add_eq_or_of_lt (i := 8) (b := l[k].toNat) (by simpa using hc8) x
        rw [show (2 : Nat) ^ 8 * x = x * 256 by rw [Nat.mul_comm]] at h2
        rw [← h2] at h
        exact h
      go_wp2
      go_round
      case rel =>
        refine ⟨k + 1, y, by omega, by go_num, rfl, ?_⟩
        show _ = _
        rw [take_snoc_l l k hlt, beN_snoc, HX.out, HY.out]
      case measure => simp [intOf]; omega
    · obtain rfl : k = l.length := by omega
      go_wp2
      go_ret
      refine ⟨ret_int ?_, rfl⟩
      have h := HX.out
      rw [List.take_length] at h
      rw [h]

theorem own_cell {w : World} {B g cap : Nat} {l : List UInt8} (h : w.ownsRow B 5 1 (.slice (some ⟨g, 0, none⟩) l.length cap) l.length (Lib.byteCells l)) (j : Nat) (hj : j < l.length) : B ≤ g ∧ w.cell? ⟨g, j, none⟩ = some (.int .u8 (l[j].toNat : Int)) ∧ w.frozen? ⟨g, j, none⟩ = false := by
  rcases h.2 with ⟨h0, _⟩ | ⟨g', cap', cur, hv, hg, hh, hn, hm, hs, ht⟩
  · cases h0
  · injection hv with h1 h2 h3
    injection h1 with h1
    injection h1 with h1
    subst h1
    have h2 : (cur.toList.take (l.length * 1))[j]? = (Lib.byteCells l)[j]? := by rw [ht]
    rw [List.getElem?_take_of_lt (by omega)] at h2
    have h3 : cur[j]? = some (.int .u8 (l[j].toNat : Int)) := by simpa [Lib.byteCells, hj] using h2
    exact ⟨hg, by simp [World.cell?, hh, h3], by simp [World.frozen?, hh]⟩
theorem own_set {w : World} {B g cap : Nat} {l : List UInt8} (h : w.ownsRow B 5 1 (.slice (some ⟨g, 0, none⟩) l.length cap) l.length (Lib.byteCells l)) (j : Nat) (hj : j < l.length) (c : UInt8) : (w.setCell ⟨g, j, none⟩ (.int .u8 (c.toNat : Int))).ownsRow B 5 1 (.slice (some ⟨g, 0, none⟩) (l.set j c).length cap) (l.set j c).length (Lib.byteCells (l.set j c)) := by
  rcases h.2 with ⟨h0, _⟩ | ⟨g', cap', cur, hv, hg, hh, hn, hm, hs, ht⟩
  · cases h0
  · injection hv with h1 h2 h3
    injection h1 with h1
    injection h1 with h1
    subst h1 h3
    refine ⟨by simp [Lib.byteCells], .inr ⟨g, cap, cur.setIfInBounds j (.int .u8 (c.toNat : Int)), by simp, hg, by simp [World.setCell, Array.getElem?_modify, hh], by simpa using hn, hm, by simpa using hs, ?_⟩⟩
    rw [Array.toList_setIfInBounds, List.length_set]
    rw [List.take_set, ht]
    simp [Lib.byteCells, List.map_set]

set_option maxHeartbeats 4000000 in
theorem reverse_any (B g o cap : Nat) (l : List UInt8) (w : World) (h : w.ownsRow B 5 1 (.slice (some ⟨g, 0, none⟩) l.length cap) l.length (Lib.byteCells l)) (ho : o < l.length) (hl : l.length ≤ 1000000000) (cap' : Nat) (hc : l.length - o ≤ cap') :
    Calls Tryd.prog 20 #[.slice (some ⟨g, o, none⟩) (l.length - o) cap'] w fun e w' => e = .returned (.tuple #[]) ∧ Below B w w' ∧ w'.ownsRow B 5 1 (.slice (some ⟨g, 0, none⟩) l.length cap) l.length (Lib.byteCells (l.take o ++ (l.drop o).reverse)) := by
  obtain ⟨n, hn, HN⟩ : ∃ n, l.length - o = n + 1 ∧ Hid (l.length = o + n + 1) := ⟨l.length - o - 1, by omega, by show _ = _; omega⟩
  have hnb : n ≤ 1000000000 := by omega
  rw [hn] at hc ⊢
  clear hn
  go_enter Tryd.func20, Tryd.ntmps20
  go_wp2
  go_loopw [2, 3] (fun i j wr => ∃ (p r : Nat) (D : List UInt8), i = .int .i64 p ∧ j = .int .i64 r ∧ p + r = n ∧ Hid (D.length = l.length) ∧ wr.ownsRow B 5 1 (.slice (some ⟨g, 0, none⟩) D.length cap) D.length (Lib.byteCells D) ∧ Below B w wr ∧ Hid (∀ x, D.getD x 0 = if o ≤ x ∧ x ≤ o + n ∧ (x < o + p ∨ o + r < x) then l.getD (o + (n - (x - o))) 0 else l.getD x 0)) (fun i j _ => (intOf j - intOf i + 1).toNat)
  case atStart =>
    refine ⟨0, n, l, rfl, by go_num, by omega, rfl, h, Below.refl _ _, fun x => ?_⟩
    rw [if_neg (by omega)]
  case round =>
    obtain ⟨p, r, D, rfl, rfl, hpr, HD, hown, hb, HV⟩ := hrel
    by_cases hlt : p < r
    · have hDl := HD.out
      have hNl := HN.out
      have h1 : o + p < D.length := by omega
      have h2 : o + r < D.length := by omega
      obtain ⟨hBg, c1, f1⟩ := own_cell hown (o + p) h1
      obtain ⟨-, c2, f2⟩ := own_cell hown (o + r) h2
      have hs1 := own_set hown (o + p) h1 D[o + r]
      have hset := Lib.hid (own_set hs1 (o + r) (by rw [List.length_set]; exact h2) D[o + p])
      clear hs1
      have hp' : (p : Int) < (n : Int) + 1 := by omega
      have hr' : (r : Int) < (n : Int) + 1 := by omega
      have hne : ¬ o + p = o + r := by omega
      clear hDl hNl
      generalize hwr : wr = wq at *
      go_wp2_with fail
      go_region
      go_wp2
      go_roundw
      case rel =>
        subst hwr
        have hDl := HD.out
        have hNl := HN.out
        refine ⟨p + 1, r - 1, (D.set (o + p) D[o + r]).set (o + r) D[o + p], by go_num, by rw [Int.natCast_sub (by omega)]; rfl, by omega, ?_, hset.out, ((hb.setCell (p := ⟨g, o + p, none⟩) hBg _).setCell (p := ⟨g, o + r, none⟩) hBg _).drew, fun x => ?_⟩
        · show _ = _
          simp [hDl]
        · have hv := HV.out x
          have hv1 := HV.out (o + p)
          have hv2 := HV.out (o + r)
          rw [List.getD, List.getElem?_eq_getElem h1, Option.getD_some, if_neg (by omega)] at hv1
          rw [List.getD, List.getElem?_eq_getElem h2, Option.getD_some, if_neg (by omega)] at hv2
          by_cases hx2 : x = o + r
          · subst hx2
            rw [if_pos (by omega), List.getD, List.getElem?_set_self (by rw [List.length_set]; exact h2), Option.getD_some, hv1]
            congr 1; omega
          · by_cases hx1 : x = o + p
            · subst hx1
              rw [if_pos (by omega), List.getD, List.getElem?_set_ne (by omega), List.getElem?_set_self h1, Option.getD_some, hv2]
              congr 1; omega
            · rw [List.getD, List.getElem?_set_ne (by omega), List.getElem?_set_ne (by omega)]
              rw [List.getD] at hv
              rw [hv]
              by_cases hc1 : o ≤ x ∧ x ≤ o + n ∧ (x < o + p ∨ o + r < x)
              · rw [if_pos hc1, if_pos (by omega)]
              · rw [if_neg hc1, if_neg (by omega)]
      case measure => simp [intOf]; omega
    · go_wp2
      go_end0
      have e : D = l.take o ++ (l.drop o).reverse := by
        have hDl := HD.out
        have hNl := HN.out
        apply List.ext_getElem
        · simp; omega
        · intro x hx1 hx2
          have hv := HV.out x
          rw [List.getD, List.getElem?_eq_getElem hx1, Option.getD_some] at hv
          rw [hv, List.getElem_append]
          by_cases hxo : x < o
          · rw [if_neg (by omega), dif_pos (by simp; omega), List.getElem_take, List.getD, List.getElem?_eq_getElem (by omega)]
            rfl
          · rw [dif_neg (by simp; omega), List.getElem_reverse, List.getElem_drop]
            have e2 : ∀ (y z : Nat) (hy : y < l.length), y = z → l.getD z 0 = l[y] := by
              intro y z hy hyz
              subst hyz
              rw [List.getD, List.getElem?_eq_getElem hy]
              rfl
            split
            · exact e2 _ _ _ (by simp; omega)
            · exact e2 _ _ _ (by simp; omega)
      have hDl := HD.out
      rw [hDl, e] at hown
      exact ⟨rfl, hb, hown⟩
end Go.Proofs.YtjhmdgcfdelbkaaDoor
