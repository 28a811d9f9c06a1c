/- Base64: the text of bytes. -/
import Derived.Test.YtofgkahldhelaaaDoorCdA
set_option linter.unusedVariables false
namespace Go.Proofs.YtofgkahldhelaaaDoor
open Go.RowKit

theorem Rd.take {w : World} {A : Option Addr} {l : List UInt8} (h : Rd w A l) (n : Nat) : Rd w A (l.take n) := fun hp => by
  have hp' : 0 < l.length := by rw [List.length_take] at hp; omega
  obtain ⟨b, o, hA, hb, hc⟩ := h hp'
  exact ⟨b, o, hA, hb, fun i hi => by rw [List.length_take] at hi; rw [List.getElem_take]; exact hc i (by omega)⟩
theorem Rd.drop {w : World} {A : Option Addr} {l : List UInt8} (h : Rd w A l) (n cap : Nat) (hc : l.length ≤ cap) : Rd w (if cap = n then A else A.map (·.add n)) (l.drop n) := fun hp => by
  rw [List.length_drop] at hp
  obtain ⟨b, o, hA, hb, hcell⟩ := h (by omega)
  subst hA
  have hne : ¬ cap = n := by omega
  refine ⟨b, o + n, ?_, hb, fun i hi => ?_⟩
  · rw [if_neg hne]
    show some ((⟨b, o, none⟩ : Addr).add n) = _
    unfold Addr.add
    simp
  · rw [List.length_drop] at hi
    rw [List.getElem_drop, Nat.add_assoc]
    exact hcell (n + i) (by omega)
theorem own_none (w : World) (B : Nat) (e : TypeId) : w.ownsRow B e 1 (.slice none 0 0) ([] : List UInt8).length (Lib.byteCells []) := World.ownsRow_nil _ _ _ _

theorem addp0 (b o i : Nat) : (⟨b, o, none⟩ : Addr).add i = ⟨b, o + i, none⟩ := by unfold Addr.add; split <;> simp_all
theorem ownk_below {w w' : World} {B C : Nat} {e : TypeId} {k : Nat} {v : Value} {n : Nat} {xs : List Value} (h : w.ownsRow B e k v n xs) (hb : Below C w w') (hC : w.heap.size ≤ C) : w'.ownsRow B e k v n xs := by
  refine ⟨h.1, ?_⟩
  rcases h.2 with h2 | ⟨g, cap, cur, hv, hg, hh, r⟩
  · exact .inl h2
  · have : g < w.heap.size := (Array.getElem?_eq_some_iff.1 hh).1
    exact .inr ⟨g, cap, cur, hv, hg, (hb.block g (by omega)).trans hh, r⟩
theorem group_n (A : Option Addr) (l : List UInt8) (n c : Nat) (w : World) (hn : l.length = n) (hr : Rd w A l) (h0 : l ≠ []) (h3 : l.length ≤ 3) (hc : l.length ≤ c) :
    Calls Tryd.prog 17 #[.slice A n c] w fun e w' => ∃ g, e = .returned (.slice (some ⟨g, 0, none⟩) 4 4) ∧ Bts 5 w' g (grp l) ∧ w.heap.size ≤ g ∧ Below w.heap.size w w' := by
  subst hn
  exact group_e A l c w hr h0 h3 hc
set_option maxRecDepth 100000 in
set_option maxHeartbeats 4000000 in
theorem base64_e (A : Option Addr) (l : List UInt8) (c : Nat) (w : World) (hr : Rd w A l) (hl : l.length ≤ 1000000) (hc : l.length ≤ c) :
    Calls Tryd.prog 7 #[.slice A l.length c] w fun e w' => ∃ v, e = .returned v ∧ w'.ownsRow w.heap.size 5 1 v (b64 0 l).length (Lib.byteCells (b64 0 l)) ∧ Below w.heap.size w w' := by
  obtain ⟨i0, hi0, hz0, hz1, hz2⟩ := info_parts u8Info
  go_enter Tryd.func7, Tryd.ntmps7
  go_wp2
  go_loopw [0, 3, 4] (fun bv v cv wr => ∃ (Ab : Option Addr) (x C : List UInt8) (cb col : Nat), bv = .slice Ab x.length cb ∧ Rd w Ab x ∧ x.length ≤ cb ∧ x.length ≤ l.length ∧ C.length + 6 * x.length ≤ 6 * l.length ∧ cv = .int .i64 (col : Int) ∧ col + 4 * x.length ≤ 4 * l.length ∧ Hid (b64 0 l = C ++ b64 col x) ∧ wr.ownsRow w.heap.size 5 1 v C.length (Lib.byteCells C) ∧ Below w.heap.size w wr) (fun bv _ _ _ => match bv with | .slice _ n _ => n | _ => 0)
  case atStart => exact ⟨A, l, [], c, 0, rfl, hr, hc, Nat.le_refl _, by simp, rfl, by omega, rfl, own_none w _ _, Below.refl _ _⟩
  case round =>
    obtain ⟨Ab, x, C, cb, col, rfl, hx, hxc, hxl, hC, rfl, hcol, HC, hI, hb⟩ := hrel
    have hsz := hb.size
    by_cases hpos : 0 < x.length
    · have hpos' : (0 : Int) < (x.length : Int) := by omega
      obtain ⟨m, hm, hm0, hm1, hm3, hmin, hmi⟩ : ∃ m : Nat, Hid (m = min 3 x.length) ∧ 0 < m ∧ m ≤ x.length ∧ m ≤ 3 ∧ Hid (m = 3 ∨ m = x.length) ∧ min (3 : Int) (x.length : Int) = (m : Int) := ⟨min 3 x.length, rfl, by omega, by omega, by omega, by show _ ∨ _; omega, by omega⟩
      have ht : x.take m = x.take 3 := by
        rcases hmin.out with e | e
        · rw [e]
        · rw [e, List.take_length, List.take_of_length_le (by omega)]
      have hd : x.drop m = x.drop 3 := by
        rcases hmin.out with e | e
        · rw [e]
        · rw [e, List.drop_length, List.drop_eq_nil_of_le (by omega)]
      have hx0 : x ≠ [] := by intro e; rw [e] at hpos; exact absurd hpos (by simp)
      have ht0 : x.take 3 ≠ [] := by
        intro e
        have := congrArg List.length e
        rw [List.length_take] at this
        simp at this
        exact hx0 (by simpa using this)
      have hstep := Lib.hid (b64_step col x hx0)
      have htl : (x.take 3).length = m := by rw [← ht, List.length_take]; omega
      have hmc : (m : Int) ≤ (cb : Int) := by omega
      go_wp2_with ((with_reducible refine (group_n Ab (x.take 3) m cb _ htl ((hx.below hb).take 3) ht0 (by omega) (by omega)).mono ?_))
      rintro _ w2 ⟨g, rfl, hB, hg, hb2⟩
      have hI2 := ownk_below hI hb2 (Nat.le_refl _)
      have hs2 := hb2.size
      have hb02 : Below w.heap.size w w2 := hb.trans (hb2.mono hsz)
      go_wp2_with (at_builtin; refine wpList_append_rda _ rfl _ _ 22 rfl w.heap.size 5 i0 Tryd.underlying22 hi0 hz0 hz1 hz2 _ C rfl hI2 (some ⟨g, 0, none⟩) (grp (x.take 3)) _ _ (grp_len _ ht0).symm rfl (Rd.of_bts hB) (by rw [grp_len _ ht0]; omega) (by omega) ?_)
      intro v3 w3 hown3 hg3 _
      have hb3 := hb02.grown hg3 (by omega) (fun k hk => (hI2.lt k hk).1)
      have hs3 := hb3.size
      obtain ⟨C3, HC3, hC3, hown3⟩ : ∃ C3, Hid (C3 = C ++ grp (x.take 3)) ∧ C3.length ≤ C.length + 4 ∧ w3.ownsRow w.heap.size 5 1 v3 C3.length (Lib.byteCells C3) := ⟨C ++ grp (x.take 3), rfl, by rw [List.length_append, grp_len _ ht0]; exact Nat.le_refl _, by rw [List.length_append]; exact hown3⟩
      have hyl : (x.drop 3).length = x.length - m := by rw [← hd, List.length_drop]
      by_cases hcb : cb = m
      · subst hcb
        obtain rfl : cb = x.length := by omega
        generalize hyd : x.drop 3 = y at hyl hstep
        have hyy : y = [] := List.eq_nil_of_length_eq_zero (by omega)
        by_cases h76 : col = 72
        · subst h76
          go_wp2_with (at_builtin; refine wpList_append_st _ rfl _ _ 22 9 rfl w.heap.size 5 i0 Tryd.underlying22 Tryd.underlying9 hi0 hz0 hz1 hz2 _ C3 rfl hown3 [13, 10] _ rfl rfl (by simp; omega) (by omega) ?_)
          intro v4 w4 hown4 hg4
          have hb4 := hb3.grown hg4 (by omega) (fun k hk => (hown3.lt k hk).1)
          obtain ⟨C4, HC4, hC4, hown4⟩ : ∃ C4, Hid (C4 = C3 ++ [13, 10]) ∧ C4.length ≤ C3.length + 2 ∧ w4.ownsRow w.heap.size 5 1 v4 C4.length (Lib.byteCells C4) := ⟨C3 ++ [13, 10], rfl, by rw [List.length_append]; exact Nat.le_refl _, by rw [List.length_append]; exact hown4⟩
          go_wp2
          go_roundw
          case rel =>
            refine ⟨Ab, y, C4, 0, 0, by rw [hyy]; simp, by rw [hyy]; exact Rd.nil, by rw [hyy]; exact Nat.le_refl _, by omega, by omega, rfl, by omega, ?_, hown4, hb4⟩
            show _ = _
            rw [HC.out, hstep.out, if_pos (.inr hyy), HC4.out, HC3.out]
            simp only [List.append_assoc]
          case measure => simp; omega
        · have h76' : ((col : Int) + 4 == 76) = false := by rw [beq_eq_false_iff_ne]; omega
          have h76'' : ¬ (col : Int) + 4 = 76 := by omega
          go_wp2_with (at_builtin; refine wpList_append_st _ rfl _ _ 22 9 rfl w.heap.size 5 i0 Tryd.underlying22 Tryd.underlying9 hi0 hz0 hz1 hz2 _ C3 rfl hown3 [13, 10] _ rfl rfl (by simp; omega) (by omega) ?_)
          intro v4 w4 hown4 hg4
          have hb4 := hb3.grown hg4 (by omega) (fun k hk => (hown3.lt k hk).1)
          obtain ⟨C4, HC4, hC4, hown4⟩ : ∃ C4, Hid (C4 = C3 ++ [13, 10]) ∧ C4.length ≤ C3.length + 2 ∧ w4.ownsRow w.heap.size 5 1 v4 C4.length (Lib.byteCells C4) := ⟨C3 ++ [13, 10], rfl, by rw [List.length_append]; exact Nat.le_refl _, by rw [List.length_append]; exact hown4⟩
          go_wp2
          go_roundw
          case rel =>
            refine ⟨Ab, y, C4, 0, 0, by rw [hyy]; simp, by rw [hyy]; exact Rd.nil, by rw [hyy]; exact Nat.le_refl _, by omega, by omega, rfl, by omega, ?_, hown4, hb4⟩
            show _ = _
            rw [HC.out, hstep.out, if_pos (.inr hyy), HC4.out, HC3.out]
            simp only [List.append_assoc]
          case measure => simp; omega
      · obtain ⟨bb, oo, rfl, hbb, hcc⟩ := hx hpos
        have hy := Rd.drop hx m cb hxc
        rw [hd, if_neg hcb] at hy
        generalize hyd : x.drop 3 = y at hy hyl hstep
        have hyA : (some (⟨bb, oo, none⟩ : Addr)).map (·.add m) = some ⟨bb, oo + m, none⟩ := by
          show some ((⟨bb, oo, none⟩ : Addr).add m) = _
          rw [addp0]
        rw [hyA] at hy
        by_cases h76 : col = 72
        · subst h76
          go_wp2_with (at_builtin; refine wpList_append_st _ rfl _ _ 22 9 rfl w.heap.size 5 i0 Tryd.underlying22 Tryd.underlying9 hi0 hz0 hz1 hz2 _ C3 rfl hown3 [13, 10] _ rfl rfl (by simp; omega) (by omega) ?_)
          intro v4 w4 hown4 hg4
          have hb4 := hb3.grown hg4 (by omega) (fun k hk => (hown3.lt k hk).1)
          obtain ⟨C4, HC4, hC4, hown4⟩ : ∃ C4, Hid (C4 = C3 ++ [13, 10]) ∧ C4.length ≤ C3.length + 2 ∧ w4.ownsRow w.heap.size 5 1 v4 C4.length (Lib.byteCells C4) := ⟨C3 ++ [13, 10], rfl, by rw [List.length_append]; exact Nat.le_refl _, by rw [List.length_append]; exact hown4⟩
          go_wp2
          go_roundw
          case rel =>
            refine ⟨some ⟨bb, oo + m, none⟩, y, C4, cb - m, 0, by rw [hyl], hy, by omega, by omega, by omega, rfl, by omega, ?_, hown4, hb4⟩
            show _ = _
            rw [HC.out, hstep.out, if_pos (.inl (by decide)), HC4.out, HC3.out]
            simp only [List.append_assoc]
          case measure => simp; omega
        · have h76' : ((col : Int) + 4 == 76) = false := by rw [beq_eq_false_iff_ne]; omega
          have h76'' : ¬ (col : Int) + 4 = 76 := by omega
          by_cases hyy : y = []
          · have hxm : x.length = m := by have h9 := hyl; rw [hyy, List.length_nil] at h9; omega
            go_wp2_with (at_builtin; refine wpList_append_st _ rfl _ _ 22 9 rfl w.heap.size 5 i0 Tryd.underlying22 Tryd.underlying9 hi0 hz0 hz1 hz2 _ C3 rfl hown3 [13, 10] _ rfl rfl (by simp; omega) (by omega) ?_)
            intro v4 w4 hown4 hg4
            have hb4 := hb3.grown hg4 (by omega) (fun k hk => (hown3.lt k hk).1)
            obtain ⟨C4, HC4, hC4, hown4⟩ : ∃ C4, Hid (C4 = C3 ++ [13, 10]) ∧ C4.length ≤ C3.length + 2 ∧ w4.ownsRow w.heap.size 5 1 v4 C4.length (Lib.byteCells C4) := ⟨C3 ++ [13, 10], rfl, by rw [List.length_append]; exact Nat.le_refl _, by rw [List.length_append]; exact hown4⟩
            go_wp2
            go_roundw
            case rel =>
              refine ⟨some ⟨bb, oo + m, none⟩, y, C4, cb - m, 0, by rw [hyy]; rfl, hy, by omega, by omega, by omega, rfl, by omega, ?_, hown4, hb4⟩
              show _ = _
              rw [HC.out, hstep.out, if_pos (.inr hyy), HC4.out, HC3.out]
              simp only [List.append_assoc]
            case measure => simp; omega
          · have hyp : 0 < y.length := List.length_pos_iff.2 hyy
            have hxm : ¬ x.length = m := by omega
            have hxm' : ¬ x.length - m = 0 := by omega
            have hxm2 : (((x.length - m : Nat) : Int) == 0) = false := by rw [beq_eq_false_iff_ne]; omega
            go_wp2
            go_roundw
            case rel =>
              refine ⟨some ⟨bb, oo + m, none⟩, y, C3, cb - m, col + 4, by rw [hyl], hy, by omega, by omega, by omega, by go_num, by omega, ?_, hown3, hb3⟩
              · show _ = _
                rw [HC.out, hstep.out, if_neg (by intro e; rcases e with e | e; exact h76 (by omega); exact hyy e), HC3.out, List.append_assoc]
            case measure => simp; omega
    · have hxe : x = [] := List.eq_nil_of_length_eq_zero (by omega)
      subst hxe
      have e : b64 0 l = C := by
        rw [HC.out]
        simp [b64]
      have HE := Lib.hid e
      clear e
      go_wp2
      go_ret
      refine ⟨u3, rfl, ?_, hb⟩
      rw [HE.out]
      exact hI
end Go.Proofs.YtofgkahldhelaaaDoor
