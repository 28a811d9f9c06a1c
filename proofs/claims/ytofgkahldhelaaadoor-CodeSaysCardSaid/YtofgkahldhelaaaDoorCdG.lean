/- Quoted-printable: the text of bytes. -/
import Derived.Test.YtofgkahldhelaaaDoorCdF
import Derived.StillTailTactics
set_option linter.unusedVariables false
namespace Go.Proofs.YtofgkahldhelaaaDoor
open Go.RowKit

theorem hexA_get (v : Nat) (h : v < hexA.size) : hexA[v] = hexd v := by
  have key : ∀ i : Fin 16, hexA.data.toList.getD i.val 0 = hexd i.val := by decide
  have h' : v < 16 := h
  have := key ⟨v, h'⟩
  rw [← this]
  have h2 : v < hexA.data.toList.length := h
  simp only [List.getD, List.getElem?_eq_getElem h2, Option.getD_some]
  rfl
theorem hex_rd (w : World) (x y a b : UInt8) (hx : x = a) (hy : y = b) : Rd (w.alloc (.cells #[.int .u8 61, .int .u8 (x.toNat : Int), .int .u8 (y.toNat : Int)] 5)) (some ⟨w.heap.size, 0, none⟩) [61, a, b] := by
  subst hx
  subst hy
  have hB : Bts 5 (w.alloc (.cells #[.int .u8 61, .int .u8 (x.toNat : Int), .int .u8 (y.toNat : Int)] 5)) w.heap.size [61, x, y] :=
    ⟨_, (0, 0), by simp [World.alloc, -World.alloc_eq]; rfl, .inr rfl, fun j h => by
      have hj : j < 3 := h
      rcases (by omega : j = 0 ∨ j = 1 ∨ j = 2) with rfl | rfl | rfl <;> simp⟩
  exact Rd.of_bts hB
theorem and15 (x : Nat) (hx : x < 256) : bits .and .u8 (x : Int) 15 = ((x % 16 : Nat) : Int) := by
  have := u8_and_nat x 15 hx (by decide)
  rw [show (15 : Nat) = 2 ^ 4 - 1 by decide, Nat.and_two_pow_sub_one_eq_mod] at this
  exact this
theorem Rd.grownR {w w' : World} {g o : Nat} {l : List UInt8} {row : Option Nat} (h : Rd w (some ⟨g, o, none⟩) l) (hg : w.grownBy w' row) (hne : row ≠ some g) : Rd w' (some ⟨g, o, none⟩) l := fun hp => by
  obtain ⟨b, o', hA, hb, hc⟩ := h hp
  injection hA with hA
  injection hA with e1 e2
  subst e1
  subst e2
  have hblk := hg.block g hb (Ne.symm hne)
  have hs := hg.size
  refine ⟨g, o, rfl, by omega, fun i hi => ?_⟩
  have := hc i hi
  simp only [World.cell?] at this ⊢
  rw [hblk]
  exact this
theorem textQ_len (l : List UInt8) : (textQ l).length ≤ 3 := by
  cases l with
  | nil => simp [textQ]
  | cons c r =>
    simp only [textQ]
    split <;> simp

set_option maxRecDepth 100000 in
set_option maxHeartbeats 8000000 in
theorem quoted_e (A : Option Addr) (l : List UInt8) (c : Nat) (w : World) (hr : Rd w A l) (hl : l.length ≤ 1000000) (hc : l.length ≤ c) :
    Calls Tryd.prog 9 #[.slice A l.length c] w fun e w' => ∃ v, e = .returned v ∧ w'.ownsRow w.heap.size 5 1 v (quo 0 l).length (Lib.byteCells (quo 0 l)) ∧ Below w.heap.size w w' := by
  obtain ⟨i0, hi0, hz0, hz1, hz2⟩ := info_parts u8Info
  go_enter Tryd.func9, Tryd.ntmps9
  go_wp2
  go_loopw [3, 4, 5] (fun v cv i wr => ∃ (k col : Nat) (C : List UInt8), k ≤ l.length ∧ i = .int .i64 k ∧ cv = .int .i64 (col : Int) ∧ col ≤ 75 ∧ C.length ≤ 6 * k ∧ Hid (quo 0 l = C ++ quo col (l.drop k)) ∧ wr.ownsRow w.heap.size 5 1 v C.length (Lib.byteCells C) ∧ Below w.heap.size w wr) (fun _ _ i _ => l.length - (intOf i).toNat)
  case atStart => exact ⟨0, 0, [], Nat.zero_le _, rfl, rfl, by omega, by simp, rfl, own_none w _ _, Below.refl _ _⟩
  case round =>
    obtain ⟨k, col, C, hk, rfl, rfl, hcol, hC, HQ, hI, hb⟩ := hrel
    have hsz := hb.size
    by_cases hlt : k < l.length
    · have hlt' : (k : Int) < (l.length : Int) := by omega
      have hck : ¬ c = k := by omega
      have hck2 : (k : Int) ≤ (c : Int) := by omega
      have hck3 : (k : Int) ≤ (l.length : Int) := by omega
      obtain ⟨b, o, rfl, hbb, hcell⟩ := (hr.below hb) (by omega)
      have hcc := hcell k hlt
      have h8 := l[k].toNat_lt
      have hdr := Lib.hid (List.drop_eq_getElem_cons hlt)
      have hrd : Rd wr (some ⟨b, o + k, none⟩) (l.drop k) := by
        have h1 := Rd.drop (hr.below hb) k c hc
        rw [if_neg hck] at h1
        have e : (some (⟨b, o, none⟩ : Addr)).map (·.add k) = some ⟨b, o + k, none⟩ := by
          show some ((⟨b, o, none⟩ : Addr).add k) = _
          rw [addp0]
        rw [e] at h1
        exact h1
      have hdl : (l.drop k).length = l.length - k := List.length_drop
      generalize l[k] = d at hcc h8 hdr
      obtain ⟨r, HR⟩ : ∃ r, Hid (l.drop (k + 1) = r) := ⟨_, rfl⟩
      have hdr2 := hdr.out
      rw [HR.out] at hdr2
      replace hdr := Lib.hid hdr2
      clear hdr2 hcell
      have hQ := HQ.out
      rw [hdr.out] at hQ
      replace HQ := Lib.hid hQ
      clear hQ
      have hle := Lib.hid (lineEnd_e (some ⟨b, o + k, none⟩) (l.drop k) (l.length - k) (c - k) wr hdl hrd (by omega))
      have hrd2 := hrd
      rw [hdr.out] at hrd2
      have hrl : r.length + 1 = l.length - k := by
        have := congrArg List.length hdr.out
        rw [hdl, List.length_cons] at this
        omega
      replace hrl := Lib.hid hrl
      replace hdl := Lib.hid hdl
      by_cases hE : lineEnd (l.drop k) = true
      · have hle2 := hle.out
        rw [hE] at hle2
        replace hle2 := Lib.hid hle2
        have hk2 : k + 2 ≤ l.length := by
          have h9 : (l.drop k).take 2 = [13, 10] := by simpa [lineEnd] using hE
          have := congrArg List.length h9
          rw [List.length_take, hdl.out] at this
          simp at this
          omega
        rw [hdr.out] at hE
        have hq := Lib.hid (quo_crlf col d r hE)
        have hd2 : r.drop 1 = l.drop (k + 2) := by rw [← HR.out, List.drop_drop]
        replace hd2 := Lib.hid hd2
        clear hE hle
        go_wp2_with ((with_reducible refine hle2.out.mono ?_))
        first | (rintro _ w2 rfl hb2) | (rintro _ w2 ⟨rfl, hb2⟩)
        have hI2 := ownk_below hI hb2 (Nat.le_refl _)
        have hb02 := hb.trans (hb2.mono hsz)
        have hs2 := hb02.size
        go_wp2_with (at_builtin; refine wpList_append_st _ rfl _ _ 22 9 rfl w.heap.size 5 i0 Tryd.underlying22 Tryd.underlying9 hi0 hz0 hz1 hz2 _ C rfl hI2 [13, 10] _ rfl rfl (by simp; omega) (by omega) ?_)
        intro v4 w4 hown4 hg4
        have hb4 := hb02.grown hg4 (by omega) (fun k hk => (hI2.lt k hk).1)
        obtain ⟨C4, HC4, hC4, hown4⟩ : ∃ C4, Hid (C4 = C ++ [13, 10]) ∧ C4.length ≤ C.length + 2 ∧ w4.ownsRow w.heap.size 5 1 v4 C4.length (Lib.byteCells C4) := ⟨C ++ [13, 10], rfl, by rw [List.length_append]; exact Nat.le_refl _, by rw [List.length_append]; exact hown4⟩
        go_wp2
        go_roundw
        case rel =>
          refine ⟨k + 2, 0, C4, by omega, by go_num, rfl, by omega, by omega, ?_, hown4, hb4⟩
          show _ = _
          rw [HQ.out, hq.out, HC4.out, hd2.out, List.append_assoc]
        case measure => simp [intOf]; omega
      · have hE' : lineEnd (l.drop k) = false := by simpa using hE
        have hle2 := hle.out
        rw [hE'] at hle2
        replace hle2 := Lib.hid hle2
        rw [hdr.out] at hE'
        have hq := Lib.hid (quo_text col d r hE')
        clear hE hle hE'
        have hT3 := textQ_len (d :: r)
        go_wp2_with ((with_reducible refine hle2.out.mono ?_))
        first | (rintro _ w2 rfl hb2) | (rintro _ w2 ⟨rfl, hb2⟩)
        have hI2 := ownk_below hI hb2 (Nat.le_refl _)
        have hb02 := hb.trans (hb2.mono hsz)
        have hs2 := hb02.size
        have hs12 := hb2.size
        have hcc2 := (hb2.cell (p := ⟨b, o + k, none⟩) hbb).trans hcc
        have hb3 := below_one4 w2 (.cells #[.int .u8 (d.toNat : Int)] 5)
        have hrd3 := (hrd2.below hb2).below hb3
        have hpr := Lib.hid (printable_e b (o + k) d r (l.length - k) (c - k) _ hrl.out hrd3 (by omega))
        by_cases hP : printB (d :: r) = true
        · have hpr2 := hpr.out
          rw [hP] at hpr2
          replace hpr2 := Lib.hid hpr2
          have hT : Hid (textQ (d :: r) = [d]) := by
            show _ = _
            simp only [textQ]
            rw [if_pos hP]
          clear hpr hP
          go_wp2_with ((with_reducible refine hpr2.out.mono ?_))
          first | (rintro _ w3 rfl hb4) | (rintro _ w3 ⟨rfl, hb4⟩)
          have hrT := (one_rd w2 d (0, 0)).below (hb4.mono (Nat.le_refl _))
          have hI3 := ownk_below (ownk_below hI2 hb3 (Nat.le_refl _)) hb4 (Nat.le_refl _)
          have hb03 := (hb02.trans (hb3.mono hs2)).trans (hb4.mono (by simp; omega))
          have hs3 := hb03.size
          have hne3 : u3.ownBlock ≠ some w2.heap.size := by
            intro e
            have := own_lt hI2 _ e
            omega
          by_cases hov : 75 < col + 1
          · have hov' : (75 : Int) < (col : Int) + 1 := by omega
            go_wp2_with (at_builtin; refine wpList_append_st _ rfl _ _ 22 9 rfl w.heap.size 5 i0 Tryd.underlying22 Tryd.underlying9 hi0 hz0 hz1 hz2 _ C rfl hI3 [61, 13, 10] _ rfl rfl (by simp; omega) (by omega) ?_)
            intro v5 w5 hown5 hg5
            have hb5 := hb03.grown hg5 (by omega) (fun k hk => (hI3.lt k hk).1)
            obtain ⟨C5, HC5, hC5, hown5⟩ : ∃ C5, Hid (C5 = C ++ [61, 13, 10]) ∧ C5.length ≤ C.length + 3 ∧ w5.ownsRow w.heap.size 5 1 v5 C5.length (Lib.byteCells C5) := ⟨C ++ [61, 13, 10], rfl, by rw [List.length_append]; exact Nat.le_refl _, by rw [List.length_append]; exact hown5⟩
            have hrT5 := Rd.grownR hrT hg5 hne3
            have hs5 := hb5.size
            go_wp2_with (at_builtin; refine wpList_append_rda _ rfl _ _ 22 rfl w.heap.size 5 i0 Tryd.underlying22 hi0 hz0 hz1 hz2 _ C5 rfl hown5 (some ⟨w2.heap.size, 0, none⟩) [d] _ _ rfl rfl hrT5 (by simp; omega) (by omega) ?_)
            intro v6 w6 hown6 hg6 _
            have hb6 := hb5.grown hg6 (by omega) (fun k hk => (hown5.lt k hk).1)
            obtain ⟨C6, HC6, hC6, hown6⟩ : ∃ C6, Hid (C6 = C5 ++ [d]) ∧ C6.length ≤ C5.length + 1 ∧ w6.ownsRow w.heap.size 5 1 v6 C6.length (Lib.byteCells C6) := ⟨C5 ++ [d], rfl, by rw [List.length_append]; exact Nat.le_refl _, by rw [List.length_append]; exact hown6⟩
            go_wp2
            go_roundw
            case rel =>
              refine ⟨k + 1, 1, C6, by omega, by go_num, by go_num, by omega, by omega, ?_, hown6, hb6⟩
              show _ = _
              rw [HQ.out, hq.out, hT.out, if_pos (by exact hov), HC6.out, HC5.out, HR.out]
              simp only [List.append_assoc]
              rfl
            case measure => simp [intOf]; omega
          · have hov' : ¬ (75 : Int) < (col : Int) + 1 := by omega
            go_wp2_with (at_builtin; refine wpList_append_rda _ rfl _ _ 22 rfl w.heap.size 5 i0 Tryd.underlying22 hi0 hz0 hz1 hz2 _ C rfl hI3 (some ⟨w2.heap.size, 0, none⟩) [d] _ _ rfl rfl hrT (by simp; omega) (by omega) ?_)
            intro v6 w6 hown6 hg6 _
            have hb6 := hb03.grown hg6 (by omega) (fun k hk => (hI3.lt k hk).1)
            obtain ⟨C6, HC6, hC6, hown6⟩ : ∃ C6, Hid (C6 = C ++ [d]) ∧ C6.length ≤ C.length + 1 ∧ w6.ownsRow w.heap.size 5 1 v6 C6.length (Lib.byteCells C6) := ⟨C ++ [d], rfl, by rw [List.length_append]; exact Nat.le_refl _, by rw [List.length_append]; exact hown6⟩
            go_wp2
            go_roundw
            case rel =>
              refine ⟨k + 1, col + 1, C6, by omega, by go_num, by go_num, by omega, by omega, ?_, hown6, hb6⟩
              show _ = _
              rw [HQ.out, hq.out, hT.out, if_neg (by exact hov), HC6.out, HR.out]
              simp only [List.append_assoc]
              rfl
            case measure => simp [intOf]; omega
        · have hP' : printB (d :: r) = false := by simpa using hP
          have hpr2 := hpr.out
          rw [hP'] at hpr2
          replace hpr2 := Lib.hid hpr2
          have hT : Hid (textQ (d :: r) = [61, hexd (d.toNat / 16), hexd (d.toNat % 16)]) := by
            show _ = _
            simp only [textQ]
            rw [if_neg hP]
          clear hpr hP hP'
          go_wp2_with ((with_reducible refine hpr2.out.mono ?_))
          first | (rintro _ w3 rfl hb4) | (rintro _ w3 ⟨rfl, hb4⟩)
          have hI3 := ownk_below (ownk_below hI2 hb3 (Nat.le_refl _)) hb4 (Nat.le_refl _)
          have hb03 := (hb02.trans (hb3.mono hs2)).trans (hb4.mono (by simp; omega))
          have hs3 := hb03.size
          have hcc3 := (hb4.cell (p := ⟨b, o + k, none⟩) (by simp; omega)).trans ((hb3.cell (p := ⟨b, o + k, none⟩) (by show b < _; omega)).trans hcc2)
          obtain ⟨v1, hv1, hv2, e1⟩ : ∃ v1 : Nat, v1 < 16 ∧ Hid (v1 = d.toNat / 16) ∧ (d.toNat : Int) / 16 = (v1 : Int) := ⟨d.toNat / 16, by omega, rfl, by omega⟩
          obtain ⟨u1, hu1, hu2, e2⟩ : ∃ u1 : Nat, u1 < 16 ∧ Hid (u1 = d.toNat % 16) ∧ bits .and .u8 (d.toNat : Int) 15 = (u1 : Int) := ⟨d.toNat % 16, by omega, rfl, and15 _ (by omega)⟩
          have hv1' : (v1 : Int) < 16 := by omega
          have hu1' : (u1 : Int) < 16 := by omega
          go_wp2_with fail
          go_still_tail 12, (by kernel_rfl)
          change wpList _ _ _ _ _ w3.drew
          have hone := below_one4 w3 (.cells #[.int .u8 61, .int .u8 ((hexA[v1]'hv1).toNat : Int), .int .u8 ((hexA[u1]'hu1).toNat : Int)] 5)
          have hIW : ((w3.alloc (.cells #[.int .u8 61, .int .u8 ((hexA[v1]'hv1).toNat : Int), .int .u8 ((hexA[u1]'hu1).toNat : Int)] 5)).drew).ownsRow w.heap.size 5 1 u3 C.length (Lib.byteCells C) := ownk_below hI3 (show Below w3.heap.size w3 (w3.alloc (.cells #[.int .u8 61, .int .u8 ((hexA[v1]'hv1).toNat : Int), .int .u8 ((hexA[u1]'hu1).toNat : Int)] 5)).drew from below_drewN hone 1) (Nat.le_refl _)
          have hbW : Below w.heap.size w (w3.alloc (.cells #[.int .u8 61, .int .u8 ((hexA[v1]'hv1).toNat : Int), .int .u8 ((hexA[u1]'hu1).toNat : Int)] 5)).drew := below_drewN (hb03.trans (hone.mono hs3)) 1
          have hrT : Rd (w3.alloc (.cells #[.int .u8 61, .int .u8 ((hexA[v1]'hv1).toNat : Int), .int .u8 ((hexA[u1]'hu1).toNat : Int)] 5)).drew (some ⟨w3.heap.size, 0, none⟩) [61, hexd v1, hexd u1] := hex_rd w3 _ _ _ _ (hexA_get v1 hv1) (hexA_get u1 hu1)
          have hT2 := hT.out
          rw [← hv2.out, ← hu2.out] at hT2
          replace hT2 := Lib.hid hT2
          have hne3 : u3.ownBlock ≠ some w3.heap.size := by
            intro e
            have := own_lt hI3 _ e
            omega
          by_cases hov : 75 < col + 3
          · have hov' : (75 : Int) < (col : Int) + 3 := by omega
            go_wp2_with (at_builtin; refine wpList_append_st _ rfl _ _ 22 9 rfl w.heap.size 5 i0 Tryd.underlying22 Tryd.underlying9 hi0 hz0 hz1 hz2 _ C rfl hIW [61, 13, 10] _ rfl rfl (by simp; omega) (by (first | omega | (simp; omega))) ?_)
            intro v5 w5 hown5 hg5
            have hb5 := hbW.grown hg5 (by (first | omega | (simp; omega))) (fun k hk => (hIW.lt k hk).1)
            obtain ⟨C5, HC5, hC5, hown5⟩ : ∃ C5, Hid (C5 = C ++ [61, 13, 10]) ∧ C5.length ≤ C.length + 3 ∧ w5.ownsRow w.heap.size 5 1 v5 C5.length (Lib.byteCells C5) := ⟨C ++ [61, 13, 10], rfl, by rw [List.length_append]; exact Nat.le_refl _, by rw [List.length_append]; exact hown5⟩
            have hrT5 := Rd.grownR hrT hg5 hne3
            have hs5 := hb5.size
            go_wp2_with (at_builtin; refine wpList_append_rda _ rfl _ _ 22 rfl w.heap.size 5 i0 Tryd.underlying22 hi0 hz0 hz1 hz2 _ C5 rfl hown5 (some ⟨w3.heap.size, 0, none⟩) [61, hexd v1, hexd u1] _ _ rfl rfl hrT5 (by simp; omega) (by omega) ?_)
            intro v6 w6 hown6 hg6 _
            have hb6 := hb5.grown hg6 (by omega) (fun k hk => (hown5.lt k hk).1)
            obtain ⟨C6, HC6, hC6, hown6⟩ : ∃ C6, Hid (C6 = C5 ++ [61, hexd v1, hexd u1]) ∧ C6.length ≤ C5.length + 3 ∧ w6.ownsRow w.heap.size 5 1 v6 C6.length (Lib.byteCells C6) := ⟨C5 ++ [61, hexd v1, hexd u1], rfl, by rw [List.length_append]; exact Nat.le_refl _, by rw [List.length_append]; exact hown6⟩
            go_wp2
            go_roundw
            case rel =>
              refine ⟨k + 1, 3, C6, by omega, by go_num, by go_num, by omega, by omega, ?_, hown6, hb6⟩
              show _ = _
              rw [HQ.out, hq.out, hT2.out, if_pos (by exact hov), HC6.out, HC5.out, HR.out]
              simp only [List.append_assoc]
              rfl
            case measure => simp [intOf]; omega
          · have hov' : ¬ (75 : Int) < (col : Int) + 3 := by omega
            go_wp2_with (at_builtin; refine wpList_append_rda _ rfl _ _ 22 rfl w.heap.size 5 i0 Tryd.underlying22 hi0 hz0 hz1 hz2 _ C rfl hIW (some ⟨w3.heap.size, 0, none⟩) [61, hexd v1, hexd u1] _ _ rfl rfl hrT (by simp; omega) (by (first | omega | (simp; omega))) ?_)
            intro v6 w6 hown6 hg6 _
            have hb6 := hbW.grown hg6 (by (first | omega | (simp; omega))) (fun k hk => (hIW.lt k hk).1)
            obtain ⟨C6, HC6, hC6, hown6⟩ : ∃ C6, Hid (C6 = C ++ [61, hexd v1, hexd u1]) ∧ C6.length ≤ C.length + 3 ∧ w6.ownsRow w.heap.size 5 1 v6 C6.length (Lib.byteCells C6) := ⟨C ++ [61, hexd v1, hexd u1], rfl, by rw [List.length_append]; exact Nat.le_refl _, by rw [List.length_append]; exact hown6⟩
            go_wp2
            go_roundw
            case rel =>
              refine ⟨k + 1, col + 3, C6, by omega, by go_num, by go_num, by omega, by omega, ?_, hown6, hb6⟩
              show _ = _
              rw [HQ.out, hq.out, hT2.out, if_neg (by exact hov), HC6.out, HR.out]
              simp only [List.append_assoc]
              rfl
            case measure => simp [intOf]; omega
    · obtain rfl : k = l.length := by omega
      have hlt' : ¬ (l.length : Int) < (l.length : Int) := by omega
      have e : quo 0 l = C := by
        rw [HQ.out, List.drop_length, quo_nil, List.append_nil]
      have HE := Lib.hid e
      clear e
      go_wp2
      go_ret
      refine ⟨_, rfl, ?_, hb⟩
      rw [HE.out]
      exact hI
end Go.Proofs.YtofgkahldhelaaaDoor
