/- The reference's Quoted. -/
import Derived.Test.YtofgkahldhelaaaDoorCdR
set_option linter.unusedVariables false
namespace Go.Proofs.YtofgkahldhelaaaDoor
open Go.RowKit

theorem textQ_pos (d : UInt8) (r : List UInt8) (h : printB (d :: r) = true) : Hid (textQ (d :: r) = [d]) := by
  show _ = _
  rw [textQ, if_pos h]
theorem textQ_neg (d : UInt8) (r : List UInt8) (h : printB (d :: r) = false) : Hid (textQ (d :: r) = [61, hexd (d.toNat / 16), hexd (d.toNat % 16)]) := by
  show _ = _
  rw [textQ, if_neg (by simp [h])]
theorem blank_iff (d : UInt8) : blankB d = decide (d.toNat = 32 ∨ d.toNat = 9) := by
  rw [blankB, Bool.eq_iff_iff]
  simp
  constructor
  · rintro (rfl | rfl) <;> decide
  · rintro (h | h)
    · exact .inl (UInt8.toNat_inj.1 h)
    · exact .inr (UInt8.toNat_inj.1 h)
theorem print_blank (d : UInt8) (r : List UInt8) (h : d.toNat = 32 ∨ d.toNat = 9) : printB (d :: r) = (decide (0 < r.length) && !lineEnd r) := by
  rw [printB, if_pos (by rw [blank_iff]; exact decide_eq_true h)]
theorem print_text (d : UInt8) (r : List UInt8) (h : ¬ (d.toNat = 32 ∨ d.toNat = 9)) : printB (d :: r) = decide (33 ≤ d.toNat ∧ d.toNat ≤ 126 ∧ d.toNat ≠ 61) := by
  rw [printB, if_neg (by rw [blank_iff]; simpa using h), Bool.eq_iff_iff]
  simp
  constructor
  · rintro ⟨⟨h1, h2⟩, h3⟩
    exact ⟨h1, h2, fun e => h3 (UInt8.toNat_inj.1 e)⟩
  · rintro ⟨h1, h2, h3⟩
    exact ⟨⟨h1, h2⟩, fun e => h3 (by rw [e]; rfl)⟩
theorem hexrd2 (wr : World) (d x y a b : UInt8) (hx : x = a) (hy : y = b) : Rd ((wr.alloc (.cells #[.int .u8 (d.toNat : Int)] 5)).alloc (.cells #[.int .u8 61, .int .u8 (x.toNat : Int), .int .u8 (y.toNat : Int)] 5)).drew (some ⟨wr.heap.size + 1, 0, none⟩) [61, a, b] := by
  subst hx hy
  exact rd_drew1 (lit_rdN _ [61, x, y] _ (by simp) _ rfl)
def QPost (w : World) (l : List UInt8) (e : Ending) (w' : World) : Prop := ∃ v, e = .returned v ∧ w'.ownsRow w.heap.size 5 1 v (quo 0 l).length (Lib.byteCells (quo 0 l)) ∧ Below w.heap.size w w'

set_option maxRecDepth 100000 in
set_option maxHeartbeats 8000000 in
theorem r_quoted (A : Option Addr) (l : List UInt8) (n c : Nat) (w : World) (hn : l.length = n) (hr : Rd w A l) (hl : l.length ≤ 1000000) (hc : l.length ≤ c) :
    Calls Tryd.prog 10 #[.slice A n c] w fun e w' => ∃ v, e = .returned v ∧ RdV w' v (quo 0 l) ∧ Below w.heap.size w w' := by
  subst hn
  obtain ⟨i0, hi0, hz0, hz1, hz2⟩ := info_parts u8Info
  go_enter Tryd.func10, Tryd.ntmps10
  go_wp2
  go_loopw [3, 5, 6] (fun v cv i wr => ∃ (k col : Nat) (C : List UInt8), k ≤ l.length ∧ i = .int .i64 k ∧ cv = .int .i64 (col : Int) ∧ col ≤ 75 ∧ C.length ≤ 6 * k ∧ Hid (quo 0 l = C ++ quo col (l.drop k)) ∧ wr.ownsRow w.heap.size 5 1 v C.length (Lib.byteCells C) ∧ Below w.heap.size w wr) (fun _ _ i _ => l.length - (intOf i).toNat)
  case atStart => exact ⟨0, 0, [], Nat.zero_le _, rfl, rfl, by omega, by simp, rfl, own_none w _ _, Below.refl _ _⟩
  case round =>
    obtain ⟨k, col, C, hk, rfl, rfl, hcol, hC, HQ, hI, hb⟩ := hrel
    have hsz := hb.size
    by_cases hlt : k < l.length
    · have hlt' : (k : Int) < (l.length : Int) := by omega
      have hrw := hr.below hb
      obtain ⟨b, o, rfl, hbb, hcell⟩ := hrw (by omega)
      have hcc := hcell k hlt
      have h8 := l[k].toNat_lt
      have hdr := Lib.hid (List.drop_eq_getElem_cons hlt)
      have hcr1 := Lib.hid (crlf_r (some ⟨b, o, none⟩) l l.length c k (k : Int) wr rfl rfl hrw (by omega))
      have hb0 : Below w.heap.size wr (wr.alloc (.cells #[.int .u8 (l[k].toNat : Int)] 5)) := (below_one4 wr _).mono hsz
      have hcr2 := Lib.hid (crlf_r (some ⟨b, o, none⟩) l l.length c (k + 1) ((k : Int) + 1) (wr.alloc (.cells #[.int .u8 (l[k].toNat : Int)] 5)) rfl (by omega) (rd_alloc hrw _) (by omega))
      clear hcell
      generalize l[k] = d at hcc h8 hdr hcr2 hb0
      obtain ⟨r, HR⟩ : ∃ r, Hid (l.drop (k + 1) = r) := ⟨_, rfl⟩
      have hdr2 := hdr.out
      rw [HR.out] at hdr2
      replace hdr := Lib.hid hdr2
      have hrl : r.length + 1 = l.length - k := by
        have := congrArg List.length hdr2
        rw [List.length_drop, List.length_cons] at this
        omega
      clear hdr2
      have hQ := HQ.out
      rw [hdr.out] at hQ
      replace HQ := Lib.hid hQ
      clear hQ
      have hcr2o := hcr2.out
      rw [HR.out] at hcr2o
      have hcr1o := hcr1.out
      rw [hdr.out] at hcr1o
      by_cases hE : lineEnd (d :: r) = true
      · rw [hE] at hcr1o
        replace hcr1 := Lib.hid hcr1o
        have hk2 : k + 2 ≤ l.length := by
          obtain ⟨_, r', e⟩ := lineEnd_cons d r hE
          rw [e, List.length_cons] at hrl
          omega
        have hq := Lib.hid (quo_crlf col d r hE)
        have hd2 : r.drop 1 = l.drop (k + 2) := by rw [← HR.out, List.drop_drop]
        replace hd2 := Lib.hid hd2
        have hbA := hb.alloc hsz (.cells #[.int .u8 13, .int .u8 10] 5)
        clear hE hcr1o hcr2o hcr2 hrl
        go_wp2_with ((with_reducible refine hcr1.out.mono ?_))
        first | (with_reducible rintro _ w2 ⟨rfl, rfl⟩) | skip
        go_wp2_with (at_builtin; refine wpList_append_rda _ rfl _ _ 22 rfl w.heap.size 5 i0 Tryd.underlying22 hi0 hz0 hz1 hz2 _ C rfl (ow_alloc hI _) _ [13, 10] _ _ rfl rfl (lit_rdN _ [13, 10] _ rfl _ rfl) (by first | omega | (simp; omega) | (simp; done)) (by first | omega | (simp; omega) | (simp; done)) ?_)
        intro v4 w4 hown4 hg4 _
        have hb4 := hbA.grown hg4 (by simp; omega) (fun k hk => (hI.lt k hk).1)
        obtain ⟨C4, HC4, hC4, hown4⟩ : ∃ C4, Hid (C4 = C ++ [13, 10]) ∧ C4.length ≤ C.length + 2 ∧ w4.ownsRow w.heap.size 5 1 v4 C4.length (Lib.byteCells C4) := ⟨C ++ [13, 10], rfl, by rw [List.length_append]; exact Nat.le_refl _, by rw [List.length_append]; exact hown4⟩
        go_wp2
        go_roundw
        case rel =>
          refine ⟨k + 2, 0, C4, by omega, by go_num, rfl, by omega, by omega, ?_, hown4, hb4⟩
          show _ = _
          rw [HQ.out, hq.out, HC4.out, hd2.out, List.append_assoc]
        case measure => simp [intOf]; omega
      · have hE' : lineEnd (d :: r) = false := by simpa using hE
        rw [hE'] at hcr1o
        replace hcr1 := Lib.hid hcr1o
        replace hcr2 := Lib.hid hcr2o
        have hq := Lib.hid (quo_text col d r hE')
        clear hE hE' hcr1o hcr2o
        have hI1 := ow_alloc hI (.cells #[.int .u8 (d.toNat : Int)] 5)
        have hb1 := hb.trans hb0
        have hcc1 := ((below_one4 wr (.cells #[.int .u8 (d.toNat : Int)] 5)).cell (p := ⟨b, o + k, none⟩) hbb).trans hcc
        have hrT1 : Rd (wr.alloc (.cells #[.int .u8 (d.toNat : Int)] 5)) (some ⟨wr.heap.size, 0, none⟩) [d] := lit_rdN wr [d] _ rfl _ rfl
        have hne1 : u3.ownBlock ≠ some wr.heap.size := by
          intro e
          have := own_lt hI _ e
          omega
        have hne2 : u3.ownBlock ≠ some (wr.heap.size + 1) := by
          intro e
          have := own_lt hI _ e
          omega
        by_cases hbl : d.toNat = 32 ∨ d.toNat = 9
        · have hpb := print_blank d r hbl
          have t61 : ((d.toNat : Int) == 61) = false := eq_f (n := 61) (by omega)
          have t33 : (d.toNat : Int) < 33 := by omega
          by_cases hlast : k + 1 = l.length
          · have hl1 : ((k : Int) + 1 == (l.length : Int)) = true := by rw [beq_iff_eq]; omega
            have hr0 : r = [] := List.eq_nil_of_length_eq_zero (by omega)
            have hP : printB (d :: r) = false := by rw [hpb, hr0]; rfl
            clear hr0 hpb hcr2 hrl
            rcases hbl with hbl | hbl
            · have t32 : ((d.toNat : Int) == 32) = true := eq_t hbl
              clear hbl
              have hT : Hid (textQ (d :: r) = [61, hexd (d.toNat / 16), hexd (d.toNat % 16)]) := textQ_neg d r (hP)
              obtain ⟨v1, hv1, hv2, e1⟩ : ∃ v1 : Nat, v1 < 16 ∧ Hid (v1 = d.toNat / 16) ∧ (d.toNat : Int) / 16 = (v1 : Int) := ⟨d.toNat / 16, by omega, rfl, by omega⟩
              obtain ⟨u1, hu1, hu2, e2⟩ : ∃ u1 : Nat, u1 < 16 ∧ Hid (u1 = d.toNat % 16) ∧ (d.toNat : Int) % 16 = (u1 : Int) := ⟨d.toNat % 16, by omega, rfl, by omega⟩
              have e3 : (d.toNat : Int).tdiv 16 = (v1 : Int) := by rw [Int.tdiv_eq_ediv_of_nonneg (by omega), e1]
              have e4 : (d.toNat : Int).tmod 16 = (u1 : Int) := by rw [Int.tmod_eq_emod_of_nonneg (by omega), e2]
              have ew1 : IntKind.u8.wrap (v1 : Int) = (v1 : Int) := Go.IntWalk.u8_in _ ⟨by omega, by omega⟩
              have hv1' : (v1 : Int) < 16 := by omega
              have hu1' : (u1 : Int) < 16 := by omega
              go_wp2_with ((with_reducible refine hcr1.out.mono ?_))
              first | (with_reducible rintro _ w2 ⟨rfl, rfl⟩) | skip
              go_wp2_with fail
              obtain ⟨W, hW⟩ : ∃ W, W = (wr.alloc (.cells #[.int .u8 (d.toNat : Int)] 5)) := ⟨_, rfl⟩
              rw [← hW] at hcc1 hI1 hb1 ⊢
              have hWs : W.heap.size = wr.heap.size + 1 := by rw [hW]; simp
              clear hW
              go_still_tail 14, (by kernel_rfl)
              change wpList _ _ _ _ _ W.drew
              have hone : Below w.heap.size w ((W.alloc (.cells #[.int .u8 61, .int .u8 ((hexA[v1]'hv1).toNat : Int), .int .u8 ((hexA[u1]'hu1).toNat : Int)] 5)).drew) := below_drew1 (hb1.alloc (by omega) _)
              have hIW : ((W.alloc (.cells #[.int .u8 61, .int .u8 ((hexA[v1]'hv1).toNat : Int), .int .u8 ((hexA[u1]'hu1).toNat : Int)] 5)).drew).ownsRow w.heap.size 5 1 u3 C.length (Lib.byteCells C) := ow_drew1 (ow_alloc hI1 _)
              have hrT : Rd ((W.alloc (.cells #[.int .u8 61, .int .u8 ((hexA[v1]'hv1).toNat : Int), .int .u8 ((hexA[u1]'hu1).toNat : Int)] 5)).drew) (some ⟨wr.heap.size + 1, 0, none⟩) [61, hexd v1, hexd u1] := by rw [← hWs]; exact rd_drew1 (hex_rd W _ _ _ _ (hexA_get v1 hv1) (hexA_get u1 hu1))
              have hT2 := hT.out
              rw [← hv2.out, ← hu2.out] at hT2
              replace hT2 := Lib.hid hT2
              by_cases hov : 75 < col + 3
              · have hov' : (75 : Int) < (col : Int) + 3 := by omega
                have hbA := below_drew1 ((hb1.alloc (by omega) (.cells #[.int .u8 61, .int .u8 ((hexA[v1]'hv1).toNat : Int), .int .u8 ((hexA[u1]'hu1).toNat : Int)] 5)).alloc (by simp; omega) (.cells #[.int .u8 61, .int .u8 13, .int .u8 10] 5))
                go_wp2_with (at_builtin; refine wpList_append_rda _ rfl _ _ 22 rfl w.heap.size 5 i0 Tryd.underlying22 hi0 hz0 hz1 hz2 _ C rfl (ow_drew1 (ow_alloc (ow_alloc hI1 _) _)) _ [61, 13, 10] _ _ rfl rfl (rd_drew1 (lit_rdN _ [61, 13, 10] _ (by simp [hWs]) _ rfl)) (by first | omega | (simp; omega) | (simp; done)) (by first | omega | (simp; omega) | (simp; done)) ?_)
                intro v5 w5 hown5 hg5 _
                have hb5 := hbA.grown hg5 (by first | omega | (simp; omega) | (simp; done)) (fun k hk => (hIW.lt k hk).1)
                obtain ⟨C5, HC5, hC5, hown5⟩ : ∃ C5, Hid (C5 = C ++ [61, 13, 10]) ∧ C5.length ≤ C.length + 3 ∧ w5.ownsRow w.heap.size 5 1 v5 C5.length (Lib.byteCells C5) := ⟨C ++ [61, 13, 10], rfl, by rw [List.length_append]; exact Nat.le_refl _, by rw [List.length_append]; exact hown5⟩
                have hrT5 := Rd.grownR (rd_alloc hrT _) hg5 hne2
                have hs5 := hb5.size
                go_wp2_with (at_builtin; refine wpList_append_rda _ rfl _ _ 22 rfl w.heap.size 5 i0 Tryd.underlying22 hi0 hz0 hz1 hz2 _ C5 rfl hown5 (some ⟨wr.heap.size + 1, 0, none⟩) [61, hexd v1, hexd u1] _ _ rfl rfl hrT5 (by first | omega | (simp; omega) | (simp; done)) (by omega) ?_)
                intro v6 w6 hown6 hg6 _
                have hb6 := hb5.grown hg6 (by omega) (fun k hk => (hown5.lt k hk).1)
                obtain ⟨C6, HC6, hC6, hown6⟩ : ∃ C6, Hid (C6 = C5 ++ [61, hexd v1, hexd u1]) ∧ C6.length ≤ C5.length + 3 ∧ w6.ownsRow w.heap.size 5 1 v6 C6.length (Lib.byteCells C6) := ⟨C5 ++ [61, hexd v1, hexd u1], rfl, by rw [List.length_append]; exact Nat.le_refl _, by rw [List.length_append]; exact hown6⟩
                go_wp2
                go_roundw
                case rel =>
                  refine ⟨k + 1, 3, C6, by omega, by go_num, by go_num, by omega, by omega, ?_, hown6, hb6⟩
                  show _ = _
                  rw [HQ.out, hq.out, hT2.out, if_pos (by exact hov), HC6.out, HC5.out, HR.out]
                  simp only [List.append_assoc]
                  rfl
                case measure => simp [intOf]; omega
              · have hov' : ¬ (75 : Int) < (col : Int) + 3 := by omega
                go_wp2_with (at_builtin; refine wpList_append_rda _ rfl _ _ 22 rfl w.heap.size 5 i0 Tryd.underlying22 hi0 hz0 hz1 hz2 _ C rfl hIW (some ⟨wr.heap.size + 1, 0, none⟩) [61, hexd v1, hexd u1] _ _ rfl rfl hrT (by first | omega | (simp; omega) | (simp; done)) (by first | omega | (simp; omega) | (simp; done)) ?_)
                intro v6 w6 hown6 hg6 _
                have hb6 := hone.grown hg6 (by first | omega | (simp; omega) | (simp; done)) (fun k hk => (hIW.lt k hk).1)
                obtain ⟨C6, HC6, hC6, hown6⟩ : ∃ C6, Hid (C6 = C ++ [61, hexd v1, hexd u1]) ∧ C6.length ≤ C.length + 3 ∧ w6.ownsRow w.heap.size 5 1 v6 C6.length (Lib.byteCells C6) := ⟨C ++ [61, hexd v1, hexd u1], rfl, by rw [List.length_append]; exact Nat.le_refl _, by rw [List.length_append]; exact hown6⟩
                go_wp2
                go_roundw
                case rel =>
                  refine ⟨k + 1, col + 3, C6, by omega, by go_num, by go_num, by omega, by omega, ?_, hown6, hb6⟩
                  show _ = _
                  rw [HQ.out, hq.out, hT2.out, if_neg (by exact hov), HC6.out, HR.out]
                  simp only [List.append_assoc]
                  rfl
                case measure => simp [intOf]; omega
            · have t32 : ((d.toNat : Int) == 32) = false := eq_f (n := 32) (by omega)
              have t9 : ((d.toNat : Int) == 9) = true := eq_t hbl
              clear hbl
              have hT : Hid (textQ (d :: r) = [61, hexd (d.toNat / 16), hexd (d.toNat % 16)]) := textQ_neg d r (hP)
              obtain ⟨v1, hv1, hv2, e1⟩ : ∃ v1 : Nat, v1 < 16 ∧ Hid (v1 = d.toNat / 16) ∧ (d.toNat : Int) / 16 = (v1 : Int) := ⟨d.toNat / 16, by omega, rfl, by omega⟩
              obtain ⟨u1, hu1, hu2, e2⟩ : ∃ u1 : Nat, u1 < 16 ∧ Hid (u1 = d.toNat % 16) ∧ (d.toNat : Int) % 16 = (u1 : Int) := ⟨d.toNat % 16, by omega, rfl, by omega⟩
              have e3 : (d.toNat : Int).tdiv 16 = (v1 : Int) := by rw [Int.tdiv_eq_ediv_of_nonneg (by omega), e1]
              have e4 : (d.toNat : Int).tmod 16 = (u1 : Int) := by rw [Int.tmod_eq_emod_of_nonneg (by omega), e2]
              have ew1 : IntKind.u8.wrap (v1 : Int) = (v1 : Int) := Go.IntWalk.u8_in _ ⟨by omega, by omega⟩
              have hv1' : (v1 : Int) < 16 := by omega
              have hu1' : (u1 : Int) < 16 := by omega
              go_wp2_with ((with_reducible refine hcr1.out.mono ?_))
              first | (with_reducible rintro _ w2 ⟨rfl, rfl⟩) | skip
              go_wp2_with fail
              obtain ⟨W, hW⟩ : ∃ W, W = (wr.alloc (.cells #[.int .u8 (d.toNat : Int)] 5)) := ⟨_, rfl⟩
              rw [← hW] at hcc1 hI1 hb1 ⊢
              have hWs : W.heap.size = wr.heap.size + 1 := by rw [hW]; simp
              clear hW
              go_still_tail 14, (by kernel_rfl)
              change wpList _ _ _ _ _ W.drew
              have hone : Below w.heap.size w ((W.alloc (.cells #[.int .u8 61, .int .u8 ((hexA[v1]'hv1).toNat : Int), .int .u8 ((hexA[u1]'hu1).toNat : Int)] 5)).drew) := below_drew1 (hb1.alloc (by omega) _)
              have hIW : ((W.alloc (.cells #[.int .u8 61, .int .u8 ((hexA[v1]'hv1).toNat : Int), .int .u8 ((hexA[u1]'hu1).toNat : Int)] 5)).drew).ownsRow w.heap.size 5 1 u3 C.length (Lib.byteCells C) := ow_drew1 (ow_alloc hI1 _)
              have hrT : Rd ((W.alloc (.cells #[.int .u8 61, .int .u8 ((hexA[v1]'hv1).toNat : Int), .int .u8 ((hexA[u1]'hu1).toNat : Int)] 5)).drew) (some ⟨wr.heap.size + 1, 0, none⟩) [61, hexd v1, hexd u1] := by rw [← hWs]; exact rd_drew1 (hex_rd W _ _ _ _ (hexA_get v1 hv1) (hexA_get u1 hu1))
              have hT2 := hT.out
              rw [← hv2.out, ← hu2.out] at hT2
              replace hT2 := Lib.hid hT2
              by_cases hov : 75 < col + 3
              · have hov' : (75 : Int) < (col : Int) + 3 := by omega
                have hbA := below_drew1 ((hb1.alloc (by omega) (.cells #[.int .u8 61, .int .u8 ((hexA[v1]'hv1).toNat : Int), .int .u8 ((hexA[u1]'hu1).toNat : Int)] 5)).alloc (by simp; omega) (.cells #[.int .u8 61, .int .u8 13, .int .u8 10] 5))
                go_wp2_with (at_builtin; refine wpList_append_rda _ rfl _ _ 22 rfl w.heap.size 5 i0 Tryd.underlying22 hi0 hz0 hz1 hz2 _ C rfl (ow_drew1 (ow_alloc (ow_alloc hI1 _) _)) _ [61, 13, 10] _ _ rfl rfl (rd_drew1 (lit_rdN _ [61, 13, 10] _ (by simp [hWs]) _ rfl)) (by first | omega | (simp; omega) | (simp; done)) (by first | omega | (simp; omega) | (simp; done)) ?_)
                intro v5 w5 hown5 hg5 _
                have hb5 := hbA.grown hg5 (by first | omega | (simp; omega) | (simp; done)) (fun k hk => (hIW.lt k hk).1)
                obtain ⟨C5, HC5, hC5, hown5⟩ : ∃ C5, Hid (C5 = C ++ [61, 13, 10]) ∧ C5.length ≤ C.length + 3 ∧ w5.ownsRow w.heap.size 5 1 v5 C5.length (Lib.byteCells C5) := ⟨C ++ [61, 13, 10], rfl, by rw [List.length_append]; exact Nat.le_refl _, by rw [List.length_append]; exact hown5⟩
                have hrT5 := Rd.grownR (rd_alloc hrT _) hg5 hne2
                have hs5 := hb5.size
                go_wp2_with (at_builtin; refine wpList_append_rda _ rfl _ _ 22 rfl w.heap.size 5 i0 Tryd.underlying22 hi0 hz0 hz1 hz2 _ C5 rfl hown5 (some ⟨wr.heap.size + 1, 0, none⟩) [61, hexd v1, hexd u1] _ _ rfl rfl hrT5 (by first | omega | (simp; omega) | (simp; done)) (by omega) ?_)
                intro v6 w6 hown6 hg6 _
                have hb6 := hb5.grown hg6 (by omega) (fun k hk => (hown5.lt k hk).1)
                obtain ⟨C6, HC6, hC6, hown6⟩ : ∃ C6, Hid (C6 = C5 ++ [61, hexd v1, hexd u1]) ∧ C6.length ≤ C5.length + 3 ∧ w6.ownsRow w.heap.size 5 1 v6 C6.length (Lib.byteCells C6) := ⟨C5 ++ [61, hexd v1, hexd u1], rfl, by rw [List.length_append]; exact Nat.le_refl _, by rw [List.length_append]; exact hown6⟩
                go_wp2
                go_roundw
                case rel =>
                  refine ⟨k + 1, 3, C6, by omega, by go_num, by go_num, by omega, by omega, ?_, hown6, hb6⟩
                  show _ = _
                  rw [HQ.out, hq.out, hT2.out, if_pos (by exact hov), HC6.out, HC5.out, HR.out]
                  simp only [List.append_assoc]
                  rfl
                case measure => simp [intOf]; omega
              · have hov' : ¬ (75 : Int) < (col : Int) + 3 := by omega
                go_wp2_with (at_builtin; refine wpList_append_rda _ rfl _ _ 22 rfl w.heap.size 5 i0 Tryd.underlying22 hi0 hz0 hz1 hz2 _ C rfl hIW (some ⟨wr.heap.size + 1, 0, none⟩) [61, hexd v1, hexd u1] _ _ rfl rfl hrT (by first | omega | (simp; omega) | (simp; done)) (by first | omega | (simp; omega) | (simp; done)) ?_)
                intro v6 w6 hown6 hg6 _
                have hb6 := hone.grown hg6 (by first | omega | (simp; omega) | (simp; done)) (fun k hk => (hIW.lt k hk).1)
                obtain ⟨C6, HC6, hC6, hown6⟩ : ∃ C6, Hid (C6 = C ++ [61, hexd v1, hexd u1]) ∧ C6.length ≤ C.length + 3 ∧ w6.ownsRow w.heap.size 5 1 v6 C6.length (Lib.byteCells C6) := ⟨C ++ [61, hexd v1, hexd u1], rfl, by rw [List.length_append]; exact Nat.le_refl _, by rw [List.length_append]; exact hown6⟩
                go_wp2
                go_roundw
                case rel =>
                  refine ⟨k + 1, col + 3, C6, by omega, by go_num, by go_num, by omega, by omega, ?_, hown6, hb6⟩
                  show _ = _
                  rw [HQ.out, hq.out, hT2.out, if_neg (by exact hov), HC6.out, HR.out]
                  simp only [List.append_assoc]
                  rfl
                case measure => simp [intOf]; omega
          · have hl1 : ((k : Int) + 1 == (l.length : Int)) = false := by rw [beq_eq_false_iff_ne]; omega
            have hr0 : 0 < r.length := by omega
            by_cases hE2 : lineEnd r = true
            · have hP : printB (d :: r) = false := by rw [hpb, hE2]; simp
              have hcr2o := hcr2.out
              rw [hE2] at hcr2o
              replace hcr2 := Lib.hid hcr2o
              clear hr0 hpb hrl hcr2o
              rcases hbl with hbl | hbl
              · have t32 : ((d.toNat : Int) == 32) = true := eq_t hbl
                clear hbl
                have hT : Hid (textQ (d :: r) = [61, hexd (d.toNat / 16), hexd (d.toNat % 16)]) := textQ_neg d r (hP)
                obtain ⟨v1, hv1, hv2, e1⟩ : ∃ v1 : Nat, v1 < 16 ∧ Hid (v1 = d.toNat / 16) ∧ (d.toNat : Int) / 16 = (v1 : Int) := ⟨d.toNat / 16, by omega, rfl, by omega⟩
                obtain ⟨u1, hu1, hu2, e2⟩ : ∃ u1 : Nat, u1 < 16 ∧ Hid (u1 = d.toNat % 16) ∧ (d.toNat : Int) % 16 = (u1 : Int) := ⟨d.toNat % 16, by omega, rfl, by omega⟩
                have e3 : (d.toNat : Int).tdiv 16 = (v1 : Int) := by rw [Int.tdiv_eq_ediv_of_nonneg (by omega), e1]
                have e4 : (d.toNat : Int).tmod 16 = (u1 : Int) := by rw [Int.tmod_eq_emod_of_nonneg (by omega), e2]
                have ew1 : IntKind.u8.wrap (v1 : Int) = (v1 : Int) := Go.IntWalk.u8_in _ ⟨by omega, by omega⟩
                have hv1' : (v1 : Int) < 16 := by omega
                have hu1' : (u1 : Int) < 16 := by omega
                go_wp2_with ((with_reducible refine hcr1.out.mono ?_))
                first | (with_reducible rintro _ w2 ⟨rfl, rfl⟩) | skip
                go_wp2_with ((with_reducible refine hcr2.out.mono ?_))
                first | (with_reducible rintro _ w2 ⟨rfl, rfl⟩) | skip
                go_wp2_with fail
                obtain ⟨W, hW⟩ : ∃ W, W = (wr.alloc (.cells #[.int .u8 (d.toNat : Int)] 5)) := ⟨_, rfl⟩
                rw [← hW] at hcc1 hI1 hb1 ⊢
                have hWs : W.heap.size = wr.heap.size + 1 := by rw [hW]; simp
                clear hW
                go_still_tail 14, (by kernel_rfl)
                change wpList _ _ _ _ _ W.drew
                have hone : Below w.heap.size w ((W.alloc (.cells #[.int .u8 61, .int .u8 ((hexA[v1]'hv1).toNat : Int), .int .u8 ((hexA[u1]'hu1).toNat : Int)] 5)).drew) := below_drew1 (hb1.alloc (by omega) _)
                have hIW : ((W.alloc (.cells #[.int .u8 61, .int .u8 ((hexA[v1]'hv1).toNat : Int), .int .u8 ((hexA[u1]'hu1).toNat : Int)] 5)).drew).ownsRow w.heap.size 5 1 u3 C.length (Lib.byteCells C) := ow_drew1 (ow_alloc hI1 _)
                have hrT : Rd ((W.alloc (.cells #[.int .u8 61, .int .u8 ((hexA[v1]'hv1).toNat : Int), .int .u8 ((hexA[u1]'hu1).toNat : Int)] 5)).drew) (some ⟨wr.heap.size + 1, 0, none⟩) [61, hexd v1, hexd u1] := by rw [← hWs]; exact rd_drew1 (hex_rd W _ _ _ _ (hexA_get v1 hv1) (hexA_get u1 hu1))
                have hT2 := hT.out
                rw [← hv2.out, ← hu2.out] at hT2
                replace hT2 := Lib.hid hT2
                by_cases hov : 75 < col + 3
                · have hov' : (75 : Int) < (col : Int) + 3 := by omega
                  have hbA := below_drew1 ((hb1.alloc (by omega) (.cells #[.int .u8 61, .int .u8 ((hexA[v1]'hv1).toNat : Int), .int .u8 ((hexA[u1]'hu1).toNat : Int)] 5)).alloc (by simp; omega) (.cells #[.int .u8 61, .int .u8 13, .int .u8 10] 5))
                  go_wp2_with (at_builtin; refine wpList_append_rda _ rfl _ _ 22 rfl w.heap.size 5 i0 Tryd.underlying22 hi0 hz0 hz1 hz2 _ C rfl (ow_drew1 (ow_alloc (ow_alloc hI1 _) _)) _ [61, 13, 10] _ _ rfl rfl (rd_drew1 (lit_rdN _ [61, 13, 10] _ (by simp [hWs]) _ rfl)) (by first | omega | (simp; omega) | (simp; done)) (by first | omega | (simp; omega) | (simp; done)) ?_)
                  intro v5 w5 hown5 hg5 _
                  have hb5 := hbA.grown hg5 (by first | omega | (simp; omega) | (simp; done)) (fun k hk => (hIW.lt k hk).1)
                  obtain ⟨C5, HC5, hC5, hown5⟩ : ∃ C5, Hid (C5 = C ++ [61, 13, 10]) ∧ C5.length ≤ C.length + 3 ∧ w5.ownsRow w.heap.size 5 1 v5 C5.length (Lib.byteCells C5) := ⟨C ++ [61, 13, 10], rfl, by rw [List.length_append]; exact Nat.le_refl _, by rw [List.length_append]; exact hown5⟩
                  have hrT5 := Rd.grownR (rd_alloc hrT _) hg5 hne2
                  have hs5 := hb5.size
                  go_wp2_with (at_builtin; refine wpList_append_rda _ rfl _ _ 22 rfl w.heap.size 5 i0 Tryd.underlying22 hi0 hz0 hz1 hz2 _ C5 rfl hown5 (some ⟨wr.heap.size + 1, 0, none⟩) [61, hexd v1, hexd u1] _ _ rfl rfl hrT5 (by first | omega | (simp; omega) | (simp; done)) (by omega) ?_)
                  intro v6 w6 hown6 hg6 _
                  have hb6 := hb5.grown hg6 (by omega) (fun k hk => (hown5.lt k hk).1)
                  obtain ⟨C6, HC6, hC6, hown6⟩ : ∃ C6, Hid (C6 = C5 ++ [61, hexd v1, hexd u1]) ∧ C6.length ≤ C5.length + 3 ∧ w6.ownsRow w.heap.size 5 1 v6 C6.length (Lib.byteCells C6) := ⟨C5 ++ [61, hexd v1, hexd u1], rfl, by rw [List.length_append]; exact Nat.le_refl _, by rw [List.length_append]; exact hown6⟩
                  go_wp2
                  go_roundw
                  case rel =>
                    refine ⟨k + 1, 3, C6, by omega, by go_num, by go_num, by omega, by omega, ?_, hown6, hb6⟩
                    show _ = _
                    rw [HQ.out, hq.out, hT2.out, if_pos (by exact hov), HC6.out, HC5.out, HR.out]
                    simp only [List.append_assoc]
                    rfl
                  case measure => simp [intOf]; omega
                · have hov' : ¬ (75 : Int) < (col : Int) + 3 := by omega
                  go_wp2_with (at_builtin; refine wpList_append_rda _ rfl _ _ 22 rfl w.heap.size 5 i0 Tryd.underlying22 hi0 hz0 hz1 hz2 _ C rfl hIW (some ⟨wr.heap.size + 1, 0, none⟩) [61, hexd v1, hexd u1] _ _ rfl rfl hrT (by first | omega | (simp; omega) | (simp; done)) (by first | omega | (simp; omega) | (simp; done)) ?_)
                  intro v6 w6 hown6 hg6 _
                  have hb6 := hone.grown hg6 (by first | omega | (simp; omega) | (simp; done)) (fun k hk => (hIW.lt k hk).1)
                  obtain ⟨C6, HC6, hC6, hown6⟩ : ∃ C6, Hid (C6 = C ++ [61, hexd v1, hexd u1]) ∧ C6.length ≤ C.length + 3 ∧ w6.ownsRow w.heap.size 5 1 v6 C6.length (Lib.byteCells C6) := ⟨C ++ [61, hexd v1, hexd u1], rfl, by rw [List.length_append]; exact Nat.le_refl _, by rw [List.length_append]; exact hown6⟩
                  go_wp2
                  go_roundw
                  case rel =>
                    refine ⟨k + 1, col + 3, C6, by omega, by go_num, by go_num, by omega, by omega, ?_, hown6, hb6⟩
                    show _ = _
                    rw [HQ.out, hq.out, hT2.out, if_neg (by exact hov), HC6.out, HR.out]
                    simp only [List.append_assoc]
                    rfl
                  case measure => simp [intOf]; omega
              · have t32 : ((d.toNat : Int) == 32) = false := eq_f (n := 32) (by omega)
                have t9 : ((d.toNat : Int) == 9) = true := eq_t hbl
                clear hbl
                have hT : Hid (textQ (d :: r) = [61, hexd (d.toNat / 16), hexd (d.toNat % 16)]) := textQ_neg d r (hP)
                obtain ⟨v1, hv1, hv2, e1⟩ : ∃ v1 : Nat, v1 < 16 ∧ Hid (v1 = d.toNat / 16) ∧ (d.toNat : Int) / 16 = (v1 : Int) := ⟨d.toNat / 16, by omega, rfl, by omega⟩
                obtain ⟨u1, hu1, hu2, e2⟩ : ∃ u1 : Nat, u1 < 16 ∧ Hid (u1 = d.toNat % 16) ∧ (d.toNat : Int) % 16 = (u1 : Int) := ⟨d.toNat % 16, by omega, rfl, by omega⟩
                have e3 : (d.toNat : Int).tdiv 16 = (v1 : Int) := by rw [Int.tdiv_eq_ediv_of_nonneg (by omega), e1]
                have e4 : (d.toNat : Int).tmod 16 = (u1 : Int) := by rw [Int.tmod_eq_emod_of_nonneg (by omega), e2]
                have ew1 : IntKind.u8.wrap (v1 : Int) = (v1 : Int) := Go.IntWalk.u8_in _ ⟨by omega, by omega⟩
                have hv1' : (v1 : Int) < 16 := by omega
                have hu1' : (u1 : Int) < 16 := by omega
                go_wp2_with ((with_reducible refine hcr1.out.mono ?_))
                first | (with_reducible rintro _ w2 ⟨rfl, rfl⟩) | skip
                go_wp2_with ((with_reducible refine hcr2.out.mono ?_))
                first | (with_reducible rintro _ w2 ⟨rfl, rfl⟩) | skip
                go_wp2_with fail
                obtain ⟨W, hW⟩ : ∃ W, W = (wr.alloc (.cells #[.int .u8 (d.toNat : Int)] 5)) := ⟨_, rfl⟩
                rw [← hW] at hcc1 hI1 hb1 ⊢
                have hWs : W.heap.size = wr.heap.size + 1 := by rw [hW]; simp
                clear hW
                go_still_tail 14, (by kernel_rfl)
                change wpList _ _ _ _ _ W.drew
                have hone : Below w.heap.size w ((W.alloc (.cells #[.int .u8 61, .int .u8 ((hexA[v1]'hv1).toNat : Int), .int .u8 ((hexA[u1]'hu1).toNat : Int)] 5)).drew) := below_drew1 (hb1.alloc (by omega) _)
                have hIW : ((W.alloc (.cells #[.int .u8 61, .int .u8 ((hexA[v1]'hv1).toNat : Int), .int .u8 ((hexA[u1]'hu1).toNat : Int)] 5)).drew).ownsRow w.heap.size 5 1 u3 C.length (Lib.byteCells C) := ow_drew1 (ow_alloc hI1 _)
                have hrT : Rd ((W.alloc (.cells #[.int .u8 61, .int .u8 ((hexA[v1]'hv1).toNat : Int), .int .u8 ((hexA[u1]'hu1).toNat : Int)] 5)).drew) (some ⟨wr.heap.size + 1, 0, none⟩) [61, hexd v1, hexd u1] := by rw [← hWs]; exact rd_drew1 (hex_rd W _ _ _ _ (hexA_get v1 hv1) (hexA_get u1 hu1))
                have hT2 := hT.out
                rw [← hv2.out, ← hu2.out] at hT2
                replace hT2 := Lib.hid hT2
                by_cases hov : 75 < col + 3
                · have hov' : (75 : Int) < (col : Int) + 3 := by omega
                  have hbA := below_drew1 ((hb1.alloc (by omega) (.cells #[.int .u8 61, .int .u8 ((hexA[v1]'hv1).toNat : Int), .int .u8 ((hexA[u1]'hu1).toNat : Int)] 5)).alloc (by simp; omega) (.cells #[.int .u8 61, .int .u8 13, .int .u8 10] 5))
                  go_wp2_with (at_builtin; refine wpList_append_rda _ rfl _ _ 22 rfl w.heap.size 5 i0 Tryd.underlying22 hi0 hz0 hz1 hz2 _ C rfl (ow_drew1 (ow_alloc (ow_alloc hI1 _) _)) _ [61, 13, 10] _ _ rfl rfl (rd_drew1 (lit_rdN _ [61, 13, 10] _ (by simp [hWs]) _ rfl)) (by first | omega | (simp; omega) | (simp; done)) (by first | omega | (simp; omega) | (simp; done)) ?_)
                  intro v5 w5 hown5 hg5 _
                  have hb5 := hbA.grown hg5 (by first | omega | (simp; omega) | (simp; done)) (fun k hk => (hIW.lt k hk).1)
                  obtain ⟨C5, HC5, hC5, hown5⟩ : ∃ C5, Hid (C5 = C ++ [61, 13, 10]) ∧ C5.length ≤ C.length + 3 ∧ w5.ownsRow w.heap.size 5 1 v5 C5.length (Lib.byteCells C5) := ⟨C ++ [61, 13, 10], rfl, by rw [List.length_append]; exact Nat.le_refl _, by rw [List.length_append]; exact hown5⟩
                  have hrT5 := Rd.grownR (rd_alloc hrT _) hg5 hne2
                  have hs5 := hb5.size
                  go_wp2_with (at_builtin; refine wpList_append_rda _ rfl _ _ 22 rfl w.heap.size 5 i0 Tryd.underlying22 hi0 hz0 hz1 hz2 _ C5 rfl hown5 (some ⟨wr.heap.size + 1, 0, none⟩) [61, hexd v1, hexd u1] _ _ rfl rfl hrT5 (by first | omega | (simp; omega) | (simp; done)) (by omega) ?_)
                  intro v6 w6 hown6 hg6 _
                  have hb6 := hb5.grown hg6 (by omega) (fun k hk => (hown5.lt k hk).1)
                  obtain ⟨C6, HC6, hC6, hown6⟩ : ∃ C6, Hid (C6 = C5 ++ [61, hexd v1, hexd u1]) ∧ C6.length ≤ C5.length + 3 ∧ w6.ownsRow w.heap.size 5 1 v6 C6.length (Lib.byteCells C6) := ⟨C5 ++ [61, hexd v1, hexd u1], rfl, by rw [List.length_append]; exact Nat.le_refl _, by rw [List.length_append]; exact hown6⟩
                  go_wp2
                  go_roundw
                  case rel =>
                    refine ⟨k + 1, 3, C6, by omega, by go_num, by go_num, by omega, by omega, ?_, hown6, hb6⟩
                    show _ = _
                    rw [HQ.out, hq.out, hT2.out, if_pos (by exact hov), HC6.out, HC5.out, HR.out]
                    simp only [List.append_assoc]
                    rfl
                  case measure => simp [intOf]; omega
                · have hov' : ¬ (75 : Int) < (col : Int) + 3 := by omega
                  go_wp2_with (at_builtin; refine wpList_append_rda _ rfl _ _ 22 rfl w.heap.size 5 i0 Tryd.underlying22 hi0 hz0 hz1 hz2 _ C rfl hIW (some ⟨wr.heap.size + 1, 0, none⟩) [61, hexd v1, hexd u1] _ _ rfl rfl hrT (by first | omega | (simp; omega) | (simp; done)) (by first | omega | (simp; omega) | (simp; done)) ?_)
                  intro v6 w6 hown6 hg6 _
                  have hb6 := hone.grown hg6 (by first | omega | (simp; omega) | (simp; done)) (fun k hk => (hIW.lt k hk).1)
                  obtain ⟨C6, HC6, hC6, hown6⟩ : ∃ C6, Hid (C6 = C ++ [61, hexd v1, hexd u1]) ∧ C6.length ≤ C.length + 3 ∧ w6.ownsRow w.heap.size 5 1 v6 C6.length (Lib.byteCells C6) := ⟨C ++ [61, hexd v1, hexd u1], rfl, by rw [List.length_append]; exact Nat.le_refl _, by rw [List.length_append]; exact hown6⟩
                  go_wp2
                  go_roundw
                  case rel =>
                    refine ⟨k + 1, col + 3, C6, by omega, by go_num, by go_num, by omega, by omega, ?_, hown6, hb6⟩
                    show _ = _
                    rw [HQ.out, hq.out, hT2.out, if_neg (by exact hov), HC6.out, HR.out]
                    simp only [List.append_assoc]
                    rfl
                  case measure => simp [intOf]; omega
            · have hE2' : lineEnd r = false := by simpa using hE2
              have hP : printB (d :: r) = true := by rw [hpb, hE2', decide_eq_true hr0]; rfl
              have hcr2o := hcr2.out
              rw [hE2'] at hcr2o
              replace hcr2 := Lib.hid hcr2o
              clear hr0 hpb hrl hcr2o
              rcases hbl with hbl | hbl
              · have t32 : ((d.toNat : Int) == 32) = true := eq_t hbl
                clear hbl
                have hT : Hid (textQ (d :: r) = [d]) := textQ_pos d r (hP)
                go_wp2_with ((with_reducible refine hcr1.out.mono ?_))
                first | (with_reducible rintro _ w2 ⟨rfl, rfl⟩) | skip
                go_wp2_with ((with_reducible refine hcr2.out.mono ?_))
                first | (with_reducible rintro _ w2 ⟨rfl, rfl⟩) | skip
                by_cases hov : 75 < col + 1
                · have hov' : (75 : Int) < (col : Int) + 1 := by omega
                  have hbA := hb1.alloc (by simp; omega) (.cells #[.int .u8 61, .int .u8 13, .int .u8 10] 5)
                  go_wp2_with (at_builtin; refine wpList_append_rda _ rfl _ _ 22 rfl w.heap.size 5 i0 Tryd.underlying22 hi0 hz0 hz1 hz2 _ C rfl (ow_alloc hI1 _) _ [61, 13, 10] _ _ rfl rfl (lit_rdN _ [61, 13, 10] _ (by simp) _ rfl) (by first | omega | (simp; omega) | (simp; done)) (by first | omega | (simp; omega) | (simp; done)) ?_)
                  intro v5 w5 hown5 hg5 _
                  have hb5 := hbA.grown hg5 (by first | omega | (simp; omega) | (simp; done)) (fun k hk => (hI1.lt k hk).1)
                  obtain ⟨C5, HC5, hC5, hown5⟩ : ∃ C5, Hid (C5 = C ++ [61, 13, 10]) ∧ C5.length ≤ C.length + 3 ∧ w5.ownsRow w.heap.size 5 1 v5 C5.length (Lib.byteCells C5) := ⟨C ++ [61, 13, 10], rfl, by rw [List.length_append]; exact Nat.le_refl _, by rw [List.length_append]; exact hown5⟩
                  have hrT5 := Rd.grownR (rd_alloc hrT1 _) hg5 hne1
                  have hs5 := hb5.size
                  go_wp2_with (at_builtin; refine wpList_append_rda _ rfl _ _ 22 rfl w.heap.size 5 i0 Tryd.underlying22 hi0 hz0 hz1 hz2 _ C5 rfl hown5 (some ⟨wr.heap.size, 0, none⟩) [d] _ _ rfl rfl hrT5 (by first | omega | (simp; omega) | (simp; done)) (by omega) ?_)
                  intro v6 w6 hown6 hg6 _
                  have hb6 := hb5.grown hg6 (by omega) (fun k hk => (hown5.lt k hk).1)
                  obtain ⟨C6, HC6, hC6, hown6⟩ : ∃ C6, Hid (C6 = C5 ++ [d]) ∧ C6.length ≤ C5.length + 1 ∧ w6.ownsRow w.heap.size 5 1 v6 C6.length (Lib.byteCells C6) := ⟨C5 ++ [d], rfl, by rw [List.length_append]; exact Nat.le_refl _, by rw [List.length_append]; exact hown6⟩
                  go_wp2
                  go_roundw
                  case rel =>
                    refine ⟨k + 1, 1, C6, by omega, by go_num, by go_num, by omega, by omega, ?_, hown6, hb6⟩
                    show _ = _
                    rw [HQ.out, hq.out, hT.out, if_pos (by exact hov), HC6.out, HC5.out, HR.out]
                    simp only [List.append_assoc]
                    rfl
                  case measure => simp [intOf]; omega
                · have hov' : ¬ (75 : Int) < (col : Int) + 1 := by omega
                  go_wp2_with (at_builtin; refine wpList_append_rda _ rfl _ _ 22 rfl w.heap.size 5 i0 Tryd.underlying22 hi0 hz0 hz1 hz2 _ C rfl hI1 (some ⟨wr.heap.size, 0, none⟩) [d] _ _ rfl rfl hrT1 (by first | omega | (simp; omega) | (simp; done)) (by first | omega | (simp; omega) | (simp; done)) ?_)
                  intro v6 w6 hown6 hg6 _
                  have hb6 := hb1.grown hg6 (by first | omega | (simp; omega) | (simp; done)) (fun k hk => (hI1.lt k hk).1)
                  obtain ⟨C6, HC6, hC6, hown6⟩ : ∃ C6, Hid (C6 = C ++ [d]) ∧ C6.length ≤ C.length + 1 ∧ w6.ownsRow w.heap.size 5 1 v6 C6.length (Lib.byteCells C6) := ⟨C ++ [d], rfl, by rw [List.length_append]; exact Nat.le_refl _, by rw [List.length_append]; exact hown6⟩
                  go_wp2
                  go_roundw
                  case rel =>
                    refine ⟨k + 1, col + 1, C6, by omega, by go_num, by go_num, by omega, by omega, ?_, hown6, hb6⟩
                    show _ = _
                    rw [HQ.out, hq.out, hT.out, if_neg (by exact hov), HC6.out, HR.out]
                    simp only [List.append_assoc]
                    rfl
                  case measure => simp [intOf]; omega
              · have t32 : ((d.toNat : Int) == 32) = false := eq_f (n := 32) (by omega)
                have t9 : ((d.toNat : Int) == 9) = true := eq_t hbl
                clear hbl
                have hT : Hid (textQ (d :: r) = [d]) := textQ_pos d r (hP)
                go_wp2_with ((with_reducible refine hcr1.out.mono ?_))
                first | (with_reducible rintro _ w2 ⟨rfl, rfl⟩) | skip
                go_wp2_with ((with_reducible refine hcr2.out.mono ?_))
                first | (with_reducible rintro _ w2 ⟨rfl, rfl⟩) | skip
                by_cases hov : 75 < col + 1
                · have hov' : (75 : Int) < (col : Int) + 1 := by omega
                  have hbA := hb1.alloc (by simp; omega) (.cells #[.int .u8 61, .int .u8 13, .int .u8 10] 5)
                  go_wp2_with (at_builtin; refine wpList_append_rda _ rfl _ _ 22 rfl w.heap.size 5 i0 Tryd.underlying22 hi0 hz0 hz1 hz2 _ C rfl (ow_alloc hI1 _) _ [61, 13, 10] _ _ rfl rfl (lit_rdN _ [61, 13, 10] _ (by simp) _ rfl) (by first | omega | (simp; omega) | (simp; done)) (by first | omega | (simp; omega) | (simp; done)) ?_)
                  intro v5 w5 hown5 hg5 _
                  have hb5 := hbA.grown hg5 (by first | omega | (simp; omega) | (simp; done)) (fun k hk => (hI1.lt k hk).1)
                  obtain ⟨C5, HC5, hC5, hown5⟩ : ∃ C5, Hid (C5 = C ++ [61, 13, 10]) ∧ C5.length ≤ C.length + 3 ∧ w5.ownsRow w.heap.size 5 1 v5 C5.length (Lib.byteCells C5) := ⟨C ++ [61, 13, 10], rfl, by rw [List.length_append]; exact Nat.le_refl _, by rw [List.length_append]; exact hown5⟩
                  have hrT5 := Rd.grownR (rd_alloc hrT1 _) hg5 hne1
                  have hs5 := hb5.size
                  go_wp2_with (at_builtin; refine wpList_append_rda _ rfl _ _ 22 rfl w.heap.size 5 i0 Tryd.underlying22 hi0 hz0 hz1 hz2 _ C5 rfl hown5 (some ⟨wr.heap.size, 0, none⟩) [d] _ _ rfl rfl hrT5 (by first | omega | (simp; omega) | (simp; done)) (by omega) ?_)
                  intro v6 w6 hown6 hg6 _
                  have hb6 := hb5.grown hg6 (by omega) (fun k hk => (hown5.lt k hk).1)
                  obtain ⟨C6, HC6, hC6, hown6⟩ : ∃ C6, Hid (C6 = C5 ++ [d]) ∧ C6.length ≤ C5.length + 1 ∧ w6.ownsRow w.heap.size 5 1 v6 C6.length (Lib.byteCells C6) := ⟨C5 ++ [d], rfl, by rw [List.length_append]; exact Nat.le_refl _, by rw [List.length_append]; exact hown6⟩
                  go_wp2
                  go_roundw
                  case rel =>
                    refine ⟨k + 1, 1, C6, by omega, by go_num, by go_num, by omega, by omega, ?_, hown6, hb6⟩
                    show _ = _
                    rw [HQ.out, hq.out, hT.out, if_pos (by exact hov), HC6.out, HC5.out, HR.out]
                    simp only [List.append_assoc]
                    rfl
                  case measure => simp [intOf]; omega
                · have hov' : ¬ (75 : Int) < (col : Int) + 1 := by omega
                  go_wp2_with (at_builtin; refine wpList_append_rda _ rfl _ _ 22 rfl w.heap.size 5 i0 Tryd.underlying22 hi0 hz0 hz1 hz2 _ C rfl hI1 (some ⟨wr.heap.size, 0, none⟩) [d] _ _ rfl rfl hrT1 (by first | omega | (simp; omega) | (simp; done)) (by first | omega | (simp; omega) | (simp; done)) ?_)
                  intro v6 w6 hown6 hg6 _
                  have hb6 := hb1.grown hg6 (by first | omega | (simp; omega) | (simp; done)) (fun k hk => (hI1.lt k hk).1)
                  obtain ⟨C6, HC6, hC6, hown6⟩ : ∃ C6, Hid (C6 = C ++ [d]) ∧ C6.length ≤ C.length + 1 ∧ w6.ownsRow w.heap.size 5 1 v6 C6.length (Lib.byteCells C6) := ⟨C ++ [d], rfl, by rw [List.length_append]; exact Nat.le_refl _, by rw [List.length_append]; exact hown6⟩
                  go_wp2
                  go_roundw
                  case rel =>
                    refine ⟨k + 1, col + 1, C6, by omega, by go_num, by go_num, by omega, by omega, ?_, hown6, hb6⟩
                    show _ = _
                    rw [HQ.out, hq.out, hT.out, if_neg (by exact hov), HC6.out, HR.out]
                    simp only [List.append_assoc]
                    rfl
                  case measure => simp [intOf]; omega
        · have hpb := print_text d r hbl
          have t32 : ((d.toNat : Int) == 32) = false := eq_f (n := 32) (by omega)
          have t9 : ((d.toNat : Int) == 9) = false := eq_f (n := 9) (by omega)
          clear hcr2 hrl
          by_cases h61 : d.toNat = 61
          · have t61 : ((d.toNat : Int) == 61) = true := eq_t h61
            have hP : printB (d :: r) = false := by rw [hpb, decide_eq_false_iff_not]; exact fun h => h.2.2 h61
            clear h61 hpb hbl
            have hT : Hid (textQ (d :: r) = [61, hexd (d.toNat / 16), hexd (d.toNat % 16)]) := textQ_neg d r (hP)
            obtain ⟨v1, hv1, hv2, e1⟩ : ∃ v1 : Nat, v1 < 16 ∧ Hid (v1 = d.toNat / 16) ∧ (d.toNat : Int) / 16 = (v1 : Int) := ⟨d.toNat / 16, by omega, rfl, by omega⟩
            obtain ⟨u1, hu1, hu2, e2⟩ : ∃ u1 : Nat, u1 < 16 ∧ Hid (u1 = d.toNat % 16) ∧ (d.toNat : Int) % 16 = (u1 : Int) := ⟨d.toNat % 16, by omega, rfl, by omega⟩
            have e3 : (d.toNat : Int).tdiv 16 = (v1 : Int) := by rw [Int.tdiv_eq_ediv_of_nonneg (by omega), e1]
            have e4 : (d.toNat : Int).tmod 16 = (u1 : Int) := by rw [Int.tmod_eq_emod_of_nonneg (by omega), e2]
            have ew1 : IntKind.u8.wrap (v1 : Int) = (v1 : Int) := Go.IntWalk.u8_in _ ⟨by omega, by omega⟩
            have hv1' : (v1 : Int) < 16 := by omega
            have hu1' : (u1 : Int) < 16 := by omega
            go_wp2_with ((with_reducible refine hcr1.out.mono ?_))
            first | (with_reducible rintro _ w2 ⟨rfl, rfl⟩) | skip
            go_wp2_with fail
            obtain ⟨W, hW⟩ : ∃ W, W = (wr.alloc (.cells #[.int .u8 (d.toNat : Int)] 5)) := ⟨_, rfl⟩
            rw [← hW] at hcc1 hI1 hb1 ⊢
            have hWs : W.heap.size = wr.heap.size + 1 := by rw [hW]; simp
            clear hW
            go_still_tail 14, (by kernel_rfl)
            change wpList _ _ _ _ _ W.drew
            have hone : Below w.heap.size w ((W.alloc (.cells #[.int .u8 61, .int .u8 ((hexA[v1]'hv1).toNat : Int), .int .u8 ((hexA[u1]'hu1).toNat : Int)] 5)).drew) := below_drew1 (hb1.alloc (by omega) _)
            have hIW : ((W.alloc (.cells #[.int .u8 61, .int .u8 ((hexA[v1]'hv1).toNat : Int), .int .u8 ((hexA[u1]'hu1).toNat : Int)] 5)).drew).ownsRow w.heap.size 5 1 u3 C.length (Lib.byteCells C) := ow_drew1 (ow_alloc hI1 _)
            have hrT : Rd ((W.alloc (.cells #[.int .u8 61, .int .u8 ((hexA[v1]'hv1).toNat : Int), .int .u8 ((hexA[u1]'hu1).toNat : Int)] 5)).drew) (some ⟨wr.heap.size + 1, 0, none⟩) [61, hexd v1, hexd u1] := by rw [← hWs]; exact rd_drew1 (hex_rd W _ _ _ _ (hexA_get v1 hv1) (hexA_get u1 hu1))
            have hT2 := hT.out
            rw [← hv2.out, ← hu2.out] at hT2
            replace hT2 := Lib.hid hT2
            by_cases hov : 75 < col + 3
            · have hov' : (75 : Int) < (col : Int) + 3 := by omega
              have hbA := below_drew1 ((hb1.alloc (by omega) (.cells #[.int .u8 61, .int .u8 ((hexA[v1]'hv1).toNat : Int), .int .u8 ((hexA[u1]'hu1).toNat : Int)] 5)).alloc (by simp; omega) (.cells #[.int .u8 61, .int .u8 13, .int .u8 10] 5))
              go_wp2_with (at_builtin; refine wpList_append_rda _ rfl _ _ 22 rfl w.heap.size 5 i0 Tryd.underlying22 hi0 hz0 hz1 hz2 _ C rfl (ow_drew1 (ow_alloc (ow_alloc hI1 _) _)) _ [61, 13, 10] _ _ rfl rfl (rd_drew1 (lit_rdN _ [61, 13, 10] _ (by simp [hWs]) _ rfl)) (by first | omega | (simp; omega) | (simp; done)) (by first | omega | (simp; omega) | (simp; done)) ?_)
              intro v5 w5 hown5 hg5 _
              have hb5 := hbA.grown hg5 (by first | omega | (simp; omega) | (simp; done)) (fun k hk => (hIW.lt k hk).1)
              obtain ⟨C5, HC5, hC5, hown5⟩ : ∃ C5, Hid (C5 = C ++ [61, 13, 10]) ∧ C5.length ≤ C.length + 3 ∧ w5.ownsRow w.heap.size 5 1 v5 C5.length (Lib.byteCells C5) := ⟨C ++ [61, 13, 10], rfl, by rw [List.length_append]; exact Nat.le_refl _, by rw [List.length_append]; exact hown5⟩
              have hrT5 := Rd.grownR (rd_alloc hrT _) hg5 hne2
              have hs5 := hb5.size
              go_wp2_with (at_builtin; refine wpList_append_rda _ rfl _ _ 22 rfl w.heap.size 5 i0 Tryd.underlying22 hi0 hz0 hz1 hz2 _ C5 rfl hown5 (some ⟨wr.heap.size + 1, 0, none⟩) [61, hexd v1, hexd u1] _ _ rfl rfl hrT5 (by first | omega | (simp; omega) | (simp; done)) (by omega) ?_)
              intro v6 w6 hown6 hg6 _
              have hb6 := hb5.grown hg6 (by omega) (fun k hk => (hown5.lt k hk).1)
              obtain ⟨C6, HC6, hC6, hown6⟩ : ∃ C6, Hid (C6 = C5 ++ [61, hexd v1, hexd u1]) ∧ C6.length ≤ C5.length + 3 ∧ w6.ownsRow w.heap.size 5 1 v6 C6.length (Lib.byteCells C6) := ⟨C5 ++ [61, hexd v1, hexd u1], rfl, by rw [List.length_append]; exact Nat.le_refl _, by rw [List.length_append]; exact hown6⟩
              go_wp2
              go_roundw
              case rel =>
                refine ⟨k + 1, 3, C6, by omega, by go_num, by go_num, by omega, by omega, ?_, hown6, hb6⟩
                show _ = _
                rw [HQ.out, hq.out, hT2.out, if_pos (by exact hov), HC6.out, HC5.out, HR.out]
                simp only [List.append_assoc]
                rfl
              case measure => simp [intOf]; omega
            · have hov' : ¬ (75 : Int) < (col : Int) + 3 := by omega
              go_wp2_with (at_builtin; refine wpList_append_rda _ rfl _ _ 22 rfl w.heap.size 5 i0 Tryd.underlying22 hi0 hz0 hz1 hz2 _ C rfl hIW (some ⟨wr.heap.size + 1, 0, none⟩) [61, hexd v1, hexd u1] _ _ rfl rfl hrT (by first | omega | (simp; omega) | (simp; done)) (by first | omega | (simp; omega) | (simp; done)) ?_)
              intro v6 w6 hown6 hg6 _
              have hb6 := hone.grown hg6 (by first | omega | (simp; omega) | (simp; done)) (fun k hk => (hIW.lt k hk).1)
              obtain ⟨C6, HC6, hC6, hown6⟩ : ∃ C6, Hid (C6 = C ++ [61, hexd v1, hexd u1]) ∧ C6.length ≤ C.length + 3 ∧ w6.ownsRow w.heap.size 5 1 v6 C6.length (Lib.byteCells C6) := ⟨C ++ [61, hexd v1, hexd u1], rfl, by rw [List.length_append]; exact Nat.le_refl _, by rw [List.length_append]; exact hown6⟩
              go_wp2
              go_roundw
              case rel =>
                refine ⟨k + 1, col + 3, C6, by omega, by go_num, by go_num, by omega, by omega, ?_, hown6, hb6⟩
                show _ = _
                rw [HQ.out, hq.out, hT2.out, if_neg (by exact hov), HC6.out, HR.out]
                simp only [List.append_assoc]
                rfl
              case measure => simp [intOf]; omega
          · have t61 : ((d.toNat : Int) == 61) = false := eq_f h61
            by_cases h33 : d.toNat < 33
            · have t33 : (d.toNat : Int) < 33 := by omega
              have hP : printB (d :: r) = false := by rw [hpb, decide_eq_false_iff_not]; omega
              clear h61 hpb hbl h33
              have hT : Hid (textQ (d :: r) = [61, hexd (d.toNat / 16), hexd (d.toNat % 16)]) := textQ_neg d r (hP)
              obtain ⟨v1, hv1, hv2, e1⟩ : ∃ v1 : Nat, v1 < 16 ∧ Hid (v1 = d.toNat / 16) ∧ (d.toNat : Int) / 16 = (v1 : Int) := ⟨d.toNat / 16, by omega, rfl, by omega⟩
              obtain ⟨u1, hu1, hu2, e2⟩ : ∃ u1 : Nat, u1 < 16 ∧ Hid (u1 = d.toNat % 16) ∧ (d.toNat : Int) % 16 = (u1 : Int) := ⟨d.toNat % 16, by omega, rfl, by omega⟩
              have e3 : (d.toNat : Int).tdiv 16 = (v1 : Int) := by rw [Int.tdiv_eq_ediv_of_nonneg (by omega), e1]
              have e4 : (d.toNat : Int).tmod 16 = (u1 : Int) := by rw [Int.tmod_eq_emod_of_nonneg (by omega), e2]
              have ew1 : IntKind.u8.wrap (v1 : Int) = (v1 : Int) := Go.IntWalk.u8_in _ ⟨by omega, by omega⟩
              have hv1' : (v1 : Int) < 16 := by omega
              have hu1' : (u1 : Int) < 16 := by omega
              go_wp2_with ((with_reducible refine hcr1.out.mono ?_))
              first | (with_reducible rintro _ w2 ⟨rfl, rfl⟩) | skip
              go_wp2_with fail
              obtain ⟨W, hW⟩ : ∃ W, W = (wr.alloc (.cells #[.int .u8 (d.toNat : Int)] 5)) := ⟨_, rfl⟩
              rw [← hW] at hcc1 hI1 hb1 ⊢
              have hWs : W.heap.size = wr.heap.size + 1 := by rw [hW]; simp
              clear hW
              go_still_tail 14, (by kernel_rfl)
              change wpList _ _ _ _ _ W.drew
              have hone : Below w.heap.size w ((W.alloc (.cells #[.int .u8 61, .int .u8 ((hexA[v1]'hv1).toNat : Int), .int .u8 ((hexA[u1]'hu1).toNat : Int)] 5)).drew) := below_drew1 (hb1.alloc (by omega) _)
              have hIW : ((W.alloc (.cells #[.int .u8 61, .int .u8 ((hexA[v1]'hv1).toNat : Int), .int .u8 ((hexA[u1]'hu1).toNat : Int)] 5)).drew).ownsRow w.heap.size 5 1 u3 C.length (Lib.byteCells C) := ow_drew1 (ow_alloc hI1 _)
              have hrT : Rd ((W.alloc (.cells #[.int .u8 61, .int .u8 ((hexA[v1]'hv1).toNat : Int), .int .u8 ((hexA[u1]'hu1).toNat : Int)] 5)).drew) (some ⟨wr.heap.size + 1, 0, none⟩) [61, hexd v1, hexd u1] := by rw [← hWs]; exact rd_drew1 (hex_rd W _ _ _ _ (hexA_get v1 hv1) (hexA_get u1 hu1))
              have hT2 := hT.out
              rw [← hv2.out, ← hu2.out] at hT2
              replace hT2 := Lib.hid hT2
              by_cases hov : 75 < col + 3
              · have hov' : (75 : Int) < (col : Int) + 3 := by omega
                have hbA := below_drew1 ((hb1.alloc (by omega) (.cells #[.int .u8 61, .int .u8 ((hexA[v1]'hv1).toNat : Int), .int .u8 ((hexA[u1]'hu1).toNat : Int)] 5)).alloc (by simp; omega) (.cells #[.int .u8 61, .int .u8 13, .int .u8 10] 5))
                go_wp2_with (at_builtin; refine wpList_append_rda _ rfl _ _ 22 rfl w.heap.size 5 i0 Tryd.underlying22 hi0 hz0 hz1 hz2 _ C rfl (ow_drew1 (ow_alloc (ow_alloc hI1 _) _)) _ [61, 13, 10] _ _ rfl rfl (rd_drew1 (lit_rdN _ [61, 13, 10] _ (by simp [hWs]) _ rfl)) (by first | omega | (simp; omega) | (simp; done)) (by first | omega | (simp; omega) | (simp; done)) ?_)
                intro v5 w5 hown5 hg5 _
                have hb5 := hbA.grown hg5 (by first | omega | (simp; omega) | (simp; done)) (fun k hk => (hIW.lt k hk).1)
                obtain ⟨C5, HC5, hC5, hown5⟩ : ∃ C5, Hid (C5 = C ++ [61, 13, 10]) ∧ C5.length ≤ C.length + 3 ∧ w5.ownsRow w.heap.size 5 1 v5 C5.length (Lib.byteCells C5) := ⟨C ++ [61, 13, 10], rfl, by rw [List.length_append]; exact Nat.le_refl _, by rw [List.length_append]; exact hown5⟩
                have hrT5 := Rd.grownR (rd_alloc hrT _) hg5 hne2
                have hs5 := hb5.size
                go_wp2_with (at_builtin; refine wpList_append_rda _ rfl _ _ 22 rfl w.heap.size 5 i0 Tryd.underlying22 hi0 hz0 hz1 hz2 _ C5 rfl hown5 (some ⟨wr.heap.size + 1, 0, none⟩) [61, hexd v1, hexd u1] _ _ rfl rfl hrT5 (by first | omega | (simp; omega) | (simp; done)) (by omega) ?_)
                intro v6 w6 hown6 hg6 _
                have hb6 := hb5.grown hg6 (by omega) (fun k hk => (hown5.lt k hk).1)
                obtain ⟨C6, HC6, hC6, hown6⟩ : ∃ C6, Hid (C6 = C5 ++ [61, hexd v1, hexd u1]) ∧ C6.length ≤ C5.length + 3 ∧ w6.ownsRow w.heap.size 5 1 v6 C6.length (Lib.byteCells C6) := ⟨C5 ++ [61, hexd v1, hexd u1], rfl, by rw [List.length_append]; exact Nat.le_refl _, by rw [List.length_append]; exact hown6⟩
                go_wp2
                go_roundw
                case rel =>
                  refine ⟨k + 1, 3, C6, by omega, by go_num, by go_num, by omega, by omega, ?_, hown6, hb6⟩
                  show _ = _
                  rw [HQ.out, hq.out, hT2.out, if_pos (by exact hov), HC6.out, HC5.out, HR.out]
                  simp only [List.append_assoc]
                  rfl
                case measure => simp [intOf]; omega
              · have hov' : ¬ (75 : Int) < (col : Int) + 3 := by omega
                go_wp2_with (at_builtin; refine wpList_append_rda _ rfl _ _ 22 rfl w.heap.size 5 i0 Tryd.underlying22 hi0 hz0 hz1 hz2 _ C rfl hIW (some ⟨wr.heap.size + 1, 0, none⟩) [61, hexd v1, hexd u1] _ _ rfl rfl hrT (by first | omega | (simp; omega) | (simp; done)) (by first | omega | (simp; omega) | (simp; done)) ?_)
                intro v6 w6 hown6 hg6 _
                have hb6 := hone.grown hg6 (by first | omega | (simp; omega) | (simp; done)) (fun k hk => (hIW.lt k hk).1)
                obtain ⟨C6, HC6, hC6, hown6⟩ : ∃ C6, Hid (C6 = C ++ [61, hexd v1, hexd u1]) ∧ C6.length ≤ C.length + 3 ∧ w6.ownsRow w.heap.size 5 1 v6 C6.length (Lib.byteCells C6) := ⟨C ++ [61, hexd v1, hexd u1], rfl, by rw [List.length_append]; exact Nat.le_refl _, by rw [List.length_append]; exact hown6⟩
                go_wp2
                go_roundw
                case rel =>
                  refine ⟨k + 1, col + 3, C6, by omega, by go_num, by go_num, by omega, by omega, ?_, hown6, hb6⟩
                  show _ = _
                  rw [HQ.out, hq.out, hT2.out, if_neg (by exact hov), HC6.out, HR.out]
                  simp only [List.append_assoc]
                  rfl
                case measure => simp [intOf]; omega
            · have t33 : ¬ (d.toNat : Int) < 33 := by omega
              by_cases h126 : 126 < d.toNat
              · have t126 : (126 : Int) < (d.toNat : Int) := by omega
                have hP : printB (d :: r) = false := by rw [hpb, decide_eq_false_iff_not]; omega
                clear h61 hpb hbl h33 h126
                have hT : Hid (textQ (d :: r) = [61, hexd (d.toNat / 16), hexd (d.toNat % 16)]) := textQ_neg d r (hP)
                obtain ⟨v1, hv1, hv2, e1⟩ : ∃ v1 : Nat, v1 < 16 ∧ Hid (v1 = d.toNat / 16) ∧ (d.toNat : Int) / 16 = (v1 : Int) := ⟨d.toNat / 16, by omega, rfl, by omega⟩
                obtain ⟨u1, hu1, hu2, e2⟩ : ∃ u1 : Nat, u1 < 16 ∧ Hid (u1 = d.toNat % 16) ∧ (d.toNat : Int) % 16 = (u1 : Int) := ⟨d.toNat % 16, by omega, rfl, by omega⟩
                have e3 : (d.toNat : Int).tdiv 16 = (v1 : Int) := by rw [Int.tdiv_eq_ediv_of_nonneg (by omega), e1]
                have e4 : (d.toNat : Int).tmod 16 = (u1 : Int) := by rw [Int.tmod_eq_emod_of_nonneg (by omega), e2]
                have ew1 : IntKind.u8.wrap (v1 : Int) = (v1 : Int) := Go.IntWalk.u8_in _ ⟨by omega, by omega⟩
                have hv1' : (v1 : Int) < 16 := by omega
                have hu1' : (u1 : Int) < 16 := by omega
                go_wp2_with ((with_reducible refine hcr1.out.mono ?_))
                first | (with_reducible rintro _ w2 ⟨rfl, rfl⟩) | skip
                go_wp2_with fail
                obtain ⟨W, hW⟩ : ∃ W, W = (wr.alloc (.cells #[.int .u8 (d.toNat : Int)] 5)) := ⟨_, rfl⟩
                rw [← hW] at hcc1 hI1 hb1 ⊢
                have hWs : W.heap.size = wr.heap.size + 1 := by rw [hW]; simp
                clear hW
                go_still_tail 14, (by kernel_rfl)
                change wpList _ _ _ _ _ W.drew
                have hone : Below w.heap.size w ((W.alloc (.cells #[.int .u8 61, .int .u8 ((hexA[v1]'hv1).toNat : Int), .int .u8 ((hexA[u1]'hu1).toNat : Int)] 5)).drew) := below_drew1 (hb1.alloc (by omega) _)
                have hIW : ((W.alloc (.cells #[.int .u8 61, .int .u8 ((hexA[v1]'hv1).toNat : Int), .int .u8 ((hexA[u1]'hu1).toNat : Int)] 5)).drew).ownsRow w.heap.size 5 1 u3 C.length (Lib.byteCells C) := ow_drew1 (ow_alloc hI1 _)
                have hrT : Rd ((W.alloc (.cells #[.int .u8 61, .int .u8 ((hexA[v1]'hv1).toNat : Int), .int .u8 ((hexA[u1]'hu1).toNat : Int)] 5)).drew) (some ⟨wr.heap.size + 1, 0, none⟩) [61, hexd v1, hexd u1] := by rw [← hWs]; exact rd_drew1 (hex_rd W _ _ _ _ (hexA_get v1 hv1) (hexA_get u1 hu1))
                have hT2 := hT.out
                rw [← hv2.out, ← hu2.out] at hT2
                replace hT2 := Lib.hid hT2
                by_cases hov : 75 < col + 3
                · have hov' : (75 : Int) < (col : Int) + 3 := by omega
                  have hbA := below_drew1 ((hb1.alloc (by omega) (.cells #[.int .u8 61, .int .u8 ((hexA[v1]'hv1).toNat : Int), .int .u8 ((hexA[u1]'hu1).toNat : Int)] 5)).alloc (by simp; omega) (.cells #[.int .u8 61, .int .u8 13, .int .u8 10] 5))
                  go_wp2_with (at_builtin; refine wpList_append_rda _ rfl _ _ 22 rfl w.heap.size 5 i0 Tryd.underlying22 hi0 hz0 hz1 hz2 _ C rfl (ow_drew1 (ow_alloc (ow_alloc hI1 _) _)) _ [61, 13, 10] _ _ rfl rfl (rd_drew1 (lit_rdN _ [61, 13, 10] _ (by simp [hWs]) _ rfl)) (by first | omega | (simp; omega) | (simp; done)) (by first | omega | (simp; omega) | (simp; done)) ?_)
                  intro v5 w5 hown5 hg5 _
                  have hb5 := hbA.grown hg5 (by first | omega | (simp; omega) | (simp; done)) (fun k hk => (hIW.lt k hk).1)
                  obtain ⟨C5, HC5, hC5, hown5⟩ : ∃ C5, Hid (C5 = C ++ [61, 13, 10]) ∧ C5.length ≤ C.length + 3 ∧ w5.ownsRow w.heap.size 5 1 v5 C5.length (Lib.byteCells C5) := ⟨C ++ [61, 13, 10], rfl, by rw [List.length_append]; exact Nat.le_refl _, by rw [List.length_append]; exact hown5⟩
                  have hrT5 := Rd.grownR (rd_alloc hrT _) hg5 hne2
                  have hs5 := hb5.size
                  go_wp2_with (at_builtin; refine wpList_append_rda _ rfl _ _ 22 rfl w.heap.size 5 i0 Tryd.underlying22 hi0 hz0 hz1 hz2 _ C5 rfl hown5 (some ⟨wr.heap.size + 1, 0, none⟩) [61, hexd v1, hexd u1] _ _ rfl rfl hrT5 (by first | omega | (simp; omega) | (simp; done)) (by omega) ?_)
                  intro v6 w6 hown6 hg6 _
                  have hb6 := hb5.grown hg6 (by omega) (fun k hk => (hown5.lt k hk).1)
                  obtain ⟨C6, HC6, hC6, hown6⟩ : ∃ C6, Hid (C6 = C5 ++ [61, hexd v1, hexd u1]) ∧ C6.length ≤ C5.length + 3 ∧ w6.ownsRow w.heap.size 5 1 v6 C6.length (Lib.byteCells C6) := ⟨C5 ++ [61, hexd v1, hexd u1], rfl, by rw [List.length_append]; exact Nat.le_refl _, by rw [List.length_append]; exact hown6⟩
                  go_wp2
                  go_roundw
                  case rel =>
                    refine ⟨k + 1, 3, C6, by omega, by go_num, by go_num, by omega, by omega, ?_, hown6, hb6⟩
                    show _ = _
                    rw [HQ.out, hq.out, hT2.out, if_pos (by exact hov), HC6.out, HC5.out, HR.out]
                    simp only [List.append_assoc]
                    rfl
                  case measure => simp [intOf]; omega
                · have hov' : ¬ (75 : Int) < (col : Int) + 3 := by omega
                  go_wp2_with (at_builtin; refine wpList_append_rda _ rfl _ _ 22 rfl w.heap.size 5 i0 Tryd.underlying22 hi0 hz0 hz1 hz2 _ C rfl hIW (some ⟨wr.heap.size + 1, 0, none⟩) [61, hexd v1, hexd u1] _ _ rfl rfl hrT (by first | omega | (simp; omega) | (simp; done)) (by first | omega | (simp; omega) | (simp; done)) ?_)
                  intro v6 w6 hown6 hg6 _
                  have hb6 := hone.grown hg6 (by first | omega | (simp; omega) | (simp; done)) (fun k hk => (hIW.lt k hk).1)
                  obtain ⟨C6, HC6, hC6, hown6⟩ : ∃ C6, Hid (C6 = C ++ [61, hexd v1, hexd u1]) ∧ C6.length ≤ C.length + 3 ∧ w6.ownsRow w.heap.size 5 1 v6 C6.length (Lib.byteCells C6) := ⟨C ++ [61, hexd v1, hexd u1], rfl, by rw [List.length_append]; exact Nat.le_refl _, by rw [List.length_append]; exact hown6⟩
                  go_wp2
                  go_roundw
                  case rel =>
                    refine ⟨k + 1, col + 3, C6, by omega, by go_num, by go_num, by omega, by omega, ?_, hown6, hb6⟩
                    show _ = _
                    rw [HQ.out, hq.out, hT2.out, if_neg (by exact hov), HC6.out, HR.out]
                    simp only [List.append_assoc]
                    rfl
                  case measure => simp [intOf]; omega
              · have t126 : ¬ (126 : Int) < (d.toNat : Int) := by omega
                have hP : printB (d :: r) = true := by rw [hpb, decide_eq_true_eq]; omega
                clear h61 hpb hbl h33 h126
                have hT : Hid (textQ (d :: r) = [d]) := textQ_pos d r (hP)
                by_cases hov : 75 < col + 1
                · have hov' : (75 : Int) < (col : Int) + 1 := by omega
                  have hbA := hb1.alloc (by simp; omega) (.cells #[.int .u8 61, .int .u8 13, .int .u8 10] 5)
                  go_wp2_with (first | (with_reducible refine hcr1.out.mono ?_) | (at_builtin; refine wpList_append_rda _ rfl _ _ 22 rfl w.heap.size 5 i0 Tryd.underlying22 hi0 hz0 hz1 hz2 _ C rfl (ow_alloc hI1 _) _ [61, 13, 10] _ _ rfl rfl (lit_rdN _ [61, 13, 10] _ (by simp) _ rfl) (by first | omega | (simp; omega) | (simp; done)) (by first | omega | (simp; omega) | (simp; done)) ?_))
                  intro v5 w5 hown5 hg5 _
                  have hb5 := hbA.grown hg5 (by first | omega | (simp; omega) | (simp; done)) (fun k hk => (hI1.lt k hk).1)
                  obtain ⟨C5, HC5, hC5, hown5⟩ : ∃ C5, Hid (C5 = C ++ [61, 13, 10]) ∧ C5.length ≤ C.length + 3 ∧ w5.ownsRow w.heap.size 5 1 v5 C5.length (Lib.byteCells C5) := ⟨C ++ [61, 13, 10], rfl, by rw [List.length_append]; exact Nat.le_refl _, by rw [List.length_append]; exact hown5⟩
                  have hrT5 := Rd.grownR (rd_alloc hrT1 _) hg5 hne1
                  have hs5 := hb5.size
                  go_wp2_with (at_builtin; refine wpList_append_rda _ rfl _ _ 22 rfl w.heap.size 5 i0 Tryd.underlying22 hi0 hz0 hz1 hz2 _ C5 rfl hown5 (some ⟨wr.heap.size, 0, none⟩) [d] _ _ rfl rfl hrT5 (by first | omega | (simp; omega) | (simp; done)) (by omega) ?_)
                  intro v6 w6 hown6 hg6 _
                  have hb6 := hb5.grown hg6 (by omega) (fun k hk => (hown5.lt k hk).1)
                  obtain ⟨C6, HC6, hC6, hown6⟩ : ∃ C6, Hid (C6 = C5 ++ [d]) ∧ C6.length ≤ C5.length + 1 ∧ w6.ownsRow w.heap.size 5 1 v6 C6.length (Lib.byteCells C6) := ⟨C5 ++ [d], rfl, by rw [List.length_append]; exact Nat.le_refl _, by rw [List.length_append]; exact hown6⟩
                  go_wp2
                  go_roundw
                  case rel =>
                    refine ⟨k + 1, 1, C6, by omega, by go_num, by go_num, by omega, by omega, ?_, hown6, hb6⟩
                    show _ = _
                    rw [HQ.out, hq.out, hT.out, if_pos (by exact hov), HC6.out, HC5.out, HR.out]
                    simp only [List.append_assoc]
                    rfl
                  case measure => simp [intOf]; omega
                · have hov' : ¬ (75 : Int) < (col : Int) + 1 := by omega
                  go_wp2_with (first | (with_reducible refine hcr1.out.mono ?_) | (at_builtin; refine wpList_append_rda _ rfl _ _ 22 rfl w.heap.size 5 i0 Tryd.underlying22 hi0 hz0 hz1 hz2 _ C rfl hI1 (some ⟨wr.heap.size, 0, none⟩) [d] _ _ rfl rfl hrT1 (by first | omega | (simp; omega) | (simp; done)) (by first | omega | (simp; omega) | (simp; done)) ?_))
                  intro v6 w6 hown6 hg6 _
                  have hb6 := hb1.grown hg6 (by first | omega | (simp; omega) | (simp; done)) (fun k hk => (hI1.lt k hk).1)
                  obtain ⟨C6, HC6, hC6, hown6⟩ : ∃ C6, Hid (C6 = C ++ [d]) ∧ C6.length ≤ C.length + 1 ∧ w6.ownsRow w.heap.size 5 1 v6 C6.length (Lib.byteCells C6) := ⟨C ++ [d], rfl, by rw [List.length_append]; exact Nat.le_refl _, by rw [List.length_append]; exact hown6⟩
                  go_wp2
                  go_roundw
                  case rel =>
                    refine ⟨k + 1, col + 1, C6, by omega, by go_num, by go_num, by omega, by omega, ?_, hown6, hb6⟩
                    show _ = _
                    rw [HQ.out, hq.out, hT.out, if_neg (by exact hov), HC6.out, HR.out]
                    simp only [List.append_assoc]
                    rfl
                  case measure => simp [intOf]; omega
    · obtain rfl : k = l.length := by omega
      have hlt' : ¬ (l.length : Int) < (l.length : Int) := by omega
      have e : quo 0 l = C := by
        rw [HQ.out, List.drop_length, quo_nil, List.append_nil]
      have HE := Lib.hid e
      clear e
      go_wp2
      go_ret
      refine ⟨_, rfl, ?_, hb⟩
      rw [HE.out]
      exact RdV.own hI
end Go.Proofs.YtofgkahldhelaaaDoor
