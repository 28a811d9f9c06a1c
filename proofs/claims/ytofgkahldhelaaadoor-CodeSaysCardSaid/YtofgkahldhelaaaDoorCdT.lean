/- The reference's FromQuoted. -/
import Derived.Test.YtofgkahldhelaaaDoorCdR
set_option linter.unusedVariables false
namespace Go.Proofs.YtofgkahldhelaaaDoor
open Go.RowKit

theorem nib_v (c : UInt8) (v : Nat) (h : hexv c = some v) (w : World) : Calls Tryd.prog 23 #[.int .u8 (c.toNat : Int)] w fun e w' => e = .returned (.int .i64 (v : Int)) ∧ w = w' := by
  have := nib_r c w
  have e : hexZ c = (v : Int) := by simp [hexZ, h]
  rw [e] at this
  exact this
theorem nib_n (c : UInt8) (h : hexv c = none) (w : World) : Calls Tryd.prog 23 #[.int .u8 (c.toNat : Int)] w fun e w' => e = .returned (.int .i64 (-1)) ∧ w = w' := by
  have := nib_r c w
  have e : hexZ c = -1 := by simp [hexZ, h]
  rw [e] at this
  exact this
theorem blank_of (d : UInt8) : blankB d = decide (d.toNat = 32 ∨ d.toNat = 9) := by
  rw [blankB, Bool.eq_iff_iff]
  simp
  constructor
  · rintro (rfl | rfl) <;> decide
  · rintro (h | h)
    · exact .inl (UInt8.toNat_inj.1 h)
    · exact .inr (UInt8.toNat_inj.1 h)
theorem lineEnd_len (r : List UInt8) (h : lineEnd r = true) : 2 ≤ r.length := by
  match r, h with
  | [], h => exact absurd h (by decide)
  | [c], h => simp [lineEnd] at h
  | _ :: _ :: _, _ => simp
theorem fq_skip (d : UInt8) (r : List UInt8) (hB : blankB d = true) (h : (r.dropWhile blankB).isEmpty = true ∨ lineEnd (r.dropWhile blankB) = true) : fq (d :: r) = fq (r.dropWhile blankB) := by
  rw [fq_blank d r hB]
  have e : ((r.dropWhile blankB).isEmpty || lineEnd (r.dropWhile blankB)) = true := by
    rcases h with h | h <;> simp [h]
  rw [e]
  rfl

set_option maxRecDepth 100000 in
set_option maxHeartbeats 8000000 in
theorem r_fromq (A : Option Addr) (l : List UInt8) (n c : Nat) (w : World) (hn : l.length = n) (hr : Rd w A l) (hl : l.length ≤ 1000000) (hc : l.length ≤ c) :
    Calls Tryd.prog 12 #[.slice A n c] w fun e w' => ∃ v, e = .returned v ∧ RdV w' v (fq l) ∧ Below w.heap.size w w' := by
  subst hn
  obtain ⟨i0, hi0, hz0, hz1, hz2⟩ := info_parts u8Info
  go_enter Tryd.func12, Tryd.ntmps12
  go_wp2
  go_loopw [3, 4] (fun v i wr => ∃ (k : Nat) (C : List UInt8), k ≤ l.length ∧ i = .int .i64 k ∧ C.length ≤ k ∧ Hid (fq l = C ++ fq (l.drop k)) ∧ wr.ownsRow w.heap.size 5 1 v C.length (Lib.byteCells C) ∧ Below w.heap.size w wr) (fun _ i _ => l.length - (intOf i).toNat)
  case atStart => exact ⟨0, [], Nat.zero_le _, rfl, by simp, rfl, own_none w _ _, Below.refl _ _⟩
  case round =>
    obtain ⟨k, C, hk, rfl, hC, HC, hI, hb⟩ := hrel
    have hsz := hb.size
    by_cases hlt : k < l.length
    · have hlt' : (k : Int) < (l.length : Int) := by omega
      have hrw := hr.below hb
      obtain ⟨b, o, rfl, hbb, hcell⟩ := hrw (by omega)
      have hcc := hcell k hlt
      have h8 := l[k].toNat_lt
      have hdr0 := List.drop_eq_getElem_cons hlt
      have hcr1 := crlf_r (some ⟨b, o, none⟩) l l.length c (k + 1) ((k : Int) + 1) wr rfl (by omega) hrw (by omega)
      replace hcell := Lib.hid hcell
      obtain ⟨d, hd⟩ : ∃ d, Hid (d = l[k]) := ⟨_, Lib.hid rfl⟩
      rw [← hd.out] at hcc h8 hdr0
      obtain ⟨r, HR⟩ : ∃ r, Hid (l.drop (k + 1) = r) := ⟨_, rfl⟩
      rw [HR.out] at hdr0 hcr1
      have hdr := Lib.hid hdr0
      have hrl : r.length + 1 = l.length - k := by
        have := congrArg List.length hdr0
        rw [List.length_drop, List.length_cons] at this
        omega
      have hQ := HC.out
      rw [hdr.out] at hQ
      replace HC := Lib.hid hQ
      clear hQ hdr0
      have hbA := hb.alloc hsz (.cells #[.int .u8 (d.toNat : Int)] 5)
      by_cases h61 : d.toNat = 61
      · have t61 : ((d.toNat : Int) == 61) = true := eq_t h61
        have t32 : ((d.toNat : Int) == 32) = false := eq_f (n := 32) (by omega)
        have t9 : ((d.toNat : Int) == 9) = false := eq_f (n := 9) (by omega)
        have e61 : d = 61 := UInt8.toNat_inj.1 h61
        have hB' : blankB d = false := by rw [e61]; rfl
        have b61 : (d == 61) = true := by rw [e61]; rfl
        by_cases hE : lineEnd r = true
        · rw [hE] at hcr1
          replace hcr1 := Lib.hid hcr1
          have h2 := lineEnd_len r hE
          have hfn := Lib.hid (fq_soft d r hB' (by rw [b61, hE]; rfl))
          have hd3 : r.drop 2 = l.drop (k + 3) := by rw [← HR.out, List.drop_drop]
          replace hd3 := Lib.hid hd3
          have hk3 : k + 3 ≤ l.length := by omega
          clear hE h61 e61 b61 hB' hrl
          go_wp2_with ((with_reducible refine hcr1.out.mono ?_))
          first | (with_reducible rintro _ w11 ⟨rfl, rfl⟩; go_wp2) | skip
          go_roundw
          case rel =>
            refine ⟨k + 3, C, by omega, by go_num, by omega, ?_, hI, hb⟩
            show _ = _
            rw [HC.out, hfn.out, hd3.out]
          case measure => simp [intOf]; omega
        · have hE' : lineEnd r = false := by simpa using hE
          rw [hE'] at hcr1
          replace hcr1 := Lib.hid hcr1
          by_cases h2 : k + 2 < l.length
          · have h2' : (k : Int) + 2 < (l.length : Int) := by omega
            obtain ⟨a1, a2, r3, hr3⟩ : ∃ a1 a2 r3, r = a1 :: a2 :: r3 := by
              match r, hrl with
              | [], h => simp at h; omega
              | [_], h => simp at h; omega
              | a1 :: a2 :: r3, _ => exact ⟨a1, a2, r3, rfl⟩
            have hg1 : a1 = l[k + 1] ∧ a2 = l[k + 2] ∧ r3 = l.drop (k + 3) := by
              have e1 := HR.out
              rw [hr3, List.drop_eq_getElem_cons (by omega : k + 1 < l.length), List.drop_eq_getElem_cons (by omega : k + 1 + 1 < l.length)] at e1
              injection e1 with e1 e2
              injection e2 with e2 e3
              exact ⟨e1.symm, e2.symm, e3.symm⟩
            have hc1 := hcell.out (k + 1) (by omega)
            have hc2 := hcell.out (k + 2) h2
            rw [← hg1.1] at hc1
            rw [← hg1.2.1] at hc2
            have hd3 := Lib.hid hg1.2.2
            have h81 := a1.toNat_lt
            have h82 := a2.toNat_lt
            clear hg1
            have b1x : (k : Int) + 1 < (l.length : Int) := by omega
            cases hv1 : hexv a1 with
            | none =>
              have hfn := Lib.hid (fq_else d r hB' (by rw [hE']; simp) (by rw [hr3, e61]; simp [eqv, hv1]))
              have hh1 := Lib.hid (nib_n a1 hv1 wr)
              clear hE hE' h61 e61 b61 hB' hrl hr3 hv1
              go_wp2_with ((with_reducible refine hcr1.out.mono ?_))
              first | (with_reducible rintro _ w11 ⟨rfl, rfl⟩) | skip
              go_wp2_with ((with_reducible refine hh1.out.mono ?_))
              first | (with_reducible rintro _ w12 ⟨rfl, rfl⟩; go_wp2) | skip
              go_loopw [5] (fun kv wk => kv = .int .i64 (k : Int) ∧ wk = wr) (fun _ _ => 0)
              case atStart => exact ⟨rfl, rfl⟩
              case round =>
                obtain ⟨rfl, rfl⟩ := hrel
                go_wp2_with (at_builtin; refine wpList_append_rda _ rfl _ _ 22 rfl w.heap.size 5 i0 Tryd.underlying22 hi0 hz0 hz1 hz2 _ C rfl (ow_alloc hI _) _ [d] _ _ rfl rfl (lit_rdN _ [d] _ (by simp) _ rfl) (by first | omega | (simp; omega) | (simp; done)) (by first | omega | (simp; omega) | (simp; done)) ?_)
                intro v4 w4 hown4 hg4 _
                have hb4 := hbA.grown hg4 (by simp; omega) (fun k hk => (hI.lt k hk).1)
                obtain ⟨C4, HC4, hC4, hown4⟩ : ∃ C4, Hid (C4 = C ++ [d]) ∧ C4.length ≤ C.length + 1 ∧ w4.ownsRow w.heap.size 5 1 v4 C4.length (Lib.byteCells C4) := ⟨C ++ [d], rfl, by rw [List.length_append]; exact Nat.le_refl _, by rw [List.length_append]; exact hown4⟩
                go_wp2
                go_roundw
                case rel =>
                  refine ⟨k + 1, C4, by omega, by go_num, by omega, ?_, hown4, hb4⟩
                  show _ = _
                  rw [HC.out, hfn.out, HC4.out, HR.out, List.append_assoc]
                  rfl
                case measure => simp [intOf]; omega
            | some v1 =>
              have hv1l := hexv_lt a1 v1 hv1
              cases hv2 : hexv a2 with
              | none =>
                have hfn := Lib.hid (fq_else d r hB' (by rw [hE']; simp) (by rw [hr3, e61]; simp [eqv, hv1, hv2]))
                have hh1 := Lib.hid (nib_v a1 v1 hv1 wr)
                have hh2 := Lib.hid (nib_n a2 hv2 wr)
                clear hE hE' h61 e61 b61 hB' hrl hr3 hv1 hv2
                go_wp2_with ((with_reducible refine hcr1.out.mono ?_))
                first | (with_reducible rintro _ w11 ⟨rfl, rfl⟩) | skip
                go_wp2_with ((with_reducible refine hh1.out.mono ?_))
                first | (with_reducible rintro _ w12 ⟨rfl, rfl⟩) | skip
                go_wp2_with ((with_reducible refine hh2.out.mono ?_))
                first | (with_reducible rintro _ w13 ⟨rfl, rfl⟩; go_wp2) | skip
                go_loopw [5] (fun kv wk => kv = .int .i64 (k : Int) ∧ wk = wr) (fun _ _ => 0)
                case atStart => exact ⟨rfl, rfl⟩
                case round =>
                  obtain ⟨rfl, rfl⟩ := hrel
                  go_wp2_with (at_builtin; refine wpList_append_rda _ rfl _ _ 22 rfl w.heap.size 5 i0 Tryd.underlying22 hi0 hz0 hz1 hz2 _ C rfl (ow_alloc hI _) _ [d] _ _ rfl rfl (lit_rdN _ [d] _ (by simp) _ rfl) (by first | omega | (simp; omega) | (simp; done)) (by first | omega | (simp; omega) | (simp; done)) ?_)
                  intro v4 w4 hown4 hg4 _
                  have hb4 := hbA.grown hg4 (by simp; omega) (fun k hk => (hI.lt k hk).1)
                  obtain ⟨C4, HC4, hC4, hown4⟩ : ∃ C4, Hid (C4 = C ++ [d]) ∧ C4.length ≤ C.length + 1 ∧ w4.ownsRow w.heap.size 5 1 v4 C4.length (Lib.byteCells C4) := ⟨C ++ [d], rfl, by rw [List.length_append]; exact Nat.le_refl _, by rw [List.length_append]; exact hown4⟩
                  go_wp2
                  go_roundw
                  case rel =>
                    refine ⟨k + 1, C4, by omega, by go_num, by omega, ?_, hown4, hb4⟩
                    show _ = _
                    rw [HC.out, hfn.out, HC4.out, HR.out, List.append_assoc]
                    rfl
                  case measure => simp [intOf]; omega
              | some v2 =>
                have hv2l := hexv_lt a2 v2 hv2
                obtain ⟨z, HZ⟩ : ∃ z : UInt8, Hid (UInt8.ofNat (v1 * 16 + v2) = z) := ⟨_, Lib.hid rfl⟩
                have hfn := fq_eq d r (v1 * 16 + v2) hB' (by rw [hE']; simp) (by rw [hr3, e61]; simp [eqv, hv1, hv2])
                rw [HZ.out, hr3] at hfn
                have hfn2 : fq (d :: r) = z :: fq r3 := by rw [hr3]; exact hfn
                replace hfn := Lib.hid hfn2
                have hz8 := z.toNat_lt
                have ez : (v1 : Int) * 16 + (v2 : Int) = (z.toNat : Int) := by
                  rw [← HZ.out, UInt8.toNat_ofNat', Nat.mod_eq_of_lt (by omega)]
                  omega
                have hw1 : IntKind.i64.wrap ((v1 : Int) * 16) = (v1 : Int) * 16 := IntWalk.i64_in _ (by omega)
                have hw2 : IntKind.i64.wrap (z.toNat : Int) = (z.toNat : Int) := IntWalk.i64_in _ (by omega)
                have hw3 : IntKind.u8.wrap (z.toNat : Int) = (z.toNat : Int) := IntWalk.u8_in _ (by omega)
                have hh1 := fun W => Lib.hid (nib_v a1 v1 hv1 W)
                have hh2 := fun W => Lib.hid (nib_v a2 v2 hv2 W)
                have hk3 : k + 3 ≤ l.length := by omega
                have hwk1 : IntKind.i64.wrap ((k : Int) + 1) = (k : Int) + 1 := IntWalk.i64_in _ (by omega)
                have hwk2 : IntKind.i64.wrap ((k : Int) + 2) = (k : Int) + 2 := IntWalk.i64_in _ (by omega)
                have hnk1 : (0 : Int) ≤ (k : Int) + 1 := by omega
                have hnk2 : (0 : Int) ≤ (k : Int) + 2 := by omega
                have htk1 : ((k : Int) + 1).toNat = k + 1 := by omega
                have htk2 : ((k : Int) + 2).toNat = k + 2 := by omega
                clear hE hE' h61 e61 b61 hB' hrl hr3 hv1 hv2 hfn2 hbA
                go_wp2_with ((with_reducible refine hcr1.out.mono ?_))
                first | (with_reducible rintro _ w11 ⟨rfl, rfl⟩) | skip
                go_wp2_with ((with_reducible refine (hh1 _).out.mono ?_))
                first | (with_reducible rintro _ w12 ⟨rfl, rfl⟩) | skip
                go_wp2_with ((with_reducible refine (hh2 _).out.mono ?_))
                first | (with_reducible rintro _ w13 ⟨rfl, rfl⟩) | skip
                go_wp2_with fail
                go_region_law (first | (go_simp; go_at_call 23; (with_reducible refine (hh1 _).out.mono ?_); rintro _ w7 ⟨rfl, rfl⟩) | (go_simp; go_at_call 23; (with_reducible refine (hh2 _).out.mono ?_); rintro _ w7 ⟨rfl, rfl⟩) | (refine step_append_rda _ rfl (.tmp 55) (.tmp 71) 22 rfl w.heap.size 5 i0 Tryd.underlying22 hi0 hz0 hz1 hz2 u3 C ?_ ?_ (some ⟨wr.heap.size, 0, none⟩) [z] 1 1 rfl ?_ ?_ ?_ ?_ (fun v5 w5 hown5 hg5 _ => ?_); (focus (simp [Act.eval]; done)); (focus ((repeat (first | (with_reducible exact hI) | (with_reducible refine ow_drew1 ?_) | (with_reducible refine ow_drew ?_ _) | (with_reducible refine ow_alloc ?_ _))); done)); (focus (simp [Act.eval]; done)); (focus ((repeat (first | ((with_reducible refine lit_rdN _ [z] _ ?_ _ ?_); (focus (simp; done)); (focus (rfl))) | (with_reducible refine rd_drew1 ?_) | (with_reducible refine rd_drew ?_ _) | (with_reducible refine rd_alloc ?_ _))); done)); (focus (first | omega | (simp <;> omega))); (focus (first | omega | (simp <;> omega))); (refine keep_b (B := w.heap.size) (a := w) hg5 ?_ ?_ ?_ (fun hb5 => ?_)); (focus ((repeat (first | (with_reducible exact hb) | (with_reducible refine below_drew1 ?_) | (with_reducible refine below_drewN ?_ _) | (with_reducible refine Below.alloc ?_ ?_ _))); all_goals (first | omega | (simp <;> omega)))); (focus (first | omega | (simp <;> omega))); (focus (exact fun q hq => (hI.lt q hq).1))))
                all_goals (
                  obtain ⟨C4, HC4, hC4, hown4⟩ : ∃ C4, Hid (C4 = C ++ [z]) ∧ C4.length ≤ C.length + 1 ∧ w5.ownsRow w.heap.size 5 1 v5 C4.length (Lib.byteCells C4) := ⟨C ++ [z], rfl, by rw [List.length_append]; exact Nat.le_refl _, hown5⟩
                  go_wp2
                  go_roundw
                  case rel =>
                    refine ⟨k + 3, C4, by omega, by go_num, by omega, ?_, hown4, hb5⟩
                    show _ = _
                    rw [HC.out, hfn.out, HC4.out, ← hd3.out, List.append_assoc]
                    rfl
                  case measure => simp [intOf]; omega)
          · have h2' : ¬ (k : Int) + 2 < (l.length : Int) := by omega
            have hfn := Lib.hid (fq_else d r hB' (by rw [hE']; simp) (by
              match r, hrl with
              | [], _ => rfl
              | [_], _ => rfl
              | _ :: _ :: _, h => simp at h; omega))
            clear hE hE' h61 e61 b61 hB' hrl
            go_wp2_with ((with_reducible refine hcr1.out.mono ?_))
            first | (with_reducible rintro _ w11 ⟨rfl, rfl⟩; go_wp2) | skip
            go_loopw [5] (fun kv wk => kv = .int .i64 (k : Int) ∧ wk = wr) (fun _ _ => 0)
            case atStart => exact ⟨rfl, rfl⟩
            case round =>
              obtain ⟨rfl, rfl⟩ := hrel
              go_wp2_with (at_builtin; refine wpList_append_rda _ rfl _ _ 22 rfl w.heap.size 5 i0 Tryd.underlying22 hi0 hz0 hz1 hz2 _ C rfl (ow_alloc hI _) _ [d] _ _ rfl rfl (lit_rdN _ [d] _ (by simp) _ rfl) (by first | omega | (simp; omega) | (simp; done)) (by first | omega | (simp; omega) | (simp; done)) ?_)
              intro v4 w4 hown4 hg4 _
              have hb4 := hbA.grown hg4 (by simp; omega) (fun k hk => (hI.lt k hk).1)
              obtain ⟨C4, HC4, hC4, hown4⟩ : ∃ C4, Hid (C4 = C ++ [d]) ∧ C4.length ≤ C.length + 1 ∧ w4.ownsRow w.heap.size 5 1 v4 C4.length (Lib.byteCells C4) := ⟨C ++ [d], rfl, by rw [List.length_append]; exact Nat.le_refl _, by rw [List.length_append]; exact hown4⟩
              go_wp2
              go_roundw
              case rel =>
                refine ⟨k + 1, C4, by omega, by go_num, by omega, ?_, hown4, hb4⟩
                show _ = _
                rw [HC.out, hfn.out, HC4.out, HR.out, List.append_assoc]
                rfl
              case measure => simp [intOf]; omega
      · have t61 : ((d.toNat : Int) == 61) = false := eq_f h61
        clear hcr1
        by_cases hB : blankB d = true
        · obtain ⟨K, HK⟩ : ∃ K, Hid (K = k + 1 + (r.takeWhile blankB).length) := ⟨_, Lib.hid rfl⟩
          have hkK : k < K := by rw [HK.out]; omega
          have hKl : K ≤ l.length := by
            have := tw_le blankB r
            rw [HK.out]
            omega
          have hdK : r.dropWhile blankB = l.drop K := by rw [tw_drop, ← HR.out, List.drop_drop, HR.out, HK.out]
          have hbt : Hid (∀ j (h : j < l.length), k ≤ j → j < K → (l[j].toNat = 32 ∨ l[j].toNat = 9)) := by
            intro j h h1 h2
            have hj : blankB l[j] = true := by
              rcases Nat.eq_or_lt_of_le h1 with rfl | h1
              · rw [← hd.out]; exact hB
              · obtain ⟨i, rfl⟩ : ∃ i, j = k + 1 + i := ⟨j - (k + 1), by omega⟩
                have h3 := HK.out
                have hir : i < r.length := by omega
                have h4 := tw_lt blankB r i (by omega) hir
                have e : r[i] = l[k + 1 + i] := by
                  have := HR.out
                  subst this
                  rw [List.getElem_drop]
                rw [← e]
                exact h4
            rw [blank_of] at hj
            exact of_decide_eq_true hj
          have hbf : Hid (∀ h : K < l.length, ¬ (l[K].toNat = 32 ∨ l[K].toNat = 9)) := by
            intro h
            have h3 := HK.out
            have hir : (r.takeWhile blankB).length < r.length := by omega
            have h4 := tw_at blankB r hir
            have e : r[(r.takeWhile blankB).length] = l[K] := by
              have h5 : r[(r.takeWhile blankB).length]? = l[K]? := by
                rw [h3, ← HR.out, List.getElem?_drop, HR.out]
              rw [List.getElem?_eq_getElem hir, List.getElem?_eq_getElem h] at h5
              injection h5
            rw [e, blank_of] at h4
            exact of_decide_eq_false h4
          have hkK' : (k : Int) < (K : Int) := by omega
          have hcrK := Lib.hid (crlf_r (some ⟨b, o, none⟩) l l.length c K (K : Int) wr rfl rfl hrw (by omega))
          have hsk := Lib.hid (fq_skip d r hB)
          have hkp := Lib.hid (fq_keep d r hB)
          rw [Good, hdK] at hkp
          rw [hdK] at hsk
          clear hrl h61 hB hdK
          go_wp2
          go_loopw [5] (fun kv wk => ∃ m : Nat, k ≤ m ∧ m ≤ K ∧ kv = .int .i64 m ∧ wk = wr) (fun kv _ => K - (intOf kv).toNat)
          case atStart => exact ⟨k, Nat.le_refl _, by omega, rfl, rfl⟩
          case round =>
            obtain ⟨m, hkm, hmK, rfl, rfl⟩ := hrel
            by_cases hm : m < K
            · have hml : m < l.length := by omega
              have hml' : (m : Int) < (l.length : Int) := by omega
              have hcm := hcell.out m hml
              have hbm := hbt.out m hml hkm hm
              have h8m := l[m].toNat_lt
              generalize l[m] = xm at hcm hbm h8m
              by_cases h32 : xm.toNat = 32
              · have s32 : ((xm.toNat : Int) == 32) = true := eq_t h32
                clear hbm h32
                go_wp2
                go_roundw
                case rel => exact ⟨m + 1, by omega, by omega, by go_num, trivial⟩
                case measure => simp [intOf]; omega
              · have s32 : ((xm.toNat : Int) == 32) = false := eq_f h32
                have s9 : ((xm.toNat : Int) == 9) = true := eq_t (n := 9) (by omega)
                clear hbm h32
                go_wp2
                go_roundw
                case rel => exact ⟨m + 1, by omega, by omega, by go_num, trivial⟩
                case measure => simp [intOf]; omega
            · obtain rfl : m = K := by omega
              by_cases hml : m < l.length
              · have hml' : (m : Int) < (l.length : Int) := by omega
                have hml2 : ((m : Int) == (l.length : Int)) = false := by rw [beq_eq_false_iff_ne]; omega
                have hcm := hcell.out m hml
                have hbm := hbf.out hml
                have h8m := l[m].toNat_lt
                generalize l[m] = xm at hcm hbm h8m
                have s32 : ((xm.toNat : Int) == 32) = false := eq_f (n := 32) (by omega)
                have s9 : ((xm.toNat : Int) == 9) = false := eq_f (n := 9) (by omega)
                clear hbm
                by_cases hE : lineEnd (l.drop m) = true
                · have hcr := hcrK.out
                  rw [hE] at hcr
                  replace hcr := Lib.hid hcr
                  have hfn := Lib.hid (hsk.out (.inr hE))
                  clear hE hcrK hsk hkp
                  go_wp2_with ((with_reducible refine hcr.out.mono ?_))
                  first | (with_reducible rintro _ w11 ⟨rfl, rfl⟩; go_wp2) | skip
                  go_roundw
                  case rel =>
                    refine ⟨m, C, by omega, by go_num, by omega, ?_, hI, hb⟩
                    show _ = _
                    rw [HC.out, hfn.out]
                  case measure => simp [intOf]; omega
                · have hE' : lineEnd (l.drop m) = false := by simpa using hE
                  have hcr := hcrK.out
                  rw [hE'] at hcr
                  replace hcr := Lib.hid hcr
                  have hfn := Lib.hid (hkp.out ⟨by intro e; have := congrArg List.length e; rw [List.length_drop] at this; simp at this; omega, hE'⟩)
                  clear hE hE' hcrK hsk hkp
                  go_wp2_with ((with_reducible refine hcr.out.mono ?_))
                  first | (with_reducible rintro _ w11 ⟨rfl, rfl⟩) | skip
                  go_wp2_with (at_builtin; refine wpList_append_rda _ rfl _ _ 22 rfl w.heap.size 5 i0 Tryd.underlying22 hi0 hz0 hz1 hz2 _ C rfl (ow_alloc hI _) _ [d] _ _ rfl rfl (lit_rdN _ [d] _ (by simp) _ rfl) (by first | omega | (simp; omega) | (simp; done)) (by first | omega | (simp; omega) | (simp; done)) ?_)
                  intro v4 w4 hown4 hg4 _
                  have hb4 := hbA.grown hg4 (by simp; omega) (fun k hk => (hI.lt k hk).1)
                  obtain ⟨C4, HC4, hC4, hown4⟩ : ∃ C4, Hid (C4 = C ++ [d]) ∧ C4.length ≤ C.length + 1 ∧ w4.ownsRow w.heap.size 5 1 v4 C4.length (Lib.byteCells C4) := ⟨C ++ [d], rfl, by rw [List.length_append]; exact Nat.le_refl _, by rw [List.length_append]; exact hown4⟩
                  go_wp2
                  go_roundw
                  case rel =>
                    refine ⟨k + 1, C4, by omega, by go_num, by omega, ?_, hown4, hb4⟩
                    show _ = _
                    rw [HC.out, hfn.out, HC4.out, HR.out, List.append_assoc]
                    rfl
                  case measure => simp [intOf]; omega
              · have hml' : ¬ (m : Int) < (l.length : Int) := by omega
                have hml2 : ((m : Int) == (l.length : Int)) = true := by rw [beq_iff_eq]; omega
                have hfn := Lib.hid (hsk.out (.inl (by rw [List.drop_eq_nil_of_le (by omega)]; rfl)))
                clear hcrK hsk hkp
                go_wp2
                go_roundw
                case rel =>
                  refine ⟨m, C, by omega, by go_num, by omega, ?_, hI, hb⟩
                  show _ = _
                  rw [HC.out, hfn.out]
                case measure => simp [intOf]; omega
        · have hB' : blankB d = false := by simpa using hB
          have hfn := Lib.hid (fq_else d r hB' (by have : (d == 61) = false := by rw [beq_eq_false_iff_ne]; rintro rfl; exact h61 rfl
                                                   rw [this]; rfl) (eqv_ne d r (by rintro rfl; exact h61 rfl)))
          rw [blank_of, decide_eq_false_iff_not] at hB'
          have t32 : ((d.toNat : Int) == 32) = false := eq_f (n := 32) (by omega)
          have t9 : ((d.toNat : Int) == 9) = false := eq_f (n := 9) (by omega)
          clear hrl h61 hB hB'
          go_wp2
          go_loopw [5] (fun kv wk => kv = .int .i64 (k : Int) ∧ wk = wr) (fun _ _ => 0)
          case atStart => exact ⟨rfl, rfl⟩
          case round =>
            obtain ⟨rfl, rfl⟩ := hrel
            go_wp2_with (at_builtin; refine wpList_append_rda _ rfl _ _ 22 rfl w.heap.size 5 i0 Tryd.underlying22 hi0 hz0 hz1 hz2 _ C rfl (ow_alloc hI _) _ [d] _ _ rfl rfl (lit_rdN _ [d] _ (by simp) _ rfl) (by first | omega | (simp; omega) | (simp; done)) (by first | omega | (simp; omega) | (simp; done)) ?_)
            intro v4 w4 hown4 hg4 _
            have hb4 := hbA.grown hg4 (by simp; omega) (fun k hk => (hI.lt k hk).1)
            obtain ⟨C4, HC4, hC4, hown4⟩ : ∃ C4, Hid (C4 = C ++ [d]) ∧ C4.length ≤ C.length + 1 ∧ w4.ownsRow w.heap.size 5 1 v4 C4.length (Lib.byteCells C4) := ⟨C ++ [d], rfl, by rw [List.length_append]; exact Nat.le_refl _, by rw [List.length_append]; exact hown4⟩
            go_wp2
            go_roundw
            case rel =>
              refine ⟨k + 1, C4, by omega, by go_num, by omega, ?_, hown4, hb4⟩
              show _ = _
              rw [HC.out, hfn.out, HC4.out, HR.out, List.append_assoc]
              rfl
            case measure => simp [intOf]; omega
    · obtain rfl : k = l.length := by omega
      have hlt' : ¬ (l.length : Int) < (l.length : Int) := by omega
      have e : fq l = C := by
        rw [HC.out, List.drop_length, fq_nil, List.append_nil]
      have HE := Lib.hid e
      clear e
      go_wp2
      go_ret
      refine ⟨_, rfl, ?_, hb⟩
      rw [HE.out]
      exact RdV.own hI
end Go.Proofs.YtofgkahldhelaaaDoor
