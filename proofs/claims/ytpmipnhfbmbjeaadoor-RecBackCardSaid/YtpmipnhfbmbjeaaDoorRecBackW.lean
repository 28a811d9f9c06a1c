/- The walk of the law RecBack. -/
import Derived.Test.YtpmipnhfbmbjeaaDoorRecU
import Derived.Test.YtpmipnhfbmbjeaaDoorRdR
import Derived.Test.YtpmipnhfbmbjeaaDoorRecE
import Derived.IntWalk
set_option linter.unusedVariables false
namespace Go.Proofs.YtpmipnhfbmbjeaaDoor
open Go.RowKit

theorem scan_none (first : Int) (w : World) (hf : (Lit.int .i64 first).wf = true) (ht : Steps w) (hp : 0 < w.heap.size) :
    Calls Tryd.prog 10 #[.slice none 0 0, .int .i64 first] w (ScanPost [] first w) := by
  have hcall : Calls Tryd.prog 9 #[.slice none 0 0] w (GetPost [] w) := get_any none [] 0 w Rd.nil (Nat.zero_le _) (by decide) ht hp
  have HC := Lib.hid hcall
  have he8 : getE ([] : List UInt8) = 8 := by decide
  have hres : scanS [] first = ([], 0) := scanS_no [] first (fun h => absurd h.1 (by decide))
  have HRS := Lib.hid hres
  clear hcall ht hf hres
  go_enter Tryd.func10, Tryd.ntmps10
  go_wp2
  refine wp_loop_rounds 1 ?_
  rw [rounds_succ]
  go_wp2_with fail
  (with_reducible refine HC.out.mono ?_)
  rintro e w1 ⟨b1, hpost⟩
  have b3 := b1.alloc b1.size (.cells #[.int .i64 0, .slice none 0 0] 28)
  rcases hpost with ⟨-, rfl⟩ | ⟨he, -⟩
  · rw [he8]
    go_wp2
    go_ret2
    exact scan_end HRS SlR.nil b3
  · rw [he8] at he; exact absurd he (by decide)

def cutN (cut : Int) : Nat := cut.toNat
set_option maxRecDepth 100000 in
set_option maxHeartbeats 2000000 in
theorem recback_walk (A0 : Option Addr) (ls : List (List UInt8)) (c0 : Nat) (first cut : Int) (w : World) (hrd : RdR BytesR 1 w A0 ls) (hc0 : ls.length ≤ c0) (hm0 : c0 ≤ maxLen) (hwf : (Lit.int .i64 first).wf = true) (hwc : (Lit.int .i64 cut).wf = true) (ht : Steps w) (hp : 0 < w.heap.size) :
    Calls Tryd.prog 5 #[.slice A0 ls.length c0, .int .i64 first, .int .i64 cut] w fun e w' => e = .returned (.bool true) ∧ Below w.heap.size w w' := by
  have HT := Lib.hid ht
  have haw := Lib.hid (rec_awake w ht hp)
  clear ht
  go_enter Tryd.func5, Tryd.ntmps5
  go_wp2_with fail
  (with_reducible refine haw.out.mono ?_)
  rintro e w1 ⟨rfl, b1⟩
  by_cases h1 : (20 : Int) < (ls.length : Int)
  · go_wp2
    go_ret
    exact ⟨rfl, b1⟩
  by_cases h2 : first < 1
  · go_wp2
    go_ret
    exact ⟨rfl, b1⟩
  by_cases h3 : 1099511627776 < first
  · go_wp2
    go_ret
    exact ⟨rfl, b1⟩
  obtain ⟨n, rfl⟩ := Int.eq_ofNat_of_zero_le (by omega : 0 ≤ first)
  have n1 : 1 ≤ n := by omega
  have n2 : n ≤ 1099511627776 := by omega
  have l20 : ls.length ≤ 20 := by omega
  have HWF := Lib.hid hwf
  clear hwf hwc
  have s1 := b1.size
  go_wp2
  go_loopw [7, 8, 9] (fun v wh t wr => ∃ (k W : Nat) (Bs : List UInt8), k ≤ ls.length ∧ t = .int .i64 k ∧ wh = .int .i64 W ∧ Bs.length ≤ 116 * k ∧ Hid (Bs = catR n (ls.take k)) ∧ Hid (0 ≤ cut → W = fitR (ls.take k) cut.toNat) ∧ Hid (∀ x ∈ ls.take k, x.length ≤ 100) ∧ wr.ownsRow w.heap.size 5 1 v Bs.length (Lib.byteCells Bs) ∧ Below w.heap.size w wr) (fun _ _ t _ => ls.length - (intOf t).toNat)
  case atStart => exact ⟨0, 0, [], Nat.zero_le _, rfl, rfl, Nat.le_refl _, by simp [Hid, catR], fun _ => by simp [fitR], by simp [Hid], World.ownsRow_nil _ _ _ _, b1⟩
  case round =>
    obtain ⟨k, W, Bs, hk, rfl, rfl, hbl, HB, HW, HX, hown, hb⟩ := hrel
    have hsz := hb.size
    obtain ⟨Ab, capb, rfl, hcapb, hcm, htb⟩ := TB.of_own hown
    by_cases hlt : k < ls.length
    · obtain ⟨b, o, v, rfl, ⟨A1, cap1, hv, hcap1, _, hr1⟩, hcell⟩ := (hrd.below BytesR.keeps hb (Nat.le_refl _)).one k hlt
      obtain rfl : v = .slice A1 ls[k].length cap1 := by simpa using hv
      obtain ⟨x, hx⟩ : ∃ x, ls[k] = x := ⟨_, rfl⟩
      rw [hx] at hcell hr1 hcap1
      have HXX := Lib.hid hx
      clear hv hx
      by_cases hx100 : (100 : Int) < (x.length : Int)
      · go_wp2
        go_ret
        exact ⟨rfl, hb⟩
      · obtain ⟨C2, hC2⟩ : ∃ C2, Bs ++ putR (n + k) x = C2 := ⟨_, rfl⟩
        have hl2 : C2.length = Bs.length + (16 + x.length) := by rw [← hC2, List.length_append, putR_len]
        have hput := put_any Ab Bs capb (n + k) A1 x cap1 wr htb.rd hr1 (by omega) (by unfold goodB; simp; omega) (by omega) (HT.out.below hb hp) (Nat.lt_of_lt_of_le hp hsz)
        rw [hC2, show ((n + k : Nat) : Int) = (n : Int) + (k : Int) by omega] at hput
        have HP := Lib.hid hput
        have hBs : C2 = catR n (ls.take (k + 1)) := by
          rw [List.take_succ_eq_append_getElem hlt, catR_snoc, List.length_take, Nat.min_eq_left (by omega), ← HB.out, HXX.out, hC2]
        have HB2 := Lib.hid hBs
        have hW2 : 0 ≤ cut → fitR (ls.take (k + 1)) cut.toNat = if C2.length ≤ cut.toNat then k + 1 else W := by
          intro h0
          have hlen : totR (ls.take k ++ [ls[k]]) = C2.length := by rw [← catR_len n, ← List.take_succ_eq_append_getElem hlt, ← hBs]
          rw [List.take_succ_eq_append_getElem hlt, fitR_snoc, hlen, HW.out h0, List.length_take, Nat.min_eq_left (by omega)]
        have HW2 := Lib.hid hW2
        have hX2 : ∀ y ∈ ls.take (k + 1), y.length ≤ 100 := by
          intro y hy
          rw [List.take_succ_eq_append_getElem hlt, List.mem_append] at hy
          rcases hy with hy | hy
          · exact HX.out y hy
          · simp only [List.mem_singleton] at hy; rw [hy, HXX.out]; omega
        have HX2 := Lib.hid hX2
        have hl3 : C2.length ≤ 116 * (k + 1) := by omega
        clear hput hC2 hBs hW2 hX2 hl2
        have o1 : (0 : Int) ≤ (k : Int) := by omega
        have o2 : (k : Int) < (ls.length : Int) := by omega
        go_wp2_with fail
        (with_reducible refine HP.out.mono ?_)
        rintro e w2 ⟨g, cap, rfl, hown2, b2⟩
        have hown3 := own_mono hown2 hsz
        have hb2 := hb.trans (b2.mono hsz)
        clear hown2 b2
        by_cases hcut : (C2.length : Int) ≤ cut
        · go_wp2
          go_roundw
          case rel => exact ⟨k + 1, k + 1, C2, by omega, by go_num, by go_num, hl3, HB2.out, fun h0 => by rw [HW2.out h0, if_pos (by omega)], HX2.out, hown3, hb2⟩
          case measure => simp [intOf]; omega
        · go_wp2
          go_roundw
          case rel => exact ⟨k + 1, W, C2, by omega, by go_num, rfl, hl3, HB2.out, fun h0 => by rw [HW2.out h0, if_neg (by omega)], HX2.out, hown3, hb2⟩
          case measure => simp [intOf]; omega
    · obtain rfl : k = ls.length := by omega
      by_cases hc1 : cut < 0
      · go_wp2
        go_ret
        exact ⟨rfl, hb⟩
      by_cases hc2 : (Bs.length : Int) < cut
      · go_wp2
        go_ret
        exact ⟨rfl, hb⟩
      obtain ⟨q, rfl⟩ := Int.eq_ofNat_of_zero_le (by omega : 0 ≤ cut)
      have hqB : q ≤ Bs.length := by omega
      have hTr : Steps wr := HT.out.below hb hp
      have hpr := Nat.lt_of_lt_of_le hp hsz
      have htl : (Bs.take q).length = q := by rw [List.length_take]; omega
      have hsc : Calls Tryd.prog 10 #[.slice Ab q capb, .int .i64 (n : Int)] wr (ScanPost (Bs.take q) (n : Int) wr) := by
        rcases hown.2 with ⟨hv, h0⟩ | ⟨g, cap, cur, hv, _⟩
        · injection hv with e1 e2 e3
          subst e1 e3
          obtain rfl : q = 0 := by omega
          rw [List.take_zero]
          exact scan_none (n : Int) wr HWF.out hTr hpr
        · injection hv with e1 e2 e3
          subst e1 e3
          have h := scan_any g 0 (Bs.take q) capb (n : Int) wr (htb.rd.take q) (by omega) (by omega) HWF.out hTr hpr
          rw [htl] at h
          exact h
      have hWq : W = fitR ls q := by have h := HW.out (by omega); rwa [List.take_length] at h
      have hWl : W ≤ ls.length := by rw [hWq]; exact fitR_le ls q
      have hscan : scanS (Bs.take q) (n : Int) = (numR n (ls.take W), totR (ls.take W)) := by
        rw [HB.out, List.take_length, hWq]
        refine scan_cut ls n q n1 (by omega) (fun x hx => ?_)
        have h := HX.out x (by rw [List.take_length]; exact hx)
        omega
      have hN : totR (ls.take W) ≤ q := by rw [hWq]; exact totR_fit ls q
      have hnl : (numR n (ls.take W)).length = W := by rw [numR_len, List.length_take]; omega
      have HSC := Lib.hid hsc
      have HSN := Lib.hid hscan
      have HNL := Lib.hid hnl
      clear hsc hscan hnl hWq htl hTr hpr
      have hrdw := hrd.below BytesR.keeps hb (Nat.le_refl _)
      have o3 : (0 : Int) ≤ (q : Int) := by omega
      have o4 : (q : Int) ≤ (capb : Int) := by omega
      go_wp2_with fail
      (with_reducible refine HSC.out.mono ?_)
      rintro e w3 ⟨m, rfl, hsl, b3⟩
      rw [HSN.out] at hsl ⊢
      simp only at hsl ⊢
      obtain ⟨Am, capm, rfl, hcm1, hcm2, hAm⟩ := hsl.shape
      rw [HNL.out] at hcm1 hAm
      have hb3 := hb.trans (b3.mono hsz)
      have hrd3 := hrdw.below BytesR.keeps b3 (Nat.le_refl _)
      have hb3s := b3.size
      rw [HNL.out]
      have HSL := Lib.hid hsl
      clear hrdw b3 hsl hown htb
      generalize hT : totR (ls.take W) = T at *
      have HTT := Lib.hid hT
      clear hT
      have o5 : ¬ (q : Int) < (T : Int) := by omega
      go_wp2
      go_loopw [12, 13] (fun a t wx => ∃ k : Nat, k ≤ W ∧ t = .int .i64 k ∧ a = .int .i64 (totR (ls.take k) : Nat) ∧ Below w3.heap.size w3 wx) (fun _ t _ => W - (intOf t).toNat)
      case atStart => exact ⟨0, Nat.zero_le _, rfl, rfl, Below.refl _ _⟩
      case round =>
        obtain ⟨k, hk, rfl, rfl, hbx⟩ := hrel
        have hbw := hb3.trans (hbx.mono hb3.size)
        by_cases hkW : k < W
        · obtain ⟨g, rfl, hBg⟩ := hAm (by omega)
          have hslx := HSL.out.below RecR.keeps hbx (Nat.le_refl _)
          rw [HNL.out] at hslx
          obtain ⟨cs, ⟨A1, cap1, hcs, hcap1, htb1⟩, hcl, hcell⟩ := hslx.at_ k (by rw [HNL.out]; exact hkW)
          have hkl : k < ls.length := by omega
          have hge := numR_get n (ls.take W) k (by rw [HNL.out]; exact hkW) (by rw [List.length_take]; omega)
          rw [List.getElem_take] at hge
          rw [hge] at hcs hcap1 htb1
          simp only at hcs hcap1 htb1
          have kc0 := hcell 0 (by rw [hcl]; decide)
          have kc1 := hcell 1 (by rw [hcl]; decide)
          simp only [hcs, List.getElem_cons_zero, List.getElem_cons_succ, Nat.add_zero] at kc0 kc1
          clear hcs hcell hcl
          obtain ⟨b, o, v, rfl, ⟨A2, cap2, hv, hcap2, _, hr2⟩, hcell2⟩ := (hrd3.below BytesR.keeps hbx (Nat.le_refl _)).one k hkl
          obtain rfl : v = .slice A2 ls[k].length cap2 := by simpa using hv
          have htt := totR_take ls k hkl
          obtain ⟨x, hx⟩ : ∃ x, ls[k] = x := ⟨_, rfl⟩
          rw [hx] at hcell2 hr2 hcap2 kc1 hcap1 htb1 htt
          have hbx1 := fun W (hw : Rd W A1 x) => hw.backs (P := Tryd.prog) 23 9 5 cap1 Tryd.underlying23 Tryd.underlying5 Tryd.underlying9
          have hbx2 := fun W (hw : Rd W A2 x) => hw.backs (P := Tryd.prog) 23 9 5 cap2 Tryd.underlying23 Tryd.underlying5 Tryd.underlying9
          have hy1 := fun m => hbx1 (wr.drewN m) htb1.rd
          have hy2 := fun m => hbx2 (wr.drewN m) hr2
          have hz1 := hbx1 wr htb1.rd
          have hz2 := hbx2 wr hr2
          have kc2 : wr.cell? ⟨g, k * 2, none⟩ = some (.int .i64 ((n + k : Nat) : Int)) := by rw [Nat.mul_comm]; exact kc0
          have kc3 : wr.cell? ⟨g, k * 2 + 1, none⟩ = some (.slice A1 x.length cap1) := by rw [Nat.mul_comm]; exact kc1
          have e9 : IntKind.i64.wrap ((n : Int) + (k : Int)) = (n : Int) + (k : Int) := IntWalk.i64_in _ (by omega)
          have e10 : (((n + k : Nat) : Int) != (n : Int) + (k : Int)) = false := by rw [bne_eq_false_iff_eq]; omega
          have HTT2 := Lib.hid htt
          have hx100 : x.length ≤ 100 := by
            have h := HX.out x (by rw [List.take_length, ← hx]; exact List.getElem_mem _)
            exact h
          have htb9 : totR (ls.take k) ≤ 116 * 20 := by
            have h := totR_bound (ls.take k) (fun y hy => HX.out y (by rw [List.take_length]; exact List.mem_of_mem_take hy))
            rw [List.length_take] at h
            omega
          have hsz5 : ∀ W : World, Calls Tryd.prog 11 #[.agg #[.int .i64 ((n : Int) + (k : Int)), .slice A1 x.length cap1]] W fun e w' => e = .returned (.int .i64 (16 + (x.length : Int))) ∧ Below W.heap.size W w' := by
            intro W
            have h := size_any ((n : Int) + (k : Int)) A1 x.length cap1 W
            have hg : goodB ((n : Int) + (k : Int)) x.length = true := by unfold goodB; simp; omega
            rw [show ((sizeN ((n : Int) + (k : Int)) x.length : Nat) : Int) = 16 + (x.length : Int) by unfold sizeN; rw [hg, if_pos rfl]; omega] at h
            exact h
          have HSZ := Lib.hid hsz5
          clear hsz5
          clear hbx1 hbx2 htt
          go_wp2_with fail
          go_quiet (fail)
          go_wp2_with fail
          (with_reducible refine (HSZ.out _).mono ?_)
          rintro e w5 ⟨rfl, b5⟩
          have hbf := (below_drewN hbx nq).trans (b5.mono hbx.size)
          go_wp2
          go_roundw
          case rel => exact ⟨k + 1, by omega, by go_num, by rw [HTT2.out]; go_num, hbf⟩
          case measure => simp [intOf]; omega
        · obtain rfl : k = W := by omega
          rw [HTT.out]
          go_wp2
          go_ret
          exact ⟨rfl, hbw⟩
end Go.Proofs.YtpmipnhfbmbjeaaDoor
