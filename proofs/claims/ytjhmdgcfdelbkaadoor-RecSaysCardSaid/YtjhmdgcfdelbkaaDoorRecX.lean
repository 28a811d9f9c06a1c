/- The reference's GetRec in one contract, and its Scan (chapter 5). -/
import Derived.Test.YtjhmdgcfdelbkaaDoorRecW
set_option linter.unusedVariables false
namespace Go.Proofs.YtjhmdgcfdelbkaaDoor
open Go.RowKit

set_option maxHeartbeats 1000000 in
theorem getr_any (A : Option Addr) (l : List UInt8) (c : Nat) (w : World) (hr : Rd w A l) (hc : l.length ≤ c) (hll : l.length ≤ 1000000) :
    Calls Tryd.prog 8 #[.slice A l.length c] w (GetPost l w) := by
  by_cases h4 : l.length < 4
  · have e : getE l = 8 := by unfold getE; rw [if_pos h4]
    refine (getr_more1 A l c w h4).mono ?_
    rintro e' w' ⟨rfl, b⟩
    exact ⟨b, .inl ⟨by rw [e]; decide, by rw [e]; rfl⟩⟩
  obtain ⟨g, o, rfl, _, _⟩ := hr (by omega)
  by_cases hbig : 200000 < getSz l
  · have e : getE l = 3 := by unfold getE; rw [if_neg h4, if_pos hbig]
    refine (getr_form1 g o l c w hr hc (by omega) hbig).mono ?_
    rintro e' w' ⟨rfl, b⟩
    exact ⟨b, .inl ⟨by rw [e]; decide, by rw [e]; rfl⟩⟩
  by_cases hsh : l.length < 16 + getSz l
  · have e : getE l = 8 := by unfold getE; rw [if_neg h4, if_neg hbig, if_pos hsh]
    refine (getr_more2 g o l c w hr hc (by omega) (by unfold getSz at hbig; omega) hsh).mono ?_
    rintro e' w' ⟨rfl, b⟩
    exact ⟨b, .inl ⟨by rw [e]; decide, by rw [e]; rfl⟩⟩
  have hx64 : getNum l < 18446744073709551616 := by
    have h1 := beN_lt ((l.drop 4).take 8)
    have h2 : ((l.drop 4).take 8).length = 8 := by rw [List.length_take, List.length_drop]; omega
    rw [h2] at h1
    exact h1
  by_cases hneg : 9223372036854775808 ≤ getNum l ∨ getNum l < 1
  · have e : getE l = 3 := by unfold getE; rw [if_neg h4, if_neg hbig, if_neg hsh, if_pos hneg]
    have hw : IntKind.i64.wrap (getNum l : Int) = if 9223372036854775808 ≤ getNum l then (getNum l : Int) - 18446744073709551616 else (getNum l : Int) := by
      rw [IntKind.wrap_i64]; split <;> omega
    refine (getr_neg g o l c (getSz l) (getNum l) w hr hc rfl (by omega) (by omega) hll rfl _ hw (by split <;> omega) (12 + getSz l) (12 + getSz l + 4) ⟨rfl, rfl⟩).mono ?_
    rintro e' w' ⟨rfl, b⟩
    exact ⟨b, .inl ⟨by rw [e]; decide, by rw [e]; rfl⟩⟩
  refine (getr_whole g o l c (getSz l) (getNum l) w hr hc rfl (by omega) (by omega) hll rfl (by omega) (by omega) (crcAdd 0 (l.take (12 + getSz l))) (beN ((l.drop (12 + getSz l)).take 4)) (12 + getSz l) (12 + getSz l + 4) ⟨rfl, rfl⟩ rfl rfl).mono ?_
  rintro e' w' ⟨h1, h2, b⟩
  by_cases hy : crcAdd 0 (l.take (12 + getSz l)) = beN ((l.drop (12 + getSz l)).take 4)
  · have e : getE l = 0 := by unfold getE; rw [if_neg h4, if_neg hbig, if_neg hsh, if_neg hneg, if_pos hy]
    obtain ⟨g', cap, rfl, hcap, htb⟩ := h2 hy
    have hb := (getE_0 e).2.2.1
    refine ⟨b, .inr ⟨e, g', cap, by rw [hb], by rw [hb]; exact hcap, htb⟩⟩
  · have e : getE l = 3 := by unfold getE; rw [if_neg h4, if_neg hbig, if_neg hsh, if_neg hneg, if_neg hy]
    refine ⟨b, .inl ⟨by rw [e]; decide, by rw [h1 hy, e]; rfl⟩⟩
theorem RecR.keepsRowR : KeepsRow RecR 30 := by
  rintro w w' cs x row ⟨A, cap, rfl, hc, ht⟩ hg hr
  exact ⟨A, cap, rfl, hc, ht.grown hg hr (by decide)⟩
theorem recInfoR : (Tryd.prog.info? 30).map (fun i => (i.zero, i.size, i.bytes)) = some (some (.agg #[.int .i64 0, .slice none 0 0]), 2, 32) := by kernel_rfl

def ScanPostR (l : List UInt8) (first : Int) (w : World) (e : Ending) (w' : World) : Prop := ∃ v, e = .returned (.tuple #[v, .int .i64 ((scanS l first).2 : Int)]) ∧ SlR RecR 30 2 w' w.heap.size v (scanS l first).1 ∧ Below w.heap.size w w'
theorem scan_endR {l : List UInt8} {first : Int} {w w' : World} {v : Value} {done : List (Int × List UInt8)} {k : Nat} (h : Hid (scanS l first = (done, k))) (hs : SlR RecR 30 2 w' w.heap.size v done) (hb : Below w.heap.size w w') : ScanPostR l first w (.returned (.tuple #[v, .int .i64 (k : Int)])) w' := by
  refine ⟨v, ?_, ?_, hb⟩
  · rw [h.out]
  · rw [h.out]; exact hs
set_option maxRecDepth 100000 in
set_option maxHeartbeats 1000000 in
theorem scanr_any (g o : Nat) (l : List UInt8) (c : Nat) (first : Int) (w : World) (hr : Rd w (some ⟨g, o, none⟩) l) (hc : l.length ≤ c) (hll : l.length ≤ 1000000) (hf : (Lit.int .i64 first).wf = true) :
    Calls Tryd.prog 10 #[.slice (some ⟨g, o, none⟩) l.length c, .int .i64 first] w (ScanPostR l first w) := by
  obtain ⟨i0, hi0, hz0, hz1, hz2⟩ := info_parts recInfoR
  have hf' : -9223372036854775808 ≤ first ∧ first ≤ 9223372036854775807 := by simpa [Lit.wf, IntKind.min, IntKind.max, IntKind.signed, IntKind.bits] using hf
  clear hf
  go_enter Tryd.func10, Tryd.ntmps10
  go_wp2
  go_loopw [6, 7, 1] (fun v n t wr => ∃ (done : List (Int × List UInt8)) (k : Nat) (want : Int), k ≤ l.length ∧ n = .int .i64 k ∧ t = .int .i64 want ∧ -9223372036854775808 ≤ want ∧ want ≤ 9223372036854775807 ∧ Hid (scanS l first = (done ++ (scanS (l.drop k) want).1, k + (scanS (l.drop k) want).2)) ∧ done.length ≤ k ∧ SlR RecR 30 2 wr w.heap.size v done ∧ Below w.heap.size w wr) (fun _ n _ _ => l.length - (intOf n).toNat)
  case atStart => exact ⟨[], 0, first, Nat.zero_le _, rfl, rfl, hf'.1, hf'.2, by show _ = _; simp, Nat.le_refl _, SlR.nil, Below.refl _ _⟩
  case round =>
    obtain ⟨done, k, want, hk, rfl, rfl, hw1, hw2, HS, hdl, hsl, hb⟩ := hrel
    have hsz := hb.size
    have hrk := hr.below hb
    have o1 : (k : Int) ≤ (l.length : Int) := by omega
    by_cases hck : c = k
    · have hk0 : l.drop k = [] := List.drop_eq_nil_of_le (by omega)
      have hno := scanS_no [] want (fun h => absurd h.1 (by decide))
      have hres : scanS l first = (done, k) := by rw [HS.out, hk0, hno]; simp
      have HRS := Lib.hid hres
      subst hck
      have hlk : l.length - c = 0 := by omega
      have hcall : Calls Tryd.prog 8 #[.slice (some ⟨g, o, none⟩) 0 0] wr (GetPost [] wr) := getr_any (some ⟨g, o, none⟩) [] 0 wr Rd.nil (Nat.zero_le _) (by decide)
      have HC := Lib.hid hcall
      clear hres hk0 hno hcall
      have he8 : getE ([] : List UInt8) = 8 := by decide
      go_wp2_with fail
      (with_reducible refine HC.out.mono ?_)
      rintro e w1 ⟨b1, hpost⟩
      have b2 := hb.trans (b1.mono hsz)
      have b3 := b2.alloc b2.size (.cells #[.int .i64 0, .slice none 0 0] 30)
      have hs3 := (hsl.below RecR.keeps b1 (Nat.le_refl _)).below RecR.keeps ((Below.refl w1.heap.size w1).alloc (Nat.le_refl _) (.cells #[.int .i64 0, .slice none 0 0] 30)) (Nat.le_refl _)
      rcases hpost with ⟨-, rfl⟩ | ⟨he, -⟩
      · rw [he8]
        go_wp2
        go_ret2
        exact scan_endR HRS hs3 b3
      · rw [he8] at he; exact absurd he (by decide)
    · have hcall := getr_any (some ⟨g, o + k, none⟩) (l.drop k) (c - k) wr (by have h := Rd.win hrk k (l.length - k); rwa [List.take_of_length_le (by rw [List.length_drop]; exact Nat.le_refl _)] at h) (by rw [List.length_drop]; omega) (by rw [List.length_drop]; omega)
      rw [List.length_drop] at hcall
      have HC := Lib.hid hcall
      have HLD := Lib.hid (show (l.drop k).length = l.length - k by rw [List.length_drop])
      clear hcall
      go_wp2_with fail
      (with_reducible refine HC.out.mono ?_)
      rintro e w1 ⟨b1, hpost⟩
      have b2 := hb.trans (b1.mono hsz)
      have hs1 := hsl.below RecR.keeps b1 (Nat.le_refl _)
      rcases hpost with ⟨he, rfl⟩ | ⟨he, A1, cap1, rfl, hc1, htb⟩
      · have hres : scanS l first = (done, k) := by rw [HS.out, scanS_no _ _ (fun h => he h.1)]; simp
        have HRS := Lib.hid hres
        have e1 : (getE (l.drop k) != 0) = true := by simp [he]
        have b3 := b2.alloc b2.size (.cells #[.int .i64 0, .slice none 0 0] 30)
        have hs3 := hs1.below RecR.keeps ((Below.refl w1.heap.size w1).alloc (Nat.le_refl _) (.cells #[.int .i64 0, .slice none 0 0] 30)) (Nat.le_refl _)
        clear he hres
        go_wp2
        go_ret2
        exact scan_endR HRS hs3 b3
      · obtain ⟨g0, _, g2, g3, g4⟩ := getE_0 he
        obtain ⟨N, hN⟩ : ∃ N, getNum (l.drop k) = N := ⟨_, rfl⟩
        obtain ⟨Bd, hBd⟩ : ∃ Bd, getBody (l.drop k) = Bd := ⟨_, rfl⟩
        rw [hN] at g3 g4
        rw [hBd] at g2 hc1 htb
        rw [hN, hBd]
        have hbl : 16 + Bd.length ≤ l.length - k := by have := HLD.out; omega
        have b3 := b2.alloc b2.size (.cells #[.int .i64 (N : Int), .slice A1 Bd.length cap1] 30)
        have hs3 := hs1.below RecR.keeps ((Below.refl w1.heap.size w1).alloc (Nat.le_refl _) (.cells #[.int .i64 (N : Int), .slice A1 Bd.length cap1] 30)) (Nat.le_refl _)
        have HE := Lib.hid he
        have HN := Lib.hid hN
        have HBd := Lib.hid hBd
        clear he hN hBd g0 g2
        by_cases hnw : (N : Int) = want
        · have e1 : ((N : Int) != want) = false := by simp [hnw]
          have htb3 : TB (w1.alloc (.cells #[.int .i64 (N : Int), .slice A1 Bd.length cap1] 30)) A1 Bd := htb.below ((Below.refl w1.heap.size w1).alloc (Nat.le_refl _) _) (Nat.le_refl _)
          have hcond : getE (l.drop k) = 0 ∧ (getNum (l.drop k) : Int) = want := ⟨HE.out, by rw [HN.out]; exact hnw⟩
          have HCO := Lib.hid hcond
          have HNW := Lib.hid hnw
          obtain ⟨cells, how, hel⟩ := hs3
          have b4 := b3.alloc b3.size (.cells #[.int .i64 (N : Int), .slice A1 Bd.length cap1] 30)
          have hel4 := hel.below RecR.keeps ((Below.refl _ _).alloc (Nat.le_refl _) (.cells #[.int .i64 (N : Int), .slice A1 Bd.length cap1] 30)) (Nat.le_refl _)
          have htb4 := htb3.below ((Below.refl _ _).alloc (Nat.le_refl _) (.cells #[.int .i64 (N : Int), .slice A1 Bd.length cap1] 30)) (Nat.le_refl _)
          have how4 := how.alloc (.cells #[.int .i64 (N : Int), .slice A1 Bd.length cap1] 30)
          have hnc := new_cells (w1.alloc (.cells #[.int .i64 (N : Int), .slice A1 Bd.length cap1] 30)) (.int .i64 (N : Int)) (.slice A1 Bd.length cap1) 30
          rw [show (w1.alloc (.cells #[.int .i64 (N : Int), .slice A1 Bd.length cap1] 30)).heap.size = w1.heap.size + 1 by simp] at hnc
          have hd63 : done.length + 1 ≤ maxLen := by unfold maxLen; omega
          have hd47 : (done.length + 1) * 32 ≤ 140737488355328 := by omega
          have hsb : w.heap.size ≤ ((w1.alloc (.cells #[.int .i64 (N : Int), .slice A1 Bd.length cap1] 30)).alloc (.cells #[.int .i64 (N : Int), .slice A1 Bd.length cap1] 30)).heap.size := b4.size
          clear hcond hnw
          go_wp2_with (at_builtin; refine wpList_append_own _ rfl _ _ 38 rfl w.heap.size 30 i0 (.agg #[.int .i64 0, .slice none 0 0]) 2 32 Tryd.underlying38 hi0 hz0 hz1 hz2 rfl (by decide) _ done.length cells rfl how4 ⟨w1.heap.size + 1, 0, none⟩ 1 1 [.int .i64 (N : Int), .slice A1 Bd.length cap1] rfl rfl hnc (by intro u hu; simp at hu; rcases hu with rfl | rfl <;> rfl) hd63 hd47 hsb ?_)
          intro v2 w2 hown2 g2 _
          have hx : RecR _ [.int .i64 (N : Int), .slice A1 Bd.length cap1] ((N : Int), Bd) := ⟨A1, cap1, rfl, hc1, htb4⟩
          have hs5 := SlR.push RecR.keepsRowR how4 hel4 rfl hx hown2 g2
          have b5 := b4.grown g2 hsb (fun k hk => (how4.lt k hk).1)
          clear hown2 g2 hx how4 hel4 htb4 htb3 hel how b4 b3 hs1
          have e2 : IntKind.i64.wrap ((k : Int) + ((16 + Bd.length : Nat) : Int)) = ((k + (16 + Bd.length) : Nat) : Int) := by rw [IntKind.wrap_i64]; omega
          by_cases hmx : want = 9223372036854775807
          · have hres : scanS l first = (done ++ [((N : Int), Bd)], k + (16 + Bd.length)) := by
              rw [HS.out, scanS_last _ _ HCO.out hmx, HBd.out, ← HNW.out]
            have HRS := Lib.hid hres
            clear hres
            go_wp2
            go_ret2
            exact scan_endR HRS hs5 b5
          · have hres : scanS l first = ((done ++ [((N : Int), Bd)]) ++ (scanS (l.drop (k + (16 + Bd.length))) (want + 1)).1, (k + (16 + Bd.length)) + (scanS (l.drop (k + (16 + Bd.length))) (want + 1)).2) := by
              rw [HS.out, scanS_more _ _ HCO.out hmx, HBd.out, ← HNW.out, List.drop_drop]
              simp [Nat.add_assoc]
            have HRS := Lib.hid hres
            have e3 : (want == 9223372036854775807) = false := by simp [hmx]
            clear hres
            go_wp2
            go_roundw
            case rel => exact ⟨done ++ [((N : Int), Bd)], k + (16 + Bd.length), want + 1, by omega, by go_num, rfl, by omega, by omega, HRS, by simp; omega, hs5, b5⟩
            case measure => simp [intOf]; omega
        · have e1 : ((N : Int) != want) = true := by simp [hnw]
          have hres : scanS l first = (done, k) := by rw [HS.out, scanS_no _ _ (fun h => hnw (by rw [← HN.out]; exact h.2))]; simp
          have HRS := Lib.hid hres
          clear hres hnw
          go_wp2
          go_ret2
          exact scan_endR HRS hs3 b3
end Go.Proofs.YtjhmdgcfdelbkaaDoor
