/- The walk of the law RecSays. -/
import Derived.Test.YtjhmdgcfdelbkaaDoorRecX
import Derived.Test.YtjhmdgcfdelbkaaDoorRecE
import Derived.IntWalk
set_option linter.unusedVariables false
namespace Go.Proofs.YtjhmdgcfdelbkaaDoor
open Go.RowKit

theorem scan_none' (A : Option Addr) (c : Nat) (first : Int) (w : World) (hf : (Lit.int .i64 first).wf = true) (ht : Steps w) (hp : 0 < w.heap.size) :
    Calls Tryd.prog 9 #[.slice A 0 c, .int .i64 first] w (ScanPost [] first w) := by
  have hcall : ∀ A' c', Calls Tryd.prog 7 #[.slice A' 0 c'] w (GetPost [] w) := fun A' c' => get_any A' [] c' w Rd.nil (Nat.zero_le _) (by decide) ht hp
  have HC := Lib.hid hcall
  have he8 : getE ([] : List UInt8) = 8 := by decide
  have hres : scanS [] first = ([], 0) := scanS_no [] first (fun h => absurd h.1 (by decide))
  have HRS := Lib.hid hres
  clear hcall ht hf hres
  rcases A with _ | a
  all_goals by_cases hc0 : c = 0
  all_goals (
    first | subst hc0 | skip
    go_enter Tryd.func9, Tryd.ntmps9
    go_wp2
    refine wp_loop_rounds 1 ?_
    rw [rounds_succ]
    go_wp2_with fail
    (with_reducible refine (HC.out _ _).mono ?_)
    rintro e w1 ⟨b1, hpost⟩
    have b3 := b1.alloc b1.size (.cells #[.int .i64 0, .slice none 0 0] 24)
    rcases hpost with ⟨-, rfl⟩ | ⟨he, -⟩
    · rw [he8]
      go_wp2
      go_ret2
      exact scan_end HRS SlR.nil b3
    · rw [he8] at he; exact absurd he (by decide))
theorem scanr_none' (A : Option Addr) (c : Nat) (first : Int) (w : World) (hf : (Lit.int .i64 first).wf = true) :
    Calls Tryd.prog 10 #[.slice A 0 c, .int .i64 first] w (ScanPostR [] first w) := by
  have hcall : ∀ A' c', Calls Tryd.prog 8 #[.slice A' 0 c'] w (GetPost [] w) := fun A' c' => getr_any A' [] c' w Rd.nil (Nat.zero_le _) (by decide)
  have HC := Lib.hid hcall
  have he8 : getE ([] : List UInt8) = 8 := by decide
  have hres : scanS [] first = ([], 0) := scanS_no [] first (fun h => absurd h.1 (by decide))
  have HRS := Lib.hid hres
  clear hcall hf hres
  rcases A with _ | a
  all_goals by_cases hc0 : c = 0
  all_goals (
    first | subst hc0 | skip
    go_enter Tryd.func10, Tryd.ntmps10
    go_wp2
    refine wp_loop_rounds 1 ?_
    rw [rounds_succ]
    go_wp2_with fail
    (with_reducible refine (HC.out _ _).mono ?_)
    rintro e w1 ⟨b1, hpost⟩
    have b3 := b1.alloc b1.size (.cells #[.int .i64 0, .slice none 0 0] 30)
    rcases hpost with ⟨-, rfl⟩ | ⟨he, -⟩
    · rw [he8]
      go_wp2
      go_ret2
      exact scan_endR HRS SlR.nil b3
    · rw [he8] at he; exact absurd he (by decide))
theorem scan_p (A : Option Addr) (l : List UInt8) (c : Nat) (first : Int) (w : World) (hr : Rd w A l) (hc : l.length ≤ c) (hll : l.length ≤ 1000000) (hf : (Lit.int .i64 first).wf = true) (ht : Steps w) (hp : 0 < w.heap.size) :
    Calls Tryd.prog 9 #[.slice A l.length c, .int .i64 first] w (ScanPost l first w) := by
  by_cases h0 : 0 < l.length
  · obtain ⟨b, o, rfl, _⟩ := id hr h0
    exact scan_any b o l c first w hr hc hll hf ht hp
  · obtain rfl : l = [] := List.eq_nil_of_length_eq_zero (by omega)
    exact scan_none' A c first w hf ht hp
theorem scanr_p (A : Option Addr) (l : List UInt8) (c : Nat) (first : Int) (w : World) (hr : Rd w A l) (hc : l.length ≤ c) (hll : l.length ≤ 1000000) (hf : (Lit.int .i64 first).wf = true) :
    Calls Tryd.prog 10 #[.slice A l.length c, .int .i64 first] w (ScanPostR l first w) := by
  by_cases h0 : 0 < l.length
  · obtain ⟨b, o, rfl, _⟩ := id hr h0
    exact scanr_any b o l c first w hr hc hll hf
  · obtain rfl : l = [] := List.eq_nil_of_length_eq_zero (by omega)
    exact scanr_none' A c first w hf

/-- What Get answers, in one. -/
structure GetA where
  num : Int
  body : List UInt8
  n : Int
  err : Int
def getF (l : List UInt8) : GetA := if getE l = 0 then ⟨getNum l, getBody l, ((16 + (getBody l).length : Nat) : Int), 0⟩ else ⟨0, [], 0, getE l⟩
def GetU (a : GetA) (w : World) (e : Ending) (w' : World) : Prop := ∃ A cap, e = .returned (.tuple #[.agg #[.int .i64 a.num, .slice A a.body.length cap], .int .i64 a.n, .int .i64 a.err]) ∧ Rd w' A a.body ∧ Below w.heap.size w w'
theorem get_u {l : List UInt8} {w : World} {e : Ending} {w' : World} (h : GetPost l w e w') : GetU (getF l) w e w' := by
  obtain ⟨b, h⟩ := h
  unfold getF
  rcases h with ⟨h0, rfl⟩ | ⟨h0, A, cap, rfl, _, htb⟩
  · rw [if_neg h0]
    exact ⟨none, 0, rfl, Rd.nil, b⟩
  · rw [if_pos h0]
    exact ⟨A, cap, rfl, htb.rd, b⟩

set_option maxRecDepth 100000 in
set_option maxHeartbeats 4000000 in
theorem says_walk (num : Int) (Ab : Option Addr) (body : List UInt8) (cb : Nat) (B : Option Addr) (lb : List UInt8) (c2 : Nat) (first : Int) (w : World) (hwn : (Lit.int .i64 num).wf = true) (hrb : Rd w Ab body) (hcb : body.length ≤ cb) (_hm : cb ≤ maxLen) (hrl : Rd w B lb) (hcl : lb.length ≤ c2) (_hm2 : c2 ≤ maxLen) (hwf : (Lit.int .i64 first).wf = true) (ht : Steps w) (hp : 0 < w.heap.size) :
    Calls Tryd.prog 3 #[.agg #[.int .i64 num, .slice Ab body.length cb], .slice B lb.length c2, .int .i64 first] w fun e w' => e = .returned (.bool true) ∧ Below w.heap.size w w' := by
  have hnum : num < 9223372036854775808 := by
    have h : -9223372036854775808 ≤ num ∧ num ≤ 9223372036854775807 := by simpa [Lit.wf, IntKind.min, IntKind.max, IntKind.signed, IntKind.bits] using hwn
    omega
  have b0 := (Below.refl w.heap.size w).alloc (Nat.le_refl _) (.cells #[.int .i64 num, .slice Ab body.length cb] 24)
  have s0 : (w.alloc (.cells #[.int .i64 num, .slice Ab body.length cb] 24)).heap.size = w.heap.size + 1 := by simp
  have haw := Lib.hid (rec_awake _ (ht.below b0 hp) (Nat.lt_of_lt_of_le hp b0.size))
  go_enter Tryd.func3, Tryd.ntmps3
  go_wp2_with fail
  (with_reducible refine haw.out.mono ?_)
  rintro e w1 ⟨rfl, b1⟩
  have c0 : w1.cell? ⟨w.heap.size, 0, none⟩ = some (.int .i64 num) := (b1.cell (p := ⟨w.heap.size, 0, none⟩) (by simp)).trans (by simp)
  have c1 : w1.cell? ⟨w.heap.size, 1, none⟩ = some (.slice Ab body.length cb) := (b1.cell (p := ⟨w.heap.size, 1, none⟩) (by simp)).trans (by simp)
  have t1 := b0.trans (b1.mono b0.size)
  have s1 : w.heap.size < w1.heap.size := by have := b1.size; omega
  clear b1 haw
  by_cases h1 : (500 : Int) < (body.length : Int)
  · go_wp2
    go_ret
    exact ⟨rfl, t1⟩
  by_cases h2 : (900 : Int) < (lb.length : Int)
  · go_wp2
    go_ret
    exact ⟨rfl, t1⟩
  have hll : lb.length ≤ 900 := by omega
  have qP := Lib.hid (put_p B lb c2 num Ab body cb w1 (hrl.below t1) (hrb.below t1) (by omega) hnum (ht.below t1 hp) (Nat.lt_of_lt_of_le hp t1.size))
  have qQ : Hid (∀ V, Below w.heap.size w V → Calls Tryd.prog 6 #[.slice B lb.length c2, .agg #[.int .i64 num, .slice Ab body.length cb]] V (PutP (putF lb num body) V)) := fun V hV => putrec_p B lb c2 num Ab body cb V (hrl.below hV) (hrb.below hV) (by omega) hnum
  have qG : Hid (∀ V, Below w.heap.size w V → Calls Tryd.prog 7 #[.slice B lb.length c2] V (GetU (getF lb) V)) := fun V hV => (get_any B lb c2 V (hrl.below hV) hcl (by omega) (ht.below hV hp) (Nat.lt_of_lt_of_le hp hV.size)).mono fun e w' h => get_u h
  have qH : Hid (∀ V, Below w.heap.size w V → Calls Tryd.prog 8 #[.slice B lb.length c2] V (GetU (getF lb) V)) := fun V hV => (getr_any B lb c2 V (hrl.below hV) hcl (by omega)).mono fun e w' h => get_u h
  have qS : Hid (∀ V, Below w.heap.size w V → Calls Tryd.prog 9 #[.slice B lb.length c2, .int .i64 first] V (ScanPost lb first V)) := fun V hV => scan_p B lb c2 first V (hrl.below hV) hcl (by omega) hwf (ht.below hV hp) (Nat.lt_of_lt_of_le hp hV.size)
  have qT : Hid (∀ V, Below w.heap.size w V → Calls Tryd.prog 10 #[.slice B lb.length c2, .int .i64 first] V (ScanPostR lb first V)) := fun V hV => scanr_p B lb c2 first V (hrl.below hV) hcl (by omega) hwf
  clear ht hrb hrl hwn hwf hcb hcl
  generalize putF lb num body = F at qP qQ
  generalize getF lb = G at qG qH
  go_wp2_with fail
  (with_reducible refine qP.out.mono ?_)
  rintro e w2 ⟨A2, cap2, rfl, r2, _, b2⟩
  have t2 := t1.trans (b2.mono t1.size)
  have s2 : w.heap.size < w2.heap.size := by have := b2.size; omega
  have c0 := (b2.cell (p := ⟨w.heap.size, 0, none⟩) s1).trans c0
  have c1 := (b2.cell (p := ⟨w.heap.size, 1, none⟩) s1).trans c1
  clear b2
  go_wp2_with fail
  (with_reducible refine (qQ.out _ t2).mono ?_)
  rintro e w3 ⟨A3, cap3, rfl, r3, _, b3⟩
  have t3 := t2.trans (b3.mono t2.size)
  have r2 := r2.below b3
  clear b3 c0 c1 qP qQ
  go_wp2_with fail
  (with_reducible refine (qG.out _ t3).mono ?_)
  rintro e w4 ⟨A4, cap4, rfl, r4, b4⟩
  have t4 := t3.trans (b4.mono t3.size)
  have r2 := r2.below b4
  have r3 := r3.below b4
  clear b4
  obtain ⟨gn, gb, gz, ge⟩ := G
  obtain ⟨fp, fe⟩ := F
  dsimp only at r2 r3 r4 qH ⊢
  have u4 := (Below.refl w4.heap.size w4).alloc (Nat.le_refl _) (.cells #[.int .i64 gn, .slice A4 gb.length cap4] 24)
  have v4 := t4.trans (u4.mono t4.size)
  have z4 : (w4.alloc (.cells #[.int .i64 gn, .slice A4 gb.length cap4] 24)).heap.size = w4.heap.size + 1 := by simp
  have x0 : (w4.alloc (.cells #[.int .i64 gn, .slice A4 gb.length cap4] 24)).cell? ⟨w4.heap.size, 0, none⟩ = some (.int .i64 gn) := by simp
  have x1 : (w4.alloc (.cells #[.int .i64 gn, .slice A4 gb.length cap4] 24)).cell? ⟨w4.heap.size, 1, none⟩ = some (.slice A4 gb.length cap4) := by simp
  go_wp2_with fail
  (with_reducible refine (qH.out _ v4).mono ?_)
  rintro e w5 ⟨A5, cap5, rfl, r5, b5⟩
  dsimp only at r5 ⊢
  have t5 := v4.trans (b5.mono v4.size)
  have z5 : w4.heap.size < w5.heap.size := by have := b5.size; omega
  have x0 := (b5.cell (p := ⟨w4.heap.size, 0, none⟩) (by simp)).trans x0
  have x1 := (b5.cell (p := ⟨w4.heap.size, 1, none⟩) (by simp)).trans x1
  have d5 := u4.trans (b5.mono u4.size)
  have r2 := r2.below d5
  have r3 := r3.below d5
  have r4 := r4.below d5
  have u5 := (Below.refl w5.heap.size w5).alloc (Nat.le_refl _) (.cells #[.int .i64 gn, .slice A5 gb.length cap5] 30)
  have v5 := t5.trans (u5.mono t5.size)
  have z6 : (w5.alloc (.cells #[.int .i64 gn, .slice A5 gb.length cap5] 30)).heap.size = w5.heap.size + 1 := by simp
  have y0 : (w5.alloc (.cells #[.int .i64 gn, .slice A5 gb.length cap5] 30)).cell? ⟨w5.heap.size, 0, none⟩ = some (.int .i64 gn) := by simp
  have y1 : (w5.alloc (.cells #[.int .i64 gn, .slice A5 gb.length cap5] 30)).cell? ⟨w5.heap.size, 1, none⟩ = some (.slice A5 gb.length cap5) := by simp
  clear b5 d5 u4 v4 z4 t4 qG qH
  go_wp2_with fail
  (with_reducible refine (qS.out _ v5).mono ?_)
  rintro e w6 ⟨V6, rfl, h6, b6⟩
  have t6 := v5.trans (b6.mono v5.size)
  have d6 := u5.trans (b6.mono u5.size)
  have z7 : w5.heap.size < w6.heap.size := by have := b6.size; omega
  have x0 := (d6.cell (p := ⟨w4.heap.size, 0, none⟩) z5).trans x0
  have x1 := (d6.cell (p := ⟨w4.heap.size, 1, none⟩) z5).trans x1
  have y0 := (b6.cell (p := ⟨w5.heap.size, 0, none⟩) (by simp)).trans y0
  have y1 := (b6.cell (p := ⟨w5.heap.size, 1, none⟩) (by simp)).trans y1
  have r2 := r2.below d6
  have r3 := r3.below d6
  have r4 := r4.below d6
  have r5 := r5.below d6
  have z8 : w4.heap.size < w6.heap.size := by omega
  clear b6 d6 u5 v5 z6 t5 qS
  go_wp2_with fail
  (with_reducible refine (qT.out _ t6).mono ?_)
  rintro e w7 ⟨V7, rfl, h7, b7⟩
  have t7 := t6.trans (b7.mono t6.size)
  have x0 := (b7.cell (p := ⟨w4.heap.size, 0, none⟩) z8).trans x0
  have x1 := (b7.cell (p := ⟨w4.heap.size, 1, none⟩) z8).trans x1
  have y0 := (b7.cell (p := ⟨w5.heap.size, 0, none⟩) z7).trans y0
  have y1 := (b7.cell (p := ⟨w5.heap.size, 1, none⟩) z7).trans y1
  have r2 := r2.below b7
  have r3 := r3.below b7
  have r4 := r4.below b7
  have r5 := r5.below b7
  have h6 := h6.below RecR.keeps b7 (Nat.le_refl _)
  clear b7 t6 z7 z8 z5 qT
  generalize scanS lb first = Z at *
  obtain ⟨xs, zn⟩ := Z
  dsimp only at h6 h7 ⊢
  obtain ⟨A6, cap6, rfl, h61, h62, h63⟩ := h6.shape
  obtain ⟨A7, cap7, rfl, h71, h72, h73⟩ := h7.shape
  have hxl : xs.length ≤ 9223372036854775807 := by unfold maxLen at h62; omega
  have cv2 := r2.backs (P := Tryd.prog) 22 9 5 cap2 Tryd.underlying22 Tryd.underlying5 Tryd.underlying9
  have cv3 := r3.backs (P := Tryd.prog) 22 9 5 cap3 Tryd.underlying22 Tryd.underlying5 Tryd.underlying9
  have cv4 := r4.backs (P := Tryd.prog) 22 9 5 cap4 Tryd.underlying22 Tryd.underlying5 Tryd.underlying9
  have cv5 := r5.backs (P := Tryd.prog) 22 9 5 cap5 Tryd.underlying22 Tryd.underlying5 Tryd.underlying9
  clear r2 r3 r4 r5
  have H6 := Lib.hid h6
  have H7 := Lib.hid h7
  clear h6 h7
  go_wp2
  go_loopw [21] (fun t wx => ∃ k : Nat, k ≤ xs.length ∧ t = .int .i64 k ∧ Below w7.heap.size w7 wx) (fun t _ => xs.length - (intOf t).toNat)
  case atStart => exact ⟨0, Nat.zero_le _, rfl, Below.refl _ _⟩
  case round =>
    obtain ⟨k, hk, rfl, hbx⟩ := hrel
    have hbw := t7.trans (hbx.mono t7.size)
    by_cases hkW : k < xs.length
    · obtain ⟨g, rfl, hBg⟩ := h63 (by omega)
      obtain ⟨g', rfl, hBg'⟩ := h73 (by omega)
      obtain ⟨cs, ⟨A1, cap1, hcs, hcap1, htb1⟩, hcl, hcell⟩ := (H6.out.below RecR.keeps hbx (Nat.le_refl _)).at_ k hkW
      obtain ⟨cs', ⟨A1', cap1', hcs', hcap1', htb1'⟩, hcl', hcell'⟩ := (H7.out.below RecR.keeps hbx (Nat.le_refl _)).at_ k hkW
      generalize xs[k] = x at *
      obtain ⟨xn, xb⟩ := x
      dsimp only at hcs hcap1 htb1 hcs' hcap1' htb1'
      have kc0 := hcell 0 (by rw [hcl]; decide)
      have kc1 := hcell 1 (by rw [hcl]; decide)
      have kd0 := hcell' 0 (by rw [hcl']; decide)
      have kd1 := hcell' 1 (by rw [hcl']; decide)
      simp only [hcs, hcs', List.getElem_cons_zero, List.getElem_cons_succ, Nat.add_zero] at kc0 kc1 kd0 kd1
      clear hcs hcell hcl hcs' hcell' hcl'
      have cw1 := fun m => (Rd.backs (P := Tryd.prog) (show Rd (wr.drewN m) A1 xb from htb1.rd)) 22 9 5 cap1 Tryd.underlying22 Tryd.underlying5 Tryd.underlying9
      have cw2 := fun m => (Rd.backs (P := Tryd.prog) (show Rd (wr.drewN m) A1' xb from htb1'.rd)) 22 9 5 cap1' Tryd.underlying22 Tryd.underlying5 Tryd.underlying9
      have cw3 := htb1.rd.backs (P := Tryd.prog) 22 9 5 cap1 Tryd.underlying22 Tryd.underlying5 Tryd.underlying9
      have cw4 := htb1'.rd.backs (P := Tryd.prog) 22 9 5 cap1' Tryd.underlying22 Tryd.underlying5 Tryd.underlying9
      have kc2 : wr.cell? ⟨g, k * 2, none⟩ = some (.int .i64 xn) := by rw [Nat.mul_comm]; exact kc0
      have kc3 : wr.cell? ⟨g, k * 2 + 1, none⟩ = some (.slice A1 xb.length cap1) := by rw [Nat.mul_comm]; exact kc1
      have kd2 : wr.cell? ⟨g', k * 2, none⟩ = some (.int .i64 xn) := by rw [Nat.mul_comm]; exact kd0
      have kd3 : wr.cell? ⟨g', k * 2 + 1, none⟩ = some (.slice A1' xb.length cap1') := by rw [Nat.mul_comm]; exact kd1
      have o1 : (0 : Int) ≤ (k : Int) := by omega
      have o2 : (k : Int) < (xs.length : Int) := by omega
      clear cv2 cv3 cv4 cv5 x0 x1 y0 y1
      go_wp2_with fail
      go_quiet (fail)
      go_wp2
      go_roundw
      case rel => exact ⟨k + 1, by omega, by go_num, below_drewN hbx nq⟩
      case measure => simp [intOf]; omega
    · obtain rfl : k = xs.length := by omega
      go_wp2
      go_ret
      exact ⟨rfl, hbw⟩
end Go.Proofs.YtjhmdgcfdelbkaaDoor
