/- Package date: Show, the walk. -/
import Derived.Test.YtfigddnkkdgjhaaDoorDatT
set_option linter.unusedVariables false
namespace Go.Proofs.YtfigddnkkdgjhaaDoor
open Go.RowKit

set_option maxRecDepth 100000 in
set_option maxHeartbeats 4000000 in
theorem show_3 (y m d h i s z : Int) (w : World) (ht : Pow10 w) (hp : 0 < w.heap.size) (hg : goodB ⟨y, m, d, h, i, s, z⟩ = true) (hd : ¬ d < 10) (hz : ¬ z < 0) : Calls Tryd.prog 13 #[.agg #[.int .i64 y, .int .i64 m, .int .i64 d, .int .i64 h, .int .i64 i, .int .i64 s, .int .i64 z]] w fun e w' => e = .returned (.string ⟨(showL ⟨y, m, d, h, i, s, z⟩).toArray⟩) ∧ Below w.heap.size w w' := by
  have b := (Below.refl w.heap.size w).alloc (Nat.le_refl _) (.cells #[.int .i64 y, .int .i64 m, .int .i64 d, .int .i64 h, .int .i64 i, .int .i64 s, .int .i64 z] 24)
  have s1 := b.size
  have hc := good_any y m d h i s z (w.alloc (.cells #[.int .i64 y, .int .i64 m, .int .i64 d, .int .i64 h, .int .i64 i, .int .i64 s, .int .i64 z] 24))
  rw [hg] at hc
  have hq := good_parts hg
  simp only at hq
  have hdl := dim_lo y m
  obtain ⟨p1, p2, p3, p4, p5, p6, p7, p8, p9, p10, p11, p12, p13, p14⟩ := hq
  have p6' : d ≤ 31 := by omega
  clear p6 hdl
  have HT := Lib.hid ht
  clear ht
  have HC := Lib.hid hc
  have HG := Lib.hid hg
  clear hc hg
  have hF := Fld.new w 24 y m d h i s z
  obtain ⟨Y, HY⟩ : ∃ Y : ByteArray, Hid (Y = ⟨(Lib.itoa y).toArray⟩) := ⟨_, rfl⟩
  obtain ⟨M, HM⟩ : ∃ M : ByteArray, Hid (M = ⟨(monL m).toArray⟩) := ⟨_, rfl⟩
  obtain ⟨D, HD⟩ : ∃ D : ByteArray, Hid (D = ⟨(d2 d).toArray⟩) := ⟨_, rfl⟩
  obtain ⟨H, HH⟩ : ∃ H : ByteArray, Hid (H = ⟨(d2 h).toArray⟩) := ⟨_, rfl⟩
  obtain ⟨I, HI⟩ : ∃ I : ByteArray, Hid (I = ⟨(d2 i).toArray⟩) := ⟨_, rfl⟩
  obtain ⟨S, HS⟩ : ∃ S : ByteArray, Hid (S = ⟨(d2 s).toArray⟩) := ⟨_, rfl⟩
  have hcY : ∀ W, Bel w W → Calls Tryd.prog 29 #[.int .i64 y] W fun e w' => e = .returned (.string Y) ∧ Below W.heap.size W w' := by
    intro W hW
    rw [HY.out]
    exact itoa_any y (by omega) (by omega) W (HT.out.below hW hp)
  have hcD : ∀ W, Calls Tryd.prog 28 #[.int .i64 d] W fun e w' => e = .returned (.string D) ∧ Below W.heap.size W w' := fun W => by rw [HD.out]; exact two_any d W (by omega) (by omega)
  have hcH : ∀ W, Calls Tryd.prog 28 #[.int .i64 h] W fun e w' => e = .returned (.string H) ∧ Below W.heap.size W w' := fun W => by rw [HH.out]; exact two_any h W (by omega) (by omega)
  have hcI : ∀ W, Calls Tryd.prog 28 #[.int .i64 i] W fun e w' => e = .returned (.string I) ∧ Below W.heap.size W w' := fun W => by rw [HI.out]; exact two_any i W (by omega) (by omega)
  have hcS : ∀ W, Calls Tryd.prog 28 #[.int .i64 s] W fun e w' => e = .returned (.string S) ∧ Below W.heap.size W w' := fun W => by rw [HS.out]; exact two_any s W (by omega) (by omega)
  have lY : Y.size ≤ 21 := by rw [HY.out]; exact Lib.itoa_length_le y (by omega) (by omega)
  have lM : M.size ≤ 3 := by
    rw [HM.out]
    show (monL m).length ≤ 3
    unfold monL; rw [List.length_take]; omega
  have lD : D.size ≤ 2 := by rw [HD.out]; exact Nat.le_refl _
  have lD2 : 2 ≤ D.size := by rw [HD.out]; exact Nat.le_refl _
  have lD3 : (1 : Int) ≤ (D.size : Int) := by omega
  have lH : H.size ≤ 2 := by rw [HH.out]; exact Nat.le_refl _
  have lI : I.size ≤ 2 := by rw [HI.out]; exact Nat.le_refl _
  have lS : S.size ≤ 2 := by rw [HS.out]; exact Nat.le_refl _
  have hmc := mon_cut m p3 p4
  rw [← HM.out] at hmc
  have hz0 : ∀ q, 0 ≤ q → q ≤ 99 → ∃ Z : ByteArray, Hid (Z = ⟨(d2 q).toArray⟩) ∧ Z.size ≤ 2 ∧ ∀ W, Calls Tryd.prog 28 #[.int .i64 q] W fun e w' => e = .returned (.string Z) ∧ Below W.heap.size W w' := fun q h1 h2 => ⟨_, rfl, Nat.le_refl _, fun W => two_any q W h1 h2⟩
  obtain ⟨DD, HDD⟩ : ∃ DD : ByteArray, Hid (DD = ⟨(dayL d).toArray⟩) := ⟨_, rfl⟩
  have hDD : DD = D := by rw [HDD.out, HD.out]; unfold dayL; rw [if_neg hd]
  subst hDD
  have lDD : DD.size ≤ 3 := by omega
  go_enter Tryd.func13, Tryd.ntmps13
  go_wp2_with fail
  refine HC.out.mono ?_
  rintro e w1 ⟨rfl, b1⟩
  obtain ⟨c0, c1, c2, c3, c4, c5, c6⟩ := hF.below b1
  have b2 := b.trans (b1.mono s1)
  go_wp2_with fail
  refine (hcD w1).mono ?_
  rintro e w2 ⟨rfl, b3⟩
  obtain ⟨c0, c1, c2, c3, c4, c5, c6⟩ := (hF.below b1).below b3
  have b4 := b2.trans (b3.mono b2.size)
  clear b1 b2 b3
  go_wp2_with fail
  go_quiet (fail)
  go_wp2_with fail
  have e1 : IntKind.i64.wrap (3 * m) = 3 * m := IntWalk.i64_in _ (by omega)
  have e2 : IntKind.i64.wrap (3 * m - 3) = 3 * m - 3 := IntWalk.i64_in _ (by omega)
  have e3 : 3 ≤ 3 * m := by omega
  have e6 : 0 ≤ 3 * m := by omega
  have e7 : max (3 * m) 0 = 3 * m := by omega
  have e4 : 3 * m - 3 ≤ 3 * m := by omega
  have e5 : 3 * m ≤ 36 := by omega
  have z1 : z.tdiv 60 = z / 60 := tdiv_nn _ _ (by omega)
  have z2 : z.tmod 60 = z % 60 := Int.tmod_eq_emod_of_nonneg (by omega)
  have z3 : IntKind.i64.wrap (z / 60) = z / 60 := IntWalk.i64_in _ (by omega)
  obtain ⟨Z1, HZ1, l1, hcZ⟩ := hz0 (z / 60) (by omega) (by omega)
  obtain ⟨Z2, HZ2, l2, hcZ'⟩ := hz0 (z % 60) (by omega) (by omega)
  have kn2 : (9223372036854775807 < DD.size + 1) = False := by simp; omega
  have ki2 : (IntKind.i64.max < (DD.size : Int) + 1) = False := by simp [IntKind.max, IntKind.bits, IntKind.signed]; omega
  have kn3 : (9223372036854775807 < DD.size + 1 + M.size) = False := by simp; omega
  have ki3 : (IntKind.i64.max < (DD.size : Int) + 1 + (M.size : Int)) = False := by simp [IntKind.max, IntKind.bits, IntKind.signed]; omega
  have kn4 : (9223372036854775807 < DD.size + 1 + M.size + 1) = False := by simp; omega
  have ki4 : (IntKind.i64.max < (DD.size : Int) + 1 + (M.size : Int) + 1) = False := by simp [IntKind.max, IntKind.bits, IntKind.signed]; omega
  have kn5 : (9223372036854775807 < DD.size + 1 + M.size + 1 + Y.size) = False := by simp; omega
  have ki5 : (IntKind.i64.max < (DD.size : Int) + 1 + (M.size : Int) + 1 + (Y.size : Int)) = False := by simp [IntKind.max, IntKind.bits, IntKind.signed]; omega
  have kn6 : (9223372036854775807 < DD.size + 1 + M.size + 1 + Y.size + 1) = False := by simp; omega
  have ki6 : (IntKind.i64.max < (DD.size : Int) + 1 + (M.size : Int) + 1 + (Y.size : Int) + 1) = False := by simp [IntKind.max, IntKind.bits, IntKind.signed]; omega
  have kn7 : (9223372036854775807 < DD.size + 1 + M.size + 1 + Y.size + 1 + H.size) = False := by simp; omega
  have ki7 : (IntKind.i64.max < (DD.size : Int) + 1 + (M.size : Int) + 1 + (Y.size : Int) + 1 + (H.size : Int)) = False := by simp [IntKind.max, IntKind.bits, IntKind.signed]; omega
  have kn8 : (9223372036854775807 < DD.size + 1 + M.size + 1 + Y.size + 1 + H.size + 1) = False := by simp; omega
  have ki8 : (IntKind.i64.max < (DD.size : Int) + 1 + (M.size : Int) + 1 + (Y.size : Int) + 1 + (H.size : Int) + 1) = False := by simp [IntKind.max, IntKind.bits, IntKind.signed]; omega
  have kn9 : (9223372036854775807 < DD.size + 1 + M.size + 1 + Y.size + 1 + H.size + 1 + I.size) = False := by simp; omega
  have ki9 : (IntKind.i64.max < (DD.size : Int) + 1 + (M.size : Int) + 1 + (Y.size : Int) + 1 + (H.size : Int) + 1 + (I.size : Int)) = False := by simp [IntKind.max, IntKind.bits, IntKind.signed]; omega
  have kn10 : (9223372036854775807 < DD.size + 1 + M.size + 1 + Y.size + 1 + H.size + 1 + I.size + 1) = False := by simp; omega
  have ki10 : (IntKind.i64.max < (DD.size : Int) + 1 + (M.size : Int) + 1 + (Y.size : Int) + 1 + (H.size : Int) + 1 + (I.size : Int) + 1) = False := by simp [IntKind.max, IntKind.bits, IntKind.signed]; omega
  have kn11 : (9223372036854775807 < DD.size + 1 + M.size + 1 + Y.size + 1 + H.size + 1 + I.size + 1 + S.size) = False := by simp; omega
  have ki11 : (IntKind.i64.max < (DD.size : Int) + 1 + (M.size : Int) + 1 + (Y.size : Int) + 1 + (H.size : Int) + 1 + (I.size : Int) + 1 + (S.size : Int)) = False := by simp [IntKind.max, IntKind.bits, IntKind.signed]; omega
  have kn12 : (9223372036854775807 < DD.size + 1 + M.size + 1 + Y.size + 1 + H.size + 1 + I.size + 1 + S.size + 1) = False := by simp; omega
  have ki12 : (IntKind.i64.max < (DD.size : Int) + 1 + (M.size : Int) + 1 + (Y.size : Int) + 1 + (H.size : Int) + 1 + (I.size : Int) + 1 + (S.size : Int) + 1) = False := by simp [IntKind.max, IntKind.bits, IntKind.signed]; omega
  have kn13 : (9223372036854775807 < DD.size + 1 + M.size + 1 + Y.size + 1 + H.size + 1 + I.size + 1 + S.size + 1 + 1) = False := by simp; omega
  have ki13 : (IntKind.i64.max < (DD.size : Int) + 1 + (M.size : Int) + 1 + (Y.size : Int) + 1 + (H.size : Int) + 1 + (I.size : Int) + 1 + (S.size : Int) + 1 + 1) = False := by simp [IntKind.max, IntKind.bits, IntKind.signed]; omega
  have kn14 : (9223372036854775807 < DD.size + 1 + M.size + 1 + Y.size + 1 + H.size + 1 + I.size + 1 + S.size + 1 + 1 + Z1.size) = False := by simp; omega
  have ki14 : (IntKind.i64.max < (DD.size : Int) + 1 + (M.size : Int) + 1 + (Y.size : Int) + 1 + (H.size : Int) + 1 + (I.size : Int) + 1 + (S.size : Int) + 1 + 1 + (Z1.size : Int)) = False := by simp [IntKind.max, IntKind.bits, IntKind.signed]; omega
  have kn15 : (9223372036854775807 < DD.size + 1 + M.size + 1 + Y.size + 1 + H.size + 1 + I.size + 1 + S.size + 1 + 1 + Z1.size + Z2.size) = False := by simp; omega
  have ki15 : (IntKind.i64.max < (DD.size : Int) + 1 + (M.size : Int) + 1 + (Y.size : Int) + 1 + (H.size : Int) + 1 + (I.size : Int) + 1 + (S.size : Int) + 1 + 1 + (Z1.size : Int) + (Z2.size : Int)) = False := by simp [IntKind.max, IntKind.bits, IntKind.signed]; omega
  have hB2 : ∀ n, Bel w (w2.drewN n) := fun n => below_drewN b4 n
  go_region_held3 (fun W => W.cell? ⟨w.heap.size, 0, none⟩ = some (.int .i64 y) ∧ W.cell? ⟨w.heap.size, 1, none⟩ = some (.int .i64 m) ∧ W.cell? ⟨w.heap.size, 3, none⟩ = some (.int .i64 h) ∧ W.cell? ⟨w.heap.size, 4, none⟩ = some (.int .i64 i) ∧ W.cell? ⟨w.heap.size, 5, none⟩ = some (.int .i64 s) ∧ Bel w W) (first | exact ⟨c0, c1, c3, c4, c5, Below.drew (below_drewN b4 _)⟩ | exact sh_next ‹_› (hB2 _) c0 c1 c3 c4 c5 | (go_split_ands; exact sh_next ‹_› ‹_› ‹_› ‹_› ‹_› ‹_› ‹_›)) (first
    | (go_at_call 29; (with_reducible refine (hcY _ ?_).mono ?_); (first | assumption | exact hB2 _); rintro e w5 ⟨rfl, b5⟩)
    | (go_at_call 28; with_reducible refine (hcH _).mono ?_; rintro e w5 ⟨rfl, b5⟩)
    | (go_at_call 28; with_reducible refine (hcI _).mono ?_; rintro e w5 ⟨rfl, b5⟩)
    | (go_at_call 28; with_reducible refine (hcS _).mono ?_; rintro e w5 ⟨rfl, b5⟩)
    | (go_at_call 28; with_reducible refine (hcZ _).mono ?_; rintro e w5 ⟨rfl, b5⟩)
    | (go_at_call 28; with_reducible refine (hcZ' _).mono ?_; rintro e w5 ⟨rfl, b5⟩))
  go_wp2
  go_ret
  refine ⟨ret_str ?_, ?_⟩
  · rw [HDD.out, HM.out, HY.out, HH.out, HI.out, HS.out, HZ1.out, HZ2.out]
    rw [show_pos y m d h i s z (by omega)]
    exact cat_all _ _ _ _ _ _ [43] _ _
  · go_split_ands
    first | assumption | exact bel_end ‹_› ‹_›
end Go.Proofs.YtfigddnkkdgjhaaDoor
