/- Package date: dayOf, Of. -/
import Derived.Test.YtfigddnkkdgjhaaDoorDatB
set_option linter.unusedVariables false
namespace Go.Proofs.YtfigddnkkdgjhaaDoor
open Go.RowKit

def DayIs (n y m d : Int) : Prop := 1970 ≤ y ∧ y ≤ 9999 ∧ 1 ≤ m ∧ m ≤ 12 ∧ 1 ≤ d ∧ d ≤ dim y m ∧ dayN y m d = n
theorem dayN_first (y : Int) : dayN y 1 1 = dby y := by
  unfold dayN; rw [show ((1 : Int) - 1).toNat = 0 from rfl]; simp only [cumN]; omega
theorem day_exists : ∀ n : Nat, n ≤ 2932896 → ∃ y m d, DayIs n y m d := by
  intro n
  induction n with
  | zero => exact fun _ => ⟨1970, 1, 1, by decide, by decide, by decide, by decide, by decide, by decide, by rw [dayN_first, dby_1970]; rfl⟩
  | succ n ih =>
    intro hn
    obtain ⟨y, m, d, h1, h2, h3, h4, h5, h6, h7⟩ := ih (by omega)
    by_cases hd : d < dim y m
    · exact ⟨y, m, d + 1, h1, h2, h3, h4, by omega, by omega, by unfold dayN at *; omega⟩
    · obtain rfl : d = dim y m := by omega
      by_cases hm : m < 12
      · have := dim_lo y (m + 1)
        have hc := cum_succ y m h3
        refine ⟨y, m + 1, 1, h1, h2, by omega, by omega, by omega, by omega, ?_⟩
        unfold dayN at *
        rw [show m + 1 - 1 = m by omega, hc]
        omega
      · obtain rfl : m = 12 := by omega
        have hc := cum_succ y 12 (by omega)
        have hs := dby_succ y
        have hN : dby (y + 1) = n + 1 := by
          unfold dayN at h7
          rw [hs, show (12 : Nat) = (12 : Int).toNat from rfl, hc]
          omega
        have hy : y + 1 ≤ 9999 := by
          apply Decidable.byContradiction
          intro hh
          have := dby_mono 10000 (y + 1) (by omega)
          rw [dby_10000] at this
          omega
        have := dim_lo (y + 1) 1
        exact ⟨y + 1, 1, 1, by omega, hy, by omega, by omega, by omega, by omega, by rw [dayN_first, hN]; omega⟩
theorem of_exists (u z : Int) (h : ofOk u z = true) : ∃ t, OfIs u z t := by
  have h' := of_decide_eq_true h
  obtain ⟨n, hn⟩ : ∃ n : Nat, (n : Int) = (u + z * 60) / 86400 := ⟨((u + z * 60) / 86400).toNat, by omega⟩
  obtain ⟨y, m, d, h1, h2, h3, h4, h5, h6, h7⟩ := day_exists n (by omega)
  exact ⟨_, of_make u z y m d h h1 h2 h3 h4 h5 h6 (by rw [h7, hn])⟩
theorem dby_366 (y : Int) (h : 1970 ≤ y) : dby y ≤ (y - 1970) * 366 := by unfold dby; omega

set_option maxHeartbeats 1000000 in
theorem dayOf_any (n y m d : Int) (w : World) (h : DayIs n y m d) : Calls Tryd.prog 27 #[.int .i64 n] w fun e w' => e = .returned (.tuple #[.int .i64 y, .int .i64 m, .int .i64 d]) ∧ w = w' := by
  obtain ⟨h1, h2, h3, h4, h5, h6, h7⟩ := h
  have hdy := day_year y m d h3 h4 h5 h6
  rw [h7] at hdy
  obtain ⟨g1, g2⟩ := hdy
  have hn0 : 0 ≤ n := by have := dby_mono 1970 y h1; rw [dby_1970] at this; omega
  have hn9 : n ≤ 3000000 := by have := dby_mono (y + 1) 10000 (by omega); rw [dby_10000] at this; omega
  have hst : 1970 + n / 366 ≤ y := by have := dby_366 (y + 1) (by omega); omega
  have H6 := Lib.hid h6
  have H7 := Lib.hid h7
  clear h6 h7
  go_enter Tryd.func27, Tryd.ntmps27
  go_wp2
  go_loop [2] (fun t => ∃ k : Int, 1970 ≤ k ∧ k ≤ y ∧ t = .int .i64 k) (fun t => (y - intOf t).toNat)
  case atStart => exact ⟨_, by omega, hst, rfl⟩
  case round =>
    obtain ⟨k, k1, k2, rfl⟩ := hrel
    have hc := daysTo_any (k + 1) 1 1
    rw [dayN_first] at hc
    by_cases hk : k < y
    · have hl : dby (k + 1) ≤ n := by have := dby_mono (k + 1) y (by omega); omega
      go_wp2_with (go_at_call 25; refine (hc _ (by omega) (by omega) (by omega) (by omega) (by omega) (by omega)).mono ?_; rintro e w' ⟨rfl, rfl⟩)
      go_round
      case rel => exact ⟨k + 1, by omega, by omega, rfl⟩
      case measure => simp [intOf]; omega
    · obtain rfl : k = y := by omega
      have hl : ¬ dby (k + 1) ≤ n := by omega
      go_wp2_with (go_at_call 25; refine (hc _ (by omega) (by omega) (by omega) (by omega) (by omega) (by omega)).mono ?_; rintro e w' ⟨rfl, rfl⟩)
      clear hl hc
      go_loop [3] (fun t => ∃ j : Int, 1 ≤ j ∧ j ≤ m ∧ t = .int .i64 j) (fun t => (m - intOf t).toNat)
      case atStart => exact ⟨1, by omega, h3, rfl⟩
      case round =>
        obtain ⟨j, j1, j2, rfl⟩ := hrel
        have hdl := dim_lo k j
        by_cases hj : j < m
        · have hl : dayN k j (dim k j) < n := by
            have := day_month k j m j1 hj
            rw [← H7.out]
            unfold dayN
            omega
          go_wp2_with (first | (go_at_call 25; (with_reducible refine (daysTo_any _ _ _ _ (by omega) (by omega) (by omega) (by omega) (by omega) (by omega)).mono ?_); rintro e w' ⟨rfl, rfl⟩) | (go_at_call 37; (with_reducible refine (daysIn_any _ _ _ (by omega) (by omega)).mono ?_); rintro e w' ⟨rfl, rfl⟩))
          go_round
          case rel => exact ⟨j + 1, by omega, by omega, rfl⟩
          case measure => simp [intOf]; omega
        · obtain rfl : j = m := by omega
          have hl : ¬ dayN k j (dim k j) < n := by
            rw [← H7.out]
            have := H6.out
            unfold dayN
            omega
          have hlast : n - dayN k j 1 + 1 = d := by
            rw [← H7.out]
            unfold dayN
            omega
          have HL := Lib.hid hlast
          have hb := dayN_bd k j 1 (by omega) (by omega) (by omega) (by omega) (by omega) (by omega)
          clear hlast
          go_wp2_with (first | (go_at_call 25; (with_reducible refine (daysTo_any _ _ _ _ (by omega) (by omega) (by omega) (by omega) (by omega) (by omega)).mono ?_); rintro e w' ⟨rfl, rfl⟩) | (go_at_call 37; (with_reducible refine (daysIn_any _ _ _ (by omega) (by omega)).mono ?_); rintro e w' ⟨rfl, rfl⟩))
          go_ret3
          exact ⟨ret_tup3 rfl rfl (show Value.int .i64 (n - dayN k j 1 + 1) = _ by rw [HL.out]), rfl⟩

def zeroDate : Value := .agg #[.int .i64 0, .int .i64 0, .int .i64 0, .int .i64 0, .int .i64 0, .int .i64 0, .int .i64 0]
theorem end_call : ∀ w : World, Calls Tryd.prog 25 #[.int .i64 10000, .int .i64 1, .int .i64 1] w fun e w' => e = .returned (.int .i64 2932897) ∧ w = w' := fun w => by
  have h := daysTo_any 10000 1 1 w (by decide) (by decide) (by decide) (by decide) (by decide) (by decide)
  rw [dayN_first, dby_10000] at h
  exact h
theorem within_t2 {n a b : Int} (w : World) (h : inB n a b = true) : Calls Tryd.prog 26 #[.int .i64 n, .int .i64 a, .int .i64 b] w fun e w' => e = .returned (.bool true) ∧ w = w' :=
  (within_any n a b w).mono fun _ _ ⟨h1, h2⟩ => ⟨by rw [h1, h], h2⟩
theorem within_f2 {n a b : Int} (w : World) (h : inB n a b = false) : Calls Tryd.prog 26 #[.int .i64 n, .int .i64 a, .int .i64 b] w fun e w' => e = .returned (.bool false) ∧ w = w' :=
  (within_any n a b w).mono fun _ _ ⟨h1, h2⟩ => ⟨by rw [h1, h], h2⟩
set_option maxRecDepth 100000 in
set_option maxHeartbeats 2000000 in
theorem of_no (u z : Int) (w : World) (h : ofOk u z = false) (hu : (Lit.int .i64 u).wf = true) : Calls Tryd.prog 10 #[.int .i64 u, .int .i64 z] w fun e w' => e = .returned (.tuple #[zeroDate, .int .i64 1]) ∧ Below w.heap.size w w' := by
  have h' := of_decide_eq_false h
  cases hz : inB z (-1439) 1439
  · clear h h' hu
    go_enter Tryd.func10, Tryd.ntmps10
    go_wp2_with (first | (go_at_call 25; refine (end_call _).mono ?_; rintro e w' ⟨rfl, rfl⟩) | (go_at_call 26; refine (within_f2 _ hz).mono ?_; rintro e w' ⟨rfl, rfl⟩))
    refine bodyPost_ret (v := .tuple #[zeroDate, .int .i64 1]) (by simp [results, Tryd.results10, zeroDate, go_sem]) rfl ⟨rfl, (Below.refl w.heap.size w).alloc (Nat.le_refl _) _⟩
  · have hzz := inB_t hz
    obtain ⟨z1, z2⟩ := hzz
    clear h hu
    by_cases h1 : u < -86400
    · clear h'
      go_enter Tryd.func10, Tryd.ntmps10
      go_wp2_with (first | (go_at_call 25; refine (end_call _).mono ?_; rintro e w' ⟨rfl, rfl⟩) | (go_at_call 26; refine (within_t2 _ hz).mono ?_; rintro e w' ⟨rfl, rfl⟩))
      refine bodyPost_ret (v := .tuple #[zeroDate, .int .i64 1]) (by simp [results, Tryd.results10, zeroDate, go_sem]) rfl ⟨rfl, (Below.refl w.heap.size w).alloc (Nat.le_refl _) _⟩
    · by_cases h2 : 253402387200 < u
      · clear h'
        go_enter Tryd.func10, Tryd.ntmps10
        go_wp2_with (first | (go_at_call 25; refine (end_call _).mono ?_; rintro e w' ⟨rfl, rfl⟩) | (go_at_call 26; refine (within_t2 _ hz).mono ?_; rintro e w' ⟨rfl, rfl⟩))
        refine bodyPost_ret (v := .tuple #[zeroDate, .int .i64 1]) (by simp [results, Tryd.results10, zeroDate, go_sem]) rfl ⟨rfl, (Below.refl w.heap.size w).alloc (Nat.le_refl _) _⟩
      · by_cases h3 : u + z * 60 < 0
        · clear h'
          go_enter Tryd.func10, Tryd.ntmps10
          go_wp2_with (first | (go_at_call 25; refine (end_call _).mono ?_; rintro e w' ⟨rfl, rfl⟩) | (go_at_call 26; refine (within_t2 _ hz).mono ?_; rintro e w' ⟨rfl, rfl⟩))
          refine bodyPost_ret (v := .tuple #[zeroDate, .int .i64 1]) (by simp [results, Tryd.results10, zeroDate, go_sem]) rfl ⟨rfl, (Below.refl w.heap.size w).alloc (Nat.le_refl _) _⟩
        · have h4 : 253402300800 ≤ u + z * 60 := by omega
          clear h'
          go_enter Tryd.func10, Tryd.ntmps10
          go_wp2_with (first | (go_at_call 25; refine (end_call _).mono ?_; rintro e w' ⟨rfl, rfl⟩) | (go_at_call 26; refine (within_t2 _ hz).mono ?_; rintro e w' ⟨rfl, rfl⟩))
          refine bodyPost_ret (v := .tuple #[zeroDate, .int .i64 1]) (by simp [results, Tryd.results10, zeroDate, go_sem]) rfl ⟨rfl, (Below.refl w.heap.size w).alloc (Nat.le_refl _) _⟩

theorem of_parts {u y m d h i s z : Int} (H : OfIs u z ⟨y, m, d, h, i, s, z⟩) : DayIs ((u + z * 60) / 86400) y m d ∧ (u + z * 60) % 86400 / 3600 = h ∧ (u + z * 60) % 86400 / 60 % 60 = i ∧ (u + z * 60) % 86400 % 60 = s := by
  obtain ⟨h1, _, h3⟩ := H
  obtain ⟨p1, p2, p3, p4, p5, p6, p7, p8, p9, p10, p11, p12, p13, p14⟩ := good_parts h1
  unfold unixI at h3
  simp only at *
  have e1 : u + z * 60 = dayN y m d * 86400 + (h * 3600 + i * 60 + s) := by omega
  have e2 : (u + z * 60) / 86400 = dayN y m d := by rw [e1]; omega
  have e3 : (u + z * 60) % 86400 = h * 3600 + i * 60 + s := by rw [e1]; omega
  refine ⟨⟨p1, p2, p3, p4, p5, p6, e2.symm⟩, ?_, ?_, ?_⟩
  · rw [e3]; omega
  · rw [e3]; omega
  · rw [e3]; omega
set_option maxRecDepth 100000 in
set_option maxHeartbeats 2000000 in
theorem of_yes (u y m d h i s z : Int) (w : World) (H : OfIs u z ⟨y, m, d, h, i, s, z⟩) : Calls Tryd.prog 10 #[.int .i64 u, .int .i64 z] w fun e w' => e = .returned (.tuple #[.agg #[.int .i64 y, .int .i64 m, .int .i64 d, .int .i64 h, .int .i64 i, .int .i64 s, .int .i64 z], .int .i64 0]) ∧ Below w.heap.size w w' := by
  obtain ⟨P1, P2, P3, P4⟩ := of_parts H
  have hok := of_decide_eq_true (of_ok H)
  obtain ⟨z1, z2, z3, z4⟩ := hok
  have hz : inB z (-1439) 1439 = true := by unfold inB; simp; omega
  have h1 : ¬ u < -86400 := by omega
  have h2 : ¬ 253402387200 < u := by omega
  have h3 : ¬ u + z * 60 < 0 := by omega
  have h4 : ¬ 253402300800 ≤ u + z * 60 := by omega
  have HP1 := Lib.hid P1
  have HP := Lib.hid (And.intro P2 (And.intro P3 P4))
  clear H P1 P2 P3 P4
  go_enter Tryd.func10, Tryd.ntmps10
  go_wp2_with (first | (go_at_call 25; refine (end_call _).mono ?_; rintro e w' ⟨rfl, rfl⟩) | (go_at_call 26; refine (within_t2 _ hz).mono ?_; rintro e w' ⟨rfl, rfl⟩) | (go_at_call 27; (with_reducible refine (dayOf_any _ y m d _ HP1.out).mono ?_); rintro e w' ⟨rfl, rfl⟩))
  refine bodyPost_ret (v := .tuple #[.agg #[.int .i64 y, .int .i64 m, .int .i64 d, .int .i64 ((u + z * 60) % 86400 / 3600), .int .i64 ((u + z * 60) % 86400 / 60 % 60), .int .i64 (u % 60), .int .i64 z], .int .i64 0]) (by simp [results, Tryd.results10, go_sem]) rfl ⟨?_, ((Below.refl w.heap.size w).alloc (Nat.le_refl _) _).alloc (by simp) _⟩
  obtain ⟨e1, e2, e3⟩ := HP.out
  have e4 : u % 60 = s := by omega
  rw [e1, e2, e4]
end Go.Proofs.YtfigddnkkdgjhaaDoor
