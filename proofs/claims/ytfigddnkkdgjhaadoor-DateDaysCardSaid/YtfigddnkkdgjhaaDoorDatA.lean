/- Package date: its functions on numbers: within, leap, daysIn, daysTo. -/
import Derived.Test.YtfigddnkkdgjhaaDoorDatM
import Derived.IntWalk
import Derived.Deep.RegionWith
set_option linter.unusedVariables false
namespace Go.Proofs.YtfigddnkkdgjhaaDoor
open Go.RowKit

def inB (n a b : Int) : Bool := decide (a ≤ n ∧ n ≤ b)
set_option maxHeartbeats 400000 in
theorem within_any (n a b : Int) (w : World) : Calls Tryd.prog 26 #[.int .i64 n, .int .i64 a, .int .i64 b] w fun e w' => e = .returned (.bool (inB n a b)) ∧ w = w' := by
  by_cases h1 : a ≤ n
  · by_cases h2 : n ≤ b
    · go_enter Tryd.func26, Tryd.ntmps26
      go_wp2
      go_ret
      exact ⟨ret_bool (by unfold inB; simp; omega), rfl⟩
    · go_enter Tryd.func26, Tryd.ntmps26
      go_wp2
      go_ret
      exact ⟨ret_bool (by unfold inB; simp; omega), rfl⟩
  · go_enter Tryd.func26, Tryd.ntmps26
    go_wp2
    go_ret
    exact ⟨ret_bool (by unfold inB; simp; omega), rfl⟩

theorem mod_f (y k : Int) (h : ¬ y % k = 0) : (y % k == 0) = false ∧ (y % k != 0) = true := by simp [h]
theorem mod_t (y k : Int) (h : y % k = 0) : (y % k == 0) = true ∧ (y % k != 0) = false := by simp [h]
set_option maxHeartbeats 400000 in
theorem leap_any (y : Int) (w : World) (h0 : 0 ≤ y) (h1 : y ≤ 1000000) : Calls Tryd.prog 44 #[.int .i64 y] w fun e w' => e = .returned (.bool (lpB y)) ∧ w = w' := by
  by_cases h4 : y % 4 = 0
  · by_cases h100 : y % 100 = 0
    · by_cases h400 : y % 400 = 0
      · obtain ⟨a1, a2⟩ := mod_t y 4 h4
        obtain ⟨b1, b2⟩ := mod_t y 100 h100
        obtain ⟨c1, c2⟩ := mod_t y 400 h400
        have H := Lib.hid (And.intro h4 (And.intro h100 h400))
        clear h4 h100 h400
        go_enter Tryd.func44, Tryd.ntmps44
        go_wp2
        go_ret
        exact ⟨ret_bool (by have := H.out; unfold lpB; simp; omega), rfl⟩
      · obtain ⟨a1, a2⟩ := mod_t y 4 h4
        obtain ⟨b1, b2⟩ := mod_t y 100 h100
        obtain ⟨c1, c2⟩ := mod_f y 400 h400
        have H := Lib.hid (And.intro h4 (And.intro h100 h400))
        clear h4 h100 h400
        go_enter Tryd.func44, Tryd.ntmps44
        go_wp2
        go_ret
        exact ⟨ret_bool (by have := H.out; unfold lpB; simp; omega), rfl⟩
    · obtain ⟨a1, a2⟩ := mod_t y 4 h4
      obtain ⟨b1, b2⟩ := mod_f y 100 h100
      have H := Lib.hid (And.intro h4 h100)
      clear h4 h100
      go_enter Tryd.func44, Tryd.ntmps44
      go_wp2
      go_ret
      exact ⟨ret_bool (by have := H.out; unfold lpB; simp; omega), rfl⟩
  · obtain ⟨a1, a2⟩ := mod_f y 4 h4
    have H := Lib.hid h4
    clear h4
    go_enter Tryd.func44, Tryd.ntmps44
    go_wp2
    go_ret
    exact ⟨ret_bool (by have := H.out; unfold lpB; simp; omega), rfl⟩

set_option maxHeartbeats 400000 in
theorem daysIn_any (y m : Int) (w : World) (h0 : 0 ≤ y) (h1 : y ≤ 1000000) : Calls Tryd.prog 37 #[.int .i64 y, .int .i64 m] w fun e w' => e = .returned (.int .i64 (dim y m)) ∧ w = w' := by
  by_cases h2 : m = 2
  · subst h2
    cases hl : lpB y
    · have hc := leap_any y w h0 h1
      rw [hl] at hc
      have HL := Lib.hid hl
      clear hl
      go_enter Tryd.func37, Tryd.ntmps37
      go_wp2_with (go_at_call 44; refine hc.mono ?_; rintro e w' ⟨rfl, rfl⟩)
      go_ret
      exact ⟨ret_int (by unfold dim; rw [HL.out]; rfl), rfl⟩
    · have hc := leap_any y w h0 h1
      rw [hl] at hc
      have HL := Lib.hid hl
      clear hl
      go_enter Tryd.func37, Tryd.ntmps37
      go_wp2_with (go_at_call 44; refine hc.mono ?_; rintro e w' ⟨rfl, rfl⟩)
      go_ret
      exact ⟨ret_int (by unfold dim; rw [HL.out]; rfl), rfl⟩
  · have e2 : (m == 2) = false := by simp [h2]
    by_cases h4 : m = 4 ∨ m = 6 ∨ m = 9 ∨ m = 11
    · have H : Hid (dim y m = 30) := by show _ = _; unfold dim; rw [if_neg h2, if_pos h4]
      clear h2
      rcases h4 with rfl | rfl | rfl | rfl
      all_goals
        go_enter Tryd.func37, Tryd.ntmps37
        go_wp2
        go_ret
        exact ⟨ret_int H.out.symm, rfl⟩
    · have H : Hid (dim y m = 31) := by show _ = _; unfold dim; rw [if_neg h2, if_neg h4]
      have e4 : (m == 4) = false := by simp; omega
      have e6 : (m == 6) = false := by simp; omega
      have e9 : (m == 9) = false := by simp; omega
      have e11 : (m == 11) = false := by simp; omega
      clear h2 h4
      go_enter Tryd.func37, Tryd.ntmps37
      go_wp2
      go_ret
      exact ⟨ret_int H.out.symm, rfl⟩

theorem tdiv_nn (a b : Int) (h : 0 ≤ a) : a.tdiv b = a / b := Int.tdiv_eq_ediv_of_nonneg h
theorem dayN_bd (y m d : Int) (h0 : 1 ≤ y) (h1 : y ≤ 1000000) (hm1 : 1 ≤ m) (hm2 : m ≤ 13) (hd : -1000 ≤ d) (hd2 : d ≤ 1000) : -1000000000 ≤ dayN y m d ∧ dayN y m d ≤ 1000000000 := by
  have a := cum_nonneg y (m - 1).toNat
  have b := cum_le y (m - 1).toNat 12 (by omega)
  have c := cum12 y
  have e : (if lpB y then (1 : Int) else 0) ≤ 1 := by split <;> omega
  unfold dayN dby
  omega

set_option maxHeartbeats 1000000 in
theorem daysTo_any (y m d : Int) (w : World) (h0 : 1 ≤ y) (h1 : y ≤ 20000) (hm1 : 1 ≤ m) (hm2 : m ≤ 13) (hd : 0 ≤ d) (hd2 : d ≤ 1000) : Calls Tryd.prog 25 #[.int .i64 y, .int .i64 m, .int .i64 d] w fun e w' => e = .returned (.int .i64 (dayN y m d)) ∧ w = w' := by
  go_enter Tryd.func25, Tryd.ntmps25
  go_wp2
  go_loop [9, 10] (fun t k => ∃ j : Int, 1 ≤ j ∧ j ≤ m ∧ k = .int .i64 j ∧ t = .int .i64 (dayN y j d)) (fun _ k => (m - intOf k).toNat)
  case atStart => exact ⟨1, by omega, by omega, rfl, by unfold dayN dby; rw [show ((1 : Int) - 1).toNat = 0 from rfl]; simp only [cumN]; congr 1; omega⟩
  case round =>
    obtain ⟨j, hj1, hj2, rfl, rfl⟩ := hrel
    have hb := dayN_bd y j d (by omega) (by omega) (by omega) (by omega) (by omega) (by omega)
    by_cases hlt : j < m
    · have hdl := dim_lo y j
      have hs : dayN y (j + 1) d = dayN y j d + dim y j := by
        have := cum_succ y j hj1
        unfold dayN
        rw [show j + 1 - 1 = j by omega, this]; omega
      have HS := Lib.hid hs
      clear hs
      go_wp2_with (go_at_call 37; refine (daysIn_any _ _ _ (by omega) (by omega)).mono ?_; rintro e w' ⟨rfl, rfl⟩)
      go_round
      case rel => exact ⟨j + 1, by omega, by omega, rfl, by rw [HS.out]⟩
      case measure => simp [intOf]; omega
    · obtain rfl : j = m := by omega
      go_wp2
      go_ret
      exact ⟨rfl, rfl⟩
end Go.Proofs.YtfigddnkkdgjhaaDoor
