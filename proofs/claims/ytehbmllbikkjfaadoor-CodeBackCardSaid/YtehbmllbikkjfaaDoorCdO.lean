/- Are lines at most 76 letters? -/
import Derived.Test.YtehbmllbikkjfaaDoorCdN
set_option linter.unusedVariables false
namespace Go.Proofs.YtehbmllbikkjfaaDoor
open Go.RowKit

theorem scan_len : ∀ (l cur : List UInt8), (scan cur l).length ≤ l.length + 1
  | [], cur => by
    rw [scan]
    split <;> simp
  | [c], cur => by
    rw [scan]
    simp
  | c :: d :: r, cur => by
    rw [scan]
    split
    · have := scan_len r []
      simp
      omega
    · have := scan_len (d :: r) (cur ++ [c])
      simp at this ⊢
      omega
theorem RowsV.shape {w : World} {B : Nat} {v : Value} {ls : List (List UInt8)} (h : RowsV w B v ls) : ∃ A cap, v = .slice A ls.length cap := by
  obtain ⟨vs, hown, _⟩ := h
  rcases hown.2 with ⟨rfl, h0⟩ | ⟨g, cap, cur, rfl, _⟩
  · exact ⟨none, 0, by rw [h0]⟩
  · exact ⟨_, _, rfl⟩
theorem RowsV.at_ {w : World} {B n cap : Nat} {A : Option Addr} {ls : List (List UInt8)} (h : RowsV w B (.slice A n cap) ls) (i : Nat) (hi : i < ls.length) :
    ∃ g, A = some ⟨g, 0, none⟩ ∧ n = ls.length ∧ ∃ E c, w.cell? ⟨g, i, none⟩ = some (.slice E ls[i].length c) ∧ Rd w E ls[i] := by
  obtain ⟨vs, hown, hl, he⟩ := h
  obtain ⟨E, c, h1, h2⟩ := he i hi (by omega)
  have hown2 := hown
  rcases hown.2 with ⟨e, h0⟩ | ⟨g, cap', cur, e, _⟩
  · omega
  · injection e with e1 e2 e3
    subst e1 e2 e3
    refine ⟨g, rfl, rfl, E, c, ?_, h2⟩
    rw [hown2.cellAt i (by omega), List.getElem?_eq_getElem (by omega), h1]
theorem okL_len (x : List UInt8) (h : okL x) (hp : 2 ≤ x.length) : x.length ≤ 78 ∧ (x.length ≤ 76 ∨ ∃ h : x.length - 1 < x.length, x[x.length - 1] = 10) := by
  rcases h with h | ⟨y, rfl, h⟩
  · exact ⟨by omega, .inl h⟩
  · refine ⟨by simp; omega, .inr ⟨by omega, ?_⟩⟩
    simp

set_option maxHeartbeats 2000000 in
theorem short_t (A : Option Addr) (l : List UInt8) (n c : Nat) (w : World) (hn : l.length = n) (h : Rd w A l) (hc : l.length ≤ c) (hl : l.length ≤ 100000) (hsh : sh 0 l = true) :
    Calls Tryd.prog 18 #[.slice A n c] w fun e w' => e = .returned (.bool true) ∧ Below w.heap.size w w' := by
  have hlines := Lib.hid (r_lines A l n c w hn h hc hl)
  go_enter Tryd.func18, Tryd.ntmps18
  go_wp2_with ((with_reducible refine hlines.out.mono ?_))
  first | (rintro _ w1 v1 rfl hv1 hb1) | (rintro _ w1 ⟨v1, rfl, hv1, hb1⟩)
  have hok := sh_scan l [] hsh
  obtain ⟨A1, cap1, rfl⟩ := hv1.shape
  obtain ⟨ls, HLS⟩ : ∃ ls, Hid (ls = scan [] l) := ⟨_, rfl⟩
  have hll := scan_len l []
  rw [← HLS.out] at hok hv1 hll ⊢
  have hok := Lib.hid hok
  have hv := Lib.hid hv1
  clear hlines
  go_wp2
  go_loop [4] (fun i => ∃ k : Nat, k ≤ ls.length ∧ i = .int .i64 k) (fun i => ls.length - (intOf i).toNat)
  case atStart => exact ⟨0, Nat.zero_le _, rfl⟩
  case round =>
    obtain ⟨k, hk, rfl⟩ := hrel
    by_cases hlt : k < ls.length
    · have hlt' : (k : Int) < (ls.length : Int) := by omega
      obtain ⟨g, rfl, _, E, ce, hcell, hrd⟩ := hv.out.at_ k hlt
      have hokk := hok.out ls[k] (List.getElem_mem hlt)
      obtain ⟨x, HX⟩ : ∃ x, Hid (x = ls[k]) := ⟨_, Lib.hid rfl⟩
      rw [← HX.out] at hcell hrd hokk
      by_cases h2 : 2 ≤ x.length
      · obtain ⟨h78, hlast⟩ := okL_len x hokk h2
        have h2' : (2 : Int) ≤ (x.length : Int) := by omega
        obtain ⟨b, o, rfl, hb, hcx⟩ := hrd (by omega)
        have hcl := hcx (x.length - 1) (by omega)
        have hi1 : (0 : Int) ≤ (x.length : Int) - 1 := by omega
        have hi2 : (x.length : Int) - 1 < (x.length : Int) := by omega
        have hi3 : ((x.length : Int) - 1).toNat = x.length - 1 := by omega
        by_cases h10 : x[x.length - 1] = 10
        · have t1 : ((x[x.length - 1].toNat : Int) == 10) = true := by rw [h10]; rfl
          have hle : ¬ (76 : Int) < (x.length : Int) - 2 := by omega
          clear hlast h10 hokk
          go_wp2
          go_round
          case rel => exact ⟨k + 1, by omega, by go_num⟩
          case measure => simp [intOf]; omega
        · have t1 : ((x[x.length - 1].toNat : Int) == 10) = false := eq_f (n := 10) (fun e => h10 (UInt8.toNat_inj.1 e))
          have hle : ¬ (76 : Int) < (x.length : Int) := by
            rcases hlast with h | ⟨_, h⟩
            · omega
            · exact absurd h h10
          clear hlast h10 hokk
          go_wp2
          go_round
          case rel => exact ⟨k + 1, by omega, by go_num⟩
          case measure => simp [intOf]; omega
      · have h2' : ¬ (2 : Int) ≤ (x.length : Int) := by omega
        have hle : ¬ (76 : Int) < (x.length : Int) := by omega
        clear hokk
        go_wp2
        go_round
        case rel => exact ⟨k + 1, by omega, by go_num⟩
        case measure => simp [intOf]; omega
    · obtain rfl : k = ls.length := by omega
      have hlt' : ¬ (ls.length : Int) < (ls.length : Int) := by omega
      go_wp2
      go_ret
      exact ⟨rfl, hb1⟩
end Go.Proofs.YtehbmllbikkjfaaDoor
