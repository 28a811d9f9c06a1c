/- Base64: four letters read: the function. -/
import Derived.Test.YtofgkahldhelaaaDoorCdC
set_option linter.unusedVariables false
namespace Go.Proofs.YtofgkahldhelaaaDoor
open Go.RowKit

def UnPost (w : World) (v : Value) (ok : Bool) (l : List UInt8) : Prop := match ung l with
  | none => ok = false
  | some x => ok = true ∧ ∃ A k, v = .slice A x.length k ∧ x.length ≤ k ∧ Rd w A x
theorem three_rd (w : World) (x : Nat) (hx : x < 16777216) (nq : Nat) : Rd ((w.alloc (.cells #[.int .u8 ((x : Int) / 65536), .int .u8 ((x : Int) / 256 % 256), .int .u8 ((x : Int) % 256)] 5)).drewN nq) (some ⟨w.heap.size, 0, none⟩) [UInt8.ofNat (x / 65536), UInt8.ofNat (x / 256), UInt8.ofNat x] := by
  have hB : Bts 5 (w.alloc (.cells #[.int .u8 ((x : Int) / 65536), .int .u8 ((x : Int) / 256 % 256), .int .u8 ((x : Int) % 256)] 5)) w.heap.size [UInt8.ofNat (x / 65536), UInt8.ofNat (x / 256), UInt8.ofNat x] :=
    ⟨_, (0, 0), by simp [World.alloc, -World.alloc_eq]; rfl, .inr rfl, fun j h => by
      have hj : j < 3 := h
      rcases (by omega : j = 0 ∨ j = 1 ∨ j = 2) with rfl | rfl | rfl <;> simp <;> omega⟩
  exact Rd.of_bts (hB.drewN nq)
theorem ung_few (l : List UInt8) (h : (trimEq l).length < 2) : ung l = none := by
  simp only [ung]
  rw [if_pos h]
theorem ung_none (l : List UInt8) (t k : Nat) (ht : 2 ≤ t) (h1 : t = (trimEq l).length) (h2 : trimEq l = l.take t) (h : pk l (k + 1) = none) (hk : k < t) : ung l = none := by
  have e : bits24 0 (trimEq l) = none := by
    rw [h2]
    have : l.take t = l.take (k + 1) ++ (l.take t).drop (k + 1) := by
      have := (List.take_append_drop (k + 1) (l.take t)).symm
      rw [List.take_take, Nat.min_eq_left (by omega)] at this
      exact this
    rw [this]
    exact bits24_none _ _ _ h
  simp only [ung]
  rw [if_neg (by omega), e]
theorem ung_some (l : List UInt8) (t x : Nat) (ht : 2 ≤ t) (h1 : t = (trimEq l).length) (h2 : trimEq l = l.take t) (h : pk l t = some x) :
    ung l = if x * 2 ^ (8 + 8 * (t - 1)) % 2 ^ 32 = 0 then some ([UInt8.ofNat (x / 65536), UInt8.ofNat (x / 256), UInt8.ofNat x].take (t - 1)) else none := by
  have e : bits24 0 (trimEq l) = some x := by rw [h2]; exact h
  simp only [ung]
  rw [if_neg (by omega), e]
  simp only [← h1]

set_option maxRecDepth 100000 in
set_option maxHeartbeats 4000000 in
theorem ungroup_e (A : Option Addr) (l : List UInt8) (n c : Nat) (w : World) (hn : l.length = n) (hr : Rd w A l) (h4 : l.length = 4) (hc : 4 ≤ c) :
    Calls Tryd.prog 15 #[.slice A n c] w fun e w' => ∃ v ok, e = .returned (.tuple #[v, .bool ok]) ∧ UnPost w' v ok l ∧ Below w.heap.size w w' := by
  have ht := Lib.hid (trim_e A l n c w hn hr (by omega) (by omega))
  obtain ⟨b, o, rfl, hb, hcell⟩ := hr (by omega)
  have hn4 : n = 4 := by omega
  clear hn
  subst hn4
  go_enter Tryd.func15, Tryd.ntmps15
  go_wp2_with ((with_reducible refine ht.out.mono ?_))
  rintro _ w1 ⟨t, rfl, HT, HT2, rfl⟩
  have ht4 : t ≤ 4 := by
    have h1 := HT.out
    have h2 := congrArg List.length HT2.out
    rw [List.length_take] at h2
    omega
  have hl4 := Lib.hid h4
  by_cases h2 : t < 2
  · have h2' : (t : Int) < 2 := by omega
    have HU := Lib.hid (ung_few l (by rw [← HT.out]; exact h2))
    go_wp2
    go_ret2
    refine ⟨_, false, rfl, ?_, Below.refl _ _⟩
    unfold UnPost
    rw [HU.out]
  have h2' : ¬ (t : Int) < 2 := by omega
  have htc : (t : Int) ≤ (c : Int) := by omega
  go_wp2
  go_loop [5, 20] (fun x i => ∃ (k y : Nat), k ≤ t ∧ i = .int .i64 k ∧ x = .int .u32 (y : Int) ∧ Hid (pk l k = some y)) (fun _ i => t - (intOf i).toNat)
  case atStart => exact ⟨0, 0, Nat.zero_le _, rfl, rfl, rfl⟩
  case round =>
    obtain ⟨k, x, hk, rfl, rfl, HP⟩ := hrel
    by_cases hlt : k < t
    · have hlt' : (k : Int) < (t : Int) := by omega
      have h4 := hl4.out
      rcases (by omega : k = 0 ∨ k = 1 ∨ k = 2 ∨ k = 3) with rfl | rfl | rfl | rfl
      · have hcc : w.cell? ⟨b, o, none⟩ = _ := hcell 0 (by omega)
        generalize hlk : l[0] = ck at hcc
        have hstep := Lib.hid (pk_step l 0 (by omega))
        rw [hlk] at hstep
        obtain ⟨hx1, hx2⟩ := pk_mod l 0 x (by omega) (by omega) HP.out
        cases hu : unlett ck with
        | none =>
          have hnone : pk l (0 + 1) = none := by
            rw [hstep.out, hu, HP.out]
          have HN := Lib.hid (ung_none l t 0 (by omega) HT.out HT2.out hnone (by omega))
          have hix := Lib.hid (index_none ck hu w)
          clear hu hnone
          go_wp2_with ((with_reducible refine hix.out.mono ?_))
          go_ret2
          refine ⟨_, false, rfl, ?_, Below.refl _ _⟩
          unfold UnPost
          rw [HN.out]
        | some v =>
          have hv := unlett_lt _ _ hu
          have hv' : (v : Int) < 64 := by omega
          have hnx : pk l (0 + 1) = some (x + v * 262144) := by
            rw [hstep.out, hu, HP.out]
          have HN := Lib.hid hnx
          have eo : bits .or .u32 (x : Int) ((v : Int) * 262144) = (x : Int) + (v : Int) * 262144 := by
            have := or_add 24 (x / 2 ^ 24) (v * 262144) (by omega) (by omega)
            rw [show 2 ^ 24 * (x / 2 ^ 24) = x by omega] at this
            simpa using this
          have hix := Lib.hid (index_some ck v hu w)
          clear hu hnx
          go_wp2_with ((with_reducible refine hix.out.mono ?_))
          go_round
          case rel => exact ⟨1, x + v * 262144, by omega, rfl, by go_num, HN⟩
          case measure => first | (simp [intOf]; done) | (simp [intOf]; omega)
      · have hcc : w.cell? ⟨b, o + 1, none⟩ = _ := hcell 1 (by omega)
        generalize hlk : l[1] = ck at hcc
        have hstep := Lib.hid (pk_step l 1 (by omega))
        rw [hlk] at hstep
        obtain ⟨hx1, hx2⟩ := pk_mod l 1 x (by omega) (by omega) HP.out
        cases hu : unlett ck with
        | none =>
          have hnone : pk l (1 + 1) = none := by
            rw [hstep.out, hu, HP.out]
          have HN := Lib.hid (ung_none l t 1 (by omega) HT.out HT2.out hnone (by omega))
          have hix := Lib.hid (index_none ck hu w)
          clear hu hnone
          go_wp2_with ((with_reducible refine hix.out.mono ?_))
          go_ret2
          refine ⟨_, false, rfl, ?_, Below.refl _ _⟩
          unfold UnPost
          rw [HN.out]
        | some v =>
          have hv := unlett_lt _ _ hu
          have hv' : (v : Int) < 64 := by omega
          have hnx : pk l (1 + 1) = some (x + v * 4096) := by
            rw [hstep.out, hu, HP.out]
          have HN := Lib.hid hnx
          have eo : bits .or .u32 (x : Int) ((v : Int) * 4096) = (x : Int) + (v : Int) * 4096 := by
            have := or_add 18 (x / 2 ^ 18) (v * 4096) (by omega) (by omega)
            rw [show 2 ^ 18 * (x / 2 ^ 18) = x by omega] at this
            simpa using this
          have hix := Lib.hid (index_some ck v hu w)
          clear hu hnx
          go_wp2_with ((with_reducible refine hix.out.mono ?_))
          go_round
          case rel => exact ⟨2, x + v * 4096, by omega, rfl, by go_num, HN⟩
          case measure => first | (simp [intOf]; done) | (simp [intOf]; omega)
      · have hcc : w.cell? ⟨b, o + 2, none⟩ = _ := hcell 2 (by omega)
        generalize hlk : l[2] = ck at hcc
        have hstep := Lib.hid (pk_step l 2 (by omega))
        rw [hlk] at hstep
        obtain ⟨hx1, hx2⟩ := pk_mod l 2 x (by omega) (by omega) HP.out
        cases hu : unlett ck with
        | none =>
          have hnone : pk l (2 + 1) = none := by
            rw [hstep.out, hu, HP.out]
          have HN := Lib.hid (ung_none l t 2 (by omega) HT.out HT2.out hnone (by omega))
          have hix := Lib.hid (index_none ck hu w)
          clear hu hnone
          go_wp2_with ((with_reducible refine hix.out.mono ?_))
          go_ret2
          refine ⟨_, false, rfl, ?_, Below.refl _ _⟩
          unfold UnPost
          rw [HN.out]
        | some v =>
          have hv := unlett_lt _ _ hu
          have hv' : (v : Int) < 64 := by omega
          have hnx : pk l (2 + 1) = some (x + v * 64) := by
            rw [hstep.out, hu, HP.out]
          have HN := Lib.hid hnx
          have eo : bits .or .u32 (x : Int) ((v : Int) * 64) = (x : Int) + (v : Int) * 64 := by
            have := or_add 12 (x / 2 ^ 12) (v * 64) (by omega) (by omega)
            rw [show 2 ^ 12 * (x / 2 ^ 12) = x by omega] at this
            simpa using this
          have hix := Lib.hid (index_some ck v hu w)
          clear hu hnx
          go_wp2_with ((with_reducible refine hix.out.mono ?_))
          go_round
          case rel => exact ⟨3, x + v * 64, by omega, rfl, by go_num, HN⟩
          case measure => first | (simp [intOf]; done) | (simp [intOf]; omega)
      · have hcc : w.cell? ⟨b, o + 3, none⟩ = _ := hcell 3 (by omega)
        generalize hlk : l[3] = ck at hcc
        have hstep := Lib.hid (pk_step l 3 (by omega))
        rw [hlk] at hstep
        obtain ⟨hx1, hx2⟩ := pk_mod l 3 x (by omega) (by omega) HP.out
        cases hu : unlett ck with
        | none =>
          have hnone : pk l (3 + 1) = none := by
            rw [hstep.out, hu, HP.out]
          have HN := Lib.hid (ung_none l t 3 (by omega) HT.out HT2.out hnone (by omega))
          have hix := Lib.hid (index_none ck hu w)
          clear hu hnone
          go_wp2_with ((with_reducible refine hix.out.mono ?_))
          go_ret2
          refine ⟨_, false, rfl, ?_, Below.refl _ _⟩
          unfold UnPost
          rw [HN.out]
        | some v =>
          have hv := unlett_lt _ _ hu
          have hv' : (v : Int) < 64 := by omega
          have hnx : pk l (3 + 1) = some (x + v) := by
            rw [hstep.out, hu, HP.out]; simp
          have HN := Lib.hid hnx
          have eo : bits .or .u32 (x : Int) ((v : Int)) = (x : Int) + (v : Int) := by
            have := or_add 6 (x / 2 ^ 6) (v) (by omega) (by omega)
            rw [show 2 ^ 6 * (x / 2 ^ 6) = x by omega] at this
            simpa using this
          have hix := Lib.hid (index_some ck v hu w)
          clear hu hnx
          go_wp2_with ((with_reducible refine hix.out.mono ?_))
          go_round
          case rel => exact ⟨4, x + v, by omega, rfl, by go_num, HN⟩
          case measure => first | (simp [intOf]; done) | (simp [intOf]; omega)
    · obtain rfl : k = t := by omega
      have hlt' : ¬ (k : Int) < (k : Int) := by omega
      have h4 := hl4.out
      obtain ⟨hx1, hx2⟩ := pk_mod l k x (by omega) (by omega) HP.out
      have HU := Lib.hid (ung_some l k x (by omega) HT.out HT2.out HP.out)
      rcases (by omega : k = 2 ∨ k = 3 ∨ k = 4) with rfl | rfl | rfl
      · go_wp2_with fail
        go_quiet (fail)
        go_wp2
        go_ret2
        refine ⟨_, _, rfl, ?_, below_drewN (below_one4 _ _) nq⟩
        unfold UnPost
        rw [HU.out]
        by_cases hz : x * 2 ^ (8 + 8 * (2 - 1)) % 2 ^ 32 = 0
        · rw [if_pos hz]
          exact ⟨by simp; omega, some ⟨w.heap.size, 0, none⟩, 3, rfl, by simp, (three_rd w x hx2 nq).take 1⟩
        · rw [if_neg hz]
          show ((_ : Int) == 0) = false
          rw [beq_eq_false_iff_ne]
          omega
      · go_wp2_with fail
        go_quiet (fail)
        go_wp2
        go_ret2
        refine ⟨_, _, rfl, ?_, below_drewN (below_one4 _ _) nq⟩
        unfold UnPost
        rw [HU.out]
        by_cases hz : x * 2 ^ (8 + 8 * (3 - 1)) % 2 ^ 32 = 0
        · rw [if_pos hz]
          exact ⟨by simp; omega, some ⟨w.heap.size, 0, none⟩, 3, rfl, by simp, (three_rd w x hx2 nq).take 2⟩
        · rw [if_neg hz]
          show ((_ : Int) == 0) = false
          rw [beq_eq_false_iff_ne]
          omega
      · go_wp2_with fail
        go_quiet (fail)
        go_wp2
        go_ret2
        refine ⟨_, _, rfl, ?_, below_drewN (below_one4 _ _) nq⟩
        unfold UnPost
        rw [HU.out]
        by_cases hz : x * 2 ^ (8 + 8 * (4 - 1)) % 2 ^ 32 = 0
        · rw [if_pos hz]
          exact ⟨by first | rfl | (simp; done) | (simp; omega), some ⟨w.heap.size, 0, none⟩, 3, rfl, by simp, (three_rd w x hx2 nq).take 3⟩
        · rw [if_neg hz]
          exfalso
          exact hz (by omega)
end Go.Proofs.YtofgkahldhelaaaDoor
