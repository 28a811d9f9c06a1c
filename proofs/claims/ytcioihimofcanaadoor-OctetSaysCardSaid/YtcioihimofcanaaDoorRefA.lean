/- The reference's functions on texts (chapter 1): plain, In, Atom. -/
import Derived.Test.YtcioihimofcanaaDoorMa
set_option linter.unusedVariables false
namespace Go.Proofs.YtcioihimofcanaaDoor
open Go.RowKit

theorem r_plain (c : UInt8) (w : World) : Calls Tryd.prog 31 #[.int .u8 (c.toNat : Int)] w fun e w' => e = .returned (.bool (quotableB c)) ∧ w = w' := by
  go_enter Tryd.func31, Tryd.ntmps31
  go_wp2
  all_goals
    go_ret
    exact ⟨ret_bool (by unfold quotableB; grind), rfl⟩

theorem r_in_yes (s : ByteArray) (c : UInt8) (k : Nat) (h : k < s.size) (e : s[k].toNat = c.toNat) : decide (c ∈ s.data.toList) = true := by
  have : s[k] = c := UInt8.toNat_inj.1 e
  rw [← this]
  simpa using mem_at s k h

set_option maxHeartbeats 400000 in
theorem r_in (s : ByteArray) (c : UInt8) (w : World) (hs : s.size ≤ maxLen) :
    Calls Tryd.prog 32 #[.string s, .int .u8 (c.toNat : Int)] w fun e w' => e = .returned (.bool (decide (c ∈ s.data.toList))) ∧ w = w' := by
  unfold maxLen at hs
  go_enter Tryd.func32, Tryd.ntmps32
  go_wp2
  go_loop [5] (fun i => ∃ k : Nat, k ≤ s.size ∧ i = .int .i64 k ∧ Hid (c ∉ s.data.toList.take k)) (fun i => s.size - (intOf i).toNat)
  case atStart => exact ⟨0, Nat.zero_le _, rfl, by simp [Hid]⟩
  case round =>
    obtain ⟨k, hk, rfl, HA⟩ := hrel
    by_cases hlt : k < s.size
    · by_cases hb : s[k].toNat = c.toNat
      · have hb2 := eq_t hb
        have HB := Lib.hid hb
        clear hb
        go_wp2
        go_ret
        exact ⟨ret_bool (by simpa using (r_in_yes s c k hlt HB.out).symm), rfl⟩
      · have hb2 := eq_f hb
        have HB := Lib.hid hb
        clear hb
        go_wp2
        go_round
        case rel =>
          refine ⟨k + 1, by omega, by go_num, ?_⟩
          show _ ∉ _
          rw [take_snoc s k hlt, List.mem_append]
          rintro (h | h)
          · exact HA.out h
          · simp at h
            exact HB.out (by rw [h])
        case measure => simp [intOf]; omega
    · obtain rfl : k = s.size := by omega
      go_wp2
      go_ret
      refine ⟨ret_bool ?_, rfl⟩
      have h := HA.out
      rw [take_all] at h
      simpa using h

theorem r_in8 (c : UInt8) (w : World) : Calls Tryd.prog 32 #[.string ⟨#[40, 41, 123, 37, 42, 34, 92, 93]⟩, .int .u8 (c.toNat : Int)] w fun e w' => e = .returned (.bool (decide (c.toNat = 40 ∨ c.toNat = 41 ∨ c.toNat = 123 ∨ c.toNat = 37 ∨ c.toNat = 42 ∨ c.toNat = 34 ∨ c.toNat = 92 ∨ c.toNat = 93))) ∧ w = w' := by
  refine (r_in ⟨#[40, 41, 123, 37, 42, 34, 92, 93]⟩ c w (by decide)).mono ?_
  rintro e w' ⟨rfl, rfl⟩
  refine ⟨ret_bool ?_, rfl⟩
  simp only [List.mem_cons, List.not_mem_nil, or_false, ← UInt8.toNat_inj]
  rfl

set_option maxHeartbeats 1000000 in
theorem r_atom (s : ByteArray) (w : World) (hs : s.size ≤ maxLen) :
    Calls Tryd.prog 20 #[.string s] w fun e w' => e = .returned (.bool (atomB s.data.toList)) ∧ w = w' := by
  unfold maxLen at hs
  go_enter Tryd.func20, Tryd.ntmps20
  go_wp2
  go_loop [3] (fun i => ∃ k : Nat, k ≤ s.size ∧ i = .int .i64 k ∧ (s.data.toList.take k).all atomByteB = true) (fun i => s.size - (intOf i).toNat)
  case atStart => exact ⟨0, Nat.zero_le _, rfl, rfl⟩
  case round =>
    obtain ⟨k, hk, rfl, hall⟩ := hrel
    have HA := Lib.hid hall
    clear hall
    by_cases hlt : k < s.size
    · by_cases h1 : (s[k].toNat : Int) < 33
      · go_wp2
        go_ret
        exact ⟨ret_bool (atom_no s k hlt (by unfold atomByteB; simp; omega)).symm, rfl⟩
      · by_cases h2 : (126 : Int) < (s[k].toNat : Int)
        · go_wp2
          go_ret
          exact ⟨ret_bool (atom_no s k hlt (by unfold atomByteB; simp; omega)).symm, rfl⟩
        · by_cases h3 : s[k].toNat = 40 ∨ s[k].toNat = 41 ∨ s[k].toNat = 123 ∨ s[k].toNat = 37 ∨ s[k].toNat = 42 ∨ s[k].toNat = 34 ∨ s[k].toNat = 92 ∨ s[k].toNat = 93
          · have hc := r_in8 s[k] 
            simp only [h3, decide_true] at hc
            have H3 := Lib.hid h3
            clear h3
            go_wp2_with (go_at_call 32; refine (hc _).mono ?_; rintro e w' ⟨rfl, rfl⟩)
            go_ret
            exact ⟨ret_bool (atom_no s k hlt (by have h := H3.out; unfold atomByteB; simp; omega)).symm, rfl⟩
          · have hc := r_in8 s[k]
            simp only [h3, decide_false] at hc
            have H3 := Lib.hid h3
            clear h3
            go_wp2_with (go_at_call 32; refine (hc _).mono ?_; rintro e w' ⟨rfl, rfl⟩)
            go_round
            case rel => exact ⟨k + 1, by omega, by go_num, by rw [take_snoc s k hlt, List.all_append, HA.out]; have h := H3.out; simp [atomByteB]; omega⟩
            case measure => simp [intOf]; omega
    · obtain rfl : k = s.size := by omega
      go_wp2
      go_ret
      refine ⟨ret_bool ?_, rfl⟩
      have h := HA.out
      rw [take_all] at h
      rw [atomB, h, Bool.true_and, Bool.eq_iff_iff]
      simp
      exact Array.size_pos_iff
end Go.Proofs.YtcioihimofcanaaDoor
