/- The reference's functions on texts (chapter 1): plain, In, Atom, Fold, Same. -/
import Derived.Test.YtabggjlpnhgpjaaDoorOctC
set_option linter.unusedVariables false
namespace Go.Proofs.YtabggjlpnhgpjaaDoor
open Go.RowKit

theorem r_plain (c : UInt8) (w : World) : Calls Tryd.prog 31 #[.int .u8 (c.toNat : Int)] w fun e w' => e = .returned (.bool (quotableB c)) ∧ w = w' := by
  go_enter Tryd.func31, Tryd.ntmps31
  go_wp2
  all_goals
    go_ret
    exact ⟨ret_bool (by unfold quotableB; grind), rfl⟩

theorem r_in_yes (s : ByteArray) (c : UInt8) (k : Nat) (h : k < s.size) (e : s[k].toNat = c.toNat) : decide (c ∈ s.data.toList) = true := by
  have : s[k] = c := UInt8.toNat_inj.1 e
  rw [← this]
  simpa using mem_at s k h

set_option maxHeartbeats 400000 in
theorem r_in (s : ByteArray) (c : UInt8) (w : World) (hs : s.size ≤ maxLen) :
    Calls Tryd.prog 32 #[.string s, .int .u8 (c.toNat : Int)] w fun e w' => e = .returned (.bool (decide (c ∈ s.data.toList))) ∧ w = w' := by
  unfold maxLen at hs
  go_enter Tryd.func32, Tryd.ntmps32
  go_wp2
  go_loop [5] (fun i => ∃ k : Nat, k ≤ s.size ∧ i = .int .i64 k ∧ Hid (c ∉ s.data.toList.take k)) (fun i => s.size - (intOf i).toNat)
  case atStart => exact ⟨0, Nat.zero_le _, rfl, by simp [Hid]⟩
  case round =>
    obtain ⟨k, hk, rfl, HA⟩ := hrel
    by_cases hlt : k < s.size
    · by_cases hb : s[k].toNat = c.toNat
      · have hb2 := eq_t hb
        have HB := Lib.hid hb
        clear hb
        go_wp2
        go_ret
        exact ⟨ret_bool (by simpa using (r_in_yes s c k hlt HB.out).symm), rfl⟩
      · have hb2 := eq_f hb
        have HB := Lib.hid hb
        clear hb
        go_wp2
        go_round
        case rel =>
          refine ⟨k + 1, by omega, by go_num, ?_⟩
          show _ ∉ _
          rw [take_snoc s k hlt, List.mem_append]
          rintro (h | h)
          · exact HA.out h
          · simp at h
            exact HB.out (by rw [h])
        case measure => simp [intOf]; omega
    · obtain rfl : k = s.size := by omega
      go_wp2
      go_ret
      refine ⟨ret_bool ?_, rfl⟩
      have h := HA.out
      rw [take_all] at h
      simpa using h

theorem r_in8 (c : UInt8) (w : World) : Calls Tryd.prog 32 #[.string ⟨#[40, 41, 123, 37, 42, 34, 92, 93]⟩, .int .u8 (c.toNat : Int)] w fun e w' => e = .returned (.bool (decide (c.toNat = 40 ∨ c.toNat = 41 ∨ c.toNat = 123 ∨ c.toNat = 37 ∨ c.toNat = 42 ∨ c.toNat = 34 ∨ c.toNat = 92 ∨ c.toNat = 93))) ∧ w = w' := by
  refine (r_in ⟨#[40, 41, 123, 37, 42, 34, 92, 93]⟩ c w (by decide)).mono ?_
  rintro e w' ⟨rfl, rfl⟩
  refine ⟨ret_bool ?_, rfl⟩
  simp only [List.mem_cons, List.not_mem_nil, or_false, ← UInt8.toNat_inj]
  rfl

set_option maxHeartbeats 1000000 in
theorem r_atom (s : ByteArray) (w : World) (hs : s.size ≤ maxLen) :
    Calls Tryd.prog 20 #[.string s] w fun e w' => e = .returned (.bool (atomB s.data.toList)) ∧ w = w' := by
  unfold maxLen at hs
  go_enter Tryd.func20, Tryd.ntmps20
  go_wp2
  go_loop [3] (fun i => ∃ k : Nat, k ≤ s.size ∧ i = .int .i64 k ∧ (s.data.toList.take k).all atomByteB = true) (fun i => s.size - (intOf i).toNat)
  case atStart => exact ⟨0, Nat.zero_le _, rfl, rfl⟩
  case round =>
    obtain ⟨k, hk, rfl, hall⟩ := hrel
    have HA := Lib.hid hall
    clear hall
    by_cases hlt : k < s.size
    · by_cases h1 : (s[k].toNat : Int) < 33
      · go_wp2
        go_ret
        exact ⟨ret_bool (atom_no s k hlt (by unfold atomByteB; simp; omega)).symm, rfl⟩
      · by_cases h2 : (126 : Int) < (s[k].toNat : Int)
        · go_wp2
          go_ret
          exact ⟨ret_bool (atom_no s k hlt (by unfold atomByteB; simp; omega)).symm, rfl⟩
        · by_cases h3 : s[k].toNat = 40 ∨ s[k].toNat = 41 ∨ s[k].toNat = 123 ∨ s[k].toNat = 37 ∨ s[k].toNat = 42 ∨ s[k].toNat = 34 ∨ s[k].toNat = 92 ∨ s[k].toNat = 93
          · have hc := r_in8 s[k] 
            simp only [h3, decide_true] at hc
            have H3 := Lib.hid h3
            clear h3
            go_wp2_with (go_at_call 32; refine (hc _).mono ?_; rintro e w' ⟨rfl, rfl⟩)
            go_ret
            exact ⟨ret_bool (atom_no s k hlt (by have h := H3.out; unfold atomByteB; simp; omega)).symm, rfl⟩
          · have hc := r_in8 s[k]
            simp only [h3, decide_false] at hc
            have H3 := Lib.hid h3
            clear h3
            go_wp2_with (go_at_call 32; refine (hc _).mono ?_; rintro e w' ⟨rfl, rfl⟩)
            go_round
            case rel => exact ⟨k + 1, by omega, by go_num, by rw [take_snoc s k hlt, List.all_append, HA.out]; have h := H3.out; simp [atomByteB]; omega⟩
            case measure => simp [intOf]; omega
    · obtain rfl : k = s.size := by omega
      go_wp2
      go_ret
      refine ⟨ret_bool ?_, rfl⟩
      have h := HA.out
      rw [take_all] at h
      rw [atomB, h, Bool.true_and, Bool.eq_iff_iff]
      simp
      exact Array.size_pos_iff

set_option maxHeartbeats 1000000 in
theorem r_fold (s : ByteArray) (w : World) (hs : s.size ≤ maxLen) :
    Calls Tryd.prog 18 #[.string s] w fun e w' => e = .returned (.string ⟨(foldL s.data.toList).toArray⟩) ∧ Below w.heap.size w w' := by
  unfold maxLen at hs
  obtain ⟨cap, C, hconv, hcap, hC⟩ := conv_bytes (P := Tryd.prog) w 9 30 5 s Tryd.underlying9 Tryd.underlying30 Tryd.underlying5
  have HC := Lib.hid hC
  clear hC
  go_enter Tryd.func18, Tryd.ntmps18
  go_wp2
  go_loopw [4] (fun i wr => ∃ k : Nat, k ≤ s.size ∧ i = .int .i64 k ∧ Bts 5 wr w.heap.size ((s.data.toList.take k).map smallU ++ s.data.toList.drop k) ∧ Below w.heap.size w wr) (fun i _ => s.size - (intOf i).toNat)
  case atStart =>
    refine ⟨0, Nat.zero_le _, rfl, ?_, ?_⟩
    · exact (Bts.new w (fun j h => HC.out j (by simpa using h))).drew
    · exact ((Below.refl _ w).alloc (Nat.le_refl _) _).drew
  case round =>
    obtain ⟨k, hk, rfl, hb, hbel⟩ := hrel
    have hlen := mapped_len smallU s.data.toList k (by rw [len_data]; exact hk)
    rw [len_data] at hlen
    by_cases hlt : k < s.size
    · have hc := hb.cell k (by omega)
      have hf := hb.frozen k (by omega)
      rw [mapped_get smallU _ k (by rw [len_data]; exact hlt), get_data] at hc
      have e := mapped_set smallU s.data.toList k (by rw [len_data]; exact hlt)
      rw [get_data] at e
      have hc8 := s[k].toNat_lt
      by_cases hup : 65 ≤ s[k].toNat ∧ s[k].toNat ≤ 90
      · have h1 : (65 : Int) ≤ (s[k].toNat : Int) := by omega
        have h2 : (s[k].toNat : Int) ≤ 90 := by omega
        have hst := hb.set_ k (by omega) (smallU s[k])
        rw [e, smallU_toNat, if_pos hup] at hst
        have HST := Lib.hid hst
        have HL := Lib.hid hlen
        clear hlen hst e hup
        go_wp2
        go_roundw
        case rel =>
          refine ⟨k + 1, by omega, by go_num, ?_, hbel.setCell (p := ⟨w.heap.size, k, none⟩) (Nat.le_refl _) _⟩
          have h := HST.out
          rw [Int.natCast_add] at h
          exact h
        case measure => simp [intOf]; omega
      · have hsm : smallU s[k] = s[k] := by unfold smallU; rw [if_neg hup]
        have hst : (s.data.toList.take (k + 1)).map smallU ++ s.data.toList.drop (k + 1) = (s.data.toList.take k).map smallU ++ s.data.toList.drop k := by
          rw [← e, hsm]
          apply List.ext_getElem
          · simp
          · intro i h1 h2
            rw [List.getElem_set]
            split
            · rename_i hki
              subst hki
              rw [mapped_get smallU _ k (by rw [len_data]; exact hlt)]
              rfl
            · rfl
        have HST := Lib.hid hst
        have HL := Lib.hid hlen
        clear hlen hst e
        by_cases h1 : (65 : Int) ≤ (s[k].toNat : Int)
        · have h2 : ¬ (s[k].toNat : Int) ≤ 90 := by omega
          clear hup
          go_wp2
          go_roundw
          case rel =>
            refine ⟨k + 1, by omega, by go_num, ?_, hbel⟩
            rw [HST.out]; exact hb
          case measure => simp [intOf]; omega
        · clear hup
          go_wp2
          go_roundw
          case rel =>
            refine ⟨k + 1, by omega, by go_num, ?_, hbel⟩
            rw [HST.out]; exact hb
          case measure => simp [intOf]; omega
    · obtain rfl : k = s.size := by omega
      have hbk := hb.back (P := Tryd.prog) 30 9 cap Tryd.underlying30 Tryd.underlying5 Tryd.underlying9
      rw [hlen] at hbk
      clear hlen
      have e0 : (s.data.toList.take s.size).map smallU ++ s.data.toList.drop s.size = foldL s.data.toList := by
        rw [take_all, List.drop_eq_nil_of_le (by simp), List.append_nil]; rfl
      rw [e0] at hbk
      clear e0
      go_wp2
      go_ret
      exact ⟨rfl, hbel⟩

theorem foldStr (l : List UInt8) : (⟨l.toArray⟩ : ByteArray).data.toList = l := rfl
set_option maxHeartbeats 1000000 in
theorem r_same (s t : ByteArray) (w : World) (hs : s.size ≤ maxLen) (ht : t.size ≤ maxLen) :
    Calls Tryd.prog 19 #[.string s, .string t] w fun e w' => e = .returned (.bool (sameB s.data.toList t.data.toList)) ∧ Below w.heap.size w w' := by
  go_enter Tryd.func19, Tryd.ntmps19
  go_wp2_with fail
  refine (r_fold s w hs).mono ?_
  rintro e w1 ⟨rfl, b1⟩
  go_wp2_with fail
  refine (r_fold t _ ht).mono ?_
  rintro e w2 ⟨rfl, b2⟩
  go_wp2
  go_ret
  refine ⟨ret_bool ?_, b1.trans (b2.mono b1.size)⟩
  unfold sameB
  rw [Bool.eq_iff_iff]
  simp
end Go.Proofs.YtabggjlpnhgpjaaDoor
