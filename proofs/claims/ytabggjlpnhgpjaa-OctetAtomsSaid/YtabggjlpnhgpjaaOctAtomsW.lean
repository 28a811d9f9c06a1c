/- The walk of the law OctetAtoms. -/
import Derived.Test.YtabggjlpnhgpjaaOctAw
set_option linter.unusedVariables false
namespace Go.Proofs.Ytabggjlpnhgpjaa
open Go.RowKit

theorem ext1 (s : ByteArray) (k : Nat) (h : k < s.size) : (s.extract k (k + 1)).data.toList = [s[k]] := by
  rw [Lib.extract_data, show k + 1 - k = 1 by omega, drop_cons s k h]; rfl
theorem ext1_size (s : ByteArray) (k : Nat) (h : k < s.size) : (s.extract k (k + 1)).size = 1 := by
  have := congrArg List.length (ext1 s k h); rw [len_data] at this; simpa using this
theorem atom1 (s : ByteArray) (k : Nat) (h : k < s.size) (w : World) : Calls Try.prog 13 #[.string (s.extract k (k + 1))] w fun e w' => e = .returned (.bool (atomByteB s[k])) ∧ w = w' := by
  refine (atom_any _ w (by rw [ext1_size s k h]; decide)).mono ?_
  rintro e w' ⟨rfl, h2⟩
  exact ⟨ret_bool (by rw [ext1 s k h]; simp [atomB]), h2⟩
theorem quote_atom (l : List UInt8) (h : l.length ≤ 8192) (ha : l.all atomByteB = true) : quoteOk l = true ∧ quoteS l = 34 :: (l ++ [34]) := by
  have h1 : ∀ c ∈ l, quotableB c = true ∧ escB c = [c] := by
    intro c hc
    have := List.all_eq_true.1 ha c hc
    unfold atomByteB at this
    unfold quotableB escB escapedB
    have ht := of_decide_eq_true this
    refine ⟨decide_eq_true (by omega), ?_⟩
    rw [if_neg (by simp; omega)]
  have h2 : l.all quotableB = true := List.all_eq_true.2 fun c hc => (h1 c hc).1
  have h3 : escL l = l := by
    clear ha h2
    induction l with
    | nil => rfl
    | cons c l ih =>
      have := ih (by simp at h; omega) (fun d hd => h1 d (List.mem_cons_of_mem _ hd))
      simp only [escL, List.flatMap_cons] at this ⊢
      rw [this, (h1 c List.mem_cons_self).2]; rfl
  have h4 : quoteOk l = true := by unfold quoteOk; simp [h, h2]
  exact ⟨h4, by unfold quoteS; rw [if_pos h4, h3]⟩

set_option maxHeartbeats 1000000 in
theorem atoms_walk (s : ByteArray) (w : World) (hs : s.size ≤ maxLen) :
    Calls Try.prog 4 #[.string s] w fun e w' => e = .returned (.bool true) ∧ Below w.heap.size w w' := by
  unfold maxLen at hs
  by_cases hl : (200 : Int) < (s.size : Int)
  · go_enter Try.func4, Try.ntmps4
    go_wp2_with (go_at_call 7; refine (awake_any _).mono ?_; rintro e w1 ⟨rfl, b1⟩)
    go_ret
    exact ⟨rfl, b1⟩
  · by_cases h0 : (s.size : Int) < 1
    · go_enter Try.func4, Try.ntmps4
      go_wp2_with (go_at_call 7; refine (awake_any _).mono ?_; rintro e w1 ⟨rfl, b1⟩)
      go_ret
      exact ⟨rfl, b1⟩
    · have hp : 0 < s.size := by omega
      have hm : s.size ≤ 200 := by omega
      go_enter Try.func4, Try.ntmps4
      go_wp2_with (go_at_call 7; refine (awake_any _).mono ?_; rintro e w1 ⟨rfl, b1⟩)
      go_loop [3, 4] (fun t i => ∃ (k : Nat) (b : Bool), k ≤ s.size ∧ i = .int .i64 k ∧ t = .bool b ∧ Hid ((s.data.toList.take k).all atomByteB = b)) (fun _ i => s.size - (intOf i).toNat)
      case atStart => exact ⟨0, true, Nat.zero_le _, rfl, rfl, rfl⟩
      case round =>
        obtain ⟨k, b, hk, rfl, rfl, HB⟩ := hrel
        by_cases hlt : k < s.size
        · cases b with
          | false =>
            go_wp2
            go_round
            case rel => exact ⟨k + 1, false, by omega, by go_num, rfl, by show _ = _; rw [take_snoc s k hlt, List.all_append, HB.out]; rfl⟩
            case measure => simp [intOf]; omega
          | true =>
            go_wp2_with (go_at_call 13; refine (atom1 s k hlt _).mono ?_; rintro e w2 ⟨rfl, rfl⟩)
            go_round
            case rel => exact ⟨k + 1, atomByteB s[k], by omega, by go_num, rfl, by show _ = _; rw [take_snoc s k hlt, List.all_append, HB.out]; simp⟩
            case measure => simp [intOf]; omega
        · obtain rfl : k = s.size := by omega
          have hb : atomB s.data.toList = b := by
            have h := HB.out
            rw [take_all] at h
            have h2 : s.data.toList.isEmpty = false := by rw [← toList_data]; exact str_some (by omega)
            simp [atomB, h, h2]
          have HB2 := Lib.hid hb
          clear hb
          go_wp2_with fail
          refine (atom_any s _ (by unfold maxLen; omega)).mono ?_
          rintro e w2 ⟨rfl, rfl⟩
          rw [HB2.out]
          cases b with
          | false =>
            go_wp2_with (go_at_call 8; refine (quote_any s _ (by unfold maxLen; omega)).mono ?_; rintro e w3 ⟨rfl, b3⟩)
            go_ret
            exact ⟨rfl, b1.trans (b3.mono b1.size)⟩
          | true =>
            have hqa := quote_atom s.data.toList (by rw [len_data]; omega) (by have h := HB.out; rwa [take_all] at h)
            have HQ := Lib.hid hqa
            clear hqa
            go_wp2_with fail
            refine (quote_any s _ (by unfold maxLen; omega)).mono ?_
            rintro e w3 ⟨rfl, b3⟩
            rw [HQ.out.1, HQ.out.2]
            go_wp2
            go_ret
            exact ⟨ret_bool (by rw [toList_data]; simp [ByteArray.data_append]), b1.trans (b3.mono b1.size)⟩
end Go.Proofs.Ytabggjlpnhgpjaa
