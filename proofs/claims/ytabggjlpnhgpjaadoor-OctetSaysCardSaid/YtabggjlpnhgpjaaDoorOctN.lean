/- Package octet: Num. -/
import Derived.Test.YtabggjlpnhgpjaaDoorOctA
set_option linter.unusedVariables false
namespace Go.Proofs.YtabggjlpnhgpjaaDoor
open Go.RowKit

def digB (c : UInt8) : Bool := decide (48 ≤ c.toNat ∧ c.toNat ≤ 57)
def numN (l : List UInt8) : Nat := l.foldl (fun n c => 10 * n + (c.toNat - 48)) 0
def numOk (l : List UInt8) : Bool := decide (1 ≤ l.length ∧ l.length ≤ 10) && l.all digB
def numR (l : List UInt8) : Nat := if numOk l then numN l else 0
theorem numN_snoc (l : List UInt8) (c : UInt8) : numN (l ++ [c]) = 10 * numN l + (c.toNat - 48) := by simp [numN]
theorem numN_lt : ∀ (n : Nat) (l : List UInt8), l.length = n → l.all digB = true → numN l < 10 ^ n
  | 0, l, h, _ => by
    obtain rfl : l = [] := List.eq_nil_of_length_eq_zero h
    decide
  | n + 1, l, h, hd => by
    obtain ⟨m, c, rfl⟩ : ∃ m c, l = m ++ [c] := by
      rcases List.eq_nil_or_concat l with rfl | ⟨m, c, rfl⟩
      · simp at h
      · exact ⟨m, c, by simp⟩
    rw [List.all_append, Bool.and_eq_true] at hd
    have hc : digB c = true := by simpa using hd.2
    have h1 := numN_lt n m (by simpa using h) hd.1
    rw [numN_snoc, Nat.pow_succ]
    have := of_decide_eq_true hc
    omega
theorem numN_small (l : List UInt8) (h : l.length ≤ 9) (hd : l.all digB = true) : numN l ≤ 1000000000 := by
  have h1 := numN_lt _ l rfl hd
  have h2 : 10 ^ l.length ≤ 10 ^ 9 := Nat.pow_le_pow_right (by omega) h
  omega
theorem num_no (s : ByteArray) (k : Nat) (h : k < s.size) (hb : digB s[k] = false) : numOk s.data.toList = false := by
  have hm : s[k] ∈ s.data.toList := by rw [← get_data s k (by simpa using h)]; exact List.getElem_mem _
  have : s.data.toList.all digB = false := by rw [List.all_eq_false]; exact ⟨_, hm, by simp [hb]⟩
  simp [numOk, this]

set_option maxHeartbeats 1000000 in
theorem num_any (s : ByteArray) (w : World) (hs : s.size ≤ maxLen) :
    Calls Tryd.prog 9 #[.string s] w fun e w' => e = .returned (.tuple #[.int .i64 (numR s.data.toList : Int), .bool (numOk s.data.toList)]) ∧ w = w' := by
  unfold maxLen at hs
  by_cases h1 : (s.size : Int) < 1
  · have hno : numOk s.data.toList = false := by unfold numOk; rw [len_data]; simp; omega
    have HN := Lib.hid hno
    clear hno
    go_enter Tryd.func9, Tryd.ntmps9
    go_wp2
    go_ret2
    exact ⟨ret_tup2 (by unfold numR; rw [HN.out]; rfl) (by rw [HN.out]; rfl), rfl⟩
  · by_cases h2 : (10 : Int) < (s.size : Int)
    · have hno : numOk s.data.toList = false := by unfold numOk; rw [len_data]; simp; omega
      have HN := Lib.hid hno
      clear hno
      go_enter Tryd.func9, Tryd.ntmps9
      go_wp2
      go_ret2
      exact ⟨ret_tup2 (by unfold numR; rw [HN.out]; rfl) (by rw [HN.out]; rfl), rfl⟩
    · have hlen : 1 ≤ s.size ∧ s.size ≤ 10 := by omega
      obtain ⟨hl1, hl2⟩ := hlen
      go_enter Tryd.func9, Tryd.ntmps9
      go_wp2
      go_loop [4, 16] (fun n i => ∃ k : Nat, k ≤ s.size ∧ i = .int .i64 k ∧ n = .int .i64 (numN (s.data.toList.take k) : Int) ∧ Hid ((s.data.toList.take k).all digB = true)) (fun _ i => s.size - (intOf i).toNat)
      case atStart => exact ⟨0, Nat.zero_le _, rfl, rfl, rfl⟩
      case round =>
        obtain ⟨k, hk, rfl, rfl, HA⟩ := hrel
        by_cases hlt : k < s.size
        · have hb9 := numN_small (s.data.toList.take k) (by rw [List.length_take]; omega) HA.out
          have hns := Lib.hid (numN_snoc (s.data.toList.take k) s[k])
          have hts := Lib.hid (take_snoc s k hlt)
          by_cases hd : digB s[k] = true
          · have hr := of_decide_eq_true hd
            obtain ⟨hr1, hr2⟩ := hr
            have t1 : ¬ (s[k].toNat : Int) < 48 := by omega
            have t2 : ¬ (57 : Int) < (s[k].toNat : Int) := by omega
            have HD := Lib.hid hd
            clear hd
            generalize hN : numN (s.data.toList.take k) = N at *
            have HN := Lib.hid hN
            clear hN
            go_wp2
            go_round
            case rel =>
              refine ⟨k + 1, by omega, by go_num, ?_, ?_⟩
              · rw [hts.out, hns.out]
                congr 1
                omega
              · show _ = _
                rw [hts.out, List.all_append, HA.out]; simp [HD.out]
            case measure => simp [intOf]; omega
          · have hd' : digB s[k] = false := by simpa using hd
            have hno := Lib.hid (num_no s k hlt hd')
            have hc : (s[k].toNat : Int) < 48 ∨ ¬ (s[k].toNat : Int) < 48 ∧ (57 : Int) < (s[k].toNat : Int) := by
              unfold digB at hd'
              have := of_decide_eq_false hd'
              omega
            clear hd hd'
            rcases hc with hc | ⟨hc1, hc2⟩
            · go_wp2
              go_ret2
              exact ⟨ret_tup2 (by unfold numR; rw [hno.out]; rfl) (by rw [hno.out]; rfl), rfl⟩
            · go_wp2
              go_ret2
              exact ⟨ret_tup2 (by unfold numR; rw [hno.out]; rfl) (by rw [hno.out]; rfl), rfl⟩
        · obtain rfl : k = s.size := by omega
          have hok : numOk s.data.toList = true := by
            have h := HA.out
            rw [take_all] at h
            unfold numOk; rw [len_data, h]; simp; omega
          have HO := Lib.hid hok
          clear hok
          go_wp2
          go_ret2
          exact ⟨ret_tup2 (by unfold numR; rw [HO.out, take_all]; rfl) (by rw [HO.out]; rfl), rfl⟩
end Go.Proofs.YtabggjlpnhgpjaaDoor
