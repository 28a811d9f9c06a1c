/- Package octet: Num. -/
import Derived.Test.YtcioihimofcanaaDoorOctA
set_option linter.unusedVariables false
namespace Go.Proofs.YtcioihimofcanaaDoor
open Go.RowKit

set_option maxHeartbeats 1000000 in
theorem num_any (s : ByteArray) (w : World) (hs : s.size ≤ maxLen) :
    Calls Tryd.prog 9 #[.string s] w fun e w' => e = .returned (.tuple #[.int .i64 (numR s.data.toList : Int), .bool (numOk s.data.toList)]) ∧ w = w' := by
  unfold maxLen at hs
  by_cases h1 : (s.size : Int) < 1
  · have hno : numOk s.data.toList = false := by unfold numOk; rw [len_data]; simp; omega
    have HN := Lib.hid hno
    clear hno
    go_enter Tryd.func9, Tryd.ntmps9
    go_wp2
    go_ret2
    exact ⟨ret_tup2 (by unfold numR; rw [HN.out]; rfl) (by rw [HN.out]; rfl), rfl⟩
  · by_cases h2 : (10 : Int) < (s.size : Int)
    · have hno : numOk s.data.toList = false := by unfold numOk; rw [len_data]; simp; omega
      have HN := Lib.hid hno
      clear hno
      go_enter Tryd.func9, Tryd.ntmps9
      go_wp2
      go_ret2
      exact ⟨ret_tup2 (by unfold numR; rw [HN.out]; rfl) (by rw [HN.out]; rfl), rfl⟩
    · have hlen : 1 ≤ s.size ∧ s.size ≤ 10 := by omega
      obtain ⟨hl1, hl2⟩ := hlen
      go_enter Tryd.func9, Tryd.ntmps9
      go_wp2
      go_loop [4, 16] (fun n i => ∃ k : Nat, k ≤ s.size ∧ i = .int .i64 k ∧ n = .int .i64 (numN (s.data.toList.take k) : Int) ∧ Hid ((s.data.toList.take k).all digB = true)) (fun _ i => s.size - (intOf i).toNat)
      case atStart => exact ⟨0, Nat.zero_le _, rfl, rfl, rfl⟩
      case round =>
        obtain ⟨k, hk, rfl, rfl, HA⟩ := hrel
        by_cases hlt : k < s.size
        · have hb9 := numN_small (s.data.toList.take k) (by rw [List.length_take]; omega) HA.out
          have hns := Lib.hid (numN_snoc (s.data.toList.take k) s[k])
          have hts := Lib.hid (take_snoc s k hlt)
          by_cases hd : digB s[k] = true
          · have hr := of_decide_eq_true hd
            obtain ⟨hr1, hr2⟩ := hr
            have t1 : ¬ (s[k].toNat : Int) < 48 := by omega
            have t2 : ¬ (57 : Int) < (s[k].toNat : Int) := by omega
            have HD := Lib.hid hd
            clear hd
            generalize hN : numN (s.data.toList.take k) = N at *
            have HN := Lib.hid hN
            clear hN
            go_wp2
            go_round
            case rel =>
              refine ⟨k + 1, by omega, by go_num, ?_, ?_⟩
              · rw [hts.out, hns.out]
                congr 1
                omega
              · show _ = _
                rw [hts.out, List.all_append, HA.out]; simp [HD.out]
            case measure => simp [intOf]; omega
          · have hd' : digB s[k] = false := by simpa using hd
            have hno := Lib.hid (num_no s k hlt hd')
            have hc : (s[k].toNat : Int) < 48 ∨ ¬ (s[k].toNat : Int) < 48 ∧ (57 : Int) < (s[k].toNat : Int) := by
              unfold digB at hd'
              have := of_decide_eq_false hd'
              omega
            clear hd hd'
            rcases hc with hc | ⟨hc1, hc2⟩
            · go_wp2
              go_ret2
              exact ⟨ret_tup2 (by unfold numR; rw [hno.out]; rfl) (by rw [hno.out]; rfl), rfl⟩
            · go_wp2
              go_ret2
              exact ⟨ret_tup2 (by unfold numR; rw [hno.out]; rfl) (by rw [hno.out]; rfl), rfl⟩
        · obtain rfl : k = s.size := by omega
          have hok : numOk s.data.toList = true := by
            have h := HA.out
            rw [take_all] at h
            unfold numOk; rw [len_data, h]; simp; omega
          have HO := Lib.hid hok
          clear hok
          go_wp2
          go_ret2
          exact ⟨ret_tup2 (by unfold numR; rw [HO.out, take_all]; rfl) (by rw [HO.out]; rfl), rfl⟩
end Go.Proofs.YtcioihimofcanaaDoor
