/- Decode; literals; what 'awake' answers. -/
import Derived.Test.YtofgkahldhelaaaDoorCdH
import Derived.Lib.BufferRead
set_option linter.unusedVariables false
namespace Go.Proofs.YtofgkahldhelaaaDoor
open Go.RowKit

def lowB (c : UInt8) : UInt8 := if 65 ≤ c.toNat ∧ c.toNat ≤ 90 then UInt8.ofNat (c.toNat + 32) else c
def alikeB (word s : List UInt8) : Bool := decide (s.map lowB = word)
theorem low_up (c : UInt8) (h : 65 ≤ c.toNat ∧ c.toNat ≤ 90) : (lowB c).toNat = c.toNat + 32 := by
  rw [lowB, if_pos h, UInt8.toNat_ofNat', Nat.mod_eq_of_lt (by omega)]
theorem low_id (c : UInt8) (h : ¬ (65 ≤ c.toNat ∧ c.toNat ≤ 90)) : lowB c = c := by rw [lowB, if_neg h]

set_option maxHeartbeats 2000000 in
theorem alike_e (word s : ByteArray) (w : World) (hw : word.size ≤ 1000) (hs : s.size ≤ maxLen) :
    Calls Tryd.prog 24 #[.string word, .string s] w fun e w' => e = .returned (.bool (alikeB word.data.toList s.data.toList)) ∧ w = w' := by
  by_cases hsz : s.size = word.size
  · have hsz' : ((s.size : Int) != (word.size : Int)) = false := by simp [hsz]
    go_enter Tryd.func24, Tryd.ntmps24
    go_wp2
    go_loop [14] (fun i => ∃ k : Nat, k ≤ word.size ∧ i = .int .i64 k ∧ Hid ((s.data.toList.take k).map lowB = word.data.toList.take k)) (fun i => word.size - (intOf i).toNat)
    case atStart => exact ⟨0, Nat.zero_le _, rfl, rfl⟩
    case round =>
      obtain ⟨k, hk, rfl, HK⟩ := hrel
      by_cases hlt : k < word.size
      · have hlt' : (k : Int) < (word.size : Int) := by omega
        have hls : k < s.size := by omega
        have hls' : (k : Int) < (s.size : Int) := by omega
        have hx8 := s[k].toNat_lt
        have hy8 := word[k].toNat_lt
        have hts := take_snoc s k hls
        have htw := take_snoc word k hlt
        replace hts := Lib.hid hts
        replace htw := Lib.hid htw
        by_cases heq : lowB s[k] = word[k]
        · have hnew : Hid ((s.data.toList.take (k + 1)).map lowB = word.data.toList.take (k + 1)) := by
            show _ = _
            rw [hts.out, htw.out, List.map_append, HK.out, List.map_cons, List.map_nil, heq]
          have e2 := congrArg UInt8.toNat heq
          by_cases hu : 65 ≤ s[k].toNat ∧ s[k].toNat ≤ 90
          · rw [low_up _ hu] at e2
            obtain ⟨u1, u2⟩ := hu
            have u1' : (65 : Int) ≤ (s[k].toNat : Int) := by omega
            have u2' : (s[k].toNat : Int) ≤ 90 := by omega
            have e3 : ((s[k].toNat : Int) + 32 != (word[k].toNat : Int)) = false := by
              rw [← e2]
              simp
            clear e2 heq hts htw
            go_wp2
            go_round
            case rel => exact ⟨k + 1, by omega, by go_num, hnew⟩
            case measure => simp [intOf]; omega
          · rw [low_id _ hu] at e2
            have e3 : ((s[k].toNat : Int) != (word[k].toNat : Int)) = false := by
              rw [← e2]
              simp
            by_cases u1 : 65 ≤ s[k].toNat
            · have u1' : (65 : Int) ≤ (s[k].toNat : Int) := by omega
              have u2' : ¬ (s[k].toNat : Int) ≤ 90 := by omega
              clear e2 heq hts htw hu
              go_wp2
              go_round
              case rel => exact ⟨k + 1, by omega, by go_num, hnew⟩
              case measure => simp [intOf]; omega
            · have u1' : ¬ (65 : Int) ≤ (s[k].toNat : Int) := by omega
              clear e2 heq hts htw hu
              go_wp2
              go_round
              case rel => exact ⟨k + 1, by omega, by go_num, hnew⟩
              case measure => simp [intOf]; omega
        · have hF : alikeB word.data.toList s.data.toList = false := by
            unfold alikeB
            rw [decide_eq_false_iff_not]
            intro e
            have h1 := congrArg (fun l => l.take (k + 1)) e
            simp only [← List.map_take] at h1
            rw [hts.out, htw.out, List.map_append, HK.out] at h1
            have h2 := List.append_cancel_left h1
            simp at h2
            exact heq h2
          have HF := Lib.hid hF
          have e2 : (lowB s[k]).toNat ≠ word[k].toNat := fun e => heq (UInt8.toNat_inj.1 e)
          by_cases hu : 65 ≤ s[k].toNat ∧ s[k].toNat ≤ 90
          · rw [low_up _ hu] at e2
            obtain ⟨u1, u2⟩ := hu
            have u1' : (65 : Int) ≤ (s[k].toNat : Int) := by omega
            have u2' : (s[k].toNat : Int) ≤ 90 := by omega
            have e3 : ((s[k].toNat : Int) + 32 != (word[k].toNat : Int)) = true := by
              rw [bne_iff_ne]
              omega
            clear e2 heq hts htw hF
            go_wp2
            go_ret
            exact ⟨ret_bool HF.out.symm, rfl⟩
          · rw [low_id _ hu] at e2
            have e3 : ((s[k].toNat : Int) != (word[k].toNat : Int)) = true := by
              rw [bne_iff_ne]
              omega
            by_cases u1 : 65 ≤ s[k].toNat
            · have u1' : (65 : Int) ≤ (s[k].toNat : Int) := by omega
              have u2' : ¬ (s[k].toNat : Int) ≤ 90 := by omega
              clear e2 heq hts htw hu hF
              go_wp2
              go_ret
              exact ⟨ret_bool HF.out.symm, rfl⟩
            · have u1' : ¬ (65 : Int) ≤ (s[k].toNat : Int) := by omega
              clear e2 heq hts htw hu hF
              go_wp2
              go_ret
              exact ⟨ret_bool HF.out.symm, rfl⟩
      · obtain rfl : k = word.size := by omega
        have hlt' : ¬ (word.size : Int) < (word.size : Int) := by omega
        have hT : alikeB word.data.toList s.data.toList = true := by
          unfold alikeB
          rw [decide_eq_true_eq]
          have h1 := HK.out
          rw [take_all, ← hsz, take_all] at h1
          exact h1
        have HT := Lib.hid hT
        clear hT
        go_wp2
        go_ret
        exact ⟨ret_bool HT.out.symm, rfl⟩
  · have hsz' : ((s.size : Int) != (word.size : Int)) = true := by rw [bne_iff_ne]; omega
    have hF : alikeB word.data.toList s.data.toList = false := by
      unfold alikeB
      rw [decide_eq_false_iff_not]
      intro e
      have := congrArg List.length e
      rw [List.length_map, len_data, len_data] at this
      exact hsz this
    rw [hF]
    clear hF hsz
    go_enter Tryd.func24, Tryd.ntmps24
    go_wp2
    go_ret
    exact ⟨rfl, rfl⟩
end Go.Proofs.YtofgkahldhelaaaDoor
