/- Package seq: number. -/
import Derived.Test.YtehbekjcnlcooaaDoorSqP
set_option linter.unusedVariables false
namespace Go.Proofs.YtehbekjcnlcooaaDoor
open Go.RowKit

def digB (c : UInt8) : Bool := decide (48 ≤ c.toNat ∧ c.toNat ≤ 57)
def valF (l : List UInt8) : Nat := l.foldl (fun n c => n * 10 + (c.toNat - 48)) 0
def numF (l : List UInt8) : Int × Bool :=
  if l = [42] then (0, true)
  else if l.length = 0 ∨ 10 < l.length ∨ l.head? = some 48 then (0, false)
  else if l.all digB then ((valF l : Int), decide (valF l ≤ 4294967295)) else (0, false)
theorem valF_snoc (l : List UInt8) (c : UInt8) : valF (l ++ [c]) = valF l * 10 + (c.toNat - 48) := by unfold valF; rw [List.foldl_append]; rfl
theorem valF_lt : ∀ (n : Nat) (l : List UInt8), l.length = n → l.all digB = true → valF l < 10 ^ n
  | 0, l, h, _ => by rw [List.eq_nil_of_length_eq_zero h]; decide
  | n + 1, l, h, hd => by
    obtain ⟨i, c, rfl⟩ : ∃ i c, l = i ++ [c] := ⟨l.dropLast, l.getLast (by intro e; subst e; simp at h), (List.dropLast_concat_getLast _).symm⟩
    rw [List.all_append] at hd
    have h1 := valF_lt n i (by simpa using h) (by simp_all)
    have h2 : digB c = true := by simp_all
    unfold digB at h2
    simp at h2
    rw [valF_snoc, Nat.pow_succ]
    omega

set_option maxRecDepth 100000 in
set_option maxHeartbeats 1000000 in
theorem number_any (s : ByteArray) (w : World) (hs : s.size ≤ maxLen) :
    Calls Tryd.prog 24 #[.string s] w fun e w' => e = .returned (.tuple #[.int .i64 (numF s.data.toList).1, .bool (numF s.data.toList).2]) ∧ ∃ n, w' = w.drewN n := by
  unfold maxLen at hs
  by_cases h42 : s.data.toList = [42]
  · have hr : numF s.data.toList = (0, true) := by unfold numF; rw [if_pos h42]
    have e1 : (s.toList == [42]) = true := by rw [toList_data, h42]; rfl
    rw [hr]
    clear h42 hr
    go_enter Tryd.func24, Tryd.ntmps24
    go_wp2
    go_ret2
    exact ⟨rfl, 0, rfl⟩
  have e1 : (s.toList == [42]) = false := by rw [toList_data]; simpa using h42
  by_cases hl0 : s.size = 0
  · have hr : numF s.data.toList = (0, false) := by unfold numF; rw [if_neg h42, if_pos (.inl (by rw [len_data]; exact hl0))]
    have e2 := str_isnil hl0
    rw [hr]
    clear h42 hr
    go_enter Tryd.func24, Tryd.ntmps24
    go_wp2
    go_ret2
    exact ⟨rfl, 0, rfl⟩
  have e2 := str_some hl0
  by_cases hl1 : 10 < s.size
  · have hr : numF s.data.toList = (0, false) := by unfold numF; rw [if_neg h42, if_pos (.inr (.inl (by rw [len_data]; exact hl1)))]
    have e3 : (10 : Int) < (s.size : Int) := by omega
    rw [hr]
    clear h42 hr
    go_enter Tryd.func24, Tryd.ntmps24
    go_wp2
    go_ret2
    exact ⟨rfl, 0, rfl⟩
  have e3 : ¬ (10 : Int) < (s.size : Int) := by omega
  have hpos : 0 < s.size := by omega
  have hh : s.data.toList.head? = some s[0] := by rw [List.head?_eq_getElem?, List.getElem?_eq_getElem (by rw [len_data]; exact hpos)]; rfl
  by_cases hz : s[0] = 48
  · have hr : numF s.data.toList = (0, false) := by unfold numF; rw [if_neg h42, if_pos (.inr (.inr (by rw [hh, hz])))]
    have e4 : ((s[0].toNat : Int) == 48) = true := by rw [hz]; rfl
    rw [hr]
    clear h42 hr hh hz
    go_enter Tryd.func24, Tryd.ntmps24
    go_wp2
    go_ret2
    exact ⟨rfl, 0, rfl⟩
  have e4 : ((s[0].toNat : Int) == 48) = false := by
    rw [beq_eq_false_iff_ne]
    intro h
    exact hz (UInt8.toNat_inj.1 (by simpa using (show s[0].toNat = 48 by omega)))
  have hr : numF s.data.toList = if s.data.toList.all digB then ((valF s.data.toList : Int), decide (valF s.data.toList ≤ 4294967295)) else (0, false) := by
    unfold numF
    rw [if_neg h42, if_neg]
    rintro (h | h | h)
    · exact hl0 (by rwa [len_data] at h)
    · exact hl1 (by rwa [len_data] at h)
    · rw [hh] at h; exact hz (Option.some.inj h)
  have HR := Lib.hid hr
  clear h42 hr hh hz
  go_enter Tryd.func24, Tryd.ntmps24
  go_wp2
  go_loopw [4, 22] (fun v i wr => ∃ k : Nat, k ≤ s.size ∧ i = .int .i64 (k : Int) ∧ v = .int .i64 (valF (s.data.toList.take k) : Int) ∧ (∃ n, wr = w.drewN n) ∧ (s.data.toList.take k).all digB = true) (fun _ i _ => s.size - (intOf i).toNat)
  case atStart => exact ⟨0, Nat.zero_le _, rfl, rfl, ⟨0, rfl⟩, by simp⟩
  case round =>
    obtain ⟨k, hk, rfl, rfl, hw, hall⟩ := hrel
    have HA := Lib.hid hall
    have hv := valF_lt k (s.data.toList.take k) (by rw [List.length_take, len_data]; omega) hall
    have HV := Lib.hid hv
    clear hall hv
    by_cases hlt : k < s.size
    · have i1 : (k : Int) < (s.size : Int) := by omega
      have hts := take_snoc s k hlt
      have HN := Lib.hid (show (s.data.toList.take (k + 1)).all digB = ((s.data.toList.take k).all digB && digB s[k]) by rw [hts, List.all_append]; simp)
      have HS := Lib.hid (show valF (s.data.toList.take (k + 1)) = valF (s.data.toList.take k) * 10 + (s[k].toNat - 48) by rw [hts, valF_snoc])
      have HM := Lib.hid (show digB s[k] = false → s.data.toList.all digB = false from fun h => List.all_eq_false.2 ⟨s[k], by
        have : s[k] = s.data.toList[k]'(by rw [len_data]; exact hlt) := rfl
        rw [this]; exact List.getElem_mem _, by simp [h]⟩)
      have HD := Lib.hid (show digB s[k] = decide (48 ≤ s[k].toNat ∧ s[k].toNat ≤ 57) from rfl)
      have hv9 : valF (s.data.toList.take k) < 1000000000 := Nat.lt_of_lt_of_le HV.out (Nat.pow_le_pow_right (by decide) (by omega) : 10 ^ k ≤ 10 ^ 9)
      have hc256 := s[k].toNat_lt
      clear hts
      generalize valF (s.data.toList.take k) = V at HS hv9
      obtain ⟨c, hc⟩ : ∃ c, s[k].toNat = c := ⟨_, rfl⟩
      by_cases t1 : s[k].toNat < 48
      · have t1' : (s[k].toNat : Int) < 48 := by omega
        go_wp2
        go_ret2
        obtain ⟨n, rfl⟩ := hw
        refine ⟨?_, n, rfl⟩
        rw [HR.out, HM.out (by rw [HD.out]; simp only [decide_eq_false_iff_not]; omega)]
        rfl
      have t1' : ¬ (s[k].toNat : Int) < 48 := by omega
      by_cases t2 : 57 < s[k].toNat
      · have t2' : (57 : Int) < (s[k].toNat : Int) := by omega
        go_wp2
        go_ret2
        obtain ⟨n, rfl⟩ := hw
        refine ⟨?_, n, rfl⟩
        rw [HR.out, HM.out (by rw [HD.out]; simp only [decide_eq_false_iff_not]; omega)]
        rfl
      have t2' : ¬ (57 : Int) < (s[k].toNat : Int) := by omega
      go_wp2
      go_roundw
      case rel =>
        refine ⟨k + 1, by omega, by go_num, ?_, hw, ?_⟩
        · rw [HS.out]
          go_num
        · rw [HN.out, HA.out, HD.out]
          simp only [Bool.true_and, decide_eq_true_eq]
          omega
      case measure => simp [intOf]; omega
    · obtain rfl : k = s.size := by omega
      have hA := HA.out
      rw [take_all] at hA
      obtain ⟨n, rfl⟩ := hw
      have hR := HR.out
      rw [hA, if_pos rfl] at hR
      rw [take_all] at HV ⊢
      go_wp2
      go_ret2
      rw [hR]
      exact ⟨by simp; omega, n, rfl⟩
end Go.Proofs.YtehbekjcnlcooaaDoor
