/- The reference's Fold alone (from XRefF, for seats without Same). -/
import Derived.Test.YtofgkahldhelaaaDoorMa
set_option linter.unusedVariables false
namespace Go.Proofs.YtofgkahldhelaaaDoor
open Go.RowKit

set_option maxHeartbeats 1000000 in
theorem r_fold (s : ByteArray) (w : World) (hs : s.size ≤ maxLen) :
    Calls Tryd.prog 26 #[.string s] w fun e w' => e = .returned (.string ⟨(foldL s.data.toList).toArray⟩) ∧ Below w.heap.size w w' := by
  unfold maxLen at hs
  obtain ⟨cap, C, hconv, hcap, hC⟩ := conv_bytes (P := Tryd.prog) w 9 22 5 s Tryd.underlying9 Tryd.underlying22 Tryd.underlying5
  have HC := Lib.hid hC
  clear hC
  go_enter Tryd.func26, Tryd.ntmps26
  go_wp2
  go_loopw [4] (fun i wr => ∃ k : Nat, k ≤ s.size ∧ i = .int .i64 k ∧ Bts 5 wr w.heap.size ((s.data.toList.take k).map smallU ++ s.data.toList.drop k) ∧ Below w.heap.size w wr) (fun i _ => s.size - (intOf i).toNat)
  case atStart =>
    refine ⟨0, Nat.zero_le _, rfl, ?_, ?_⟩
    · exact (Bts.new w (fun j h => HC.out j (by simpa using h))).drew
    · exact ((Below.refl _ w).alloc (Nat.le_refl _) _).drew
  case round =>
    obtain ⟨k, hk, rfl, hb, hbel⟩ := hrel
    have hlen := mapped_len smallU s.data.toList k (by rw [len_data]; exact hk)
    rw [len_data] at hlen
    by_cases hlt : k < s.size
    · have hc := hb.cell k (by omega)
      have hf := hb.frozen k (by omega)
      rw [mapped_get smallU _ k (by rw [len_data]; exact hlt), get_data] at hc
      have e := mapped_set smallU s.data.toList k (by rw [len_data]; exact hlt)
      rw [get_data] at e
      have hc8 := s[k].toNat_lt
      by_cases hup : 65 ≤ s[k].toNat ∧ s[k].toNat ≤ 90
      · have h1 : (65 : Int) ≤ (s[k].toNat : Int) := by omega
        have h2 : (s[k].toNat : Int) ≤ 90 := by omega
        have hst := hb.set_ k (by omega) (smallU s[k])
        rw [e, smallU_toNat, if_pos hup] at hst
        have HST := Lib.hid hst
        have HL := Lib.hid hlen
        clear hlen hst e hup
        go_wp2
        go_roundw
        case rel =>
          refine ⟨k + 1, by omega, by go_num, ?_, hbel.setCell (p := ⟨w.heap.size, k, none⟩) (Nat.le_refl _) _⟩
          have h := HST.out
          rw [Int.natCast_add] at h
          exact h
        case measure => simp [intOf]; omega
      · have hsm : smallU s[k] = s[k] := by unfold smallU; rw [if_neg hup]
        have hst : (s.data.toList.take (k + 1)).map smallU ++ s.data.toList.drop (k + 1) = (s.data.toList.take k).map smallU ++ s.data.toList.drop k := by
          rw [← e, hsm]
          apply List.ext_getElem
          · simp
          · intro i h1 h2
            rw [List.getElem_set]
            split
            · rename_i hki
              subst hki
              rw [mapped_get smallU _ k (by rw [len_data]; exact hlt)]
              rfl
            · rfl
        have HST := Lib.hid hst
        have HL := Lib.hid hlen
        clear hlen hst e
        by_cases h1 : (65 : Int) ≤ (s[k].toNat : Int)
        · have h2 : ¬ (s[k].toNat : Int) ≤ 90 := by omega
          clear hup
          go_wp2
          go_roundw
          case rel =>
            refine ⟨k + 1, by omega, by go_num, ?_, hbel⟩
            rw [HST.out]; exact hb
          case measure => simp [intOf]; omega
        · clear hup
          go_wp2
          go_roundw
          case rel =>
            refine ⟨k + 1, by omega, by go_num, ?_, hbel⟩
            rw [HST.out]; exact hb
          case measure => simp [intOf]; omega
    · obtain rfl : k = s.size := by omega
      have hbk := hb.back (P := Tryd.prog) 22 9 cap Tryd.underlying22 Tryd.underlying5 Tryd.underlying9
      rw [hlen] at hbk
      clear hlen
      have e0 : (s.data.toList.take s.size).map smallU ++ s.data.toList.drop s.size = foldL s.data.toList := by
        rw [take_all, List.drop_eq_nil_of_le (by simp), List.append_nil]; rfl
      rw [e0] at hbk
      clear e0
      go_wp2
      go_ret
      exact ⟨rfl, hbel⟩

theorem foldStr (l : List UInt8) : (⟨l.toArray⟩ : ByteArray).data.toList = l := rfl
end Go.Proofs.YtofgkahldhelaaaDoor
