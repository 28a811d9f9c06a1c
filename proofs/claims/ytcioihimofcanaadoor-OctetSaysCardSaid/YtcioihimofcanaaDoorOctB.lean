/- Package octet: Same, Fold, Quote, Unquote. -/
import Derived.Test.YtcioihimofcanaaDoorOctA
import Derived.Test.YtcioihimofcanaaDoorSb
import Derived.Test.YtcioihimofcanaaDoorShelf
namespace Go.Proofs.YtcioihimofcanaaDoor
open Go.RowKit

theorem sbString (B b : Nat) (l : List UInt8) (w : World) (h : Lib.IsBuilderF 38 5 B b (Lib.byteCells l) w) (hBw : B ≤ w.heap.size) :
    Calls Tryd.prog 25 #[.pointer (some ⟨b, 0, none⟩)] w fun e w' => e = .returned (.string ⟨l.toArray⟩) ∧ Below B w w' ∧ Lib.OthersKept 5 (some b) w w' := by
  refine (Tryd.Builder_String_any_k B b l w h hBw).mono ?_
  rintro e w' ⟨rfl, h1, h2, h3⟩
  exact ⟨rfl, h2, h3⟩

theorem quietL {P : Program} {f : FuncId} {args : Array Value} {w : World} {v : Value} (h : Calls P f args w fun e w' => e = .returned v ∧ w = w') : Calls P f args w fun e w' => e = .returned v ∧ w' = w :=
  h.mono fun _ _ ⟨he, hw⟩ => ⟨he, hw.symm⟩

set_option maxHeartbeats 400000 in
theorem same_any (s t : ByteArray) (w : World) (hs : s.size ≤ maxLen) :
    Calls Tryd.prog 12 #[.string s, .string t] w fun e w' => e = .returned (.bool (sameB s.data.toList t.data.toList)) ∧ ∃ n, w' = w.drewN n := by
  unfold maxLen at hs
  by_cases hl : s.size = t.size
  · have hl2 : ((s.size : Int) != (t.size : Int)) = false := by simp [hl]
    have HL := Lib.hid hl
    clear hl
    go_enter Tryd.func12, Tryd.ntmps12
    go_wp2
    go_loopw [13] (fun i wr => ∃ k : Nat, k ≤ s.size ∧ i = .int .i64 k ∧ (∃ n, wr = w.drewN n) ∧ foldL (s.data.toList.take k) = foldL (t.data.toList.take k)) (fun i _ => s.size - (intOf i).toNat)
    case atStart => exact ⟨0, Nat.zero_le _, rfl, ⟨0, rfl⟩, by simp⟩
    case round =>
      obtain ⟨k, hk, rfl, hw, hall⟩ := hrel
      have HA := Lib.hid hall
      clear hall
      by_cases hlt : k < s.size
      · have hkt : k < t.size := by have := HL.out; omega
        have e1 : (k : Int) < (s.size : Int) := by omega
        have e2 : (k : Int) < (t.size : Int) := by omega
        by_cases hb : smallU s[k] = smallU t[k]
        · have hb2 : (((smallU s[k]).toNat : Int) != ((smallU t[k]).toNat : Int)) = false := by rw [hb]; simp
          have HB := Lib.hid hb
          clear hb
          go_wp2_with fail
          go_quiet ((go_at_call 30; exact Calls.quiet_of_same (quietL (small_any _ _))))
          go_wp2
          go_roundw
          case rel =>
            refine ⟨k + 1, by omega, by go_num, ?_, ?_⟩
            · obtain ⟨n, rfl⟩ := hw
              exact ⟨n + _, World.drewN_drewN _ _ _⟩
            · rw [take_snoc s k hlt, take_snoc t k hkt]
              simp only [foldL, List.map_append, List.map_cons, List.map_nil]
              rw [HB.out]
              exact congrArg (· ++ _) HA.out
          case measure => simp [intOf]; omega
        · have hb2 := toNat_ne hb
          have HB := Lib.hid hb
          clear hb
          go_wp2_with fail
          go_quiet ((go_at_call 30; exact Calls.quiet_of_same (quietL (small_any _ _))))
          go_wp2
          go_ret
          obtain ⟨n, rfl⟩ := hw
          exact ⟨ret_bool (same_no s t k hlt hkt HB.out).symm, n + _, World.drewN_drewN _ _ _⟩
      · obtain rfl : k = s.size := by omega
        go_wp2
        go_ret
        exact ⟨ret_bool (by
          have h := HA.out
          rw [take_all, HL.out, take_all] at h
          simp [sameB, h]), hw⟩
  · have hl2 : ((s.size : Int) != (t.size : Int)) = true := by rw [bne_iff_ne]; omega
    have HL := Lib.hid hl
    clear hl
    go_enter Tryd.func12, Tryd.ntmps12
    go_wp2
    go_ret
    exact ⟨ret_bool (same_len s t HL.out).symm, 0, rfl⟩
set_option maxHeartbeats 400000 in
theorem fold_any (s : ByteArray) (w : World) (hs : s.size ≤ maxLen) :
    Calls Tryd.prog 17 #[.string s] w fun e w' => e = .returned (.string ⟨(foldL s.data.toList).toArray⟩) ∧ Below w.heap.size w w' := by
  unfold maxLen at hs
  obtain ⟨cap, C, hconv, hcap, hC⟩ := conv_bytes (P := Tryd.prog) w 9 30 5 s Tryd.underlying9 Tryd.underlying30 Tryd.underlying5
  have HC := Lib.hid hC
  clear hC
  go_enter Tryd.func17, Tryd.ntmps17
  go_wp2
  go_loopw [10] (fun i wr => ∃ k : Nat, k ≤ s.size ∧ i = .int .i64 k ∧ Bts 5 wr w.heap.size ((s.data.toList.take k).map smallU ++ s.data.toList.drop k) ∧ Below w.heap.size w wr) (fun i _ => s.size - (intOf i).toNat)
  case atStart =>
    refine ⟨0, Nat.zero_le _, rfl, ?_, ?_⟩
    · exact (Bts.new w (fun j h => HC.out j (by simpa using h))).drew
    · exact ((Below.refl _ w).alloc (Nat.le_refl _) _).drew
  case round =>
    obtain ⟨k, hk, rfl, hb, hbel⟩ := hrel
    have hlen := mapped_len smallU s.data.toList k (by rw [len_data]; exact hk)
    rw [len_data] at hlen
    by_cases hlt : k < s.size
    · have hc := hb.cell k (by omega)
      have hf := hb.frozen k (by omega)
      rw [mapped_get smallU _ k (by rw [len_data]; exact hlt), get_data] at hc
      have hst := hb.set_ k (by omega) (smallU s[k])
      have HST := Lib.hid hst
      clear hst
      have HL := Lib.hid hlen
      clear hlen
      go_wp2_with (go_at_call 30; refine (small_any _ _).mono ?_; rintro e w' ⟨rfl, rfl⟩)
      go_roundw
      case rel =>
        refine ⟨k + 1, by omega, by go_num, ?_, hbel.setCell (p := ⟨w.heap.size, k, none⟩) (Nat.le_refl _) _⟩
        have h := HST.out
        have e := mapped_set smallU s.data.toList k (by rw [len_data]; exact hlt)
        rw [get_data] at e
        rw [e] at h
        exact h
      case measure => simp [intOf]; omega
    · obtain rfl : k = s.size := by omega
      have hbk := hb.back (P := Tryd.prog) 30 9 cap Tryd.underlying30 Tryd.underlying5 Tryd.underlying9
      rw [hlen] at hbk
      clear hlen
      have e0 : (s.data.toList.take s.size).map smallU ++ s.data.toList.drop s.size = foldL s.data.toList := by
        rw [take_all, List.drop_eq_nil_of_le (by simp), List.append_nil]; rfl
      rw [e0] at hbk
      clear e0
      go_wp2
      go_ret
      exact ⟨rfl, hbel⟩
end Go.Proofs.YtcioihimofcanaaDoor
