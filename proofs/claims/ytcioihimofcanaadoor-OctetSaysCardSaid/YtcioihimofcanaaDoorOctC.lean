/- Package octet: Quote, Unquote. -/
import Derived.Test.YtcioihimofcanaaDoorOctB
namespace Go.Proofs.YtcioihimofcanaaDoor
open Go.RowKit

theorem isb (B b : Nat) (l : List UInt8) (c : UInt8) (w : World) (n : Int) (hn : n = (c.toNat : Int)) (h : Lib.IsBuilderF 38 5 B b (Lib.byteCells l ++ [.int .u8 n]) w) : Lib.IsBuilderF 38 5 B b (Lib.byteCells (l ++ [c])) w := by
  rw [Lib.byteCells_append]; subst hn; exact h

set_option maxHeartbeats 1000000 in
theorem quote_any (s : ByteArray) (w : World) (hs : s.size ≤ maxLen) :
    Calls Tryd.prog 6 #[.string s] w fun e w' => e = .returned (.tuple #[.string ⟨(quoteS s.data.toList).toArray⟩, .bool (quoteOk s.data.toList)]) ∧ Below w.heap.size w w' := by
  unfold maxLen at hs
  by_cases h8 : (8192 : Int) < (s.size : Int)
  · have hno : quoteOk s.data.toList = false := by
      have : ¬ s.size ≤ 8192 := by omega
      unfold quoteOk; rw [len_data]; simp [this]
    have HN := Lib.hid hno
    clear hno
    go_enter Tryd.func6, Tryd.ntmps6
    go_wp2
    go_ret2
    exact ⟨ret_tup2 (by simp [quoteS, HN.out]) (by rw [HN.out]; rfl), Below.refl _ _⟩
  · have h8' : s.size ≤ 8192 := by omega
    go_enter Tryd.func6, Tryd.ntmps6
    go_wp2_with fail
    have f0 : Lib.IsBuilderF 38 5 w.heap.size w.heap.size (Lib.byteCells []) (w.alloc (.cells #[.pointer none, .slice none 0 0] 38)) := Lib.IsBuilderF.of (Lib.fresh_isBuilder 38 5 w)
    refine (sbByte w.heap.size w.heap.size _ 34 _ f0 (by simp [Lib.byteCells]) (by simp)).mono ?_
    rintro e w1 ⟨rfl, g1, b1, -⟩
    have g1' := isb w.heap.size w.heap.size [] 34 w1 34 rfl g1
    have b1' := ((Below.refl w.heap.size w).alloc (Nat.le_refl _) _).trans b1
    go_wp2
    go_loopw [12] (fun i wr => ∃ k : Nat, k ≤ s.size ∧ i = .int .i64 k ∧ Lib.IsBuilderF 38 5 w.heap.size w.heap.size (Lib.byteCells (34 :: escL (s.data.toList.take k))) wr ∧ Below w.heap.size w wr ∧ (s.data.toList.take k).all quotableB = true) (fun i _ => s.size - (intOf i).toNat)
    case atStart => exact ⟨0, Nat.zero_le _, rfl, g1', b1', rfl⟩
    case round =>
      obtain ⟨k, hk, rfl, hI, hb, hall⟩ := hrel
      have HA := Lib.hid hall
      clear hall
      have hsz := hb.size
      have hel := escL_len (s.data.toList.take k)
      have htl : (s.data.toList.take k).length ≤ k := List.length_take_le _ _
      by_cases hlt : k < s.size
      · by_cases hq : quotableB s[k] = true
        · by_cases he : escapedB s[k] = true
          · go_wp2_with (first | (go_at_call 23; refine (quotable_any _ _).mono ?_; rintro e w' ⟨rfl, rfl⟩) | (go_at_call 24; refine (escaped_any _ _).mono ?_; rintro e w' ⟨rfl, rfl⟩))
            refine (sbByte w.heap.size w.heap.size _ 92 _ hI (by rw [Lib.byteCells_length]; simp; omega) (by omega)).mono ?_
            rintro e w2 ⟨rfl, g2, b2, -⟩
            have g2' := isb w.heap.size w.heap.size _ 92 w2 92 rfl g2
            have b2' := hb.trans b2
            have hsz2 := b2'.size
            clear g2
            go_wp2_with fail
            refine (sbByteL w.heap.size w.heap.size _ s[k] _ g2' (by simp; omega) (by omega)).mono ?_
            rintro e w3 ⟨rfl, g3, b3, -⟩
            have b3' := b2'.trans b3
            go_wp2
            go_roundw
            case rel =>
              refine ⟨k + 1, by omega, by go_num, ?_, b3', by rw [take_snoc s k hlt, List.all_append, HA.out]; simp [hq]⟩
              rw [take_snoc s k hlt, escL_snoc]
              simpa [escB, he] using g3
            case measure => simp [intOf]; omega
          · have he' : escapedB s[k] = false := by simpa using he
            clear he
            go_wp2_with (first | (go_at_call 23; refine (quotable_any _ _).mono ?_; rintro e w' ⟨rfl, rfl⟩) | (go_at_call 24; refine (escaped_any _ _).mono ?_; rintro e w' ⟨rfl, rfl⟩))
            refine (sbByteL w.heap.size w.heap.size _ s[k] _ hI (by simp; omega) (by omega)).mono ?_
            rintro e w3 ⟨rfl, g3, b3, -⟩
            have b3' := hb.trans b3
            go_wp2
            go_roundw
            case rel =>
              refine ⟨k + 1, by omega, by go_num, ?_, b3', by rw [take_snoc s k hlt, List.all_append, HA.out]; simp [hq]⟩
              rw [take_snoc s k hlt, escL_snoc]
              simpa [escB, he'] using g3
            case measure => simp [intOf]; omega
        · have hq' : quotableB s[k] = false := by simpa using hq
          clear hq
          go_wp2_with (go_at_call 23; refine (quotable_any _ _).mono ?_; rintro e w' ⟨rfl, rfl⟩)
          go_ret2
          have hno := quote_no s k hlt hq'
          exact ⟨ret_tup2 (by simp [quoteS, hno]) (by rw [hno]; rfl), hb⟩
      · obtain rfl : k = s.size := by omega
        go_wp2_with fail
        refine (sbByte w.heap.size w.heap.size _ 34 _ hI (by rw [Lib.byteCells_length]; simp; omega) (by omega)).mono ?_
        rintro e w1 ⟨rfl, g1, b1, -⟩
        have g1' := isb w.heap.size w.heap.size _ 34 w1 34 rfl g1
        have hb2 := hb.trans b1
        have hsz2 := hb2.size
        go_wp2_with fail
        refine (sbString w.heap.size w.heap.size _ _ g1' (by omega)).mono ?_
        rintro e w2 ⟨rfl, b2, -⟩
        go_wp2
        go_ret2
        have hyes := HA.out
        rw [take_all] at hyes
        have hyes := quote_yes s h8' hyes
        exact ⟨ret_tup2 (by simp only [quoteS, hyes]; rw [take_all]; rfl) (by rw [hyes]; rfl), hb2.trans b2⟩
end Go.Proofs.YtcioihimofcanaaDoor
