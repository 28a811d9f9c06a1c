/- The reference's NString (chapter 1). -/
import Derived.Test.YtcioihimofcanaaDoorRefC
import Derived.Test.YtcioihimofcanaaDoorRefI
set_option linter.unusedVariables false
namespace Go.Proofs.YtcioihimofcanaaDoor
open Go.RowKit

def nstrR (l : List UInt8) : List UInt8 := if quoteOk l then quoteS l else 123 :: (Lib.itoa (l.length : Int) ++ [125, 13, 10] ++ l)
set_option maxHeartbeats 1000000 in
theorem r_nstring (s : ByteArray) (w : World) (hs : s.size ≤ 1000000000) :
    Calls Tryd.prog 21 #[.string s] w fun e w' => e = .returned (.string ⟨(nstrR s.data.toList).toArray⟩) ∧ Below w.heap.size w w' := by
  go_enter Tryd.func21, Tryd.ntmps21
  go_wp2_with fail
  refine (r_quote s _ (by unfold maxLen; omega)).mono ?_
  rintro e w1 ⟨rfl, b1⟩
  by_cases hok : quoteOk s.data.toList = true
  · have HO := Lib.hid hok
    rw [hok]
    clear hok
    go_wp2
    go_ret
    exact ⟨ret_str (by unfold nstrR; rw [HO.out]; rfl), b1⟩
  · have hok' : quoteOk s.data.toList = false := by simpa using hok
    have HO := Lib.hid hok'
    rw [hok']
    clear hok hok'
    have hlen : (Lib.decDigits s.size).length ≤ 1000 := by
      rw [Lib.decDigits_length]
      have := Lib.nDigits_le20 s.size (by omega)
      omega
    have hd := Lib.hid (r_digits s.size s.size (Nat.le_refl _) (by omega) w1)
    go_wp2_with fail
    refine hd.out.mono ?_
    rintro e w2 ⟨rfl, b2⟩
    go_wp2
    go_ret
    refine ⟨ret_str ?_, b1.trans (b2.mono b1.size)⟩
    have e : nstrR s.data.toList = 123 :: (Lib.decDigits s.size ++ [125, 13, 10] ++ s.data.toList) := by
      unfold nstrR
      rw [HO.out, len_data, Lib.itoa_nonneg]
      rfl
    rw [e]
    apply ByteArray.ext
    simp [ByteArray.data_append]
end Go.Proofs.YtcioihimofcanaaDoor
