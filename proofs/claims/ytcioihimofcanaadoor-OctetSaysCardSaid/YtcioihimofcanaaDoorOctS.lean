/- Package octet: NString, which writes a number by strconv.Itoa (its table is listed by the row). -/
import Derived.Test.YtcioihimofcanaaDoorOctC
import Derived.Lib.LaidTab
import Derived.Test.YtcioihimofcanaaDoorIto
import Derived.Lib.ItoaNum
import Derived.Lib.ItoaLen
import Derived.Lib.AppendIntMem
import Derived.WalkSmall
set_option linter.unusedVariables false
namespace Go.Proofs.YtcioihimofcanaaDoor
open Go.RowKit

def nstrL (l : List UInt8) : List UInt8 := if quoteOk l then quoteS l else 123 :: (Lib.itoa (l.length : Int) ++ [125, 13, 10] ++ l)

set_option maxHeartbeats 1000000 in
theorem nstring_any (s : ByteArray) (w : World) (hs : s.size ≤ 1000000000) (ht : Pow10 w) (hg : 1 < w.heap.size) :
    Calls Tryd.prog 10 #[.string s] w fun e w' => e = .returned (.string ⟨(nstrL s.data.toList).toArray⟩) ∧ Below w.heap.size w w' := by
  have HT := Lib.hid ht
  clear ht
  go_enter Tryd.func10, Tryd.ntmps10
  go_wp2_with fail
  refine (quote_any s _ (by unfold maxLen; omega)).mono ?_
  rintro e w1 ⟨rfl, b1⟩
  by_cases hok : quoteOk s.data.toList = true
  · have HO := Lib.hid hok
    rw [hok]
    clear hok
    go_wp2
    go_ret
    exact ⟨ret_str (by unfold nstrL; rw [HO.out]; rfl), b1⟩
  · have hok' : quoteOk s.data.toList = false := by simpa using hok
    have HO := Lib.hid hok'
    rw [hok']
    clear hok hok'
    have hlen : (Lib.itoa (s.size : Int)).length ≤ 1000 := by
      have := Lib.itoa_length_le (s.size : Int) (by omega) (by omega)
      omega
    go_wp2_with fail
    refine (itoa_any _ (by omega) (by omega) _ (HT.out.below b1 hg)).mono ?_
    rintro e w2 ⟨rfl, b2⟩
    go_wp2
    go_ret
    refine ⟨ret_str ?_, b1.trans (b2.mono b1.size)⟩
    have e : nstrL s.data.toList = 123 :: (Lib.itoa (s.size : Int) ++ [125, 13, 10] ++ s.data.toList) := by
      unfold nstrL
      rw [HO.out, len_data]
      rfl
    rw [e]
    apply ByteArray.ext
    simp [ByteArray.data_append]
end Go.Proofs.YtcioihimofcanaaDoor
