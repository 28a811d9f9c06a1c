/- Package octet: NString, which writes a number by strconv.Itoa (its table is listed by the row). -/
import Derived.Test.YtabggjlpnhgpjaaDoorOctC
import Derived.Lib.LaidTab
import Derived.Lib.ItoaNum
import Derived.Lib.ItoaLen
import Derived.Lib.AppendIntMem
import Derived.WalkSmall
set_option linter.unusedVariables false
namespace Go.Proofs.YtabggjlpnhgpjaaDoor
open Go.RowKit

/-- What a walk is told of the table of powers of ten. -/
def Pow10 (w : World) : Prop := Lib.TabIs Tryd.prog w "internal/strconv.uint64pow10" .u64 Lib.pow10Tab
theorem gPow10 : Tryd.prog.globalNamed "internal/strconv.uint64pow10" = some 1 := by kernel_rfl
theorem Pow10.below {B : Nat} {w w' : World} (h : Pow10 w) (hb : Below B w w') (hB : 1 < B) : Pow10 w' := var?_below hb gPow10 hB h
theorem itoa_any (n : Int) (h0 : -9223372036854775808 ≤ n) (h1 : n ≤ 9223372036854775807) (w : World) (ht : Pow10 w) :
    Calls Tryd.prog 28 #[.int .i64 n] w fun e w' => e = .returned (.string ⟨(Lib.itoa n).toArray⟩) ∧ Below w.heap.size w w' := by
  refine (Tryd.strconv_Itoa n h0 h1 w ht).mono ?_
  rintro e w' ⟨rfl, k, os, rfl⟩
  exact ⟨rfl, Lib.below_grow _ _ (Nat.le_refl _) _ _⟩
def nstrL (l : List UInt8) : List UInt8 := if quoteOk l then quoteS l else 123 :: (Lib.itoa (l.length : Int) ++ [125, 13, 10] ++ l)

set_option maxHeartbeats 1000000 in
theorem nstring_any (s : ByteArray) (w : World) (hs : s.size ≤ 1000000000) (ht : Pow10 w) (hg : 1 < w.heap.size) :
    Calls Tryd.prog 10 #[.string s] w fun e w' => e = .returned (.string ⟨(nstrL s.data.toList).toArray⟩) ∧ Below w.heap.size w w' := by
  have HT := Lib.hid ht
  clear ht
  go_enter Tryd.func10, Tryd.ntmps10
  go_wp2_with fail
  refine (quote_any s _ (by unfold maxLen; omega)).mono ?_
  rintro e w1 ⟨rfl, b1⟩
  by_cases hok : quoteOk s.data.toList = true
  · have HO := Lib.hid hok
    rw [hok]
    clear hok
    go_wp2
    go_ret
    exact ⟨ret_str (by unfold nstrL; rw [HO.out]; rfl), b1⟩
  · have hok' : quoteOk s.data.toList = false := by simpa using hok
    have HO := Lib.hid hok'
    rw [hok']
    clear hok hok'
    have hlen : (Lib.itoa (s.size : Int)).length ≤ 1000 := by
      have := Lib.itoa_length_le (s.size : Int) (by omega) (by omega)
      omega
    go_wp2_with fail
    refine (itoa_any _ (by omega) (by omega) _ (HT.out.below b1 hg)).mono ?_
    rintro e w2 ⟨rfl, b2⟩
    go_wp2
    go_ret
    refine ⟨ret_str ?_, b1.trans (b2.mono b1.size)⟩
    have e : nstrL s.data.toList = 123 :: (Lib.itoa (s.size : Int) ++ [125, 13, 10] ++ s.data.toList) := by
      unfold nstrL
      rw [HO.out, len_data]
      rfl
    rw [e]
    apply ByteArray.ext
    simp [ByteArray.data_append]
end Go.Proofs.YtabggjlpnhgpjaaDoor
