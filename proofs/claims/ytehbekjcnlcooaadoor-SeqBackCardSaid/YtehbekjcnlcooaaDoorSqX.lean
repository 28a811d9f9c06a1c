/- Package seq: Show. -/
import Derived.Test.YtehbekjcnlcooaaDoorSqS
import Derived.Lib.ItoaLen
import Derived.Lib.LaidTab
set_option linter.unusedVariables false
namespace Go.Proofs.YtehbekjcnlcooaaDoor
open Go.RowKit

def Pow10s (w : World) : Prop := Lib.TabIs Tryd.prog w "internal/strconv.uint64pow10" .u64 Lib.pow10Tab
def showN (n : Int) : List UInt8 := if n = 0 then [42] else Lib.itoa n
theorem showN_len (n : Int) (h0 : -9223372036854775808 ≤ n) (h1 : n ≤ 9223372036854775807) : (showN n).length ≤ 21 := by
  unfold showN
  split
  · simp
  · exact Lib.itoa_length_le n h0 h1
theorem show_any (n : Int) (h0 : -9223372036854775808 ≤ n) (h1 : n ≤ 9223372036854775807) (w : World) (ht : Pow10s w) :
    Calls Tryd.prog 20 #[.int .i64 n] w fun e w' => e = .returned (.string ⟨(showN n).toArray⟩) ∧ Below w.heap.size w w' := by
  by_cases h : n = 0
  · have hr : showN n = [42] := by unfold showN; rw [if_pos h]
    subst h
    rw [hr]
    go_enter Tryd.func20, Tryd.ntmps20
    go_wp2
    go_ret
    exact ⟨rfl, Below.refl _ w⟩
  · have hb : (n == 0) = false := by simpa using h
    have hr : showN n = Lib.itoa n := by unfold showN; rw [if_neg h]
    have hc : ∀ W, Pow10s W → Calls Tryd.prog 35 #[.int .i64 n, .int .i64 10] W fun e w' => e = .returned (.string ⟨(Lib.itoa n).toArray⟩) ∧ Below W.heap.size W w' := fun W hW => by
      refine (Tryd.strconv_FormatInt_10 n h0 h1 W hW).mono ?_
      rintro e w' ⟨rfl, k, os, rfl⟩
      exact ⟨rfl, below_grown W k os⟩
    rw [hr]
    go_enter Tryd.func20, Tryd.ntmps20
    go_wp2_with ((with_reducible refine (hc _ ht).mono ?_))
    rintro _ w1 ⟨rfl, hb1⟩
    go_wp2
    go_ret
    exact ⟨rfl, hb1⟩

theorem gPow10s : Tryd.prog.globalNamed "internal/strconv.uint64pow10" = some 1 := by kernel_rfl
theorem Pow10s.below {B : Nat} {w w' : World} (h : Pow10s w) (hb : Below B w w') (hB : 1 < B) : Pow10s w' := var?_below hb gPow10s hB h
def showS (x : Int × Int) : List UInt8 := showN x.1 ++ (if x.1 = x.2 then [] else 58 :: showN x.2)
def showB (x : Int × Int) : ByteArray := ⟨(showS x).toArray⟩
def showSet (xs : List (Int × Int)) : List UInt8 := if validF xs then Lib.join (xs.map showS) [44] else []
theorem showB_cat (x1 x2 : Int) (h : ¬ x1 = x2) : (⟨(showN x1).toArray⟩ : ByteArray) ++ (⟨#[58]⟩ ++ ⟨(showN x2).toArray⟩) = showB (x1, x2) := by
  unfold showB showS
  rw [if_neg h]
  apply ByteArray.ext
  simp [ByteArray.data_append]
theorem showB_one (x1 : Int) : (⟨(showN x1).toArray⟩ : ByteArray) = showB (x1, x1) := by
  unfold showB showS
  simp
theorem StrR.keepsRow : KeepsRow StrR 9 := fun w w' cs x row h hg hr => h
theorem strInfo : (Tryd.prog.info? 9).map (fun i => (i.zero, i.size, i.bytes)) = some (some (.string ByteArray.empty), 1, 16) := by kernel_rfl
end Go.Proofs.YtehbekjcnlcooaaDoor
