/- The walk of the law CrcParts: a slice that is not nil. -/
import Derived.Test.YtimhbmopkmdnaaaDoorCrcPartsK
set_option linter.unusedVariables false
set_option linter.unusedSimpArgs false
namespace Go.Proofs.YtimhbmopkmdnaaaDoor.parts
open Go.RowKit
attribute [local go_sem ↓] Go.wp_at_zero Go.wp_at_succ

set_option maxRecDepth 100000 in
set_option maxHeartbeats 4000000 in
theorem parts_some (a : Addr) (l l1 l2 : List UInt8) (c k n : Nat) (w : World) (hr : Rd w (some a) l) (hr1 : Rd w (some a) l1) (A2 : Option Addr) (hA2 : (if c = k then some a else some (a.add k)) = A2) (hr2 : Rd w A2 l2) (hn : Hid (l.length = n)) (hn1 : Hid (l1.length = k)) (hn2 : Hid (l2.length = n - k)) (hnc : n ≤ c) (hl : n ≤ 300) (hk : k ≤ n) (y1 y : Nat) (hy1 : Hid (crcAdd 0 l1 = y1)) (hy : Hid (crcAdd y1 l2 = y)) (hy2 : Hid (crcAdd (crcAdd 0 l1) l2 = y)) (hy' : Hid (crcAdd 0 l = y)) (hlt : y1 < 4294967296) (ht : Hid (Steps w)) (hp : 0 < w.heap.size) :
    Calls Tryd.prog 6 #[.slice (some a) n c, .int .i64 (k : Int)] w fun e w' => e = .returned (.bool true) ∧ Below w.heap.size w w' := by
  have f1 : (0 : Int) ≤ (k : Int) := by omega
  have f2 : (k : Int) ≤ (n : Int) := by omega
  have f3 : (n : Int) ≤ (c : Int) := by omega
  have f4 : ¬ (300 : Int) < (n : Int) := by omega
  have f5 : ¬ (k : Int) < 0 := by omega
  have f6 : ¬ (n : Int) < (k : Int) := by omega
  have f7 : (k : Int) ≤ (c : Int) := by omega
  go_enter Tryd.func6, Tryd.ntmps6
  go_wp2_with fail
  refine (awake_any _ ht.out hp).mono ?_
  rintro e w1 ⟨rfl, b1⟩
  have hK0 : Kept w (some a) (some a) A2 l l1 l2 w1 := ⟨hr.below b1, hr1.below b1, hr2.below b1, ht.out.below b1 hp, b1⟩
  go_wp2_with fail
  go_region_held3 (Kept w (some a) (some a) A2 l l1 l2) (first | assumption | exact Kept.alloc hp ‹_› _ | exact Kept.drewN ‹_› _ | exact Kept.drew ‹_›) (first
    | (go_at_call 9; with_reducible refine (ofk2 (w := w) (A := some a) (A1 := some a) (A2 := A2) (l := l) (l1 := l1) (l2 := l2) _ k (n - k) c (c - k) y (by assumption) hn1.out hn2.out (by omega) (by omega) ?_ ?_ hy2).mono ?_; (focus (simp only [cellL, drewL, sizeL, sizeD]; first | (simp; done) | (simp; omega))); (focus (simp only [cellL, drewL, sizeL, sizeD]; first | (simp; done) | (simp; omega))); rintro e w5 ⟨rfl, rfl⟩)
    | (go_at_call 9; with_reducible refine (ofk1 (w := w) (A := some a) (A1 := some a) (A2 := A2) (l := l) (l1 := l1) (l2 := l2) _ n c y (by assumption) hn.out (by omega) ?_ hy').mono ?_; (focus (simp only [cellL, drewL, sizeL, sizeD]; first | (simp; done) | (simp; omega))); rintro e w5 ⟨rfl, rfl⟩)
    | (go_at_call 9; with_reducible refine (ofk1' (w := w) (A := some a) (A1 := some a) (A2 := A2) (l := l) (l1 := l1) (l2 := l2) _ k c y1 (by assumption) hn1.out (by omega) ?_ hy1).mono ?_; (focus (simp only [cellL, drewL, sizeL, sizeD]; first | (simp; done) | (simp; omega))); rintro e w5 ⟨rfl, rfl⟩)
    | (go_at_call 9; with_reducible refine (ofk3 (w := w) (A := some a) (A1 := some a) (A2 := A2) (l := l) (l1 := l1) (l2 := l2) _ n c y (by assumption) hn.out (by omega) ?_ ?_ ?_ hy').mono ?_; (focus (simp only [cellL, drewL, sizeL, sizeD]; first | (simp; done) | (simp; omega))); (focus (simp only [cellL, drewL, sizeL, sizeD]; first | (simp; done) | (simp; omega))); (focus (simp only [cellL, drewL, sizeL, sizeD]; first | (simp; done) | (simp; omega))); rintro e w5 ⟨rfl, rfl⟩)
    | (go_at_call 10; with_reducible refine (addk (w := w) (A := some a) (A1 := some a) (A2 := A2) (l := l) (l1 := l1) (l2 := l2) y1 y _ _ hlt (by assumption) hn2.out (by omega) hy).mono ?_; rintro e w5 ⟨rfl, rfl⟩))
  all_goals (go_wp2_with fail; go_ret; exact ⟨rfl, Kept.bel (by assumption)⟩)
end Go.Proofs.YtimhbmopkmdnaaaDoor.parts
