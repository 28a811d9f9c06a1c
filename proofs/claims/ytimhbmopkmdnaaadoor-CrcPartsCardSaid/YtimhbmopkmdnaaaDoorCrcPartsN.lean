/- The walk of the law CrcParts: a nil slice. -/
import Derived.Test.YtimhbmopkmdnaaaDoorCrcPartsK
set_option linter.unusedVariables false
set_option linter.unusedSimpArgs false
namespace Go.Proofs.YtimhbmopkmdnaaaDoor.parts
open Go.RowKit
attribute [local go_sem ↓] Go.wp_at_zero Go.wp_at_succ

set_option maxRecDepth 100000 in
set_option maxHeartbeats 4000000 in
theorem parts_none (c : Nat) (w : World) (ht : Hid (Steps w)) (hp : 0 < w.heap.size) :
    Calls Tryd.prog 6 #[.slice none 0 c, .int .i64 0] w fun e w' => e = .returned (.bool true) ∧ Below w.heap.size w w' := by
  have hy0 : Hid (crcAdd 0 [] = 0) := crcAdd_nil 0
  have hy2 : Hid (crcAdd (crcAdd 0 []) [] = 0) := by show _ = _; rw [crcAdd_nil, crcAdd_nil]
  go_enter Tryd.func6, Tryd.ntmps6
  go_wp2_with fail
  refine (awake_any _ ht.out hp).mono ?_
  rintro e w1 ⟨rfl, b1⟩
  have hK0 : Kept w none none none [] [] [] w1 := ⟨Rd.nil, Rd.nil, Rd.nil, ht.out.below b1 hp, b1⟩
  go_wp2_with fail
  go_region_held3 (Kept w none none none [] [] []) (first | assumption | exact Kept.alloc hp ‹_› _ | exact Kept.drewN ‹_› _ | exact Kept.drew ‹_›) (first
    | (go_at_call 9; with_reducible refine (ofk2 (w := w) (A := none) (A1 := none) (A2 := none) (l := []) (l1 := []) (l2 := []) _ 0 0 c c 0 (by assumption) rfl rfl (by omega) (by omega) ?_ ?_ hy2).mono ?_; (focus (simp only [cellL, drewL, sizeL, sizeD]; first | (simp; done) | (simp; omega))); (focus (simp only [cellL, drewL, sizeL, sizeD]; first | (simp; done) | (simp; omega))); rintro e w5 ⟨rfl, rfl⟩)
    | (go_at_call 9; with_reducible refine (ofk1 (w := w) (A := none) (A1 := none) (A2 := none) (l := []) (l1 := []) (l2 := []) _ 0 c 0 (by assumption) rfl (by omega) ?_ hy0).mono ?_; (focus (simp only [cellL, drewL, sizeL, sizeD]; first | (simp; done) | (simp; omega))); rintro e w5 ⟨rfl, rfl⟩)
    | (go_at_call 9; with_reducible refine (ofk3 (w := w) (A := none) (A1 := none) (A2 := none) (l := []) (l1 := []) (l2 := []) _ 0 c 0 (by assumption) rfl (by omega) ?_ ?_ ?_ hy0).mono ?_; (focus (simp only [cellL, drewL, sizeL, sizeD]; first | (simp; done) | (simp; omega))); (focus (simp only [cellL, drewL, sizeL, sizeD]; first | (simp; done) | (simp; omega))); (focus (simp only [cellL, drewL, sizeL, sizeD]; first | (simp; done) | (simp; omega))); rintro e w5 ⟨rfl, rfl⟩)
    | (go_at_call 10; refine (addk (w := w) (A := none) (A1 := none) (A2 := none) (l := []) (l1 := []) (l2 := []) 0 0 0 _ (by omega) (by assumption) rfl (by omega) hy0).mono ?_; rintro e w5 ⟨rfl, rfl⟩))
  all_goals (go_wp2_with fail; go_ret; exact ⟨rfl, Kept.bel (by assumption)⟩)
end Go.Proofs.YtimhbmopkmdnaaaDoor.parts
