/- Layer 1's 'awake' returns true. -/
import Derived.Test.YtcioihimofcanaaDoorOctD
set_option linter.unusedVariables false
namespace Go.Proofs.YtcioihimofcanaaDoor
open Go.RowKit

theorem aw_quote (w : World) : Calls Tryd.prog 6 #[.string ⟨#[97, 34, 98]⟩] w fun e w' => e = .returned (.tuple #[.string ⟨#[34, 97, 92, 34, 98, 34]⟩, .bool true]) ∧ Below w.heap.size w w' := by
  refine (quote_any ⟨#[97, 34, 98]⟩ w (by decide)).mono ?_
  rintro e w' ⟨rfl, h⟩
  refine ⟨ret_tup2 ?_ ?_, h⟩
  · rw [show quoteS [97, 34, 98] = [34, 97, 92, 34, 98, 34] by decide +kernel]
  · rw [show quoteOk [97, 34, 98] = true by decide +kernel]
theorem aw_unquote (w : World) : Calls Tryd.prog 7 #[.string ⟨#[34, 97, 92, 34, 98, 34, 32, 120]⟩] w fun e w' => e = .returned (.tuple #[.string ⟨#[97, 34, 98]⟩, .int .i64 6, .int .i64 0]) ∧ Below w.heap.size w w' := by
  refine (unquote_any ⟨#[34, 97, 92, 34, 98, 34, 32, 120]⟩ w (by decide)).mono ?_
  rintro e w' ⟨rfl, h⟩
  refine ⟨?_, h⟩
  rw [show unq [34, 97, 92, 34, 98, 34, 32, 120] = ([97, 34, 98], 6, 0) by decide +kernel]
  rfl
theorem aw_atom (w : World) : Calls Tryd.prog 11 #[.string ⟨#[97]⟩] w fun e w' => e = .returned (.bool true) ∧ w = w' := by
  refine (atom_any ⟨#[97]⟩ w (by decide)).mono ?_
  rintro e w' ⟨rfl, h⟩
  exact ⟨by rw [show atomB [97] = true by decide +kernel], h⟩
theorem aw_fold (w : World) : Calls Tryd.prog 17 #[.string ⟨#[97, 66]⟩] w fun e w' => e = .returned (.string ⟨#[97, 98]⟩) ∧ Below w.heap.size w w' := by
  refine (fold_any ⟨#[97, 66]⟩ w (by decide)).mono ?_
  rintro e w' ⟨rfl, h⟩
  exact ⟨by rw [show foldL [97, 66] = [97, 98] by decide +kernel], h⟩

set_option maxHeartbeats 1000000 in
theorem awake_any (w : World) : Calls Tryd.prog 5 #[] w fun e w' => e = .returned (.bool true) ∧ Below w.heap.size w w' := by
  go_enter Tryd.func5, Tryd.ntmps5
  go_wp2_with fail
  refine (aw_quote _).mono ?_
  rintro e w1 ⟨rfl, b1⟩
  go_wp2_with fail
  refine (aw_unquote _).mono ?_
  rintro e w2 ⟨rfl, b2⟩
  go_wp2_with fail
  refine (aw_atom _).mono ?_
  rintro e w3 ⟨rfl, rfl⟩
  go_wp2_with fail
  refine (aw_fold _).mono ?_
  rintro e w4 ⟨rfl, b4⟩
  go_wp2
  go_ret
  exact ⟨rfl, b1.trans ((b2.mono b1.size).trans (b4.mono (b1.trans (b2.mono b1.size)).size))⟩
end Go.Proofs.YtcioihimofcanaaDoor
