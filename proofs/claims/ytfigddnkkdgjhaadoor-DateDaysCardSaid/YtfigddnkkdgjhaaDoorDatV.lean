/- Package date: Show, the walk. -/
import Derived.Test.YtfigddnkkdgjhaaDoorDatU0
import Derived.Test.YtfigddnkkdgjhaaDoorDatU1
import Derived.Test.YtfigddnkkdgjhaaDoorDatU2
import Derived.Test.YtfigddnkkdgjhaaDoorDatU3
set_option linter.unusedVariables false
namespace Go.Proofs.YtfigddnkkdgjhaaDoor
open Go.RowKit

set_option maxRecDepth 100000 in
set_option maxHeartbeats 4000000 in
theorem show_any (y m d h i s z : Int) (w : World) (ht : Pow10 w) (hp : 0 < w.heap.size) : Calls Tryd.prog 13 #[.agg #[.int .i64 y, .int .i64 m, .int .i64 d, .int .i64 h, .int .i64 i, .int .i64 s, .int .i64 z]] w fun e w' => e = .returned (.string ⟨(showF ⟨y, m, d, h, i, s, z⟩).toArray⟩) ∧ Below w.heap.size w w' := by
  have b := (Below.refl w.heap.size w).alloc (Nat.le_refl _) (.cells #[.int .i64 y, .int .i64 m, .int .i64 d, .int .i64 h, .int .i64 i, .int .i64 s, .int .i64 z] 24)
  have s1 := b.size
  have hc := good_any y m d h i s z (w.alloc (.cells #[.int .i64 y, .int .i64 m, .int .i64 d, .int .i64 h, .int .i64 i, .int .i64 s, .int .i64 z] 24))
  cases hg : goodB ⟨y, m, d, h, i, s, z⟩
  · rw [hg] at hc
    have HG := Lib.hid hg
    have HC := Lib.hid hc
    clear hg hc
    go_enter Tryd.func13, Tryd.ntmps13
    go_wp2_with fail
    refine HC.out.mono ?_
    rintro e w1 ⟨rfl, b1⟩
    go_wp2
    go_ret
    exact ⟨ret_str (by unfold showF; rw [HG.out]; rfl), b.trans (b1.mono s1)⟩
  · by_cases hd : d < 10 <;> by_cases hz : z < 0
    all_goals have e : showF ⟨y, m, d, h, i, s, z⟩ = showL ⟨y, m, d, h, i, s, z⟩ := by unfold showF; rw [hg]; rfl
    all_goals rw [e]
    · exact show_0 y m d h i s z w ht hp hg hd hz
    · exact show_1 y m d h i s z w ht hp hg hd hz
    · exact show_2 y m d h i s z w ht hp hg hd hz
    · exact show_3 y m d h i s z w ht hp hg hd hz
end Go.Proofs.YtfigddnkkdgjhaaDoor
