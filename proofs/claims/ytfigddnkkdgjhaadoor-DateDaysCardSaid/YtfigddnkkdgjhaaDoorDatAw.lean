/- Layer 10's awake. -/
import Derived.Test.YtfigddnkkdgjhaaDoorDatO
import Derived.Test.YtfigddnkkdgjhaaDoorDatV
set_option linter.unusedVariables false
namespace Go.Proofs.YtfigddnkkdgjhaaDoor
open Go.RowKit

/-- Show at a later world. -/
theorem show_at {w w1 : World} (y m d h i s z : Int) (HT : Hid (Pow10 w)) (hp : 0 < w.heap.size) (b : Below w.heap.size w w1) {L : List UInt8} (hL : showF ⟨y, m, d, h, i, s, z⟩ = L) : Calls Tryd.prog 13 #[.agg #[.int .i64 y, .int .i64 m, .int .i64 d, .int .i64 h, .int .i64 i, .int .i64 s, .int .i64 z]] w1 fun e w' => e = .returned (.string ⟨L.toArray⟩) ∧ Below w1.heap.size w1 w' := by
  have h := show_any y m d h i s z w1 (HT.out.below b hp) (Nat.lt_of_lt_of_le hp b.size)
  rw [hL] at h
  exact h
theorem unix_at {w1 : World} (y m d h i s z : Int) {n : Int} (hn : unixF ⟨y, m, d, h, i, s, z⟩ = n) : Calls Tryd.prog 12 #[.agg #[.int .i64 y, .int .i64 m, .int .i64 d, .int .i64 h, .int .i64 i, .int .i64 s, .int .i64 z]] w1 fun e w' => e = .returned (.int .i64 n) ∧ Below w1.heap.size w1 w' := by
  have h := unix_any y m d h i s z w1
  rw [hn] at h
  exact h
theorem good_at {w1 : World} (y m d h i s z : Int) {c : Bool} (hn : goodB ⟨y, m, d, h, i, s, z⟩ = c) : Calls Tryd.prog 18 #[.agg #[.int .i64 y, .int .i64 m, .int .i64 d, .int .i64 h, .int .i64 i, .int .i64 s, .int .i64 z]] w1 fun e w' => e = .returned (.bool c) ∧ Below w1.heap.size w1 w' := by
  have h := good_any y m d h i s z w1
  rw [hn] at h
  exact h
theorem of_0_60 : OfIs 0 60 ⟨1970, 1, 1, 1, 0, 0, 60⟩ := by unfold OfIs; decide +kernel
theorem show_0_60 : showF ⟨1970, 1, 1, 1, 0, 0, 60⟩ = [32, 49, 45, 74, 97, 110, 45, 49, 57, 55, 48, 32, 48, 49, 58, 48, 48, 58, 48, 48, 32, 43, 48, 49, 48, 48] := by decide +kernel
set_option maxRecDepth 100000 in
set_option maxHeartbeats 2000000 in
theorem date_awake (w : World) (ht : Pow10 w) (hp : 0 < w.heap.size) : Calls Tryd.prog 8 #[] w fun e w' => e = .returned (.bool true) ∧ Below w.heap.size w w' := by
  have h1 := Lib.hid (of_yes 0 1970 1 1 1 0 0 60 w of_0_60)
  have HT := Lib.hid ht
  clear ht
  go_enter Tryd.func8, Tryd.ntmps8
  go_wp2_with fail
  refine h1.out.mono ?_
  rintro e w1 ⟨rfl, b1⟩
  have c1 := b1.alloc b1.size (.cells #[.int .i64 1970, .int .i64 1, .int .i64 1, .int .i64 1, .int .i64 0, .int .i64 0, .int .i64 60] 24)
  have hF := Fld.new w1 24 1970 1 1 1 0 0 60
  have h2 := Lib.hid (show_at 1970 1 1 1 0 0 60 HT hp c1 show_0_60)
  go_wp2_with fail
  refine h2.out.mono ?_
  rintro e w2 ⟨rfl, b2⟩
  have c2 := c1.trans (b2.mono c1.size)
  have hF2 := hF.below b2
  obtain ⟨k0, k1, k2, k3, k4, k5, k6⟩ := hF2
  have h3 := Lib.hid (unix_at (w1 := w2) 1970 1 1 1 0 0 60 (n := 0) (by decide +kernel))
  go_wp2_with fail
  refine h3.out.mono ?_
  rintro e w3 ⟨rfl, b3⟩
  have c3 := c2.trans (b3.mono c2.size)
  have hF3 := (hF.below b2).below b3
  clear k0 k1 k2 k3 k4 k5 k6
  obtain ⟨k0, k1, k2, k3, k4, k5, k6⟩ := hF3
  have h4 := Lib.hid (good_at (w1 := w3) 1970 1 1 1 0 0 60 (c := true) (by decide +kernel))
  go_wp2_with fail
  refine h4.out.mono ?_
  rintro e w4 ⟨rfl, b4⟩
  go_wp2
  go_ret
  exact ⟨rfl, c3.trans (b4.mono c3.size)⟩
end Go.Proofs.YtfigddnkkdgjhaaDoor
