/- The walk of the law DateKnown: fixed calls, each by its contract at its own input. -/
import Derived.Test.YtfigddnkkdgjhaaDoorDatDay
import Derived.Test.YtfigddnkkdgjhaaDoorDatF
import Derived.Test.YtfigddnkkdgjhaaDoorDatOrdW
set_option linter.unusedVariables false
namespace Go.Proofs.YtfigddnkkdgjhaaDoor
open Go.RowKit

theorem dt_ext {a b : DT} (h : (a.y, a.m, a.d, a.h, a.i, a.s, a.z) = (b.y, b.m, b.d, b.h, b.i, b.s, b.z)) : a = b := by
  cases a; cases b; simp_all
theorem Fld.step {w w1 : World} {g : Nat} {y m d h i s z : Int} (hf : Hid (Fld w g y m d h i s z)) (hb : Below w.heap.size w w1) : Hid (Fld w1 g y m d h i s z) := Fld.below hf.out hb
theorem k_parse1 {w w1 : World} (HT : Hid (Pow10 w)) (hp : 0 < w.heap.size) (b : Below w.heap.size w w1) : Calls Tryd.prog 9 #[.string ⟨#[50, 57, 45, 70, 101, 98, 45, 50, 48, 48, 48, 32, 50, 51, 58, 53, 57, 58, 53, 57, 32, 45, 48, 49, 51, 48]⟩] w1 fun e w' => e = .returned (.tuple #[.agg #[.int .i64 2000, .int .i64 2, .int .i64 29, .int .i64 23, .int .i64 59, .int .i64 59, .int .i64 (-90)], .int .i64 0]) ∧ Below w1.heap.size w1 w' :=
  parse_26 ⟨#[50, 57, 45, 70, 101, 98, 45, 50, 48, 48, 48, 32, 50, 51, 58, 53, 57, 58, 53, 57, 32, 45, 48, 49, 51, 48]⟩ 2 w1 rfl (.inl (by decide +kernel)) (by decide) (by decide) (HT.out.below b hp) (Nat.lt_of_lt_of_le hp b.size) 2000 2 29 23 59 59 (-90) 0 (.inl ⟨dt_ext (by decide +kernel), by decide +kernel, rfl⟩)
theorem k_parse2 {w w1 : World} (HT : Hid (Pow10 w)) (hp : 0 < w.heap.size) (b : Below w.heap.size w w1) : Calls Tryd.prog 9 #[.string ⟨#[50, 57, 45, 70, 101, 98, 45, 50, 49, 48, 48, 32, 48, 48, 58, 48, 48, 58, 48, 48, 32, 43, 48, 48, 48, 48]⟩] w1 fun e w' => e = .returned (.tuple #[.agg #[.int .i64 0, .int .i64 0, .int .i64 0, .int .i64 0, .int .i64 0, .int .i64 0, .int .i64 0], .int .i64 3]) ∧ Below w1.heap.size w1 w' :=
  parse_26 ⟨#[50, 57, 45, 70, 101, 98, 45, 50, 49, 48, 48, 32, 48, 48, 58, 48, 48, 58, 48, 48, 32, 43, 48, 48, 48, 48]⟩ 2 w1 rfl (.inl (by decide +kernel)) (by decide) (by decide) (HT.out.below b hp) (Nat.lt_of_lt_of_le hp b.size) 0 0 0 0 0 0 0 3 (.inr ⟨by decide +kernel, rfl, rfl, rfl, rfl, rfl, rfl, rfl, rfl⟩)
theorem k_parse3 {w w1 : World} (HT : Hid (Pow10 w)) (hp : 0 < w.heap.size) (b : Below w.heap.size w w1) : Calls Tryd.prog 9 #[.string ⟨#[48, 49, 45, 74, 97, 110, 45, 49, 57, 55, 48, 32, 48, 48, 58, 48, 48, 58, 48, 48, 32, 43, 48, 48, 48, 48]⟩] w1 fun e w' => e = .returned (.tuple #[.agg #[.int .i64 0, .int .i64 0, .int .i64 0, .int .i64 0, .int .i64 0, .int .i64 0, .int .i64 0], .int .i64 3]) ∧ Below w1.heap.size w1 w' :=
  parse_26 ⟨#[48, 49, 45, 74, 97, 110, 45, 49, 57, 55, 48, 32, 48, 48, 58, 48, 48, 58, 48, 48, 32, 43, 48, 48, 48, 48]⟩ 1 w1 rfl (.inl (by decide +kernel)) (by decide) (by decide) (HT.out.below b hp) (Nat.lt_of_lt_of_le hp b.size) 0 0 0 0 0 0 0 3 (.inr ⟨by decide +kernel, rfl, rfl, rfl, rfl, rfl, rfl, rfl, rfl⟩)
theorem k_parse4 {w w1 : World} (HT : Hid (Pow10 w)) (hp : 0 < w.heap.size) (b : Below w.heap.size w w1) : Calls Tryd.prog 9 #[.string ⟨#[32, 49, 45, 74, 97, 110, 45, 49, 57, 55, 48, 32, 48, 48, 58, 48, 48, 58, 48, 48, 32, 45, 48, 48, 48, 48]⟩] w1 fun e w' => e = .returned (.tuple #[.agg #[.int .i64 0, .int .i64 0, .int .i64 0, .int .i64 0, .int .i64 0, .int .i64 0, .int .i64 0], .int .i64 3]) ∧ Below w1.heap.size w1 w' :=
  parse_26 ⟨#[32, 49, 45, 74, 97, 110, 45, 49, 57, 55, 48, 32, 48, 48, 58, 48, 48, 58, 48, 48, 32, 45, 48, 48, 48, 48]⟩ 1 w1 rfl (.inl (by decide +kernel)) (by decide) (by decide) (HT.out.below b hp) (Nat.lt_of_lt_of_le hp b.size) 0 0 0 0 0 0 0 3 (.inr ⟨by decide +kernel, rfl, rfl, rfl, rfl, rfl, rfl, rfl, rfl⟩)
theorem k_day1 (w : World) : Calls Tryd.prog 11 #[.string ⟨#[50, 45, 106, 97, 110, 45, 49, 57, 55, 48]⟩] w fun e w' => e = .returned (.tuple #[.int .i64 1, .int .i64 0]) ∧ Below w.heap.size w w' :=
  day_any ⟨#[50, 45, 106, 97, 110, 45, 49, 57, 55, 48]⟩ 1 0 w (.inl ⟨rfl, by decide +kernel, by decide +kernel, by decide +kernel, 1, .inl (by decide +kernel), by decide +kernel, by decide +kernel⟩)
theorem k_day2 (w : World) : Calls Tryd.prog 11 #[.string ⟨#[48, 50, 45, 74, 65, 78, 45, 49, 57, 55, 48]⟩] w fun e w' => e = .returned (.tuple #[.int .i64 1, .int .i64 0]) ∧ Below w.heap.size w w' :=
  day_any ⟨#[48, 50, 45, 74, 65, 78, 45, 49, 57, 55, 48]⟩ 1 0 w (.inl ⟨rfl, by decide +kernel, by decide +kernel, by decide +kernel, 1, .inl (by decide +kernel), by decide +kernel, by decide +kernel⟩)
theorem k_day3 (w : World) : Calls Tryd.prog 11 #[.string ⟨#[50, 45, 74, 97, 110, 45, 49, 57, 54, 57]⟩] w fun e w' => e = .returned (.tuple #[.int .i64 0, .int .i64 3]) ∧ Below w.heap.size w w' :=
  day_any ⟨#[50, 45, 74, 97, 110, 45, 49, 57, 54, 57]⟩ 0 3 w (.inr ⟨rfl, rfl, by
    rintro ⟨v, _, _, _, r, hr, hg, _⟩
    have hq : MonIs (sl (padL [50, 45, 74, 97, 110, 45, 49, 57, 54, 57]) 3 6) 1 := .inl (by decide +kernel)
    obtain rfl := mon_uniq hq hr
    exact absurd hg (by decide +kernel)⟩)
theorem k_day4 (w : World) : Calls Tryd.prog 11 #[.string ⟨#[51, 49, 45, 65, 112, 114, 45, 49, 57, 57, 57]⟩] w fun e w' => e = .returned (.tuple #[.int .i64 0, .int .i64 3]) ∧ Below w.heap.size w w' :=
  day_any ⟨#[51, 49, 45, 65, 112, 114, 45, 49, 57, 57, 57]⟩ 0 3 w (.inr ⟨rfl, rfl, by
    rintro ⟨v, _, _, _, r, hr, hg, _⟩
    have hq : MonIs (sl (padL [51, 49, 45, 65, 112, 114, 45, 49, 57, 57, 57]) 3 6) 4 := .inl (by decide +kernel)
    obtain rfl := mon_uniq hq hr
    exact absurd hg (by decide +kernel)⟩)
theorem k_of1 (w : World) : Calls Tryd.prog 10 #[.int .i64 (-1), .int .i64 0] w fun e w' => e = .returned (.tuple #[.agg #[.int .i64 0, .int .i64 0, .int .i64 0, .int .i64 0, .int .i64 0, .int .i64 0, .int .i64 0], .int .i64 1]) ∧ Below w.heap.size w w' := of_no (-1) 0 w (by decide +kernel) (by decide)
theorem k_of2 (w : World) : Calls Tryd.prog 10 #[.int .i64 (-3600), .int .i64 60] w fun e w' => e = .returned (.tuple #[.agg #[.int .i64 1970, .int .i64 1, .int .i64 1, .int .i64 0, .int .i64 0, .int .i64 0, .int .i64 60], .int .i64 0]) ∧ Below w.heap.size w w' := of_yes (-3600) 1970 1 1 0 0 0 60 w (by unfold OfIs; decide +kernel)
theorem k_of3 (w : World) : Calls Tryd.prog 10 #[.int .i64 253402300800, .int .i64 0] w fun e w' => e = .returned (.tuple #[.agg #[.int .i64 0, .int .i64 0, .int .i64 0, .int .i64 0, .int .i64 0, .int .i64 0, .int .i64 0], .int .i64 1]) ∧ Below w.heap.size w w' := of_no 253402300800 0 w (by decide +kernel) (by decide)
theorem k_of4 (w : World) : Calls Tryd.prog 10 #[.int .i64 253402300799, .int .i64 0] w fun e w' => e = .returned (.tuple #[.agg #[.int .i64 9999, .int .i64 12, .int .i64 31, .int .i64 23, .int .i64 59, .int .i64 59, .int .i64 0], .int .i64 0]) ∧ Below w.heap.size w w' := of_yes 253402300799 9999 12 31 23 59 59 0 w (by unfold OfIs; decide +kernel)
set_option maxRecDepth 100000 in
set_option maxHeartbeats 8000000 in
theorem dknown_walk (w : World) (ht : Pow10 w) (hp : 0 < w.heap.size) :
    Calls Tryd.prog 3 #[] w fun e w' => e = .returned (.bool true) ∧ Below w.heap.size w w' := by
  have H0 := Lib.hid (date_awake w ht hp)
  have HT := Lib.hid ht
  clear ht
  go_enter Tryd.func3, Tryd.ntmps3
  go_wp2_with fail
  refine H0.out.mono ?_
  rintro e x0 ⟨rfl, c0⟩
  have hq := Lib.hid (k_parse1 HT hp c0)
  go_wp2_with fail
  refine hq.out.mono ?_
  rintro e x1 ⟨rfl, b⟩
  have c1 := c0.trans (b.mono c0.size)
  clear hq b
  have c2 := c1.alloc c1.size (.cells #[.int .i64 2000, .int .i64 2, .int .i64 29, .int .i64 23, .int .i64 59, .int .i64 59, .int .i64 (-90)] 24)
  have K0 := Lib.hid (Fld.new x1 24 2000 2 29 23 59 59 (-90))
  have hq := Lib.hid (k_parse2 HT hp c2)
  go_wp2_with fail
  refine hq.out.mono ?_
  rintro e x2 ⟨rfl, b⟩
  have c3 := c2.trans (b.mono c2.size)
  have K0 := Fld.step K0 b
  clear hq b
  have c4 := c3.alloc c3.size (.cells #[.int .i64 0, .int .i64 0, .int .i64 0, .int .i64 0, .int .i64 0, .int .i64 0, .int .i64 0] 24)
  have K0 := Fld.step K0 ((Below.refl x2.heap.size x2).alloc (Nat.le_refl _) (.cells #[.int .i64 0, .int .i64 0, .int .i64 0, .int .i64 0, .int .i64 0, .int .i64 0, .int .i64 0] 24))
  have hq := Lib.hid (k_parse3 HT hp c4)
  go_wp2_with fail
  refine hq.out.mono ?_
  rintro e x3 ⟨rfl, b⟩
  have c5 := c4.trans (b.mono c4.size)
  have K0 := Fld.step K0 b
  clear hq b
  have c6 := c5.alloc c5.size (.cells #[.int .i64 0, .int .i64 0, .int .i64 0, .int .i64 0, .int .i64 0, .int .i64 0, .int .i64 0] 24)
  have K0 := Fld.step K0 ((Below.refl x3.heap.size x3).alloc (Nat.le_refl _) (.cells #[.int .i64 0, .int .i64 0, .int .i64 0, .int .i64 0, .int .i64 0, .int .i64 0, .int .i64 0] 24))
  have hq := Lib.hid (k_parse4 HT hp c6)
  go_wp2_with fail
  refine hq.out.mono ?_
  rintro e x4 ⟨rfl, b⟩
  have c7 := c6.trans (b.mono c6.size)
  have K0 := Fld.step K0 b
  clear hq b
  have c8 := c7.alloc c7.size (.cells #[.int .i64 0, .int .i64 0, .int .i64 0, .int .i64 0, .int .i64 0, .int .i64 0, .int .i64 0] 24)
  have K0 := Fld.step K0 ((Below.refl x4.heap.size x4).alloc (Nat.le_refl _) (.cells #[.int .i64 0, .int .i64 0, .int .i64 0, .int .i64 0, .int .i64 0, .int .i64 0, .int .i64 0] 24))
  have hq := Lib.hid (k_of1 (x4.alloc (.cells #[.int .i64 0, .int .i64 0, .int .i64 0, .int .i64 0, .int .i64 0, .int .i64 0, .int .i64 0] 24)))
  go_wp2_with fail
  refine hq.out.mono ?_
  rintro e x5 ⟨rfl, b⟩
  have c9 := c8.trans (b.mono c8.size)
  have K0 := Fld.step K0 b
  clear hq b
  have c10 := c9.alloc c9.size (.cells #[.int .i64 0, .int .i64 0, .int .i64 0, .int .i64 0, .int .i64 0, .int .i64 0, .int .i64 0] 24)
  have K0 := Fld.step K0 ((Below.refl x5.heap.size x5).alloc (Nat.le_refl _) (.cells #[.int .i64 0, .int .i64 0, .int .i64 0, .int .i64 0, .int .i64 0, .int .i64 0, .int .i64 0] 24))
  have hq := Lib.hid (k_of2 (x5.alloc (.cells #[.int .i64 0, .int .i64 0, .int .i64 0, .int .i64 0, .int .i64 0, .int .i64 0, .int .i64 0] 24)))
  go_wp2_with fail
  refine hq.out.mono ?_
  rintro e x6 ⟨rfl, b⟩
  have c11 := c10.trans (b.mono c10.size)
  have K0 := Fld.step K0 b
  clear hq b
  have c12 := c11.alloc c11.size (.cells #[.int .i64 1970, .int .i64 1, .int .i64 1, .int .i64 0, .int .i64 0, .int .i64 0, .int .i64 60] 24)
  have K0 := Fld.step K0 ((Below.refl x6.heap.size x6).alloc (Nat.le_refl _) (.cells #[.int .i64 1970, .int .i64 1, .int .i64 1, .int .i64 0, .int .i64 0, .int .i64 0, .int .i64 60] 24))
  have K5 := Lib.hid (Fld.new x6 24 1970 1 1 0 0 0 60)
  have hq := Lib.hid (k_day1 (x6.alloc (.cells #[.int .i64 1970, .int .i64 1, .int .i64 1, .int .i64 0, .int .i64 0, .int .i64 0, .int .i64 60] 24)))
  go_wp2_with fail
  refine hq.out.mono ?_
  rintro e x7 ⟨rfl, b⟩
  have c13 := c12.trans (b.mono c12.size)
  have K0 := Fld.step K0 b
  have K5 := Fld.step K5 b
  clear hq b
  have hq := Lib.hid (k_day2 (x7))
  go_wp2_with fail
  refine hq.out.mono ?_
  rintro e x8 ⟨rfl, b⟩
  have c14 := c13.trans (b.mono c13.size)
  have K0 := Fld.step K0 b
  have K5 := Fld.step K5 b
  clear hq b
  have hq := Lib.hid (k_day3 (x8))
  go_wp2_with fail
  refine hq.out.mono ?_
  rintro e x9 ⟨rfl, b⟩
  have c15 := c14.trans (b.mono c14.size)
  have K0 := Fld.step K0 b
  have K5 := Fld.step K5 b
  clear hq b
  have hq := Lib.hid (k_day4 (x9))
  go_wp2_with fail
  refine hq.out.mono ?_
  rintro e x10 ⟨rfl, b⟩
  have c16 := c15.trans (b.mono c15.size)
  have K0 := Fld.step K0 b
  have K5 := Fld.step K5 b
  clear hq b
  have hq := Lib.hid (k_of3 (x10))
  go_wp2_with fail
  refine hq.out.mono ?_
  rintro e x11 ⟨rfl, b⟩
  have c17 := c16.trans (b.mono c16.size)
  have K0 := Fld.step K0 b
  have K5 := Fld.step K5 b
  clear hq b
  have c18 := c17.alloc c17.size (.cells #[.int .i64 0, .int .i64 0, .int .i64 0, .int .i64 0, .int .i64 0, .int .i64 0, .int .i64 0] 24)
  have K0 := Fld.step K0 ((Below.refl x11.heap.size x11).alloc (Nat.le_refl _) (.cells #[.int .i64 0, .int .i64 0, .int .i64 0, .int .i64 0, .int .i64 0, .int .i64 0, .int .i64 0] 24))
  have K5 := Fld.step K5 ((Below.refl x11.heap.size x11).alloc (Nat.le_refl _) (.cells #[.int .i64 0, .int .i64 0, .int .i64 0, .int .i64 0, .int .i64 0, .int .i64 0, .int .i64 0] 24))
  have hq := Lib.hid (k_of4 (x11.alloc (.cells #[.int .i64 0, .int .i64 0, .int .i64 0, .int .i64 0, .int .i64 0, .int .i64 0, .int .i64 0] 24)))
  go_wp2_with fail
  refine hq.out.mono ?_
  rintro e x12 ⟨rfl, b⟩
  have c19 := c18.trans (b.mono c18.size)
  have K0 := Fld.step K0 b
  have K5 := Fld.step K5 b
  clear hq b
  have c20 := c19.alloc c19.size (.cells #[.int .i64 9999, .int .i64 12, .int .i64 31, .int .i64 23, .int .i64 59, .int .i64 59, .int .i64 0] 24)
  have K0 := Fld.step K0 ((Below.refl x12.heap.size x12).alloc (Nat.le_refl _) (.cells #[.int .i64 9999, .int .i64 12, .int .i64 31, .int .i64 23, .int .i64 59, .int .i64 59, .int .i64 0] 24))
  have K5 := Fld.step K5 ((Below.refl x12.heap.size x12).alloc (Nat.le_refl _) (.cells #[.int .i64 9999, .int .i64 12, .int .i64 31, .int .i64 23, .int .i64 59, .int .i64 59, .int .i64 0] 24))
  have K11 := Lib.hid (Fld.new x12 24 9999 12 31 23 59 59 0)
  obtain ⟨k0, k1, k2, k3, k4, k5, k6⟩ := K0.out
  have hq := Lib.hid (unix_at (w1 := x12.alloc (.cells #[.int .i64 9999, .int .i64 12, .int .i64 31, .int .i64 23, .int .i64 59, .int .i64 59, .int .i64 0] 24)) 2000 2 29 23 59 59 (-90) (n := 951874199) (by decide +kernel))
  go_wp2_with fail
  refine hq.out.mono ?_
  rintro e x13 ⟨rfl, b⟩
  clear k0 k1 k2 k3 k4 k5 k6
  have d0 := c20.trans (b.mono c20.size)
  have K5 := Fld.step K5 b
  have K11 := Fld.step K11 b
  clear hq b K0
  obtain ⟨k0, k1, k2, k3, k4, k5, k6⟩ := K5.out
  obtain ⟨j0, j1, j2, j3, j4, j5, j6⟩ := K11.out
  have hq := Lib.hid (show_at (w1 := x13) 0 0 0 0 0 0 0 HT hp d0 (L := []) (by decide +kernel))
  go_wp2_with fail
  refine hq.out.mono ?_
  rintro e x14 ⟨rfl, b⟩
  have d1 := d0.trans (b.mono d0.size)
  clear hq b k0 k1 k2 k3 k4 k5 k6 j0 j1 j2 j3 j4 j5 j6
  have hq := Lib.hid (unix_at (w1 := x14) 1971 0 0 0 0 0 0 (n := 0) (by decide +kernel))
  go_wp2_with fail
  refine hq.out.mono ?_
  rintro e x15 ⟨rfl, b⟩
  have d2 := d1.trans (b.mono d1.size)
  go_wp2
  go_ret
  exact ⟨rfl, d2⟩
end Go.Proofs.YtfigddnkkdgjhaaDoor
