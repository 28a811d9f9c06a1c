/- The walk of the law OctetKnown: fixed calls, each by its contract at its own input. -/
import Derived.Test.YtabggjlpnhgpjaaDoorOctS
import Derived.Test.YtabggjlpnhgpjaaDoorOctN
import Derived.Test.YtabggjlpnhgpjaaDoorOctG
import Derived.Test.YtabggjlpnhgpjaaDoorOctAw
set_option linter.unusedVariables false
namespace Go.Proofs.YtabggjlpnhgpjaaDoor
open Go.RowKit

theorem k_unq0 (w : World) : Calls Tryd.prog 7 #[.string ⟨#[]⟩] w fun e w' => e = .returned (.tuple #[.string ⟨#[]⟩, .int .i64 0, .int .i64 3]) ∧ Below w.heap.size w w' := by
  refine (unquote_any ⟨#[]⟩ w (by decide)).mono ?_
  rintro e w' ⟨rfl, h⟩
  refine ⟨?_, h⟩
  rw [show unq [] = ([], 0, 3) by decide +kernel]
  rfl
theorem k_unq1 (w : World) : Calls Tryd.prog 7 #[.string ⟨#[34, 97]⟩] w fun e w' => e = .returned (.tuple #[.string ⟨#[]⟩, .int .i64 0, .int .i64 8]) ∧ Below w.heap.size w w' := by
  refine (unquote_any ⟨#[34, 97]⟩ w (by decide)).mono ?_
  rintro e w' ⟨rfl, h⟩
  refine ⟨?_, h⟩
  rw [show unq [34, 97] = ([], 0, 8) by decide +kernel]
  rfl
theorem k_unq2 (w : World) : Calls Tryd.prog 7 #[.string ⟨#[34, 97, 92]⟩] w fun e w' => e = .returned (.tuple #[.string ⟨#[]⟩, .int .i64 0, .int .i64 8]) ∧ Below w.heap.size w w' := by
  refine (unquote_any ⟨#[34, 97, 92]⟩ w (by decide)).mono ?_
  rintro e w' ⟨rfl, h⟩
  refine ⟨?_, h⟩
  rw [show unq [34, 97, 92] = ([], 0, 8) by decide +kernel]
  rfl
theorem k_unq3 (w : World) : Calls Tryd.prog 7 #[.string ⟨#[34, 97, 92, 98, 34]⟩] w fun e w' => e = .returned (.tuple #[.string ⟨#[]⟩, .int .i64 0, .int .i64 3]) ∧ Below w.heap.size w w' := by
  refine (unquote_any ⟨#[34, 97, 92, 98, 34]⟩ w (by decide)).mono ?_
  rintro e w' ⟨rfl, h⟩
  refine ⟨?_, h⟩
  rw [show unq [34, 97, 92, 98, 34] = ([], 0, 3) by decide +kernel]
  rfl
theorem k_unq4 (w : World) : Calls Tryd.prog 7 #[.string ⟨#[34, 128, 34]⟩] w fun e w' => e = .returned (.tuple #[.string ⟨#[]⟩, .int .i64 0, .int .i64 3]) ∧ Below w.heap.size w w' := by
  refine (unquote_any ⟨#[34, 128, 34]⟩ w (by decide)).mono ?_
  rintro e w' ⟨rfl, h⟩
  refine ⟨?_, h⟩
  rw [show unq [34, 128, 34] = ([], 0, 3) by decide +kernel]
  rfl
theorem k_quote (w : World) : Calls Tryd.prog 6 #[.string ⟨#[97, 13]⟩] w fun e w' => e = .returned (.tuple #[.string ⟨#[]⟩, .bool false]) ∧ Below w.heap.size w w' := by
  refine (quote_any ⟨#[97, 13]⟩ w (by decide)).mono ?_
  rintro e w' ⟨rfl, h⟩
  refine ⟨ret_tup2 ?_ ?_, h⟩
  · rw [show quoteS [97, 13] = [] by decide +kernel]
  · rw [show quoteOk [97, 13] = false by decide +kernel]
theorem k_num0 (w : World) : Calls Tryd.prog 9 #[.string ⟨#[48, 48, 49, 50]⟩] w fun e w' => e = .returned (.tuple #[.int .i64 12, .bool true]) ∧ w = w' := by
  refine (num_any ⟨#[48, 48, 49, 50]⟩ w (by decide)).mono ?_
  rintro e w' ⟨rfl, h⟩
  refine ⟨ret_tup2 ?_ ?_, h⟩
  · rw [show numR [48, 48, 49, 50] = 12 by decide +kernel]; rfl
  · rw [show numOk [48, 48, 49, 50] = true by decide +kernel]
theorem k_num1 (w : World) : Calls Tryd.prog 9 #[.string ⟨#[49, 50, 51, 52, 53, 54, 55, 56, 57, 48, 49]⟩] w fun e w' => e = .returned (.tuple #[.int .i64 0, .bool false]) ∧ w = w' := by
  refine (num_any ⟨#[49, 50, 51, 52, 53, 54, 55, 56, 57, 48, 49]⟩ w (by decide)).mono ?_
  rintro e w' ⟨rfl, h⟩
  refine ⟨ret_tup2 ?_ ?_, h⟩
  · rw [show numR [49, 50, 51, 52, 53, 54, 55, 56, 57, 48, 49] = 0 by decide +kernel]; rfl
  · rw [show numOk [49, 50, 51, 52, 53, 54, 55, 56, 57, 48, 49] = false by decide +kernel]
theorem k_nstr0 (w : World) (ht : Pow10 w) (hg : 1 < w.heap.size) : Calls Tryd.prog 10 #[.string ⟨#[]⟩] w fun e w' => e = .returned (.string ⟨#[34, 34]⟩) ∧ Below w.heap.size w w' := by
  refine (nstring_any ⟨#[]⟩ w (by decide) ht hg).mono ?_
  rintro e w' ⟨rfl, h⟩
  exact ⟨ret_str (by rw [show nstrL [] = [34, 34] by decide +kernel]), h⟩
theorem k_nstr1 (w : World) (ht : Pow10 w) (hg : 1 < w.heap.size) : Calls Tryd.prog 10 #[.string ⟨#[97, 10]⟩] w fun e w' => e = .returned (.string ⟨#[123, 50, 125, 13, 10, 97, 10]⟩) ∧ Below w.heap.size w w' := by
  refine (nstring_any ⟨#[97, 10]⟩ w (by decide) ht hg).mono ?_
  rintro e w' ⟨rfl, h⟩
  exact ⟨ret_str (by rw [show nstrL [97, 10] = [123, 50, 125, 13, 10, 97, 10] by decide +kernel]), h⟩
theorem k_atom0 (w : World) : Calls Tryd.prog 11 #[.string ⟨#[]⟩] w fun e w' => e = .returned (.bool false) ∧ w = w' := by
  refine (atom_any ⟨#[]⟩ w (by decide)).mono ?_
  rintro e w' ⟨rfl, h⟩
  exact ⟨ret_bool (by rw [show atomB [] = false by decide +kernel]), h⟩
theorem k_atom1 (w : World) : Calls Tryd.prog 11 #[.string ⟨#[97, 93]⟩] w fun e w' => e = .returned (.bool false) ∧ w = w' := by
  refine (atom_any ⟨#[97, 93]⟩ w (by decide)).mono ?_
  rintro e w' ⟨rfl, h⟩
  exact ⟨ret_bool (by rw [show atomB [97, 93] = false by decide +kernel]), h⟩
theorem k_atom2 (w : World) : Calls Tryd.prog 11 #[.string ⟨#[97, 32, 98]⟩] w fun e w' => e = .returned (.bool false) ∧ w = w' := by
  refine (atom_any ⟨#[97, 32, 98]⟩ w (by decide)).mono ?_
  rintro e w' ⟨rfl, h⟩
  exact ⟨ret_bool (by rw [show atomB [97, 32, 98] = false by decide +kernel]), h⟩
theorem k_atom3 (w : World) : Calls Tryd.prog 11 #[.string ⟨#[97, 91, 98, 125]⟩] w fun e w' => e = .returned (.bool true) ∧ w = w' := by
  refine (atom_any ⟨#[97, 91, 98, 125]⟩ w (by decide)).mono ?_
  rintro e w' ⟨rfl, h⟩
  exact ⟨ret_bool (by rw [show atomB [97, 91, 98, 125] = true by decide +kernel]), h⟩
theorem k_same (w : World) : Calls Tryd.prog 12 #[.string ⟨#[73, 78, 66, 79, 88]⟩, .string ⟨#[105, 110, 66, 111, 120]⟩] w fun e w' => e = .returned (.bool true) ∧ Below w.heap.size w w' := by
  refine (same_any ⟨#[73, 78, 66, 79, 88]⟩ ⟨#[105, 110, 66, 111, 120]⟩ w (by decide)).mono ?_
  rintro e w' ⟨rfl, n, rfl⟩
  exact ⟨ret_bool (by rw [show sameB [73, 78, 66, 79, 88] [105, 110, 66, 111, 120] = true by decide +kernel]), below_drewN (Below.refl _ _) n⟩
theorem k_lines_eq : linesL [97, 13, 10, 13, 10, 98, 13, 99, 10] = [[97, 13, 10], [13, 10], [98, 13, 99, 10]] := by
  rw [linesL_scan _ _ (Nat.le_refl _)]
  decide +kernel
theorem k_row (w : World) : Bts 5 (w.alloc (.cells #[.int .u8 97, .int .u8 13, .int .u8 10, .int .u8 13, .int .u8 10, .int .u8 98, .int .u8 13, .int .u8 99, .int .u8 10] 5 (9, 10))) w.heap.size [97, 13, 10, 13, 10, 98, 13, 99, 10] := Bts.new w (C := #[.int .u8 97, .int .u8 13, .int .u8 10, .int .u8 13, .int .u8 10, .int .u8 98, .int .u8 13, .int .u8 99, .int .u8 10]) (l := [97, 13, 10, 13, 10, 98, 13, 99, 10]) (fun j hj => by
  have : j < 9 := hj
  match j, this with
  | 0, _ => rfl
  | 1, _ => rfl
  | 2, _ => rfl
  | 3, _ => rfl
  | 4, _ => rfl
  | 5, _ => rfl
  | 6, _ => rfl
  | 7, _ => rfl
  | 8, _ => rfl)

set_option maxRecDepth 100000 in
set_option maxHeartbeats 2000000 in
theorem oknown_walk (w : World) (ht : Pow10 w) (hp : 1 < w.heap.size) (hm : ∃ m, w.cell? ⟨0, 0, none⟩ = some (.int .i64 m)) (hg : 0 < w.heap.size) :
    Calls Tryd.prog 3 #[] w fun e w' => e = .returned (.bool true) ∧ Below w.heap.size w w' := by
  have kc := fun (w : World) (C : Array Value) (n c : Nat) => Lib.run_convert_bytes_const (P := Tryd.prog) w 30 5 C n c Tryd.underlying30 Tryd.underlying5
  have HT := Lib.hid ht
  have HM := Lib.hid hm
  clear ht hm
  go_enter Tryd.func3, Tryd.ntmps3
  go_wp2_with fail
  refine (awake_any _).mono ?_
  rintro e w1 ⟨rfl, b1⟩
  go_wp2_with fail
  refine (k_quote _).mono ?_
  rintro e w2 ⟨rfl, b2⟩
  have b2 := b1.trans (b2.mono b1.size)
  go_wp2_with fail
  refine (k_unq0 _).mono ?_
  rintro e w3 ⟨rfl, c0⟩
  have b3 := b2.trans (c0.mono b2.size)
  go_wp2_with fail
  refine (k_unq1 _).mono ?_
  rintro e w4 ⟨rfl, c1⟩
  have b4 := b3.trans (c1.mono b3.size)
  go_wp2_with fail
  refine (k_unq2 _).mono ?_
  rintro e w5 ⟨rfl, c2⟩
  have b5 := b4.trans (c2.mono b4.size)
  go_wp2_with fail
  refine (k_unq3 _).mono ?_
  rintro e w6 ⟨rfl, c3⟩
  have b6 := b5.trans (c3.mono b5.size)
  go_wp2_with fail
  refine (k_unq4 _).mono ?_
  rintro e w7 ⟨rfl, c4⟩
  have b7 := b6.trans (c4.mono b6.size)
  go_wp2_with fail
  have s7 := b7.size
  have b8 := b7.alloc s7 (.cells #[.int .u8 97, .int .u8 13, .int .u8 10, .int .u8 13, .int .u8 10, .int .u8 98, .int .u8 13, .int .u8 99, .int .u8 10] 5 (9, 10))
  have hm8 : ∃ m, (w7.alloc (.cells #[.int .u8 97, .int .u8 13, .int .u8 10, .int .u8 13, .int .u8 10, .int .u8 98, .int .u8 13, .int .u8 99, .int .u8 10] 5 (9, 10))).cell? ⟨0, 0, none⟩ = some (.int .i64 m) := by
    obtain ⟨m, hm⟩ := HM.out
    exact ⟨m, (b8.cell (p := ⟨0, 0, none⟩) hg).trans hm⟩
  refine (lines_any (some ⟨w7.heap.size, 0, none⟩) [97, 13, 10, 13, 10, 98, 13, 99, 10] 9 _ (Rd.of_bts (k_row w7)) (by decide) (by decide) hm8 (by have := b8.size; omega)).mono ?_
  rintro e w8 ⟨v, rfl, hrows, c8⟩
  rw [k_lines_eq] at hrows
  clear hm8 kc
  have b8 := b8.trans (c8.mono b8.size)
  clear c8
  obtain ⟨A, cv, rfl⟩ := hrows.shape
  obtain ⟨G, g0, d0, rfl, q0, r0, -⟩ := hrows.at_ 0 (by decide)
  obtain ⟨G1, g1, d1, e1, q1, r1, -⟩ := hrows.at_ 1 (by decide)
  obtain ⟨G2, g2, d2, e2, q2, r2, -⟩ := hrows.at_ 2 (by decide)
  injection e1 with e1
  injection e1 with e1
  injection e2 with e2
  injection e2 with e2
  subst e1 e2
  have v0 : ∀ W, Below w8.heap.size w8 W → (convert 30 9 (.slice (some ⟨g0, 0, none⟩) 3 d0)).run Tryd.prog W = .ok (.string ⟨#[97, 13, 10]⟩) W := fun W h => (r0.below h r0.lt).back (P := Tryd.prog) 30 9 d0 Tryd.underlying30 Tryd.underlying5 Tryd.underlying9
  have v1 : ∀ W, Below w8.heap.size w8 W → (convert 30 9 (.slice (some ⟨g1, 0, none⟩) 2 d1)).run Tryd.prog W = .ok (.string ⟨#[13, 10]⟩) W := fun W h => (r1.below h r1.lt).back (P := Tryd.prog) 30 9 d1 Tryd.underlying30 Tryd.underlying5 Tryd.underlying9
  have v2 : ∀ W, Below w8.heap.size w8 W → (convert 30 9 (.slice (some ⟨g2, 0, none⟩) 4 d2)).run Tryd.prog W = .ok (.string ⟨#[98, 13, 99, 10]⟩) W := fun W h => (r2.below h r2.lt).back (P := Tryd.prog) 30 9 d2 Tryd.underlying30 Tryd.underlying5 Tryd.underlying9
  have x0 := v0 w8 (Below.refl _ _)
  have x1 := v1 w8 (Below.refl _ _)
  have x2 := v2 w8 (Below.refl _ _)
  clear v0 v1 v2 r0 r1 r2 hrows
  go_wp2_with fail
  refine (k_num0 _).mono ?_
  rintro e w9 ⟨rfl, rfl⟩
  go_wp2_with fail
  refine (k_num1 _).mono ?_
  rintro e w9 ⟨rfl, rfl⟩
  go_wp2_with fail
  refine (k_nstr0 _ (HT.out.below b8 hp) (by have := b8.size; omega)).mono ?_
  rintro e w9 ⟨rfl, c9⟩
  have b9 := b8.trans (c9.mono b8.size)
  go_wp2_with fail
  refine (k_nstr1 _ (HT.out.below b9 hp) (by have := b9.size; omega)).mono ?_
  rintro e w10 ⟨rfl, c10⟩
  have b10 := b9.trans (c10.mono b9.size)
  go_wp2_with fail
  refine (k_atom0 _).mono ?_
  rintro e w11 ⟨rfl, rfl⟩
  go_wp2_with fail
  refine (k_atom1 _).mono ?_
  rintro e w11 ⟨rfl, rfl⟩
  go_wp2_with fail
  refine (k_atom2 _).mono ?_
  rintro e w11 ⟨rfl, rfl⟩
  go_wp2_with fail
  refine (k_atom3 _).mono ?_
  rintro e w11 ⟨rfl, rfl⟩
  go_wp2_with fail
  refine (k_same _).mono ?_
  rintro e w11 ⟨rfl, c11⟩
  have b11 := b10.trans (c11.mono b10.size)
  have hm11 : ∃ m, w11.cell? ⟨0, 0, none⟩ = some (.int .i64 m) := by
    obtain ⟨m, hm⟩ := HM.out
    exact ⟨m, (b11.cell (p := ⟨0, 0, none⟩) hg).trans hm⟩
  go_wp2_with fail
  refine (lines_any none [] 0 _ Rd.nil (Nat.le_refl _) (by decide) hm11 (by have := b11.size; omega)).mono ?_
  rintro e w12 ⟨v, rfl, hr12, c12⟩
  obtain ⟨A12, c13, rfl⟩ := hr12.shape
  have b12 := b11.trans (c12.mono b11.size)
  go_wp2
  go_ret
  exact ⟨rfl, b12⟩
end Go.Proofs.YtabggjlpnhgpjaaDoor
