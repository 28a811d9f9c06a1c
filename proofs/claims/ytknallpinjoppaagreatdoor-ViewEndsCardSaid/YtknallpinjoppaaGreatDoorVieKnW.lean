/- The walk of ViewEnds, run by the abstract machine in pieces: the closed statement answers true, whatever the memory. -/
import Derived.Test.YtknallpinjoppaaGreatDoorVieE1
import Derived.Test.YtknallpinjoppaaGreatDoorVieE2
import Derived.Test.YtknallpinjoppaaGreatDoorVieE3
namespace Go.Proofs.YtknallpinjoppaaGreatDoor
open Go.RowKit Go.Proofs.YtknallpinjoppaaGreatDoor.Am
set_option maxRecDepth 100000
theorem vap3 {n0 : Nat} : Pc vaGl 88 0 n0 vastart vac0 .normal vak1 := Pc.run vaMix vaRa vaRok vae2
theorem vap8 {n0 : Nat} : Pc vaGl 88 0 n0 vak1 vac5 .ret vak6 := Pc.run vaMix vaRa vaRok vae7
theorem vap4 {n0 : Nat} : Pc vaGl 88 0 n0 vastart vat0 .ret vak6 := Pc.seq (a := vac0) (b := vac5) (by kernel_rfl) vap3 vap8
theorem vaAll (n0 : Nat) : Pc vaGl 88 0 n0 (ck0 vaGs 0) vat0 .ret vak6 := vap4
theorem vaPieces (w : World) (ha : GAll w vaGs) : Calls Tryz.prog 11 #[] w fun e w' => e = .returned (.bool true) ∧ Below w.heap.size w w' := known_pieces (fn := Tryz.f11) (c := vat0) (ck := vak6) Tryz.func11 (by kernel_rfl) (by kernel_rfl) vaAll (by first | exact .inl rfl | exact .inr rfl) (by kernel_rfl) w ha
theorem veHgl (g : Nat) (cs : List AV) (h : (g, cs) ∈ vaGs) : (veGl).gl g = some cs.length := by
  cases (show (g, cs) ∈ ([] : List (Nat × List AV)) from h)
theorem veOver_ok : OverOK Tryz.prog veGl veOver := by
  intro f g hf args h v h' e
  unfold veOver at hf
  cases h_ovKeysS : Nat.beq f 51 with
  | true =>
    have := Nat.eq_of_beq_eq_true h_ovKeysS
    subst this
    rw [h_ovKeysS] at hf
    injection hf with hf
    subst hf
    exact ovKeysS_ok vaKeysS args h v h' e
  | false =>
    rw [h_ovKeysS] at hf
    cases h_aw : Nat.beq f 11 with
    | true =>
      have := Nat.eq_of_beq_eq_true h_aw
      subst this
      rw [h_aw] at hf
      injection hf with hf
      subst hf
      exact ovClosedG_ok vaPieces veHgl args h v h' e
    | false =>
      rw [h_aw] at hf
      cases hf
theorem veMix : Tryz.prog.follows .mixedOrders = true := by kernel_rfl
theorem veRa : RecAF veR := (aCall_ok veMix veOver_ok 1000000 1000000).1
theorem veRok : RecOK Tryz.prog veGl veR := (aCall_ok veMix veOver_ok 1000000 1000000).2
set_option maxRecDepth 100000
theorem veq0_0p3 {n0 : Nat} : Pc veGl 96 0 n0 veq0_0start veq0_0c0 .normal veq0_0k1 := Pc.run veMix veRa veRok veq0_0e2
theorem veq0_0p8 {n0 : Nat} : Pc veGl 96 0 n0 veq0_0k1 veq0_0c5 .ret veq0_0k6 := Pc.run veMix veRa veRok veq0_0e7
theorem veq0_0p4 {n0 : Nat} : Pc veGl 96 0 n0 veq0_0start veq0_0t0 .ret veq0_0k6 := Pc.seq (a := veq0_0c0) (b := veq0_0c5) (by kernel_rfl) veq0_0p3 veq0_0p8
theorem veq0_0All (n0 : Nat) : Pc veGl 96 0 n0 ⟨liveI 0 [0, 0], gCk veGs, 0⟩ veq0_0t0 .ret veq0_0k6 := veq0_0p4
theorem veq0_0Pieces (w : World) (ha : GAll w veGs) : Calls Tryz.prog 4 ⟨([0, 0] : List Int).map (Value.int .i64)⟩ w fun e w' => e = .returned (.bool true) ∧ Below w.heap.size w w' := args_pieces (fn := Tryz.f4) (c := veq0_0t0) (ck := veq0_0k6) Tryz.func4 (by kernel_rfl) (by kernel_rfl) (Nat.le_of_ble_eq_true (by kernel_rfl)) veq0_0All (by first | exact .inl rfl | exact .inr rfl) (by kernel_rfl) w ha
theorem veq0_1p3 {n0 : Nat} : Pc veGl 96 0 n0 veq0_1start veq0_1c0 .normal veq0_1k1 := Pc.run veMix veRa veRok veq0_1e2
theorem veq0_1p8 {n0 : Nat} : Pc veGl 96 0 n0 veq0_1k1 veq0_1c5 .ret veq0_1k6 := Pc.run veMix veRa veRok veq0_1e7
theorem veq0_1p4 {n0 : Nat} : Pc veGl 96 0 n0 veq0_1start veq0_1t0 .ret veq0_1k6 := Pc.seq (a := veq0_1c0) (b := veq0_1c5) (by kernel_rfl) veq0_1p3 veq0_1p8
theorem veq0_1All (n0 : Nat) : Pc veGl 96 0 n0 ⟨liveI 0 [0, 1], gCk veGs, 0⟩ veq0_1t0 .ret veq0_1k6 := veq0_1p4
theorem veq0_1Pieces (w : World) (ha : GAll w veGs) : Calls Tryz.prog 4 ⟨([0, 1] : List Int).map (Value.int .i64)⟩ w fun e w' => e = .returned (.bool true) ∧ Below w.heap.size w w' := args_pieces (fn := Tryz.f4) (c := veq0_1t0) (ck := veq0_1k6) Tryz.func4 (by kernel_rfl) (by kernel_rfl) (Nat.le_of_ble_eq_true (by kernel_rfl)) veq0_1All (by first | exact .inl rfl | exact .inr rfl) (by kernel_rfl) w ha
theorem veq0_2p3 {n0 : Nat} : Pc veGl 96 0 n0 veq0_2start veq0_2c0 .normal veq0_2k1 := Pc.run veMix veRa veRok veq0_2e2
theorem veq0_2p8 {n0 : Nat} : Pc veGl 96 0 n0 veq0_2k1 veq0_2c5 .ret veq0_2k6 := Pc.run veMix veRa veRok veq0_2e7
theorem veq0_2p4 {n0 : Nat} : Pc veGl 96 0 n0 veq0_2start veq0_2t0 .ret veq0_2k6 := Pc.seq (a := veq0_2c0) (b := veq0_2c5) (by kernel_rfl) veq0_2p3 veq0_2p8
theorem veq0_2All (n0 : Nat) : Pc veGl 96 0 n0 ⟨liveI 0 [0, 2], gCk veGs, 0⟩ veq0_2t0 .ret veq0_2k6 := veq0_2p4
theorem veq0_2Pieces (w : World) (ha : GAll w veGs) : Calls Tryz.prog 4 ⟨([0, 2] : List Int).map (Value.int .i64)⟩ w fun e w' => e = .returned (.bool true) ∧ Below w.heap.size w w' := args_pieces (fn := Tryz.f4) (c := veq0_2t0) (ck := veq0_2k6) Tryz.func4 (by kernel_rfl) (by kernel_rfl) (Nat.le_of_ble_eq_true (by kernel_rfl)) veq0_2All (by first | exact .inl rfl | exact .inr rfl) (by kernel_rfl) w ha
theorem veq0_3p3 {n0 : Nat} : Pc veGl 96 0 n0 veq0_3start veq0_3c0 .normal veq0_3k1 := Pc.run veMix veRa veRok veq0_3e2
theorem veq0_3p8 {n0 : Nat} : Pc veGl 96 0 n0 veq0_3k1 veq0_3c5 .ret veq0_3k6 := Pc.run veMix veRa veRok veq0_3e7
theorem veq0_3p4 {n0 : Nat} : Pc veGl 96 0 n0 veq0_3start veq0_3t0 .ret veq0_3k6 := Pc.seq (a := veq0_3c0) (b := veq0_3c5) (by kernel_rfl) veq0_3p3 veq0_3p8
theorem veq0_3All (n0 : Nat) : Pc veGl 96 0 n0 ⟨liveI 0 [0, 3], gCk veGs, 0⟩ veq0_3t0 .ret veq0_3k6 := veq0_3p4
theorem veq0_3Pieces (w : World) (ha : GAll w veGs) : Calls Tryz.prog 4 ⟨([0, 3] : List Int).map (Value.int .i64)⟩ w fun e w' => e = .returned (.bool true) ∧ Below w.heap.size w w' := args_pieces (fn := Tryz.f4) (c := veq0_3t0) (ck := veq0_3k6) Tryz.func4 (by kernel_rfl) (by kernel_rfl) (Nat.le_of_ble_eq_true (by kernel_rfl)) veq0_3All (by first | exact .inl rfl | exact .inr rfl) (by kernel_rfl) w ha
theorem veq0_4p3 {n0 : Nat} : Pc veGl 96 0 n0 veq0_4start veq0_4c0 .normal veq0_4k1 := Pc.run veMix veRa veRok veq0_4e2
theorem veq0_4p8 {n0 : Nat} : Pc veGl 96 0 n0 veq0_4k1 veq0_4c5 .ret veq0_4k6 := Pc.run veMix veRa veRok veq0_4e7
theorem veq0_4p4 {n0 : Nat} : Pc veGl 96 0 n0 veq0_4start veq0_4t0 .ret veq0_4k6 := Pc.seq (a := veq0_4c0) (b := veq0_4c5) (by kernel_rfl) veq0_4p3 veq0_4p8
theorem veq0_4All (n0 : Nat) : Pc veGl 96 0 n0 ⟨liveI 0 [0, 4], gCk veGs, 0⟩ veq0_4t0 .ret veq0_4k6 := veq0_4p4
theorem veq0_4Pieces (w : World) (ha : GAll w veGs) : Calls Tryz.prog 4 ⟨([0, 4] : List Int).map (Value.int .i64)⟩ w fun e w' => e = .returned (.bool true) ∧ Below w.heap.size w w' := args_pieces (fn := Tryz.f4) (c := veq0_4t0) (ck := veq0_4k6) Tryz.func4 (by kernel_rfl) (by kernel_rfl) (Nat.le_of_ble_eq_true (by kernel_rfl)) veq0_4All (by first | exact .inl rfl | exact .inr rfl) (by kernel_rfl) w ha
theorem veq0_5p3 {n0 : Nat} : Pc veGl 96 0 n0 veq0_5start veq0_5c0 .normal veq0_5k1 := Pc.run veMix veRa veRok veq0_5e2
theorem veq0_5p8 {n0 : Nat} : Pc veGl 96 0 n0 veq0_5k1 veq0_5c5 .ret veq0_5k6 := Pc.run veMix veRa veRok veq0_5e7
theorem veq0_5p4 {n0 : Nat} : Pc veGl 96 0 n0 veq0_5start veq0_5t0 .ret veq0_5k6 := Pc.seq (a := veq0_5c0) (b := veq0_5c5) (by kernel_rfl) veq0_5p3 veq0_5p8
theorem veq0_5All (n0 : Nat) : Pc veGl 96 0 n0 ⟨liveI 0 [0, 5], gCk veGs, 0⟩ veq0_5t0 .ret veq0_5k6 := veq0_5p4
theorem veq0_5Pieces (w : World) (ha : GAll w veGs) : Calls Tryz.prog 4 ⟨([0, 5] : List Int).map (Value.int .i64)⟩ w fun e w' => e = .returned (.bool true) ∧ Below w.heap.size w w' := args_pieces (fn := Tryz.f4) (c := veq0_5t0) (ck := veq0_5k6) Tryz.func4 (by kernel_rfl) (by kernel_rfl) (Nat.le_of_ble_eq_true (by kernel_rfl)) veq0_5All (by first | exact .inl rfl | exact .inr rfl) (by kernel_rfl) w ha
theorem veq0_6p3 {n0 : Nat} : Pc veGl 96 0 n0 veq0_6start veq0_6c0 .normal veq0_6k1 := Pc.run veMix veRa veRok veq0_6e2
theorem veq0_6p8 {n0 : Nat} : Pc veGl 96 0 n0 veq0_6k1 veq0_6c5 .ret veq0_6k6 := Pc.run veMix veRa veRok veq0_6e7
theorem veq0_6p4 {n0 : Nat} : Pc veGl 96 0 n0 veq0_6start veq0_6t0 .ret veq0_6k6 := Pc.seq (a := veq0_6c0) (b := veq0_6c5) (by kernel_rfl) veq0_6p3 veq0_6p8
theorem veq0_6All (n0 : Nat) : Pc veGl 96 0 n0 ⟨liveI 0 [0, 6], gCk veGs, 0⟩ veq0_6t0 .ret veq0_6k6 := veq0_6p4
theorem veq0_6Pieces (w : World) (ha : GAll w veGs) : Calls Tryz.prog 4 ⟨([0, 6] : List Int).map (Value.int .i64)⟩ w fun e w' => e = .returned (.bool true) ∧ Below w.heap.size w w' := args_pieces (fn := Tryz.f4) (c := veq0_6t0) (ck := veq0_6k6) Tryz.func4 (by kernel_rfl) (by kernel_rfl) (Nat.le_of_ble_eq_true (by kernel_rfl)) veq0_6All (by first | exact .inl rfl | exact .inr rfl) (by kernel_rfl) w ha
theorem veq0_7p3 {n0 : Nat} : Pc veGl 96 0 n0 veq0_7start veq0_7c0 .normal veq0_7k1 := Pc.run veMix veRa veRok veq0_7e2
theorem veq0_7p8 {n0 : Nat} : Pc veGl 96 0 n0 veq0_7k1 veq0_7c5 .ret veq0_7k6 := Pc.run veMix veRa veRok veq0_7e7
theorem veq0_7p4 {n0 : Nat} : Pc veGl 96 0 n0 veq0_7start veq0_7t0 .ret veq0_7k6 := Pc.seq (a := veq0_7c0) (b := veq0_7c5) (by kernel_rfl) veq0_7p3 veq0_7p8
theorem veq0_7All (n0 : Nat) : Pc veGl 96 0 n0 ⟨liveI 0 [0, 7], gCk veGs, 0⟩ veq0_7t0 .ret veq0_7k6 := veq0_7p4
theorem veq0_7Pieces (w : World) (ha : GAll w veGs) : Calls Tryz.prog 4 ⟨([0, 7] : List Int).map (Value.int .i64)⟩ w fun e w' => e = .returned (.bool true) ∧ Below w.heap.size w w' := args_pieces (fn := Tryz.f4) (c := veq0_7t0) (ck := veq0_7k6) Tryz.func4 (by kernel_rfl) (by kernel_rfl) (Nat.le_of_ble_eq_true (by kernel_rfl)) veq0_7All (by first | exact .inl rfl | exact .inr rfl) (by kernel_rfl) w ha
theorem veq0_8p3 {n0 : Nat} : Pc veGl 96 0 n0 veq0_8start veq0_8c0 .normal veq0_8k1 := Pc.run veMix veRa veRok veq0_8e2
theorem veq0_8p8 {n0 : Nat} : Pc veGl 96 0 n0 veq0_8k1 veq0_8c5 .ret veq0_8k6 := Pc.run veMix veRa veRok veq0_8e7
theorem veq0_8p4 {n0 : Nat} : Pc veGl 96 0 n0 veq0_8start veq0_8t0 .ret veq0_8k6 := Pc.seq (a := veq0_8c0) (b := veq0_8c5) (by kernel_rfl) veq0_8p3 veq0_8p8
theorem veq0_8All (n0 : Nat) : Pc veGl 96 0 n0 ⟨liveI 0 [0, 8], gCk veGs, 0⟩ veq0_8t0 .ret veq0_8k6 := veq0_8p4
theorem veq0_8Pieces (w : World) (ha : GAll w veGs) : Calls Tryz.prog 4 ⟨([0, 8] : List Int).map (Value.int .i64)⟩ w fun e w' => e = .returned (.bool true) ∧ Below w.heap.size w w' := args_pieces (fn := Tryz.f4) (c := veq0_8t0) (ck := veq0_8k6) Tryz.func4 (by kernel_rfl) (by kernel_rfl) (Nat.le_of_ble_eq_true (by kernel_rfl)) veq0_8All (by first | exact .inl rfl | exact .inr rfl) (by kernel_rfl) w ha
theorem veq0_9p3 {n0 : Nat} : Pc veGl 96 0 n0 veq0_9start veq0_9c0 .normal veq0_9k1 := Pc.run veMix veRa veRok veq0_9e2
theorem veq0_9p8 {n0 : Nat} : Pc veGl 96 0 n0 veq0_9k1 veq0_9c5 .ret veq0_9k6 := Pc.run veMix veRa veRok veq0_9e7
theorem veq0_9p4 {n0 : Nat} : Pc veGl 96 0 n0 veq0_9start veq0_9t0 .ret veq0_9k6 := Pc.seq (a := veq0_9c0) (b := veq0_9c5) (by kernel_rfl) veq0_9p3 veq0_9p8
theorem veq0_9All (n0 : Nat) : Pc veGl 96 0 n0 ⟨liveI 0 [0, 9], gCk veGs, 0⟩ veq0_9t0 .ret veq0_9k6 := veq0_9p4
theorem veq0_9Pieces (w : World) (ha : GAll w veGs) : Calls Tryz.prog 4 ⟨([0, 9] : List Int).map (Value.int .i64)⟩ w fun e w' => e = .returned (.bool true) ∧ Below w.heap.size w w' := args_pieces (fn := Tryz.f4) (c := veq0_9t0) (ck := veq0_9k6) Tryz.func4 (by kernel_rfl) (by kernel_rfl) (Nat.le_of_ble_eq_true (by kernel_rfl)) veq0_9All (by first | exact .inl rfl | exact .inr rfl) (by kernel_rfl) w ha
theorem veq0_10p3 {n0 : Nat} : Pc veGl 96 0 n0 veq0_10start veq0_10c0 .normal veq0_10k1 := Pc.run veMix veRa veRok veq0_10e2
theorem veq0_10p8 {n0 : Nat} : Pc veGl 96 0 n0 veq0_10k1 veq0_10c5 .ret veq0_10k6 := Pc.run veMix veRa veRok veq0_10e7
theorem veq0_10p4 {n0 : Nat} : Pc veGl 96 0 n0 veq0_10start veq0_10t0 .ret veq0_10k6 := Pc.seq (a := veq0_10c0) (b := veq0_10c5) (by kernel_rfl) veq0_10p3 veq0_10p8
theorem veq0_10All (n0 : Nat) : Pc veGl 96 0 n0 ⟨liveI 0 [0, 10], gCk veGs, 0⟩ veq0_10t0 .ret veq0_10k6 := veq0_10p4
theorem veq0_10Pieces (w : World) (ha : GAll w veGs) : Calls Tryz.prog 4 ⟨([0, 10] : List Int).map (Value.int .i64)⟩ w fun e w' => e = .returned (.bool true) ∧ Below w.heap.size w w' := args_pieces (fn := Tryz.f4) (c := veq0_10t0) (ck := veq0_10k6) Tryz.func4 (by kernel_rfl) (by kernel_rfl) (Nat.le_of_ble_eq_true (by kernel_rfl)) veq0_10All (by first | exact .inl rfl | exact .inr rfl) (by kernel_rfl) w ha
theorem veq1_0p3 {n0 : Nat} : Pc veGl 96 0 n0 veq1_0start veq1_0c0 .normal veq1_0k1 := Pc.run veMix veRa veRok veq1_0e2
theorem veq1_0p8 {n0 : Nat} : Pc veGl 96 0 n0 veq1_0k1 veq1_0c5 .ret veq1_0k6 := Pc.run veMix veRa veRok veq1_0e7
theorem veq1_0p4 {n0 : Nat} : Pc veGl 96 0 n0 veq1_0start veq1_0t0 .ret veq1_0k6 := Pc.seq (a := veq1_0c0) (b := veq1_0c5) (by kernel_rfl) veq1_0p3 veq1_0p8
theorem veq1_0All (n0 : Nat) : Pc veGl 96 0 n0 ⟨liveI 0 [1, 0], gCk veGs, 0⟩ veq1_0t0 .ret veq1_0k6 := veq1_0p4
theorem veq1_0Pieces (w : World) (ha : GAll w veGs) : Calls Tryz.prog 4 ⟨([1, 0] : List Int).map (Value.int .i64)⟩ w fun e w' => e = .returned (.bool true) ∧ Below w.heap.size w w' := args_pieces (fn := Tryz.f4) (c := veq1_0t0) (ck := veq1_0k6) Tryz.func4 (by kernel_rfl) (by kernel_rfl) (Nat.le_of_ble_eq_true (by kernel_rfl)) veq1_0All (by first | exact .inl rfl | exact .inr rfl) (by kernel_rfl) w ha
theorem veq1_1p3 {n0 : Nat} : Pc veGl 96 0 n0 veq1_1start veq1_1c0 .normal veq1_1k1 := Pc.run veMix veRa veRok veq1_1e2
theorem veq1_1p8 {n0 : Nat} : Pc veGl 96 0 n0 veq1_1k1 veq1_1c5 .ret veq1_1k6 := Pc.run veMix veRa veRok veq1_1e7
theorem veq1_1p4 {n0 : Nat} : Pc veGl 96 0 n0 veq1_1start veq1_1t0 .ret veq1_1k6 := Pc.seq (a := veq1_1c0) (b := veq1_1c5) (by kernel_rfl) veq1_1p3 veq1_1p8
theorem veq1_1All (n0 : Nat) : Pc veGl 96 0 n0 ⟨liveI 0 [1, 1], gCk veGs, 0⟩ veq1_1t0 .ret veq1_1k6 := veq1_1p4
theorem veq1_1Pieces (w : World) (ha : GAll w veGs) : Calls Tryz.prog 4 ⟨([1, 1] : List Int).map (Value.int .i64)⟩ w fun e w' => e = .returned (.bool true) ∧ Below w.heap.size w w' := args_pieces (fn := Tryz.f4) (c := veq1_1t0) (ck := veq1_1k6) Tryz.func4 (by kernel_rfl) (by kernel_rfl) (Nat.le_of_ble_eq_true (by kernel_rfl)) veq1_1All (by first | exact .inl rfl | exact .inr rfl) (by kernel_rfl) w ha
theorem veq1_2p3 {n0 : Nat} : Pc veGl 96 0 n0 veq1_2start veq1_2c0 .normal veq1_2k1 := Pc.run veMix veRa veRok veq1_2e2
theorem veq1_2p8 {n0 : Nat} : Pc veGl 96 0 n0 veq1_2k1 veq1_2c5 .ret veq1_2k6 := Pc.run veMix veRa veRok veq1_2e7
theorem veq1_2p4 {n0 : Nat} : Pc veGl 96 0 n0 veq1_2start veq1_2t0 .ret veq1_2k6 := Pc.seq (a := veq1_2c0) (b := veq1_2c5) (by kernel_rfl) veq1_2p3 veq1_2p8
theorem veq1_2All (n0 : Nat) : Pc veGl 96 0 n0 ⟨liveI 0 [1, 2], gCk veGs, 0⟩ veq1_2t0 .ret veq1_2k6 := veq1_2p4
theorem veq1_2Pieces (w : World) (ha : GAll w veGs) : Calls Tryz.prog 4 ⟨([1, 2] : List Int).map (Value.int .i64)⟩ w fun e w' => e = .returned (.bool true) ∧ Below w.heap.size w w' := args_pieces (fn := Tryz.f4) (c := veq1_2t0) (ck := veq1_2k6) Tryz.func4 (by kernel_rfl) (by kernel_rfl) (Nat.le_of_ble_eq_true (by kernel_rfl)) veq1_2All (by first | exact .inl rfl | exact .inr rfl) (by kernel_rfl) w ha
theorem veq1_3p3 {n0 : Nat} : Pc veGl 96 0 n0 veq1_3start veq1_3c0 .normal veq1_3k1 := Pc.run veMix veRa veRok veq1_3e2
theorem veq1_3p8 {n0 : Nat} : Pc veGl 96 0 n0 veq1_3k1 veq1_3c5 .ret veq1_3k6 := Pc.run veMix veRa veRok veq1_3e7
theorem veq1_3p4 {n0 : Nat} : Pc veGl 96 0 n0 veq1_3start veq1_3t0 .ret veq1_3k6 := Pc.seq (a := veq1_3c0) (b := veq1_3c5) (by kernel_rfl) veq1_3p3 veq1_3p8
theorem veq1_3All (n0 : Nat) : Pc veGl 96 0 n0 ⟨liveI 0 [1, 3], gCk veGs, 0⟩ veq1_3t0 .ret veq1_3k6 := veq1_3p4
theorem veq1_3Pieces (w : World) (ha : GAll w veGs) : Calls Tryz.prog 4 ⟨([1, 3] : List Int).map (Value.int .i64)⟩ w fun e w' => e = .returned (.bool true) ∧ Below w.heap.size w w' := args_pieces (fn := Tryz.f4) (c := veq1_3t0) (ck := veq1_3k6) Tryz.func4 (by kernel_rfl) (by kernel_rfl) (Nat.le_of_ble_eq_true (by kernel_rfl)) veq1_3All (by first | exact .inl rfl | exact .inr rfl) (by kernel_rfl) w ha
theorem veq1_4p3 {n0 : Nat} : Pc veGl 96 0 n0 veq1_4start veq1_4c0 .normal veq1_4k1 := Pc.run veMix veRa veRok veq1_4e2
theorem veq1_4p8 {n0 : Nat} : Pc veGl 96 0 n0 veq1_4k1 veq1_4c5 .ret veq1_4k6 := Pc.run veMix veRa veRok veq1_4e7
theorem veq1_4p4 {n0 : Nat} : Pc veGl 96 0 n0 veq1_4start veq1_4t0 .ret veq1_4k6 := Pc.seq (a := veq1_4c0) (b := veq1_4c5) (by kernel_rfl) veq1_4p3 veq1_4p8
theorem veq1_4All (n0 : Nat) : Pc veGl 96 0 n0 ⟨liveI 0 [1, 4], gCk veGs, 0⟩ veq1_4t0 .ret veq1_4k6 := veq1_4p4
theorem veq1_4Pieces (w : World) (ha : GAll w veGs) : Calls Tryz.prog 4 ⟨([1, 4] : List Int).map (Value.int .i64)⟩ w fun e w' => e = .returned (.bool true) ∧ Below w.heap.size w w' := args_pieces (fn := Tryz.f4) (c := veq1_4t0) (ck := veq1_4k6) Tryz.func4 (by kernel_rfl) (by kernel_rfl) (Nat.le_of_ble_eq_true (by kernel_rfl)) veq1_4All (by first | exact .inl rfl | exact .inr rfl) (by kernel_rfl) w ha
theorem veq1_5p3 {n0 : Nat} : Pc veGl 96 0 n0 veq1_5start veq1_5c0 .normal veq1_5k1 := Pc.run veMix veRa veRok veq1_5e2
theorem veq1_5p8 {n0 : Nat} : Pc veGl 96 0 n0 veq1_5k1 veq1_5c5 .ret veq1_5k6 := Pc.run veMix veRa veRok veq1_5e7
theorem veq1_5p4 {n0 : Nat} : Pc veGl 96 0 n0 veq1_5start veq1_5t0 .ret veq1_5k6 := Pc.seq (a := veq1_5c0) (b := veq1_5c5) (by kernel_rfl) veq1_5p3 veq1_5p8
theorem veq1_5All (n0 : Nat) : Pc veGl 96 0 n0 ⟨liveI 0 [1, 5], gCk veGs, 0⟩ veq1_5t0 .ret veq1_5k6 := veq1_5p4
theorem veq1_5Pieces (w : World) (ha : GAll w veGs) : Calls Tryz.prog 4 ⟨([1, 5] : List Int).map (Value.int .i64)⟩ w fun e w' => e = .returned (.bool true) ∧ Below w.heap.size w w' := args_pieces (fn := Tryz.f4) (c := veq1_5t0) (ck := veq1_5k6) Tryz.func4 (by kernel_rfl) (by kernel_rfl) (Nat.le_of_ble_eq_true (by kernel_rfl)) veq1_5All (by first | exact .inl rfl | exact .inr rfl) (by kernel_rfl) w ha
theorem veq1_6p3 {n0 : Nat} : Pc veGl 96 0 n0 veq1_6start veq1_6c0 .normal veq1_6k1 := Pc.run veMix veRa veRok veq1_6e2
theorem veq1_6p8 {n0 : Nat} : Pc veGl 96 0 n0 veq1_6k1 veq1_6c5 .ret veq1_6k6 := Pc.run veMix veRa veRok veq1_6e7
theorem veq1_6p4 {n0 : Nat} : Pc veGl 96 0 n0 veq1_6start veq1_6t0 .ret veq1_6k6 := Pc.seq (a := veq1_6c0) (b := veq1_6c5) (by kernel_rfl) veq1_6p3 veq1_6p8
theorem veq1_6All (n0 : Nat) : Pc veGl 96 0 n0 ⟨liveI 0 [1, 6], gCk veGs, 0⟩ veq1_6t0 .ret veq1_6k6 := veq1_6p4
theorem veq1_6Pieces (w : World) (ha : GAll w veGs) : Calls Tryz.prog 4 ⟨([1, 6] : List Int).map (Value.int .i64)⟩ w fun e w' => e = .returned (.bool true) ∧ Below w.heap.size w w' := args_pieces (fn := Tryz.f4) (c := veq1_6t0) (ck := veq1_6k6) Tryz.func4 (by kernel_rfl) (by kernel_rfl) (Nat.le_of_ble_eq_true (by kernel_rfl)) veq1_6All (by first | exact .inl rfl | exact .inr rfl) (by kernel_rfl) w ha
theorem veq1_7p3 {n0 : Nat} : Pc veGl 96 0 n0 veq1_7start veq1_7c0 .normal veq1_7k1 := Pc.run veMix veRa veRok veq1_7e2
theorem veq1_7p8 {n0 : Nat} : Pc veGl 96 0 n0 veq1_7k1 veq1_7c5 .ret veq1_7k6 := Pc.run veMix veRa veRok veq1_7e7
theorem veq1_7p4 {n0 : Nat} : Pc veGl 96 0 n0 veq1_7start veq1_7t0 .ret veq1_7k6 := Pc.seq (a := veq1_7c0) (b := veq1_7c5) (by kernel_rfl) veq1_7p3 veq1_7p8
theorem veq1_7All (n0 : Nat) : Pc veGl 96 0 n0 ⟨liveI 0 [1, 7], gCk veGs, 0⟩ veq1_7t0 .ret veq1_7k6 := veq1_7p4
theorem veq1_7Pieces (w : World) (ha : GAll w veGs) : Calls Tryz.prog 4 ⟨([1, 7] : List Int).map (Value.int .i64)⟩ w fun e w' => e = .returned (.bool true) ∧ Below w.heap.size w w' := args_pieces (fn := Tryz.f4) (c := veq1_7t0) (ck := veq1_7k6) Tryz.func4 (by kernel_rfl) (by kernel_rfl) (Nat.le_of_ble_eq_true (by kernel_rfl)) veq1_7All (by first | exact .inl rfl | exact .inr rfl) (by kernel_rfl) w ha
theorem veq1_8p3 {n0 : Nat} : Pc veGl 96 0 n0 veq1_8start veq1_8c0 .normal veq1_8k1 := Pc.run veMix veRa veRok veq1_8e2
theorem veq1_8p8 {n0 : Nat} : Pc veGl 96 0 n0 veq1_8k1 veq1_8c5 .ret veq1_8k6 := Pc.run veMix veRa veRok veq1_8e7
theorem veq1_8p4 {n0 : Nat} : Pc veGl 96 0 n0 veq1_8start veq1_8t0 .ret veq1_8k6 := Pc.seq (a := veq1_8c0) (b := veq1_8c5) (by kernel_rfl) veq1_8p3 veq1_8p8
theorem veq1_8All (n0 : Nat) : Pc veGl 96 0 n0 ⟨liveI 0 [1, 8], gCk veGs, 0⟩ veq1_8t0 .ret veq1_8k6 := veq1_8p4
theorem veq1_8Pieces (w : World) (ha : GAll w veGs) : Calls Tryz.prog 4 ⟨([1, 8] : List Int).map (Value.int .i64)⟩ w fun e w' => e = .returned (.bool true) ∧ Below w.heap.size w w' := args_pieces (fn := Tryz.f4) (c := veq1_8t0) (ck := veq1_8k6) Tryz.func4 (by kernel_rfl) (by kernel_rfl) (Nat.le_of_ble_eq_true (by kernel_rfl)) veq1_8All (by first | exact .inl rfl | exact .inr rfl) (by kernel_rfl) w ha
theorem veq1_9p3 {n0 : Nat} : Pc veGl 96 0 n0 veq1_9start veq1_9c0 .normal veq1_9k1 := Pc.run veMix veRa veRok veq1_9e2
theorem veq1_9p8 {n0 : Nat} : Pc veGl 96 0 n0 veq1_9k1 veq1_9c5 .ret veq1_9k6 := Pc.run veMix veRa veRok veq1_9e7
theorem veq1_9p4 {n0 : Nat} : Pc veGl 96 0 n0 veq1_9start veq1_9t0 .ret veq1_9k6 := Pc.seq (a := veq1_9c0) (b := veq1_9c5) (by kernel_rfl) veq1_9p3 veq1_9p8
theorem veq1_9All (n0 : Nat) : Pc veGl 96 0 n0 ⟨liveI 0 [1, 9], gCk veGs, 0⟩ veq1_9t0 .ret veq1_9k6 := veq1_9p4
theorem veq1_9Pieces (w : World) (ha : GAll w veGs) : Calls Tryz.prog 4 ⟨([1, 9] : List Int).map (Value.int .i64)⟩ w fun e w' => e = .returned (.bool true) ∧ Below w.heap.size w w' := args_pieces (fn := Tryz.f4) (c := veq1_9t0) (ck := veq1_9k6) Tryz.func4 (by kernel_rfl) (by kernel_rfl) (Nat.le_of_ble_eq_true (by kernel_rfl)) veq1_9All (by first | exact .inl rfl | exact .inr rfl) (by kernel_rfl) w ha
theorem veq1_10p3 {n0 : Nat} : Pc veGl 96 0 n0 veq1_10start veq1_10c0 .normal veq1_10k1 := Pc.run veMix veRa veRok veq1_10e2
theorem veq1_10p8 {n0 : Nat} : Pc veGl 96 0 n0 veq1_10k1 veq1_10c5 .ret veq1_10k6 := Pc.run veMix veRa veRok veq1_10e7
theorem veq1_10p4 {n0 : Nat} : Pc veGl 96 0 n0 veq1_10start veq1_10t0 .ret veq1_10k6 := Pc.seq (a := veq1_10c0) (b := veq1_10c5) (by kernel_rfl) veq1_10p3 veq1_10p8
theorem veq1_10All (n0 : Nat) : Pc veGl 96 0 n0 ⟨liveI 0 [1, 10], gCk veGs, 0⟩ veq1_10t0 .ret veq1_10k6 := veq1_10p4
theorem veq1_10Pieces (w : World) (ha : GAll w veGs) : Calls Tryz.prog 4 ⟨([1, 10] : List Int).map (Value.int .i64)⟩ w fun e w' => e = .returned (.bool true) ∧ Below w.heap.size w w' := args_pieces (fn := Tryz.f4) (c := veq1_10t0) (ck := veq1_10k6) Tryz.func4 (by kernel_rfl) (by kernel_rfl) (Nat.le_of_ble_eq_true (by kernel_rfl)) veq1_10All (by first | exact .inl rfl | exact .inr rfl) (by kernel_rfl) w ha
theorem veq2_0p3 {n0 : Nat} : Pc veGl 96 0 n0 veq2_0start veq2_0c0 .normal veq2_0k1 := Pc.run veMix veRa veRok veq2_0e2
theorem veq2_0p8 {n0 : Nat} : Pc veGl 96 0 n0 veq2_0k1 veq2_0c5 .ret veq2_0k6 := Pc.run veMix veRa veRok veq2_0e7
theorem veq2_0p4 {n0 : Nat} : Pc veGl 96 0 n0 veq2_0start veq2_0t0 .ret veq2_0k6 := Pc.seq (a := veq2_0c0) (b := veq2_0c5) (by kernel_rfl) veq2_0p3 veq2_0p8
theorem veq2_0All (n0 : Nat) : Pc veGl 96 0 n0 ⟨liveI 0 [2, 0], gCk veGs, 0⟩ veq2_0t0 .ret veq2_0k6 := veq2_0p4
theorem veq2_0Pieces (w : World) (ha : GAll w veGs) : Calls Tryz.prog 4 ⟨([2, 0] : List Int).map (Value.int .i64)⟩ w fun e w' => e = .returned (.bool true) ∧ Below w.heap.size w w' := args_pieces (fn := Tryz.f4) (c := veq2_0t0) (ck := veq2_0k6) Tryz.func4 (by kernel_rfl) (by kernel_rfl) (Nat.le_of_ble_eq_true (by kernel_rfl)) veq2_0All (by first | exact .inl rfl | exact .inr rfl) (by kernel_rfl) w ha
theorem veq2_1p3 {n0 : Nat} : Pc veGl 96 0 n0 veq2_1start veq2_1c0 .normal veq2_1k1 := Pc.run veMix veRa veRok veq2_1e2
theorem veq2_1p8 {n0 : Nat} : Pc veGl 96 0 n0 veq2_1k1 veq2_1c5 .ret veq2_1k6 := Pc.run veMix veRa veRok veq2_1e7
theorem veq2_1p4 {n0 : Nat} : Pc veGl 96 0 n0 veq2_1start veq2_1t0 .ret veq2_1k6 := Pc.seq (a := veq2_1c0) (b := veq2_1c5) (by kernel_rfl) veq2_1p3 veq2_1p8
theorem veq2_1All (n0 : Nat) : Pc veGl 96 0 n0 ⟨liveI 0 [2, 1], gCk veGs, 0⟩ veq2_1t0 .ret veq2_1k6 := veq2_1p4
theorem veq2_1Pieces (w : World) (ha : GAll w veGs) : Calls Tryz.prog 4 ⟨([2, 1] : List Int).map (Value.int .i64)⟩ w fun e w' => e = .returned (.bool true) ∧ Below w.heap.size w w' := args_pieces (fn := Tryz.f4) (c := veq2_1t0) (ck := veq2_1k6) Tryz.func4 (by kernel_rfl) (by kernel_rfl) (Nat.le_of_ble_eq_true (by kernel_rfl)) veq2_1All (by first | exact .inl rfl | exact .inr rfl) (by kernel_rfl) w ha
theorem veq2_2p3 {n0 : Nat} : Pc veGl 96 0 n0 veq2_2start veq2_2c0 .normal veq2_2k1 := Pc.run veMix veRa veRok veq2_2e2
theorem veq2_2p8 {n0 : Nat} : Pc veGl 96 0 n0 veq2_2k1 veq2_2c5 .ret veq2_2k6 := Pc.run veMix veRa veRok veq2_2e7
theorem veq2_2p4 {n0 : Nat} : Pc veGl 96 0 n0 veq2_2start veq2_2t0 .ret veq2_2k6 := Pc.seq (a := veq2_2c0) (b := veq2_2c5) (by kernel_rfl) veq2_2p3 veq2_2p8
theorem veq2_2All (n0 : Nat) : Pc veGl 96 0 n0 ⟨liveI 0 [2, 2], gCk veGs, 0⟩ veq2_2t0 .ret veq2_2k6 := veq2_2p4
theorem veq2_2Pieces (w : World) (ha : GAll w veGs) : Calls Tryz.prog 4 ⟨([2, 2] : List Int).map (Value.int .i64)⟩ w fun e w' => e = .returned (.bool true) ∧ Below w.heap.size w w' := args_pieces (fn := Tryz.f4) (c := veq2_2t0) (ck := veq2_2k6) Tryz.func4 (by kernel_rfl) (by kernel_rfl) (Nat.le_of_ble_eq_true (by kernel_rfl)) veq2_2All (by first | exact .inl rfl | exact .inr rfl) (by kernel_rfl) w ha
theorem veq2_3p3 {n0 : Nat} : Pc veGl 96 0 n0 veq2_3start veq2_3c0 .normal veq2_3k1 := Pc.run veMix veRa veRok veq2_3e2
theorem veq2_3p8 {n0 : Nat} : Pc veGl 96 0 n0 veq2_3k1 veq2_3c5 .ret veq2_3k6 := Pc.run veMix veRa veRok veq2_3e7
theorem veq2_3p4 {n0 : Nat} : Pc veGl 96 0 n0 veq2_3start veq2_3t0 .ret veq2_3k6 := Pc.seq (a := veq2_3c0) (b := veq2_3c5) (by kernel_rfl) veq2_3p3 veq2_3p8
theorem veq2_3All (n0 : Nat) : Pc veGl 96 0 n0 ⟨liveI 0 [2, 3], gCk veGs, 0⟩ veq2_3t0 .ret veq2_3k6 := veq2_3p4
theorem veq2_3Pieces (w : World) (ha : GAll w veGs) : Calls Tryz.prog 4 ⟨([2, 3] : List Int).map (Value.int .i64)⟩ w fun e w' => e = .returned (.bool true) ∧ Below w.heap.size w w' := args_pieces (fn := Tryz.f4) (c := veq2_3t0) (ck := veq2_3k6) Tryz.func4 (by kernel_rfl) (by kernel_rfl) (Nat.le_of_ble_eq_true (by kernel_rfl)) veq2_3All (by first | exact .inl rfl | exact .inr rfl) (by kernel_rfl) w ha
theorem veq2_4p3 {n0 : Nat} : Pc veGl 96 0 n0 veq2_4start veq2_4c0 .normal veq2_4k1 := Pc.run veMix veRa veRok veq2_4e2
theorem veq2_4p8 {n0 : Nat} : Pc veGl 96 0 n0 veq2_4k1 veq2_4c5 .ret veq2_4k6 := Pc.run veMix veRa veRok veq2_4e7
theorem veq2_4p4 {n0 : Nat} : Pc veGl 96 0 n0 veq2_4start veq2_4t0 .ret veq2_4k6 := Pc.seq (a := veq2_4c0) (b := veq2_4c5) (by kernel_rfl) veq2_4p3 veq2_4p8
theorem veq2_4All (n0 : Nat) : Pc veGl 96 0 n0 ⟨liveI 0 [2, 4], gCk veGs, 0⟩ veq2_4t0 .ret veq2_4k6 := veq2_4p4
theorem veq2_4Pieces (w : World) (ha : GAll w veGs) : Calls Tryz.prog 4 ⟨([2, 4] : List Int).map (Value.int .i64)⟩ w fun e w' => e = .returned (.bool true) ∧ Below w.heap.size w w' := args_pieces (fn := Tryz.f4) (c := veq2_4t0) (ck := veq2_4k6) Tryz.func4 (by kernel_rfl) (by kernel_rfl) (Nat.le_of_ble_eq_true (by kernel_rfl)) veq2_4All (by first | exact .inl rfl | exact .inr rfl) (by kernel_rfl) w ha
theorem veq2_5p3 {n0 : Nat} : Pc veGl 96 0 n0 veq2_5start veq2_5c0 .normal veq2_5k1 := Pc.run veMix veRa veRok veq2_5e2
theorem veq2_5p8 {n0 : Nat} : Pc veGl 96 0 n0 veq2_5k1 veq2_5c5 .ret veq2_5k6 := Pc.run veMix veRa veRok veq2_5e7
theorem veq2_5p4 {n0 : Nat} : Pc veGl 96 0 n0 veq2_5start veq2_5t0 .ret veq2_5k6 := Pc.seq (a := veq2_5c0) (b := veq2_5c5) (by kernel_rfl) veq2_5p3 veq2_5p8
theorem veq2_5All (n0 : Nat) : Pc veGl 96 0 n0 ⟨liveI 0 [2, 5], gCk veGs, 0⟩ veq2_5t0 .ret veq2_5k6 := veq2_5p4
theorem veq2_5Pieces (w : World) (ha : GAll w veGs) : Calls Tryz.prog 4 ⟨([2, 5] : List Int).map (Value.int .i64)⟩ w fun e w' => e = .returned (.bool true) ∧ Below w.heap.size w w' := args_pieces (fn := Tryz.f4) (c := veq2_5t0) (ck := veq2_5k6) Tryz.func4 (by kernel_rfl) (by kernel_rfl) (Nat.le_of_ble_eq_true (by kernel_rfl)) veq2_5All (by first | exact .inl rfl | exact .inr rfl) (by kernel_rfl) w ha
theorem veq2_6p3 {n0 : Nat} : Pc veGl 96 0 n0 veq2_6start veq2_6c0 .normal veq2_6k1 := Pc.run veMix veRa veRok veq2_6e2
theorem veq2_6p8 {n0 : Nat} : Pc veGl 96 0 n0 veq2_6k1 veq2_6c5 .ret veq2_6k6 := Pc.run veMix veRa veRok veq2_6e7
theorem veq2_6p4 {n0 : Nat} : Pc veGl 96 0 n0 veq2_6start veq2_6t0 .ret veq2_6k6 := Pc.seq (a := veq2_6c0) (b := veq2_6c5) (by kernel_rfl) veq2_6p3 veq2_6p8
theorem veq2_6All (n0 : Nat) : Pc veGl 96 0 n0 ⟨liveI 0 [2, 6], gCk veGs, 0⟩ veq2_6t0 .ret veq2_6k6 := veq2_6p4
theorem veq2_6Pieces (w : World) (ha : GAll w veGs) : Calls Tryz.prog 4 ⟨([2, 6] : List Int).map (Value.int .i64)⟩ w fun e w' => e = .returned (.bool true) ∧ Below w.heap.size w w' := args_pieces (fn := Tryz.f4) (c := veq2_6t0) (ck := veq2_6k6) Tryz.func4 (by kernel_rfl) (by kernel_rfl) (Nat.le_of_ble_eq_true (by kernel_rfl)) veq2_6All (by first | exact .inl rfl | exact .inr rfl) (by kernel_rfl) w ha
theorem veq2_7p3 {n0 : Nat} : Pc veGl 96 0 n0 veq2_7start veq2_7c0 .normal veq2_7k1 := Pc.run veMix veRa veRok veq2_7e2
theorem veq2_7p8 {n0 : Nat} : Pc veGl 96 0 n0 veq2_7k1 veq2_7c5 .ret veq2_7k6 := Pc.run veMix veRa veRok veq2_7e7
theorem veq2_7p4 {n0 : Nat} : Pc veGl 96 0 n0 veq2_7start veq2_7t0 .ret veq2_7k6 := Pc.seq (a := veq2_7c0) (b := veq2_7c5) (by kernel_rfl) veq2_7p3 veq2_7p8
theorem veq2_7All (n0 : Nat) : Pc veGl 96 0 n0 ⟨liveI 0 [2, 7], gCk veGs, 0⟩ veq2_7t0 .ret veq2_7k6 := veq2_7p4
theorem veq2_7Pieces (w : World) (ha : GAll w veGs) : Calls Tryz.prog 4 ⟨([2, 7] : List Int).map (Value.int .i64)⟩ w fun e w' => e = .returned (.bool true) ∧ Below w.heap.size w w' := args_pieces (fn := Tryz.f4) (c := veq2_7t0) (ck := veq2_7k6) Tryz.func4 (by kernel_rfl) (by kernel_rfl) (Nat.le_of_ble_eq_true (by kernel_rfl)) veq2_7All (by first | exact .inl rfl | exact .inr rfl) (by kernel_rfl) w ha
theorem veq2_8p3 {n0 : Nat} : Pc veGl 96 0 n0 veq2_8start veq2_8c0 .normal veq2_8k1 := Pc.run veMix veRa veRok veq2_8e2
theorem veq2_8p8 {n0 : Nat} : Pc veGl 96 0 n0 veq2_8k1 veq2_8c5 .ret veq2_8k6 := Pc.run veMix veRa veRok veq2_8e7
theorem veq2_8p4 {n0 : Nat} : Pc veGl 96 0 n0 veq2_8start veq2_8t0 .ret veq2_8k6 := Pc.seq (a := veq2_8c0) (b := veq2_8c5) (by kernel_rfl) veq2_8p3 veq2_8p8
theorem veq2_8All (n0 : Nat) : Pc veGl 96 0 n0 ⟨liveI 0 [2, 8], gCk veGs, 0⟩ veq2_8t0 .ret veq2_8k6 := veq2_8p4
theorem veq2_8Pieces (w : World) (ha : GAll w veGs) : Calls Tryz.prog 4 ⟨([2, 8] : List Int).map (Value.int .i64)⟩ w fun e w' => e = .returned (.bool true) ∧ Below w.heap.size w w' := args_pieces (fn := Tryz.f4) (c := veq2_8t0) (ck := veq2_8k6) Tryz.func4 (by kernel_rfl) (by kernel_rfl) (Nat.le_of_ble_eq_true (by kernel_rfl)) veq2_8All (by first | exact .inl rfl | exact .inr rfl) (by kernel_rfl) w ha
theorem veq2_9p3 {n0 : Nat} : Pc veGl 96 0 n0 veq2_9start veq2_9c0 .normal veq2_9k1 := Pc.run veMix veRa veRok veq2_9e2
theorem veq2_9p8 {n0 : Nat} : Pc veGl 96 0 n0 veq2_9k1 veq2_9c5 .ret veq2_9k6 := Pc.run veMix veRa veRok veq2_9e7
theorem veq2_9p4 {n0 : Nat} : Pc veGl 96 0 n0 veq2_9start veq2_9t0 .ret veq2_9k6 := Pc.seq (a := veq2_9c0) (b := veq2_9c5) (by kernel_rfl) veq2_9p3 veq2_9p8
theorem veq2_9All (n0 : Nat) : Pc veGl 96 0 n0 ⟨liveI 0 [2, 9], gCk veGs, 0⟩ veq2_9t0 .ret veq2_9k6 := veq2_9p4
theorem veq2_9Pieces (w : World) (ha : GAll w veGs) : Calls Tryz.prog 4 ⟨([2, 9] : List Int).map (Value.int .i64)⟩ w fun e w' => e = .returned (.bool true) ∧ Below w.heap.size w w' := args_pieces (fn := Tryz.f4) (c := veq2_9t0) (ck := veq2_9k6) Tryz.func4 (by kernel_rfl) (by kernel_rfl) (Nat.le_of_ble_eq_true (by kernel_rfl)) veq2_9All (by first | exact .inl rfl | exact .inr rfl) (by kernel_rfl) w ha
theorem veq2_10p3 {n0 : Nat} : Pc veGl 96 0 n0 veq2_10start veq2_10c0 .normal veq2_10k1 := Pc.run veMix veRa veRok veq2_10e2
theorem veq2_10p8 {n0 : Nat} : Pc veGl 96 0 n0 veq2_10k1 veq2_10c5 .ret veq2_10k6 := Pc.run veMix veRa veRok veq2_10e7
theorem veq2_10p4 {n0 : Nat} : Pc veGl 96 0 n0 veq2_10start veq2_10t0 .ret veq2_10k6 := Pc.seq (a := veq2_10c0) (b := veq2_10c5) (by kernel_rfl) veq2_10p3 veq2_10p8
theorem veq2_10All (n0 : Nat) : Pc veGl 96 0 n0 ⟨liveI 0 [2, 10], gCk veGs, 0⟩ veq2_10t0 .ret veq2_10k6 := veq2_10p4
theorem veq2_10Pieces (w : World) (ha : GAll w veGs) : Calls Tryz.prog 4 ⟨([2, 10] : List Int).map (Value.int .i64)⟩ w fun e w' => e = .returned (.bool true) ∧ Below w.heap.size w w' := args_pieces (fn := Tryz.f4) (c := veq2_10t0) (ck := veq2_10k6) Tryz.func4 (by kernel_rfl) (by kernel_rfl) (Nat.le_of_ble_eq_true (by kernel_rfl)) veq2_10All (by first | exact .inl rfl | exact .inr rfl) (by kernel_rfl) w ha
theorem veq3_0p3 {n0 : Nat} : Pc veGl 96 0 n0 veq3_0start veq3_0c0 .normal veq3_0k1 := Pc.run veMix veRa veRok veq3_0e2
theorem veq3_0p8 {n0 : Nat} : Pc veGl 96 0 n0 veq3_0k1 veq3_0c5 .ret veq3_0k6 := Pc.run veMix veRa veRok veq3_0e7
theorem veq3_0p4 {n0 : Nat} : Pc veGl 96 0 n0 veq3_0start veq3_0t0 .ret veq3_0k6 := Pc.seq (a := veq3_0c0) (b := veq3_0c5) (by kernel_rfl) veq3_0p3 veq3_0p8
theorem veq3_0All (n0 : Nat) : Pc veGl 96 0 n0 ⟨liveI 0 [3, 0], gCk veGs, 0⟩ veq3_0t0 .ret veq3_0k6 := veq3_0p4
theorem veq3_0Pieces (w : World) (ha : GAll w veGs) : Calls Tryz.prog 4 ⟨([3, 0] : List Int).map (Value.int .i64)⟩ w fun e w' => e = .returned (.bool true) ∧ Below w.heap.size w w' := args_pieces (fn := Tryz.f4) (c := veq3_0t0) (ck := veq3_0k6) Tryz.func4 (by kernel_rfl) (by kernel_rfl) (Nat.le_of_ble_eq_true (by kernel_rfl)) veq3_0All (by first | exact .inl rfl | exact .inr rfl) (by kernel_rfl) w ha
theorem veq3_1p3 {n0 : Nat} : Pc veGl 96 0 n0 veq3_1start veq3_1c0 .normal veq3_1k1 := Pc.run veMix veRa veRok veq3_1e2
theorem veq3_1p8 {n0 : Nat} : Pc veGl 96 0 n0 veq3_1k1 veq3_1c5 .ret veq3_1k6 := Pc.run veMix veRa veRok veq3_1e7
theorem veq3_1p4 {n0 : Nat} : Pc veGl 96 0 n0 veq3_1start veq3_1t0 .ret veq3_1k6 := Pc.seq (a := veq3_1c0) (b := veq3_1c5) (by kernel_rfl) veq3_1p3 veq3_1p8
theorem veq3_1All (n0 : Nat) : Pc veGl 96 0 n0 ⟨liveI 0 [3, 1], gCk veGs, 0⟩ veq3_1t0 .ret veq3_1k6 := veq3_1p4
theorem veq3_1Pieces (w : World) (ha : GAll w veGs) : Calls Tryz.prog 4 ⟨([3, 1] : List Int).map (Value.int .i64)⟩ w fun e w' => e = .returned (.bool true) ∧ Below w.heap.size w w' := args_pieces (fn := Tryz.f4) (c := veq3_1t0) (ck := veq3_1k6) Tryz.func4 (by kernel_rfl) (by kernel_rfl) (Nat.le_of_ble_eq_true (by kernel_rfl)) veq3_1All (by first | exact .inl rfl | exact .inr rfl) (by kernel_rfl) w ha
theorem veq3_2p3 {n0 : Nat} : Pc veGl 96 0 n0 veq3_2start veq3_2c0 .normal veq3_2k1 := Pc.run veMix veRa veRok veq3_2e2
theorem veq3_2p8 {n0 : Nat} : Pc veGl 96 0 n0 veq3_2k1 veq3_2c5 .ret veq3_2k6 := Pc.run veMix veRa veRok veq3_2e7
theorem veq3_2p4 {n0 : Nat} : Pc veGl 96 0 n0 veq3_2start veq3_2t0 .ret veq3_2k6 := Pc.seq (a := veq3_2c0) (b := veq3_2c5) (by kernel_rfl) veq3_2p3 veq3_2p8
theorem veq3_2All (n0 : Nat) : Pc veGl 96 0 n0 ⟨liveI 0 [3, 2], gCk veGs, 0⟩ veq3_2t0 .ret veq3_2k6 := veq3_2p4
theorem veq3_2Pieces (w : World) (ha : GAll w veGs) : Calls Tryz.prog 4 ⟨([3, 2] : List Int).map (Value.int .i64)⟩ w fun e w' => e = .returned (.bool true) ∧ Below w.heap.size w w' := args_pieces (fn := Tryz.f4) (c := veq3_2t0) (ck := veq3_2k6) Tryz.func4 (by kernel_rfl) (by kernel_rfl) (Nat.le_of_ble_eq_true (by kernel_rfl)) veq3_2All (by first | exact .inl rfl | exact .inr rfl) (by kernel_rfl) w ha
theorem veq3_3p3 {n0 : Nat} : Pc veGl 96 0 n0 veq3_3start veq3_3c0 .normal veq3_3k1 := Pc.run veMix veRa veRok veq3_3e2
theorem veq3_3p8 {n0 : Nat} : Pc veGl 96 0 n0 veq3_3k1 veq3_3c5 .ret veq3_3k6 := Pc.run veMix veRa veRok veq3_3e7
theorem veq3_3p4 {n0 : Nat} : Pc veGl 96 0 n0 veq3_3start veq3_3t0 .ret veq3_3k6 := Pc.seq (a := veq3_3c0) (b := veq3_3c5) (by kernel_rfl) veq3_3p3 veq3_3p8
theorem veq3_3All (n0 : Nat) : Pc veGl 96 0 n0 ⟨liveI 0 [3, 3], gCk veGs, 0⟩ veq3_3t0 .ret veq3_3k6 := veq3_3p4
theorem veq3_3Pieces (w : World) (ha : GAll w veGs) : Calls Tryz.prog 4 ⟨([3, 3] : List Int).map (Value.int .i64)⟩ w fun e w' => e = .returned (.bool true) ∧ Below w.heap.size w w' := args_pieces (fn := Tryz.f4) (c := veq3_3t0) (ck := veq3_3k6) Tryz.func4 (by kernel_rfl) (by kernel_rfl) (Nat.le_of_ble_eq_true (by kernel_rfl)) veq3_3All (by first | exact .inl rfl | exact .inr rfl) (by kernel_rfl) w ha
theorem veq3_4p3 {n0 : Nat} : Pc veGl 96 0 n0 veq3_4start veq3_4c0 .normal veq3_4k1 := Pc.run veMix veRa veRok veq3_4e2
theorem veq3_4p8 {n0 : Nat} : Pc veGl 96 0 n0 veq3_4k1 veq3_4c5 .ret veq3_4k6 := Pc.run veMix veRa veRok veq3_4e7
theorem veq3_4p4 {n0 : Nat} : Pc veGl 96 0 n0 veq3_4start veq3_4t0 .ret veq3_4k6 := Pc.seq (a := veq3_4c0) (b := veq3_4c5) (by kernel_rfl) veq3_4p3 veq3_4p8
theorem veq3_4All (n0 : Nat) : Pc veGl 96 0 n0 ⟨liveI 0 [3, 4], gCk veGs, 0⟩ veq3_4t0 .ret veq3_4k6 := veq3_4p4
theorem veq3_4Pieces (w : World) (ha : GAll w veGs) : Calls Tryz.prog 4 ⟨([3, 4] : List Int).map (Value.int .i64)⟩ w fun e w' => e = .returned (.bool true) ∧ Below w.heap.size w w' := args_pieces (fn := Tryz.f4) (c := veq3_4t0) (ck := veq3_4k6) Tryz.func4 (by kernel_rfl) (by kernel_rfl) (Nat.le_of_ble_eq_true (by kernel_rfl)) veq3_4All (by first | exact .inl rfl | exact .inr rfl) (by kernel_rfl) w ha
theorem veq3_5p3 {n0 : Nat} : Pc veGl 96 0 n0 veq3_5start veq3_5c0 .normal veq3_5k1 := Pc.run veMix veRa veRok veq3_5e2
theorem veq3_5p8 {n0 : Nat} : Pc veGl 96 0 n0 veq3_5k1 veq3_5c5 .ret veq3_5k6 := Pc.run veMix veRa veRok veq3_5e7
theorem veq3_5p4 {n0 : Nat} : Pc veGl 96 0 n0 veq3_5start veq3_5t0 .ret veq3_5k6 := Pc.seq (a := veq3_5c0) (b := veq3_5c5) (by kernel_rfl) veq3_5p3 veq3_5p8
theorem veq3_5All (n0 : Nat) : Pc veGl 96 0 n0 ⟨liveI 0 [3, 5], gCk veGs, 0⟩ veq3_5t0 .ret veq3_5k6 := veq3_5p4
theorem veq3_5Pieces (w : World) (ha : GAll w veGs) : Calls Tryz.prog 4 ⟨([3, 5] : List Int).map (Value.int .i64)⟩ w fun e w' => e = .returned (.bool true) ∧ Below w.heap.size w w' := args_pieces (fn := Tryz.f4) (c := veq3_5t0) (ck := veq3_5k6) Tryz.func4 (by kernel_rfl) (by kernel_rfl) (Nat.le_of_ble_eq_true (by kernel_rfl)) veq3_5All (by first | exact .inl rfl | exact .inr rfl) (by kernel_rfl) w ha
theorem veq3_6p3 {n0 : Nat} : Pc veGl 96 0 n0 veq3_6start veq3_6c0 .normal veq3_6k1 := Pc.run veMix veRa veRok veq3_6e2
theorem veq3_6p8 {n0 : Nat} : Pc veGl 96 0 n0 veq3_6k1 veq3_6c5 .ret veq3_6k6 := Pc.run veMix veRa veRok veq3_6e7
theorem veq3_6p4 {n0 : Nat} : Pc veGl 96 0 n0 veq3_6start veq3_6t0 .ret veq3_6k6 := Pc.seq (a := veq3_6c0) (b := veq3_6c5) (by kernel_rfl) veq3_6p3 veq3_6p8
theorem veq3_6All (n0 : Nat) : Pc veGl 96 0 n0 ⟨liveI 0 [3, 6], gCk veGs, 0⟩ veq3_6t0 .ret veq3_6k6 := veq3_6p4
theorem veq3_6Pieces (w : World) (ha : GAll w veGs) : Calls Tryz.prog 4 ⟨([3, 6] : List Int).map (Value.int .i64)⟩ w fun e w' => e = .returned (.bool true) ∧ Below w.heap.size w w' := args_pieces (fn := Tryz.f4) (c := veq3_6t0) (ck := veq3_6k6) Tryz.func4 (by kernel_rfl) (by kernel_rfl) (Nat.le_of_ble_eq_true (by kernel_rfl)) veq3_6All (by first | exact .inl rfl | exact .inr rfl) (by kernel_rfl) w ha
theorem veq3_7p3 {n0 : Nat} : Pc veGl 96 0 n0 veq3_7start veq3_7c0 .normal veq3_7k1 := Pc.run veMix veRa veRok veq3_7e2
theorem veq3_7p8 {n0 : Nat} : Pc veGl 96 0 n0 veq3_7k1 veq3_7c5 .ret veq3_7k6 := Pc.run veMix veRa veRok veq3_7e7
theorem veq3_7p4 {n0 : Nat} : Pc veGl 96 0 n0 veq3_7start veq3_7t0 .ret veq3_7k6 := Pc.seq (a := veq3_7c0) (b := veq3_7c5) (by kernel_rfl) veq3_7p3 veq3_7p8
theorem veq3_7All (n0 : Nat) : Pc veGl 96 0 n0 ⟨liveI 0 [3, 7], gCk veGs, 0⟩ veq3_7t0 .ret veq3_7k6 := veq3_7p4
theorem veq3_7Pieces (w : World) (ha : GAll w veGs) : Calls Tryz.prog 4 ⟨([3, 7] : List Int).map (Value.int .i64)⟩ w fun e w' => e = .returned (.bool true) ∧ Below w.heap.size w w' := args_pieces (fn := Tryz.f4) (c := veq3_7t0) (ck := veq3_7k6) Tryz.func4 (by kernel_rfl) (by kernel_rfl) (Nat.le_of_ble_eq_true (by kernel_rfl)) veq3_7All (by first | exact .inl rfl | exact .inr rfl) (by kernel_rfl) w ha
theorem veq3_8p3 {n0 : Nat} : Pc veGl 96 0 n0 veq3_8start veq3_8c0 .normal veq3_8k1 := Pc.run veMix veRa veRok veq3_8e2
theorem veq3_8p8 {n0 : Nat} : Pc veGl 96 0 n0 veq3_8k1 veq3_8c5 .ret veq3_8k6 := Pc.run veMix veRa veRok veq3_8e7
theorem veq3_8p4 {n0 : Nat} : Pc veGl 96 0 n0 veq3_8start veq3_8t0 .ret veq3_8k6 := Pc.seq (a := veq3_8c0) (b := veq3_8c5) (by kernel_rfl) veq3_8p3 veq3_8p8
theorem veq3_8All (n0 : Nat) : Pc veGl 96 0 n0 ⟨liveI 0 [3, 8], gCk veGs, 0⟩ veq3_8t0 .ret veq3_8k6 := veq3_8p4
theorem veq3_8Pieces (w : World) (ha : GAll w veGs) : Calls Tryz.prog 4 ⟨([3, 8] : List Int).map (Value.int .i64)⟩ w fun e w' => e = .returned (.bool true) ∧ Below w.heap.size w w' := args_pieces (fn := Tryz.f4) (c := veq3_8t0) (ck := veq3_8k6) Tryz.func4 (by kernel_rfl) (by kernel_rfl) (Nat.le_of_ble_eq_true (by kernel_rfl)) veq3_8All (by first | exact .inl rfl | exact .inr rfl) (by kernel_rfl) w ha
theorem veq3_9p3 {n0 : Nat} : Pc veGl 96 0 n0 veq3_9start veq3_9c0 .normal veq3_9k1 := Pc.run veMix veRa veRok veq3_9e2
theorem veq3_9p8 {n0 : Nat} : Pc veGl 96 0 n0 veq3_9k1 veq3_9c5 .ret veq3_9k6 := Pc.run veMix veRa veRok veq3_9e7
theorem veq3_9p4 {n0 : Nat} : Pc veGl 96 0 n0 veq3_9start veq3_9t0 .ret veq3_9k6 := Pc.seq (a := veq3_9c0) (b := veq3_9c5) (by kernel_rfl) veq3_9p3 veq3_9p8
theorem veq3_9All (n0 : Nat) : Pc veGl 96 0 n0 ⟨liveI 0 [3, 9], gCk veGs, 0⟩ veq3_9t0 .ret veq3_9k6 := veq3_9p4
theorem veq3_9Pieces (w : World) (ha : GAll w veGs) : Calls Tryz.prog 4 ⟨([3, 9] : List Int).map (Value.int .i64)⟩ w fun e w' => e = .returned (.bool true) ∧ Below w.heap.size w w' := args_pieces (fn := Tryz.f4) (c := veq3_9t0) (ck := veq3_9k6) Tryz.func4 (by kernel_rfl) (by kernel_rfl) (Nat.le_of_ble_eq_true (by kernel_rfl)) veq3_9All (by first | exact .inl rfl | exact .inr rfl) (by kernel_rfl) w ha
theorem veq3_10p3 {n0 : Nat} : Pc veGl 96 0 n0 veq3_10start veq3_10c0 .normal veq3_10k1 := Pc.run veMix veRa veRok veq3_10e2
theorem veq3_10p8 {n0 : Nat} : Pc veGl 96 0 n0 veq3_10k1 veq3_10c5 .ret veq3_10k6 := Pc.run veMix veRa veRok veq3_10e7
theorem veq3_10p4 {n0 : Nat} : Pc veGl 96 0 n0 veq3_10start veq3_10t0 .ret veq3_10k6 := Pc.seq (a := veq3_10c0) (b := veq3_10c5) (by kernel_rfl) veq3_10p3 veq3_10p8
theorem veq3_10All (n0 : Nat) : Pc veGl 96 0 n0 ⟨liveI 0 [3, 10], gCk veGs, 0⟩ veq3_10t0 .ret veq3_10k6 := veq3_10p4
theorem veq3_10Pieces (w : World) (ha : GAll w veGs) : Calls Tryz.prog 4 ⟨([3, 10] : List Int).map (Value.int .i64)⟩ w fun e w' => e = .returned (.bool true) ∧ Below w.heap.size w w' := args_pieces (fn := Tryz.f4) (c := veq3_10t0) (ck := veq3_10k6) Tryz.func4 (by kernel_rfl) (by kernel_rfl) (Nat.le_of_ble_eq_true (by kernel_rfl)) veq3_10All (by first | exact .inl rfl | exact .inr rfl) (by kernel_rfl) w ha
theorem veq4_0p3 {n0 : Nat} : Pc veGl 96 0 n0 veq4_0start veq4_0c0 .normal veq4_0k1 := Pc.run veMix veRa veRok veq4_0e2
theorem veq4_0p8 {n0 : Nat} : Pc veGl 96 0 n0 veq4_0k1 veq4_0c5 .ret veq4_0k6 := Pc.run veMix veRa veRok veq4_0e7
theorem veq4_0p4 {n0 : Nat} : Pc veGl 96 0 n0 veq4_0start veq4_0t0 .ret veq4_0k6 := Pc.seq (a := veq4_0c0) (b := veq4_0c5) (by kernel_rfl) veq4_0p3 veq4_0p8
theorem veq4_0All (n0 : Nat) : Pc veGl 96 0 n0 ⟨liveI 0 [4, 0], gCk veGs, 0⟩ veq4_0t0 .ret veq4_0k6 := veq4_0p4
theorem veq4_0Pieces (w : World) (ha : GAll w veGs) : Calls Tryz.prog 4 ⟨([4, 0] : List Int).map (Value.int .i64)⟩ w fun e w' => e = .returned (.bool true) ∧ Below w.heap.size w w' := args_pieces (fn := Tryz.f4) (c := veq4_0t0) (ck := veq4_0k6) Tryz.func4 (by kernel_rfl) (by kernel_rfl) (Nat.le_of_ble_eq_true (by kernel_rfl)) veq4_0All (by first | exact .inl rfl | exact .inr rfl) (by kernel_rfl) w ha
theorem veq4_1p3 {n0 : Nat} : Pc veGl 96 0 n0 veq4_1start veq4_1c0 .normal veq4_1k1 := Pc.run veMix veRa veRok veq4_1e2
theorem veq4_1p8 {n0 : Nat} : Pc veGl 96 0 n0 veq4_1k1 veq4_1c5 .ret veq4_1k6 := Pc.run veMix veRa veRok veq4_1e7
theorem veq4_1p4 {n0 : Nat} : Pc veGl 96 0 n0 veq4_1start veq4_1t0 .ret veq4_1k6 := Pc.seq (a := veq4_1c0) (b := veq4_1c5) (by kernel_rfl) veq4_1p3 veq4_1p8
theorem veq4_1All (n0 : Nat) : Pc veGl 96 0 n0 ⟨liveI 0 [4, 1], gCk veGs, 0⟩ veq4_1t0 .ret veq4_1k6 := veq4_1p4
theorem veq4_1Pieces (w : World) (ha : GAll w veGs) : Calls Tryz.prog 4 ⟨([4, 1] : List Int).map (Value.int .i64)⟩ w fun e w' => e = .returned (.bool true) ∧ Below w.heap.size w w' := args_pieces (fn := Tryz.f4) (c := veq4_1t0) (ck := veq4_1k6) Tryz.func4 (by kernel_rfl) (by kernel_rfl) (Nat.le_of_ble_eq_true (by kernel_rfl)) veq4_1All (by first | exact .inl rfl | exact .inr rfl) (by kernel_rfl) w ha
theorem veq4_2p3 {n0 : Nat} : Pc veGl 96 0 n0 veq4_2start veq4_2c0 .normal veq4_2k1 := Pc.run veMix veRa veRok veq4_2e2
theorem veq4_2p8 {n0 : Nat} : Pc veGl 96 0 n0 veq4_2k1 veq4_2c5 .ret veq4_2k6 := Pc.run veMix veRa veRok veq4_2e7
theorem veq4_2p4 {n0 : Nat} : Pc veGl 96 0 n0 veq4_2start veq4_2t0 .ret veq4_2k6 := Pc.seq (a := veq4_2c0) (b := veq4_2c5) (by kernel_rfl) veq4_2p3 veq4_2p8
theorem veq4_2All (n0 : Nat) : Pc veGl 96 0 n0 ⟨liveI 0 [4, 2], gCk veGs, 0⟩ veq4_2t0 .ret veq4_2k6 := veq4_2p4
theorem veq4_2Pieces (w : World) (ha : GAll w veGs) : Calls Tryz.prog 4 ⟨([4, 2] : List Int).map (Value.int .i64)⟩ w fun e w' => e = .returned (.bool true) ∧ Below w.heap.size w w' := args_pieces (fn := Tryz.f4) (c := veq4_2t0) (ck := veq4_2k6) Tryz.func4 (by kernel_rfl) (by kernel_rfl) (Nat.le_of_ble_eq_true (by kernel_rfl)) veq4_2All (by first | exact .inl rfl | exact .inr rfl) (by kernel_rfl) w ha
theorem veq4_3p3 {n0 : Nat} : Pc veGl 96 0 n0 veq4_3start veq4_3c0 .normal veq4_3k1 := Pc.run veMix veRa veRok veq4_3e2
theorem veq4_3p8 {n0 : Nat} : Pc veGl 96 0 n0 veq4_3k1 veq4_3c5 .ret veq4_3k6 := Pc.run veMix veRa veRok veq4_3e7
theorem veq4_3p4 {n0 : Nat} : Pc veGl 96 0 n0 veq4_3start veq4_3t0 .ret veq4_3k6 := Pc.seq (a := veq4_3c0) (b := veq4_3c5) (by kernel_rfl) veq4_3p3 veq4_3p8
theorem veq4_3All (n0 : Nat) : Pc veGl 96 0 n0 ⟨liveI 0 [4, 3], gCk veGs, 0⟩ veq4_3t0 .ret veq4_3k6 := veq4_3p4
theorem veq4_3Pieces (w : World) (ha : GAll w veGs) : Calls Tryz.prog 4 ⟨([4, 3] : List Int).map (Value.int .i64)⟩ w fun e w' => e = .returned (.bool true) ∧ Below w.heap.size w w' := args_pieces (fn := Tryz.f4) (c := veq4_3t0) (ck := veq4_3k6) Tryz.func4 (by kernel_rfl) (by kernel_rfl) (Nat.le_of_ble_eq_true (by kernel_rfl)) veq4_3All (by first | exact .inl rfl | exact .inr rfl) (by kernel_rfl) w ha
theorem veq4_4p3 {n0 : Nat} : Pc veGl 96 0 n0 veq4_4start veq4_4c0 .normal veq4_4k1 := Pc.run veMix veRa veRok veq4_4e2
theorem veq4_4p8 {n0 : Nat} : Pc veGl 96 0 n0 veq4_4k1 veq4_4c5 .ret veq4_4k6 := Pc.run veMix veRa veRok veq4_4e7
theorem veq4_4p4 {n0 : Nat} : Pc veGl 96 0 n0 veq4_4start veq4_4t0 .ret veq4_4k6 := Pc.seq (a := veq4_4c0) (b := veq4_4c5) (by kernel_rfl) veq4_4p3 veq4_4p8
theorem veq4_4All (n0 : Nat) : Pc veGl 96 0 n0 ⟨liveI 0 [4, 4], gCk veGs, 0⟩ veq4_4t0 .ret veq4_4k6 := veq4_4p4
theorem veq4_4Pieces (w : World) (ha : GAll w veGs) : Calls Tryz.prog 4 ⟨([4, 4] : List Int).map (Value.int .i64)⟩ w fun e w' => e = .returned (.bool true) ∧ Below w.heap.size w w' := args_pieces (fn := Tryz.f4) (c := veq4_4t0) (ck := veq4_4k6) Tryz.func4 (by kernel_rfl) (by kernel_rfl) (Nat.le_of_ble_eq_true (by kernel_rfl)) veq4_4All (by first | exact .inl rfl | exact .inr rfl) (by kernel_rfl) w ha
theorem veq4_5p3 {n0 : Nat} : Pc veGl 96 0 n0 veq4_5start veq4_5c0 .normal veq4_5k1 := Pc.run veMix veRa veRok veq4_5e2
theorem veq4_5p8 {n0 : Nat} : Pc veGl 96 0 n0 veq4_5k1 veq4_5c5 .ret veq4_5k6 := Pc.run veMix veRa veRok veq4_5e7
theorem veq4_5p4 {n0 : Nat} : Pc veGl 96 0 n0 veq4_5start veq4_5t0 .ret veq4_5k6 := Pc.seq (a := veq4_5c0) (b := veq4_5c5) (by kernel_rfl) veq4_5p3 veq4_5p8
theorem veq4_5All (n0 : Nat) : Pc veGl 96 0 n0 ⟨liveI 0 [4, 5], gCk veGs, 0⟩ veq4_5t0 .ret veq4_5k6 := veq4_5p4
theorem veq4_5Pieces (w : World) (ha : GAll w veGs) : Calls Tryz.prog 4 ⟨([4, 5] : List Int).map (Value.int .i64)⟩ w fun e w' => e = .returned (.bool true) ∧ Below w.heap.size w w' := args_pieces (fn := Tryz.f4) (c := veq4_5t0) (ck := veq4_5k6) Tryz.func4 (by kernel_rfl) (by kernel_rfl) (Nat.le_of_ble_eq_true (by kernel_rfl)) veq4_5All (by first | exact .inl rfl | exact .inr rfl) (by kernel_rfl) w ha
theorem veq4_6p3 {n0 : Nat} : Pc veGl 96 0 n0 veq4_6start veq4_6c0 .normal veq4_6k1 := Pc.run veMix veRa veRok veq4_6e2
theorem veq4_6p9 {n0 : Nat} : Pc veGl 96 0 n0 veq4_6k1 veq4_6c6 .normal veq4_6k7 := Pc.run veMix veRa veRok veq4_6e8
theorem veq4_6p14 {n0 : Nat} : Pc veGl 96 0 n0 veq4_6k7 veq4_6c11 .ret veq4_6k12 := Pc.run veMix veRa veRok veq4_6e13
theorem veq4_6p10 {n0 : Nat} : Pc veGl 96 0 n0 veq4_6k1 veq4_6c5 .ret veq4_6k12 := Pc.seq (a := veq4_6c6) (b := veq4_6c11) (by kernel_rfl) veq4_6p9 veq4_6p14
theorem veq4_6p4 {n0 : Nat} : Pc veGl 96 0 n0 veq4_6start veq4_6t0 .ret veq4_6k12 := Pc.seq (a := veq4_6c0) (b := veq4_6c5) (by kernel_rfl) veq4_6p3 veq4_6p10
theorem veq4_6All (n0 : Nat) : Pc veGl 96 0 n0 ⟨liveI 0 [4, 6], gCk veGs, 0⟩ veq4_6t0 .ret veq4_6k12 := veq4_6p4
theorem veq4_6Pieces (w : World) (ha : GAll w veGs) : Calls Tryz.prog 4 ⟨([4, 6] : List Int).map (Value.int .i64)⟩ w fun e w' => e = .returned (.bool true) ∧ Below w.heap.size w w' := args_pieces (fn := Tryz.f4) (c := veq4_6t0) (ck := veq4_6k12) Tryz.func4 (by kernel_rfl) (by kernel_rfl) (Nat.le_of_ble_eq_true (by kernel_rfl)) veq4_6All (by first | exact .inl rfl | exact .inr rfl) (by kernel_rfl) w ha
theorem veq4_7p3 {n0 : Nat} : Pc veGl 96 0 n0 veq4_7start veq4_7c0 .normal veq4_7k1 := Pc.run veMix veRa veRok veq4_7e2
theorem veq4_7p8 {n0 : Nat} : Pc veGl 96 0 n0 veq4_7k1 veq4_7c5 .ret veq4_7k6 := Pc.run veMix veRa veRok veq4_7e7
theorem veq4_7p4 {n0 : Nat} : Pc veGl 96 0 n0 veq4_7start veq4_7t0 .ret veq4_7k6 := Pc.seq (a := veq4_7c0) (b := veq4_7c5) (by kernel_rfl) veq4_7p3 veq4_7p8
theorem veq4_7All (n0 : Nat) : Pc veGl 96 0 n0 ⟨liveI 0 [4, 7], gCk veGs, 0⟩ veq4_7t0 .ret veq4_7k6 := veq4_7p4
theorem veq4_7Pieces (w : World) (ha : GAll w veGs) : Calls Tryz.prog 4 ⟨([4, 7] : List Int).map (Value.int .i64)⟩ w fun e w' => e = .returned (.bool true) ∧ Below w.heap.size w w' := args_pieces (fn := Tryz.f4) (c := veq4_7t0) (ck := veq4_7k6) Tryz.func4 (by kernel_rfl) (by kernel_rfl) (Nat.le_of_ble_eq_true (by kernel_rfl)) veq4_7All (by first | exact .inl rfl | exact .inr rfl) (by kernel_rfl) w ha
theorem veq4_8p3 {n0 : Nat} : Pc veGl 96 0 n0 veq4_8start veq4_8c0 .normal veq4_8k1 := Pc.run veMix veRa veRok veq4_8e2
theorem veq4_8p8 {n0 : Nat} : Pc veGl 96 0 n0 veq4_8k1 veq4_8c5 .ret veq4_8k6 := Pc.run veMix veRa veRok veq4_8e7
theorem veq4_8p4 {n0 : Nat} : Pc veGl 96 0 n0 veq4_8start veq4_8t0 .ret veq4_8k6 := Pc.seq (a := veq4_8c0) (b := veq4_8c5) (by kernel_rfl) veq4_8p3 veq4_8p8
theorem veq4_8All (n0 : Nat) : Pc veGl 96 0 n0 ⟨liveI 0 [4, 8], gCk veGs, 0⟩ veq4_8t0 .ret veq4_8k6 := veq4_8p4
theorem veq4_8Pieces (w : World) (ha : GAll w veGs) : Calls Tryz.prog 4 ⟨([4, 8] : List Int).map (Value.int .i64)⟩ w fun e w' => e = .returned (.bool true) ∧ Below w.heap.size w w' := args_pieces (fn := Tryz.f4) (c := veq4_8t0) (ck := veq4_8k6) Tryz.func4 (by kernel_rfl) (by kernel_rfl) (Nat.le_of_ble_eq_true (by kernel_rfl)) veq4_8All (by first | exact .inl rfl | exact .inr rfl) (by kernel_rfl) w ha
theorem veq4_9p3 {n0 : Nat} : Pc veGl 96 0 n0 veq4_9start veq4_9c0 .normal veq4_9k1 := Pc.run veMix veRa veRok veq4_9e2
theorem veq4_9p8 {n0 : Nat} : Pc veGl 96 0 n0 veq4_9k1 veq4_9c5 .ret veq4_9k6 := Pc.run veMix veRa veRok veq4_9e7
theorem veq4_9p4 {n0 : Nat} : Pc veGl 96 0 n0 veq4_9start veq4_9t0 .ret veq4_9k6 := Pc.seq (a := veq4_9c0) (b := veq4_9c5) (by kernel_rfl) veq4_9p3 veq4_9p8
theorem veq4_9All (n0 : Nat) : Pc veGl 96 0 n0 ⟨liveI 0 [4, 9], gCk veGs, 0⟩ veq4_9t0 .ret veq4_9k6 := veq4_9p4
theorem veq4_9Pieces (w : World) (ha : GAll w veGs) : Calls Tryz.prog 4 ⟨([4, 9] : List Int).map (Value.int .i64)⟩ w fun e w' => e = .returned (.bool true) ∧ Below w.heap.size w w' := args_pieces (fn := Tryz.f4) (c := veq4_9t0) (ck := veq4_9k6) Tryz.func4 (by kernel_rfl) (by kernel_rfl) (Nat.le_of_ble_eq_true (by kernel_rfl)) veq4_9All (by first | exact .inl rfl | exact .inr rfl) (by kernel_rfl) w ha
theorem veq4_10p3 {n0 : Nat} : Pc veGl 96 0 n0 veq4_10start veq4_10c0 .normal veq4_10k1 := Pc.run veMix veRa veRok veq4_10e2
theorem veq4_10p8 {n0 : Nat} : Pc veGl 96 0 n0 veq4_10k1 veq4_10c5 .ret veq4_10k6 := Pc.run veMix veRa veRok veq4_10e7
theorem veq4_10p4 {n0 : Nat} : Pc veGl 96 0 n0 veq4_10start veq4_10t0 .ret veq4_10k6 := Pc.seq (a := veq4_10c0) (b := veq4_10c5) (by kernel_rfl) veq4_10p3 veq4_10p8
theorem veq4_10All (n0 : Nat) : Pc veGl 96 0 n0 ⟨liveI 0 [4, 10], gCk veGs, 0⟩ veq4_10t0 .ret veq4_10k6 := veq4_10p4
theorem veq4_10Pieces (w : World) (ha : GAll w veGs) : Calls Tryz.prog 4 ⟨([4, 10] : List Int).map (Value.int .i64)⟩ w fun e w' => e = .returned (.bool true) ∧ Below w.heap.size w w' := args_pieces (fn := Tryz.f4) (c := veq4_10t0) (ck := veq4_10k6) Tryz.func4 (by kernel_rfl) (by kernel_rfl) (Nat.le_of_ble_eq_true (by kernel_rfl)) veq4_10All (by first | exact .inl rfl | exact .inr rfl) (by kernel_rfl) w ha
theorem veq5_0p3 {n0 : Nat} : Pc veGl 96 0 n0 veq5_0start veq5_0c0 .normal veq5_0k1 := Pc.run veMix veRa veRok veq5_0e2
theorem veq5_0p8 {n0 : Nat} : Pc veGl 96 0 n0 veq5_0k1 veq5_0c5 .ret veq5_0k6 := Pc.run veMix veRa veRok veq5_0e7
theorem veq5_0p4 {n0 : Nat} : Pc veGl 96 0 n0 veq5_0start veq5_0t0 .ret veq5_0k6 := Pc.seq (a := veq5_0c0) (b := veq5_0c5) (by kernel_rfl) veq5_0p3 veq5_0p8
theorem veq5_0All (n0 : Nat) : Pc veGl 96 0 n0 ⟨liveI 0 [5, 0], gCk veGs, 0⟩ veq5_0t0 .ret veq5_0k6 := veq5_0p4
theorem veq5_0Pieces (w : World) (ha : GAll w veGs) : Calls Tryz.prog 4 ⟨([5, 0] : List Int).map (Value.int .i64)⟩ w fun e w' => e = .returned (.bool true) ∧ Below w.heap.size w w' := args_pieces (fn := Tryz.f4) (c := veq5_0t0) (ck := veq5_0k6) Tryz.func4 (by kernel_rfl) (by kernel_rfl) (Nat.le_of_ble_eq_true (by kernel_rfl)) veq5_0All (by first | exact .inl rfl | exact .inr rfl) (by kernel_rfl) w ha
theorem veq5_1p3 {n0 : Nat} : Pc veGl 96 0 n0 veq5_1start veq5_1c0 .normal veq5_1k1 := Pc.run veMix veRa veRok veq5_1e2
theorem veq5_1p8 {n0 : Nat} : Pc veGl 96 0 n0 veq5_1k1 veq5_1c5 .ret veq5_1k6 := Pc.run veMix veRa veRok veq5_1e7
theorem veq5_1p4 {n0 : Nat} : Pc veGl 96 0 n0 veq5_1start veq5_1t0 .ret veq5_1k6 := Pc.seq (a := veq5_1c0) (b := veq5_1c5) (by kernel_rfl) veq5_1p3 veq5_1p8
theorem veq5_1All (n0 : Nat) : Pc veGl 96 0 n0 ⟨liveI 0 [5, 1], gCk veGs, 0⟩ veq5_1t0 .ret veq5_1k6 := veq5_1p4
theorem veq5_1Pieces (w : World) (ha : GAll w veGs) : Calls Tryz.prog 4 ⟨([5, 1] : List Int).map (Value.int .i64)⟩ w fun e w' => e = .returned (.bool true) ∧ Below w.heap.size w w' := args_pieces (fn := Tryz.f4) (c := veq5_1t0) (ck := veq5_1k6) Tryz.func4 (by kernel_rfl) (by kernel_rfl) (Nat.le_of_ble_eq_true (by kernel_rfl)) veq5_1All (by first | exact .inl rfl | exact .inr rfl) (by kernel_rfl) w ha
theorem veq5_2p3 {n0 : Nat} : Pc veGl 96 0 n0 veq5_2start veq5_2c0 .normal veq5_2k1 := Pc.run veMix veRa veRok veq5_2e2
theorem veq5_2p8 {n0 : Nat} : Pc veGl 96 0 n0 veq5_2k1 veq5_2c5 .ret veq5_2k6 := Pc.run veMix veRa veRok veq5_2e7
theorem veq5_2p4 {n0 : Nat} : Pc veGl 96 0 n0 veq5_2start veq5_2t0 .ret veq5_2k6 := Pc.seq (a := veq5_2c0) (b := veq5_2c5) (by kernel_rfl) veq5_2p3 veq5_2p8
theorem veq5_2All (n0 : Nat) : Pc veGl 96 0 n0 ⟨liveI 0 [5, 2], gCk veGs, 0⟩ veq5_2t0 .ret veq5_2k6 := veq5_2p4
theorem veq5_2Pieces (w : World) (ha : GAll w veGs) : Calls Tryz.prog 4 ⟨([5, 2] : List Int).map (Value.int .i64)⟩ w fun e w' => e = .returned (.bool true) ∧ Below w.heap.size w w' := args_pieces (fn := Tryz.f4) (c := veq5_2t0) (ck := veq5_2k6) Tryz.func4 (by kernel_rfl) (by kernel_rfl) (Nat.le_of_ble_eq_true (by kernel_rfl)) veq5_2All (by first | exact .inl rfl | exact .inr rfl) (by kernel_rfl) w ha
theorem veq5_3p3 {n0 : Nat} : Pc veGl 96 0 n0 veq5_3start veq5_3c0 .normal veq5_3k1 := Pc.run veMix veRa veRok veq5_3e2
theorem veq5_3p8 {n0 : Nat} : Pc veGl 96 0 n0 veq5_3k1 veq5_3c5 .ret veq5_3k6 := Pc.run veMix veRa veRok veq5_3e7
theorem veq5_3p4 {n0 : Nat} : Pc veGl 96 0 n0 veq5_3start veq5_3t0 .ret veq5_3k6 := Pc.seq (a := veq5_3c0) (b := veq5_3c5) (by kernel_rfl) veq5_3p3 veq5_3p8
theorem veq5_3All (n0 : Nat) : Pc veGl 96 0 n0 ⟨liveI 0 [5, 3], gCk veGs, 0⟩ veq5_3t0 .ret veq5_3k6 := veq5_3p4
theorem veq5_3Pieces (w : World) (ha : GAll w veGs) : Calls Tryz.prog 4 ⟨([5, 3] : List Int).map (Value.int .i64)⟩ w fun e w' => e = .returned (.bool true) ∧ Below w.heap.size w w' := args_pieces (fn := Tryz.f4) (c := veq5_3t0) (ck := veq5_3k6) Tryz.func4 (by kernel_rfl) (by kernel_rfl) (Nat.le_of_ble_eq_true (by kernel_rfl)) veq5_3All (by first | exact .inl rfl | exact .inr rfl) (by kernel_rfl) w ha
theorem veq5_4p3 {n0 : Nat} : Pc veGl 96 0 n0 veq5_4start veq5_4c0 .normal veq5_4k1 := Pc.run veMix veRa veRok veq5_4e2
theorem veq5_4p8 {n0 : Nat} : Pc veGl 96 0 n0 veq5_4k1 veq5_4c5 .ret veq5_4k6 := Pc.run veMix veRa veRok veq5_4e7
theorem veq5_4p4 {n0 : Nat} : Pc veGl 96 0 n0 veq5_4start veq5_4t0 .ret veq5_4k6 := Pc.seq (a := veq5_4c0) (b := veq5_4c5) (by kernel_rfl) veq5_4p3 veq5_4p8
theorem veq5_4All (n0 : Nat) : Pc veGl 96 0 n0 ⟨liveI 0 [5, 4], gCk veGs, 0⟩ veq5_4t0 .ret veq5_4k6 := veq5_4p4
theorem veq5_4Pieces (w : World) (ha : GAll w veGs) : Calls Tryz.prog 4 ⟨([5, 4] : List Int).map (Value.int .i64)⟩ w fun e w' => e = .returned (.bool true) ∧ Below w.heap.size w w' := args_pieces (fn := Tryz.f4) (c := veq5_4t0) (ck := veq5_4k6) Tryz.func4 (by kernel_rfl) (by kernel_rfl) (Nat.le_of_ble_eq_true (by kernel_rfl)) veq5_4All (by first | exact .inl rfl | exact .inr rfl) (by kernel_rfl) w ha
theorem veq5_5p3 {n0 : Nat} : Pc veGl 96 0 n0 veq5_5start veq5_5c0 .normal veq5_5k1 := Pc.run veMix veRa veRok veq5_5e2
theorem veq5_5p8 {n0 : Nat} : Pc veGl 96 0 n0 veq5_5k1 veq5_5c5 .ret veq5_5k6 := Pc.run veMix veRa veRok veq5_5e7
theorem veq5_5p4 {n0 : Nat} : Pc veGl 96 0 n0 veq5_5start veq5_5t0 .ret veq5_5k6 := Pc.seq (a := veq5_5c0) (b := veq5_5c5) (by kernel_rfl) veq5_5p3 veq5_5p8
theorem veq5_5All (n0 : Nat) : Pc veGl 96 0 n0 ⟨liveI 0 [5, 5], gCk veGs, 0⟩ veq5_5t0 .ret veq5_5k6 := veq5_5p4
theorem veq5_5Pieces (w : World) (ha : GAll w veGs) : Calls Tryz.prog 4 ⟨([5, 5] : List Int).map (Value.int .i64)⟩ w fun e w' => e = .returned (.bool true) ∧ Below w.heap.size w w' := args_pieces (fn := Tryz.f4) (c := veq5_5t0) (ck := veq5_5k6) Tryz.func4 (by kernel_rfl) (by kernel_rfl) (Nat.le_of_ble_eq_true (by kernel_rfl)) veq5_5All (by first | exact .inl rfl | exact .inr rfl) (by kernel_rfl) w ha
theorem veq5_6p3 {n0 : Nat} : Pc veGl 96 0 n0 veq5_6start veq5_6c0 .normal veq5_6k1 := Pc.run veMix veRa veRok veq5_6e2
theorem veq5_6p8 {n0 : Nat} : Pc veGl 96 0 n0 veq5_6k1 veq5_6c5 .ret veq5_6k6 := Pc.run veMix veRa veRok veq5_6e7
theorem veq5_6p4 {n0 : Nat} : Pc veGl 96 0 n0 veq5_6start veq5_6t0 .ret veq5_6k6 := Pc.seq (a := veq5_6c0) (b := veq5_6c5) (by kernel_rfl) veq5_6p3 veq5_6p8
theorem veq5_6All (n0 : Nat) : Pc veGl 96 0 n0 ⟨liveI 0 [5, 6], gCk veGs, 0⟩ veq5_6t0 .ret veq5_6k6 := veq5_6p4
theorem veq5_6Pieces (w : World) (ha : GAll w veGs) : Calls Tryz.prog 4 ⟨([5, 6] : List Int).map (Value.int .i64)⟩ w fun e w' => e = .returned (.bool true) ∧ Below w.heap.size w w' := args_pieces (fn := Tryz.f4) (c := veq5_6t0) (ck := veq5_6k6) Tryz.func4 (by kernel_rfl) (by kernel_rfl) (Nat.le_of_ble_eq_true (by kernel_rfl)) veq5_6All (by first | exact .inl rfl | exact .inr rfl) (by kernel_rfl) w ha
theorem veq5_7p3 {n0 : Nat} : Pc veGl 96 0 n0 veq5_7start veq5_7c0 .normal veq5_7k1 := Pc.run veMix veRa veRok veq5_7e2
theorem veq5_7p8 {n0 : Nat} : Pc veGl 96 0 n0 veq5_7k1 veq5_7c5 .ret veq5_7k6 := Pc.run veMix veRa veRok veq5_7e7
theorem veq5_7p4 {n0 : Nat} : Pc veGl 96 0 n0 veq5_7start veq5_7t0 .ret veq5_7k6 := Pc.seq (a := veq5_7c0) (b := veq5_7c5) (by kernel_rfl) veq5_7p3 veq5_7p8
theorem veq5_7All (n0 : Nat) : Pc veGl 96 0 n0 ⟨liveI 0 [5, 7], gCk veGs, 0⟩ veq5_7t0 .ret veq5_7k6 := veq5_7p4
theorem veq5_7Pieces (w : World) (ha : GAll w veGs) : Calls Tryz.prog 4 ⟨([5, 7] : List Int).map (Value.int .i64)⟩ w fun e w' => e = .returned (.bool true) ∧ Below w.heap.size w w' := args_pieces (fn := Tryz.f4) (c := veq5_7t0) (ck := veq5_7k6) Tryz.func4 (by kernel_rfl) (by kernel_rfl) (Nat.le_of_ble_eq_true (by kernel_rfl)) veq5_7All (by first | exact .inl rfl | exact .inr rfl) (by kernel_rfl) w ha
theorem veq5_8p3 {n0 : Nat} : Pc veGl 96 0 n0 veq5_8start veq5_8c0 .normal veq5_8k1 := Pc.run veMix veRa veRok veq5_8e2
theorem veq5_8p8 {n0 : Nat} : Pc veGl 96 0 n0 veq5_8k1 veq5_8c5 .ret veq5_8k6 := Pc.run veMix veRa veRok veq5_8e7
theorem veq5_8p4 {n0 : Nat} : Pc veGl 96 0 n0 veq5_8start veq5_8t0 .ret veq5_8k6 := Pc.seq (a := veq5_8c0) (b := veq5_8c5) (by kernel_rfl) veq5_8p3 veq5_8p8
theorem veq5_8All (n0 : Nat) : Pc veGl 96 0 n0 ⟨liveI 0 [5, 8], gCk veGs, 0⟩ veq5_8t0 .ret veq5_8k6 := veq5_8p4
theorem veq5_8Pieces (w : World) (ha : GAll w veGs) : Calls Tryz.prog 4 ⟨([5, 8] : List Int).map (Value.int .i64)⟩ w fun e w' => e = .returned (.bool true) ∧ Below w.heap.size w w' := args_pieces (fn := Tryz.f4) (c := veq5_8t0) (ck := veq5_8k6) Tryz.func4 (by kernel_rfl) (by kernel_rfl) (Nat.le_of_ble_eq_true (by kernel_rfl)) veq5_8All (by first | exact .inl rfl | exact .inr rfl) (by kernel_rfl) w ha
theorem veq5_9p3 {n0 : Nat} : Pc veGl 96 0 n0 veq5_9start veq5_9c0 .normal veq5_9k1 := Pc.run veMix veRa veRok veq5_9e2
theorem veq5_9p8 {n0 : Nat} : Pc veGl 96 0 n0 veq5_9k1 veq5_9c5 .ret veq5_9k6 := Pc.run veMix veRa veRok veq5_9e7
theorem veq5_9p4 {n0 : Nat} : Pc veGl 96 0 n0 veq5_9start veq5_9t0 .ret veq5_9k6 := Pc.seq (a := veq5_9c0) (b := veq5_9c5) (by kernel_rfl) veq5_9p3 veq5_9p8
theorem veq5_9All (n0 : Nat) : Pc veGl 96 0 n0 ⟨liveI 0 [5, 9], gCk veGs, 0⟩ veq5_9t0 .ret veq5_9k6 := veq5_9p4
theorem veq5_9Pieces (w : World) (ha : GAll w veGs) : Calls Tryz.prog 4 ⟨([5, 9] : List Int).map (Value.int .i64)⟩ w fun e w' => e = .returned (.bool true) ∧ Below w.heap.size w w' := args_pieces (fn := Tryz.f4) (c := veq5_9t0) (ck := veq5_9k6) Tryz.func4 (by kernel_rfl) (by kernel_rfl) (Nat.le_of_ble_eq_true (by kernel_rfl)) veq5_9All (by first | exact .inl rfl | exact .inr rfl) (by kernel_rfl) w ha
theorem veq5_10p3 {n0 : Nat} : Pc veGl 96 0 n0 veq5_10start veq5_10c0 .normal veq5_10k1 := Pc.run veMix veRa veRok veq5_10e2
theorem veq5_10p8 {n0 : Nat} : Pc veGl 96 0 n0 veq5_10k1 veq5_10c5 .ret veq5_10k6 := Pc.run veMix veRa veRok veq5_10e7
theorem veq5_10p4 {n0 : Nat} : Pc veGl 96 0 n0 veq5_10start veq5_10t0 .ret veq5_10k6 := Pc.seq (a := veq5_10c0) (b := veq5_10c5) (by kernel_rfl) veq5_10p3 veq5_10p8
theorem veq5_10All (n0 : Nat) : Pc veGl 96 0 n0 ⟨liveI 0 [5, 10], gCk veGs, 0⟩ veq5_10t0 .ret veq5_10k6 := veq5_10p4
theorem veq5_10Pieces (w : World) (ha : GAll w veGs) : Calls Tryz.prog 4 ⟨([5, 10] : List Int).map (Value.int .i64)⟩ w fun e w' => e = .returned (.bool true) ∧ Below w.heap.size w w' := args_pieces (fn := Tryz.f4) (c := veq5_10t0) (ck := veq5_10k6) Tryz.func4 (by kernel_rfl) (by kernel_rfl) (Nat.le_of_ble_eq_true (by kernel_rfl)) veq5_10All (by first | exact .inl rfl | exact .inr rfl) (by kernel_rfl) w ha
open Go in
set_option maxRecDepth 100000 in
set_option maxHeartbeats 2000000 in
theorem veWalk (a b : Int) (w : World) (_ : (Lit.int .i64 a).wf = true) (_ : (Lit.int .i64 b).wf = true) : Calls Tryz.prog 4 #[.int .i64 a, .int .i64 b] w fun e w' => e = .returned (.bool true) ∧ Below w.heap.size w w' := by
  have HG : GAll w veGs := fun g cs h => by cases h
  have H0 := Lib.hid (vaPieces w HG)
  by_cases ha0 : a < 0
  · clear HG
    go_enter Tryz.func4, Tryz.ntmps4
    go_wp2_with fail
    refine H0.out.mono ?_
    rintro e w1 ⟨rfl, b1⟩
    go_wp2
    go_ret
    exact ⟨rfl, b1⟩
  by_cases ha1 : 5 < a
  · clear HG
    go_enter Tryz.func4, Tryz.ntmps4
    go_wp2_with fail
    refine H0.out.mono ?_
    rintro e w1 ⟨rfl, b1⟩
    go_wp2
    go_ret
    exact ⟨rfl, b1⟩
  by_cases hb0 : b < 0
  · clear HG
    go_enter Tryz.func4, Tryz.ntmps4
    go_wp2_with fail
    refine H0.out.mono ?_
    rintro e w1 ⟨rfl, b1⟩
    go_wp2
    go_ret
    exact ⟨rfl, b1⟩
  by_cases hb1 : 10 < b
  · clear HG
    go_enter Tryz.func4, Tryz.ntmps4
    go_wp2_with fail
    refine H0.out.mono ?_
    rintro e w1 ⟨rfl, b1⟩
    go_wp2
    go_ret
    exact ⟨rfl, b1⟩
  obtain rfl | rfl | rfl | rfl | rfl | rfl : a = 0 ∨ a = 1 ∨ a = 2 ∨ a = 3 ∨ a = 4 ∨ a = 5 := by omega
  ·
    obtain rfl | rfl | rfl | rfl | rfl | rfl | rfl | rfl | rfl | rfl | rfl : b = 0 ∨ b = 1 ∨ b = 2 ∨ b = 3 ∨ b = 4 ∨ b = 5 ∨ b = 6 ∨ b = 7 ∨ b = 8 ∨ b = 9 ∨ b = 10 := by omega
    ·
      exact veq0_0Pieces w HG
    ·
      exact veq0_1Pieces w HG
    ·
      exact veq0_2Pieces w HG
    ·
      exact veq0_3Pieces w HG
    ·
      exact veq0_4Pieces w HG
    ·
      exact veq0_5Pieces w HG
    ·
      exact veq0_6Pieces w HG
    ·
      exact veq0_7Pieces w HG
    ·
      exact veq0_8Pieces w HG
    ·
      exact veq0_9Pieces w HG
    ·
      exact veq0_10Pieces w HG
  ·
    obtain rfl | rfl | rfl | rfl | rfl | rfl | rfl | rfl | rfl | rfl | rfl : b = 0 ∨ b = 1 ∨ b = 2 ∨ b = 3 ∨ b = 4 ∨ b = 5 ∨ b = 6 ∨ b = 7 ∨ b = 8 ∨ b = 9 ∨ b = 10 := by omega
    ·
      exact veq1_0Pieces w HG
    ·
      exact veq1_1Pieces w HG
    ·
      exact veq1_2Pieces w HG
    ·
      exact veq1_3Pieces w HG
    ·
      exact veq1_4Pieces w HG
    ·
      exact veq1_5Pieces w HG
    ·
      exact veq1_6Pieces w HG
    ·
      exact veq1_7Pieces w HG
    ·
      exact veq1_8Pieces w HG
    ·
      exact veq1_9Pieces w HG
    ·
      exact veq1_10Pieces w HG
  ·
    obtain rfl | rfl | rfl | rfl | rfl | rfl | rfl | rfl | rfl | rfl | rfl : b = 0 ∨ b = 1 ∨ b = 2 ∨ b = 3 ∨ b = 4 ∨ b = 5 ∨ b = 6 ∨ b = 7 ∨ b = 8 ∨ b = 9 ∨ b = 10 := by omega
    ·
      exact veq2_0Pieces w HG
    ·
      exact veq2_1Pieces w HG
    ·
      exact veq2_2Pieces w HG
    ·
      exact veq2_3Pieces w HG
    ·
      exact veq2_4Pieces w HG
    ·
      exact veq2_5Pieces w HG
    ·
      exact veq2_6Pieces w HG
    ·
      exact veq2_7Pieces w HG
    ·
      exact veq2_8Pieces w HG
    ·
      exact veq2_9Pieces w HG
    ·
      exact veq2_10Pieces w HG
  ·
    obtain rfl | rfl | rfl | rfl | rfl | rfl | rfl | rfl | rfl | rfl | rfl : b = 0 ∨ b = 1 ∨ b = 2 ∨ b = 3 ∨ b = 4 ∨ b = 5 ∨ b = 6 ∨ b = 7 ∨ b = 8 ∨ b = 9 ∨ b = 10 := by omega
    ·
      exact veq3_0Pieces w HG
    ·
      exact veq3_1Pieces w HG
    ·
      exact veq3_2Pieces w HG
    ·
      exact veq3_3Pieces w HG
    ·
      exact veq3_4Pieces w HG
    ·
      exact veq3_5Pieces w HG
    ·
      exact veq3_6Pieces w HG
    ·
      exact veq3_7Pieces w HG
    ·
      exact veq3_8Pieces w HG
    ·
      exact veq3_9Pieces w HG
    ·
      exact veq3_10Pieces w HG
  ·
    obtain rfl | rfl | rfl | rfl | rfl | rfl | rfl | rfl | rfl | rfl | rfl : b = 0 ∨ b = 1 ∨ b = 2 ∨ b = 3 ∨ b = 4 ∨ b = 5 ∨ b = 6 ∨ b = 7 ∨ b = 8 ∨ b = 9 ∨ b = 10 := by omega
    ·
      exact veq4_0Pieces w HG
    ·
      exact veq4_1Pieces w HG
    ·
      exact veq4_2Pieces w HG
    ·
      exact veq4_3Pieces w HG
    ·
      exact veq4_4Pieces w HG
    ·
      exact veq4_5Pieces w HG
    ·
      exact veq4_6Pieces w HG
    ·
      exact veq4_7Pieces w HG
    ·
      exact veq4_8Pieces w HG
    ·
      exact veq4_9Pieces w HG
    ·
      exact veq4_10Pieces w HG
  ·
    obtain rfl | rfl | rfl | rfl | rfl | rfl | rfl | rfl | rfl | rfl | rfl : b = 0 ∨ b = 1 ∨ b = 2 ∨ b = 3 ∨ b = 4 ∨ b = 5 ∨ b = 6 ∨ b = 7 ∨ b = 8 ∨ b = 9 ∨ b = 10 := by omega
    ·
      exact veq5_0Pieces w HG
    ·
      exact veq5_1Pieces w HG
    ·
      exact veq5_2Pieces w HG
    ·
      exact veq5_3Pieces w HG
    ·
      exact veq5_4Pieces w HG
    ·
      exact veq5_5Pieces w HG
    ·
      exact veq5_6Pieces w HG
    ·
      exact veq5_7Pieces w HG
    ·
      exact veq5_8Pieces w HG
    ·
      exact veq5_9Pieces w HG
    ·
      exact veq5_10Pieces w HG
end Go.Proofs.YtknallpinjoppaaGreatDoor
