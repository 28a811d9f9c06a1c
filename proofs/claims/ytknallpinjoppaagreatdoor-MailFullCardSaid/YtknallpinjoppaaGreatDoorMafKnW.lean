/- The walk of MailFull, run by the abstract machine in pieces: the closed statement answers true, whatever the memory. -/
import Derived.Test.YtknallpinjoppaaGreatDoorMafE1
import Derived.Test.YtknallpinjoppaaGreatDoorMafE2
import Derived.Test.YtknallpinjoppaaGreatDoorMafE3
import Derived.Test.YtknallpinjoppaaGreatDoorMafE4
namespace Go.Proofs.YtknallpinjoppaaGreatDoor
open Go.RowKit Go.Proofs.YtknallpinjoppaaGreatDoor.Am
set_option maxRecDepth 100000
theorem map3 {n0 : Nat} : Pc maGl 80 0 n0 mastart mac0 .normal mak1 := Pc.run maMix maRa maRok mae2
theorem map8 {n0 : Nat} : Pc maGl 80 0 n0 mak1 mac5 .ret mak6 := Pc.run maMix maRa maRok mae7
theorem map4 {n0 : Nat} : Pc maGl 80 0 n0 mastart mat0 .ret mak6 := Pc.seq (a := mac0) (b := mac5) (by kernel_rfl) map3 map8
theorem maAll (n0 : Nat) : Pc maGl 80 0 n0 (ck0 maGs 0) mat0 .ret mak6 := map4
theorem maPieces (w : World) (ha : GAll w maGs) : Calls Tryz.prog 5 #[] w fun e w' => e = .returned (.bool true) ∧ Below w.heap.size w w' := known_pieces (fn := Tryz.f5) (c := mat0) (ck := mak6) Tryz.func5 (by kernel_rfl) (by kernel_rfl) maAll (by first | exact .inl rfl | exact .inr rfl) (by kernel_rfl) w ha
theorem mfHgl (g : Nat) (cs : List AV) (h : (g, cs) ∈ maGs) : (mfGl).gl g = some cs.length := by
  cases (show (g, cs) ∈ ([] : List (Nat × List AV)) from h)
theorem mfOver_ok : OverOK Tryz.prog mfGl mfOver := by
  intro f g hf args h v h' e
  unfold mfOver at hf
  cases h_ovKeysI : Nat.beq f 21 with
  | true =>
    have := Nat.eq_of_beq_eq_true h_ovKeysI
    subst this
    rw [h_ovKeysI] at hf
    injection hf with hf
    subst hf
    exact ovKeysI_ok maKeysI args h v h' e
  | false =>
    rw [h_ovKeysI] at hf
    cases h_aw : Nat.beq f 5 with
    | true =>
      have := Nat.eq_of_beq_eq_true h_aw
      subst this
      rw [h_aw] at hf
      injection hf with hf
      subst hf
      exact ovClosedG_ok maPieces mfHgl args h v h' e
    | false =>
      rw [h_aw] at hf
      cases hf
theorem mfMix : Tryz.prog.follows .mixedOrders = true := by kernel_rfl
theorem mfRa : RecAF mfR := (aCall_ok mfMix mfOver_ok 1000000 1000000).1
theorem mfRok : RecOK Tryz.prog mfGl mfR := (aCall_ok mfMix mfOver_ok 1000000 1000000).2
set_option maxRecDepth 100000
theorem mfp3 (N : Int) {n0 : Nat} : Pc mfGl 90 0 n0 (mfstart N) mfc0 .normal (mfk1 N) := Pc.run mfMix mfRa mfRok (mfe2 N)
theorem mfq0p9 {n0 : Nat} : Pc mfGl 90 0 n0 (mfk1 (.ofNat 0)) mfc6 .normal (mfk7 (.ofNat 0)) := Pc.run mfMix mfRa mfRok mfq0e8
theorem mfq1p9 {n0 : Nat} : Pc mfGl 90 0 n0 (mfk1 (.ofNat 1)) mfc6 .normal (mfk7 (.ofNat 1)) := Pc.run mfMix mfRa mfRok mfq1e8
theorem mfq2p9 {n0 : Nat} : Pc mfGl 90 0 n0 (mfk1 (.ofNat 2)) mfc6 .normal (mfk7 (.ofNat 2)) := Pc.run mfMix mfRa mfRok mfq2e8
theorem mfq3p9 {n0 : Nat} : Pc mfGl 90 0 n0 (mfk1 (.ofNat 3)) mfc6 .normal (mfk7 (.ofNat 3)) := Pc.run mfMix mfRa mfRok mfq3e8
theorem mfq4p9 {n0 : Nat} : Pc mfGl 90 0 n0 (mfk1 (.ofNat 4)) mfc6 .normal (mfk7 (.ofNat 4)) := Pc.run mfMix mfRa mfRok mfq4e8
theorem mfq5p9 {n0 : Nat} : Pc mfGl 90 0 n0 (mfk1 (.ofNat 5)) mfc6 .normal (mfk7 (.ofNat 5)) := Pc.run mfMix mfRa mfRok mfq5e8
theorem mfq0p15 {n0 : Nat} : Pc mfGl 90 0 n0 (mfk7 (.ofNat 0)) mfc12 .normal (mfk13 (.ofNat 0)) := Pc.run mfMix mfRa mfRok mfq0e14
theorem mfq1p15 {n0 : Nat} : Pc mfGl 90 0 n0 (mfk7 (.ofNat 1)) mfc12 .normal (mfk13 (.ofNat 1)) := Pc.run mfMix mfRa mfRok mfq1e14
theorem mfq2p15 {n0 : Nat} : Pc mfGl 90 0 n0 (mfk7 (.ofNat 2)) mfc12 .normal (mfk13 (.ofNat 2)) := Pc.run mfMix mfRa mfRok mfq2e14
theorem mfq3p15 {n0 : Nat} : Pc mfGl 90 0 n0 (mfk7 (.ofNat 3)) mfc12 .normal (mfk13 (.ofNat 3)) := Pc.run mfMix mfRa mfRok mfq3e14
theorem mfq4p15 {n0 : Nat} : Pc mfGl 90 0 n0 (mfk7 (.ofNat 4)) mfc12 .normal (mfk13 (.ofNat 4)) := Pc.run mfMix mfRa mfRok mfq4e14
theorem mfq5p15 {n0 : Nat} : Pc mfGl 90 0 n0 (mfk7 (.ofNat 5)) mfc12 .normal (mfk13 (.ofNat 5)) := Pc.run mfMix mfRa mfRok mfq5e14
theorem mfp21 (N : Int) {n0 : Nat} : Pc mfGl 90 0 n0 (mfk13 N) mfc18 .normal (mfk19 N) := Pc.run mfMix mfRa mfRok (mfe20 N)
theorem mfp28 (N : Int) {n0 : Nat} : Pc mfGl 90 0 n0 (mfk19 N) mfc25 .normal (mfk26 N) := Pc.run mfMix mfRa mfRok (mfe27 N)
theorem mfp57 (N : Int) {n0 : Nat} : Pc mfGl 90 0 n0 (mfk53 N) mfc32 (.exit 0) (mfk55 N) := Pc.run mfMix mfRa mfRok (mfe56 N)
theorem mfp58 (N : Int) {n0 : Nat} : Pc mfGl 90 0 n0 (mfk26 N) mfc31 (.exit 0) (mfk55 N) := Pc.loop (c := mfc32) (n := 501) (by kernel_rfl) (Pr.run (n := 450) mfMix mfRa mfRok (k := 51) (mfe34 N) (Pr.run (n := 403) mfMix mfRa mfRok (k := 47) (mfe36 N) (Pr.run (n := 354) mfMix mfRa mfRok (k := 49) (mfe38 N) (Pr.run (n := 308) mfMix mfRa mfRok (k := 46) (mfe40 N) (Pr.run (n := 260) mfMix mfRa mfRok (k := 48) (mfe42 N) (Pr.run (n := 212) mfMix mfRa mfRok (k := 48) (mfe44 N) (Pr.run (n := 165) mfMix mfRa mfRok (k := 47) (mfe46 N) (Pr.run (n := 118) mfMix mfRa mfRok (k := 47) (mfe48 N) (Pr.run (n := 73) mfMix mfRa mfRok (k := 45) (mfe50 N) (Pr.run (n := 29) mfMix mfRa mfRok (k := 44) (mfe52 N) (Pr.run (n := 1) mfMix mfRa mfRok (k := 28) (mfe54 N) (Pr.last (fun h => by cases h) (mfp57 N)))))))))))))
theorem mfp59 (N : Int) {n0 : Nat} : Pc mfGl 90 0 n0 (mfk26 N) mfc30 .normal (mfk55 N) := Pc.block (id := 0) (b := mfc31) (x := (.exit 0)) (by kernel_rfl) (by kernel_rfl) (mfp58 N)
theorem mfp29 (N : Int) {n0 : Nat} : Pc mfGl 90 0 n0 (mfk19 N) mfc24 .normal (mfk55 N) := Pc.seq (a := mfc25) (b := mfc30) (by kernel_rfl) (mfp28 N) (mfp59 N)
theorem mfq0p64 {n0 : Nat} : Pc mfGl 90 0 n0 (mfk55 (.ofNat 0)) mfq0c61 .ret mfq0k62 := Pc.run mfMix mfRa mfRok mfq0e63
theorem mfq0p60 {n0 : Nat} : Pc mfGl 90 0 n0 (mfk19 (.ofNat 0)) mfc23 .ret mfq0k62 := Pc.seq (a := mfc24) (b := mfq0c61) (by kernel_rfl) (mfp29 (.ofNat 0)) mfq0p64
theorem mfq0p22 {n0 : Nat} : Pc mfGl 90 0 n0 (mfk13 (.ofNat 0)) mfc17 .ret mfq0k62 := Pc.seq (a := mfc18) (b := mfc23) (by kernel_rfl) (mfp21 (.ofNat 0)) mfq0p60
theorem mfq0p16 {n0 : Nat} : Pc mfGl 90 0 n0 (mfk7 (.ofNat 0)) mfc11 .ret mfq0k62 := Pc.seq (a := mfc12) (b := mfc17) (by kernel_rfl) mfq0p15 mfq0p22
theorem mfq0p10 {n0 : Nat} : Pc mfGl 90 0 n0 (mfk1 (.ofNat 0)) mfc5 .ret mfq0k62 := Pc.seq (a := mfc6) (b := mfc11) (by kernel_rfl) mfq0p9 mfq0p16
theorem mfq0p4 {n0 : Nat} : Pc mfGl 90 0 n0 (mfstart (.ofNat 0)) mft0 .ret mfq0k62 := Pc.seq (a := mfc0) (b := mfc5) (by kernel_rfl) (mfp3 (.ofNat 0)) mfq0p10
theorem mfq0All (n0 : Nat) : Pc mfGl 90 0 n0 ⟨liveI 0 [0], gCk mfGs, 0⟩ mft0 .ret mfq0k62 := mfq0p4
theorem mfq0Pieces (w : World) (ha : GAll w mfGs) : Calls Tryz.prog 3 ⟨([0] : List Int).map (Value.int .i64)⟩ w fun e w' => e = .returned (.bool true) ∧ Below w.heap.size w w' := args_pieces (fn := Tryz.f3) (c := mft0) (ck := mfq0k62) Tryz.func3 (by kernel_rfl) (by kernel_rfl) (Nat.le_of_ble_eq_true (by kernel_rfl)) mfq0All (by first | exact .inl rfl | exact .inr rfl) (by kernel_rfl) w ha
theorem mfq1p64 {n0 : Nat} : Pc mfGl 90 0 n0 (mfk55 (.ofNat 1)) mfq1c61 .ret mfq1k62 := Pc.run mfMix mfRa mfRok mfq1e63
theorem mfq1p60 {n0 : Nat} : Pc mfGl 90 0 n0 (mfk19 (.ofNat 1)) mfc23 .ret mfq1k62 := Pc.seq (a := mfc24) (b := mfq1c61) (by kernel_rfl) (mfp29 (.ofNat 1)) mfq1p64
theorem mfq1p22 {n0 : Nat} : Pc mfGl 90 0 n0 (mfk13 (.ofNat 1)) mfc17 .ret mfq1k62 := Pc.seq (a := mfc18) (b := mfc23) (by kernel_rfl) (mfp21 (.ofNat 1)) mfq1p60
theorem mfq1p16 {n0 : Nat} : Pc mfGl 90 0 n0 (mfk7 (.ofNat 1)) mfc11 .ret mfq1k62 := Pc.seq (a := mfc12) (b := mfc17) (by kernel_rfl) mfq1p15 mfq1p22
theorem mfq1p10 {n0 : Nat} : Pc mfGl 90 0 n0 (mfk1 (.ofNat 1)) mfc5 .ret mfq1k62 := Pc.seq (a := mfc6) (b := mfc11) (by kernel_rfl) mfq1p9 mfq1p16
theorem mfq1p4 {n0 : Nat} : Pc mfGl 90 0 n0 (mfstart (.ofNat 1)) mft0 .ret mfq1k62 := Pc.seq (a := mfc0) (b := mfc5) (by kernel_rfl) (mfp3 (.ofNat 1)) mfq1p10
theorem mfq1All (n0 : Nat) : Pc mfGl 90 0 n0 ⟨liveI 0 [1], gCk mfGs, 0⟩ mft0 .ret mfq1k62 := mfq1p4
theorem mfq1Pieces (w : World) (ha : GAll w mfGs) : Calls Tryz.prog 3 ⟨([1] : List Int).map (Value.int .i64)⟩ w fun e w' => e = .returned (.bool true) ∧ Below w.heap.size w w' := args_pieces (fn := Tryz.f3) (c := mft0) (ck := mfq1k62) Tryz.func3 (by kernel_rfl) (by kernel_rfl) (Nat.le_of_ble_eq_true (by kernel_rfl)) mfq1All (by first | exact .inl rfl | exact .inr rfl) (by kernel_rfl) w ha
theorem mfq2p64 {n0 : Nat} : Pc mfGl 90 0 n0 (mfk55 (.ofNat 2)) mfq2c61 .ret mfq2k62 := Pc.run mfMix mfRa mfRok mfq2e63
theorem mfq2p60 {n0 : Nat} : Pc mfGl 90 0 n0 (mfk19 (.ofNat 2)) mfc23 .ret mfq2k62 := Pc.seq (a := mfc24) (b := mfq2c61) (by kernel_rfl) (mfp29 (.ofNat 2)) mfq2p64
theorem mfq2p22 {n0 : Nat} : Pc mfGl 90 0 n0 (mfk13 (.ofNat 2)) mfc17 .ret mfq2k62 := Pc.seq (a := mfc18) (b := mfc23) (by kernel_rfl) (mfp21 (.ofNat 2)) mfq2p60
theorem mfq2p16 {n0 : Nat} : Pc mfGl 90 0 n0 (mfk7 (.ofNat 2)) mfc11 .ret mfq2k62 := Pc.seq (a := mfc12) (b := mfc17) (by kernel_rfl) mfq2p15 mfq2p22
theorem mfq2p10 {n0 : Nat} : Pc mfGl 90 0 n0 (mfk1 (.ofNat 2)) mfc5 .ret mfq2k62 := Pc.seq (a := mfc6) (b := mfc11) (by kernel_rfl) mfq2p9 mfq2p16
theorem mfq2p4 {n0 : Nat} : Pc mfGl 90 0 n0 (mfstart (.ofNat 2)) mft0 .ret mfq2k62 := Pc.seq (a := mfc0) (b := mfc5) (by kernel_rfl) (mfp3 (.ofNat 2)) mfq2p10
theorem mfq2All (n0 : Nat) : Pc mfGl 90 0 n0 ⟨liveI 0 [2], gCk mfGs, 0⟩ mft0 .ret mfq2k62 := mfq2p4
theorem mfq2Pieces (w : World) (ha : GAll w mfGs) : Calls Tryz.prog 3 ⟨([2] : List Int).map (Value.int .i64)⟩ w fun e w' => e = .returned (.bool true) ∧ Below w.heap.size w w' := args_pieces (fn := Tryz.f3) (c := mft0) (ck := mfq2k62) Tryz.func3 (by kernel_rfl) (by kernel_rfl) (Nat.le_of_ble_eq_true (by kernel_rfl)) mfq2All (by first | exact .inl rfl | exact .inr rfl) (by kernel_rfl) w ha
theorem mfq3p64 {n0 : Nat} : Pc mfGl 90 0 n0 (mfk55 (.ofNat 3)) mfq3c61 .ret mfq3k62 := Pc.run mfMix mfRa mfRok mfq3e63
theorem mfq3p60 {n0 : Nat} : Pc mfGl 90 0 n0 (mfk19 (.ofNat 3)) mfc23 .ret mfq3k62 := Pc.seq (a := mfc24) (b := mfq3c61) (by kernel_rfl) (mfp29 (.ofNat 3)) mfq3p64
theorem mfq3p22 {n0 : Nat} : Pc mfGl 90 0 n0 (mfk13 (.ofNat 3)) mfc17 .ret mfq3k62 := Pc.seq (a := mfc18) (b := mfc23) (by kernel_rfl) (mfp21 (.ofNat 3)) mfq3p60
theorem mfq3p16 {n0 : Nat} : Pc mfGl 90 0 n0 (mfk7 (.ofNat 3)) mfc11 .ret mfq3k62 := Pc.seq (a := mfc12) (b := mfc17) (by kernel_rfl) mfq3p15 mfq3p22
theorem mfq3p10 {n0 : Nat} : Pc mfGl 90 0 n0 (mfk1 (.ofNat 3)) mfc5 .ret mfq3k62 := Pc.seq (a := mfc6) (b := mfc11) (by kernel_rfl) mfq3p9 mfq3p16
theorem mfq3p4 {n0 : Nat} : Pc mfGl 90 0 n0 (mfstart (.ofNat 3)) mft0 .ret mfq3k62 := Pc.seq (a := mfc0) (b := mfc5) (by kernel_rfl) (mfp3 (.ofNat 3)) mfq3p10
theorem mfq3All (n0 : Nat) : Pc mfGl 90 0 n0 ⟨liveI 0 [3], gCk mfGs, 0⟩ mft0 .ret mfq3k62 := mfq3p4
theorem mfq3Pieces (w : World) (ha : GAll w mfGs) : Calls Tryz.prog 3 ⟨([3] : List Int).map (Value.int .i64)⟩ w fun e w' => e = .returned (.bool true) ∧ Below w.heap.size w w' := args_pieces (fn := Tryz.f3) (c := mft0) (ck := mfq3k62) Tryz.func3 (by kernel_rfl) (by kernel_rfl) (Nat.le_of_ble_eq_true (by kernel_rfl)) mfq3All (by first | exact .inl rfl | exact .inr rfl) (by kernel_rfl) w ha
theorem mfq4p64 {n0 : Nat} : Pc mfGl 90 0 n0 (mfk55 (.ofNat 4)) mfq4c61 .ret mfq4k62 := Pc.run mfMix mfRa mfRok mfq4e63
theorem mfq4p60 {n0 : Nat} : Pc mfGl 90 0 n0 (mfk19 (.ofNat 4)) mfc23 .ret mfq4k62 := Pc.seq (a := mfc24) (b := mfq4c61) (by kernel_rfl) (mfp29 (.ofNat 4)) mfq4p64
theorem mfq4p22 {n0 : Nat} : Pc mfGl 90 0 n0 (mfk13 (.ofNat 4)) mfc17 .ret mfq4k62 := Pc.seq (a := mfc18) (b := mfc23) (by kernel_rfl) (mfp21 (.ofNat 4)) mfq4p60
theorem mfq4p16 {n0 : Nat} : Pc mfGl 90 0 n0 (mfk7 (.ofNat 4)) mfc11 .ret mfq4k62 := Pc.seq (a := mfc12) (b := mfc17) (by kernel_rfl) mfq4p15 mfq4p22
theorem mfq4p10 {n0 : Nat} : Pc mfGl 90 0 n0 (mfk1 (.ofNat 4)) mfc5 .ret mfq4k62 := Pc.seq (a := mfc6) (b := mfc11) (by kernel_rfl) mfq4p9 mfq4p16
theorem mfq4p4 {n0 : Nat} : Pc mfGl 90 0 n0 (mfstart (.ofNat 4)) mft0 .ret mfq4k62 := Pc.seq (a := mfc0) (b := mfc5) (by kernel_rfl) (mfp3 (.ofNat 4)) mfq4p10
theorem mfq4All (n0 : Nat) : Pc mfGl 90 0 n0 ⟨liveI 0 [4], gCk mfGs, 0⟩ mft0 .ret mfq4k62 := mfq4p4
theorem mfq4Pieces (w : World) (ha : GAll w mfGs) : Calls Tryz.prog 3 ⟨([4] : List Int).map (Value.int .i64)⟩ w fun e w' => e = .returned (.bool true) ∧ Below w.heap.size w w' := args_pieces (fn := Tryz.f3) (c := mft0) (ck := mfq4k62) Tryz.func3 (by kernel_rfl) (by kernel_rfl) (Nat.le_of_ble_eq_true (by kernel_rfl)) mfq4All (by first | exact .inl rfl | exact .inr rfl) (by kernel_rfl) w ha
theorem mfq5p64 {n0 : Nat} : Pc mfGl 90 0 n0 (mfk55 (.ofNat 5)) mfq5c61 .ret mfq5k62 := Pc.run mfMix mfRa mfRok mfq5e63
theorem mfq5p60 {n0 : Nat} : Pc mfGl 90 0 n0 (mfk19 (.ofNat 5)) mfc23 .ret mfq5k62 := Pc.seq (a := mfc24) (b := mfq5c61) (by kernel_rfl) (mfp29 (.ofNat 5)) mfq5p64
theorem mfq5p22 {n0 : Nat} : Pc mfGl 90 0 n0 (mfk13 (.ofNat 5)) mfc17 .ret mfq5k62 := Pc.seq (a := mfc18) (b := mfc23) (by kernel_rfl) (mfp21 (.ofNat 5)) mfq5p60
theorem mfq5p16 {n0 : Nat} : Pc mfGl 90 0 n0 (mfk7 (.ofNat 5)) mfc11 .ret mfq5k62 := Pc.seq (a := mfc12) (b := mfc17) (by kernel_rfl) mfq5p15 mfq5p22
theorem mfq5p10 {n0 : Nat} : Pc mfGl 90 0 n0 (mfk1 (.ofNat 5)) mfc5 .ret mfq5k62 := Pc.seq (a := mfc6) (b := mfc11) (by kernel_rfl) mfq5p9 mfq5p16
theorem mfq5p4 {n0 : Nat} : Pc mfGl 90 0 n0 (mfstart (.ofNat 5)) mft0 .ret mfq5k62 := Pc.seq (a := mfc0) (b := mfc5) (by kernel_rfl) (mfp3 (.ofNat 5)) mfq5p10
theorem mfq5All (n0 : Nat) : Pc mfGl 90 0 n0 ⟨liveI 0 [(.ofNat 5)], gCk mfGs, 0⟩ mft0 .ret mfq5k62 := mfq5p4
theorem mfq5Pieces (w : World) (ha : GAll w mfGs) : Calls Tryz.prog 3 ⟨([5] : List Int).map (Value.int .i64)⟩ w fun e w' => e = .returned (.bool true) ∧ Below w.heap.size w w' := args_pieces (fn := Tryz.f3) (c := mft0) (ck := mfq5k62) Tryz.func3 (by kernel_rfl) (by kernel_rfl) (Nat.le_of_ble_eq_true (by kernel_rfl)) mfq5All (by first | exact .inl rfl | exact .inr rfl) (by kernel_rfl) w ha
open Go in
set_option maxRecDepth 100000 in
set_option maxHeartbeats 2000000 in
theorem mfWalk (a : Int) (w : World) (_ : (Lit.int .i64 a).wf = true) : Calls Tryz.prog 3 #[.int .i64 a] w fun e w' => e = .returned (.bool true) ∧ Below w.heap.size w w' := by
  have HG : GAll w mfGs := fun g cs h => by cases h
  have H0 := Lib.hid (maPieces w HG)
  by_cases ha0 : a < 0
  · clear HG
    go_enter Tryz.func3, Tryz.ntmps3
    go_wp2_with fail
    refine H0.out.mono ?_
    rintro e w1 ⟨rfl, b1⟩
    go_wp2
    go_ret
    exact ⟨rfl, b1⟩
  by_cases ha1 : 5 < a
  · clear HG
    go_enter Tryz.func3, Tryz.ntmps3
    go_wp2_with fail
    refine H0.out.mono ?_
    rintro e w1 ⟨rfl, b1⟩
    go_wp2
    go_ret
    exact ⟨rfl, b1⟩
  obtain rfl | rfl | rfl | rfl | rfl | rfl : a = 0 ∨ a = 1 ∨ a = 2 ∨ a = 3 ∨ a = 4 ∨ a = 5 := by omega
  ·
    exact mfq0Pieces w HG
  ·
    exact mfq1Pieces w HG
  ·
    exact mfq2Pieces w HG
  ·
    exact mfq3Pieces w HG
  ·
    exact mfq4Pieces w HG
  ·
    exact mfq5Pieces w HG
end Go.Proofs.YtknallpinjoppaaGreatDoor
