/- The reference's checksum. -/
import Derived.Test.YtjhmdgcfdelbkaaDoorCrcB
import Derived.Test.YtjhmdgcfdelbkaaDoorAp
set_option linter.unusedVariables false
namespace Go.Proofs.YtjhmdgcfdelbkaaDoor.says
open Go.RowKit

theorem u8Info : (Tryd.prog.info? 5).map (fun i => (i.zero, i.size, i.bytes)) = some (some (.int .u8 0), 1, 1) := by kernel_rfl
theorem own_empty (w : World) (B : Nat) (hB : B ≤ w.heap.size) : (w.alloc (.cells #[] 5)).ownsRow B 5 1 (.slice (some ⟨w.heap.size, 0, none⟩) 0 0) ([] : List UInt8).length (Lib.byteCells []) :=
  World.ownsRow_made w #[] 0 hB (Nat.zero_le _) rfl
theorem bsteps_snoc (k n : Nat) : bsteps (k + 1) n = bstep (bsteps k n) := bsteps_add k 1 n
theorem half_bits (x : Nat) (hx : x < 4294967296) (h : x % 2 = 1) : bits .xor .u32 ((x : Int) / 2) 3988292384 = (bstep x : Int) := by
  have e : (x : Int) / 2 = ((x / 2 : Nat) : Int) := by omega
  have h2 := u32_xor_nat (x / 2) 3988292384 (by omega) (by decide)
  rw [e, bstep, if_pos h]
  exact h2

set_option maxHeartbeats 1000000 in
theorem ref_any (sum : Nat) (hs : sum < 4294967296) (A : Option Addr) (l : List UInt8) (c : Nat) (w : World) (hr : Rd w A l) (hl : l.length ≤ 100000000000) :
    Calls Tryd.prog 16 #[.int .u32 (sum : Int), .slice A l.length c] w fun e w' => e = .returned (.int .u32 (crcAdd sum l : Int)) ∧ w = w' := by
  have n0 := notN_bits sum hs
  have nlt := notN_lt sum hs
  go_enter Tryd.func16, Tryd.ntmps16
  go_wp2
  go_loop [5, 6] (fun r i => ∃ (k x : Nat), k ≤ l.length ∧ i = .int .i64 k ∧ r = .int .u32 (x : Int) ∧ x < 4294967296 ∧ Hid (crcGo (notN sum) (l.take k) = x)) (fun _ i => l.length - (intOf i).toNat)
  case atStart => exact ⟨0, notN sum, Nat.zero_le _, rfl, rfl, nlt, rfl⟩
  case round =>
    obtain ⟨k, x, hk, rfl, rfl, hx, HX⟩ := hrel
    by_cases hlt : k < l.length
    · obtain ⟨b, o, rfl, hb, hcell⟩ := hr (by omega)
      have hcell := hcell k hlt
      have hc8 := l[k].toNat_lt
      obtain ⟨a, HA, ha, e1⟩ : ∃ a : Nat, Hid (x ^^^ l[k].toNat = a) ∧ a < 4294967296 ∧ bits .xor .u32 (x : Int) (l[k].toNat : Int) = (a : Int) :=
        ⟨x ^^^ l[k].toNat, rfl, Nat.xor_lt_two_pow (n := 32) hx (by omega), u32_xor_nat _ _ hx (by omega)⟩
      go_wp2
      go_loop [5, 7] (fun r i => ∃ (j y : Nat), j ≤ 8 ∧ i = .int .i64 j ∧ r = .int .u32 (y : Int) ∧ y < 4294967296 ∧ Hid (bsteps j a = y)) (fun _ i => 8 - (intOf i).toNat)
      case atStart => exact ⟨0, a, by omega, rfl, rfl, ha, rfl⟩
      case round =>
        obtain ⟨j, y, hj, rfl, rfl, hy, HY⟩ := hrel
        by_cases hj8 : j < 8
        · by_cases hodd : y % 2 = 1
          · have hp1 : (y : Int) % 2 = 1 := by omega
            have hp2 : Int.tmod (y : Int) 2 = 1 := by rw [Int.tmod_eq_emod_of_nonneg (by omega)]; omega
            obtain ⟨z, HZ, hz, e2⟩ : ∃ z : Nat, Hid (bstep y = z) ∧ z < 4294967296 ∧ bits .xor .u32 ((y : Int) / 2) 3988292384 = (z : Int) := ⟨_, rfl, bstep_lt y hy, half_bits y hy hodd⟩
            go_wp2
            go_round
            case rel =>
              refine ⟨j + 1, z, by omega, by go_num, rfl, hz, ?_⟩
              show _ = _
              rw [bsteps_snoc, HY.out, HZ.out]
            case measure => simp [intOf]; omega
          · have hp1 : (y : Int) % 2 = 0 := by omega
            have hp2 : Int.tmod (y : Int) 2 = 0 := by rw [Int.tmod_eq_emod_of_nonneg (by omega)]; omega
            have hz : bstep y = y / 2 := by rw [bstep, if_neg hodd]
            have HZ := Lib.hid hz
            clear hz
            go_wp2
            go_round
            case rel =>
              refine ⟨j + 1, y / 2, by omega, by go_num, by simp, by omega, ?_⟩
              show _ = _
              rw [bsteps_snoc, HY.out, HZ.out]
            case measure => simp [intOf]; omega
        · obtain rfl : j = 8 := by omega
          go_wp2
          go_round
          case rel =>
            refine ⟨k + 1, y, by omega, by go_num, rfl, hy, ?_⟩
            show _ = _
            rw [take_snoc_l l k hlt, crcGo_snoc, HX.out, addN_eq, HA.out, HY.out]
          case measure => simp [intOf]; omega
    · obtain rfl : k = l.length := by omega
      have n1 := notN_bits x hx
      go_wp2
      go_ret
      refine ⟨ret_int ?_, rfl⟩
      have h := HX.out
      rw [List.take_length] at h
      unfold crcAdd
      rw [h]

end Go.Proofs.YtjhmdgcfdelbkaaDoor.says
