/- Package crc: its table, and Add, as the shift register of chapter 3. -/
import Derived.Test.YtjhmdgcfdelbkaaDoorCrcM
import Derived.Lib.LaidTab
import Derived.WalkSmall
import Derived.Laws.BitsAllLaws
import Derived.Laws.BitsLemmas
set_option linter.unusedVariables false
namespace Go.Proofs.YtjhmdgcfdelbkaaDoor
open Go.RowKit

def steps : List Int := [0, 498536548, 997073096, 651767980, 1994146192, 1802195444, 1303535960, 1342533948, 3988292384, 4027552580, 3604390888, 3412177804, 2607071920, 2262029012, 2685067896, 3183342108]
def Steps (w : World) : Prop := Lib.TabIs Tryd.prog w "franking/crc.steps" .u32 steps
theorem gSteps : Tryd.prog.globalNamed "franking/crc.steps" = some 0 := by kernel_rfl
theorem Steps.below {B : Nat} {w w' : World} (h : Steps w) (hb : Below B w w') (hB : 0 < B) : Steps w' := var?_below hb gSteps hB h

theorem steps_cell {w : World} (h : Steps w) (m : Nat) (hm : m < 16) : w.cell? ⟨0, m, none⟩ = some (.int .u32 ((tabN.getD m 0 : Nat) : Int)) := by
  rw [Lib.TabIs.cell h gSteps m (by simpa [steps] using hm)]
  congr 2
  have : ∀ m, m < 16 → steps.getD m 0 = ((tabN.getD m 0 : Nat) : Int) := by decide
  exact this m hm
theorem tabN_lt (m : Nat) (hm : m < 16) : tabN.getD m 0 < 4294967296 := by
  have : ∀ m, m < 16 → tabN.getD m 0 < 4294967296 := by decide
  exact this m hm
theorem and15 (a : Nat) (h : a < 4294967296) : bits .and .u32 (a : Int) 15 = ((a % 16 : Nat) : Int) := by
  have := u32_and_nat a 15 h (by decide)
  rw [show ((15 : Nat) : Int) = 15 from rfl] at this
  rw [this, Nat.and_two_pow_sub_one_eq_mod a 4]
theorem half4 (a : Nat) (h : a < 4294967296) : bits .xor .u32 ((a : Int) / 16) ((tabN.getD (a % 16) 0 : Nat) : Int) = (step4 a : Int) := by
  have e : (a : Int) / 16 = ((a / 16 : Nat) : Int) := by omega
  rw [e, u32_xor_nat _ _ (by omega) (tabN_lt _ (Nat.mod_lt _ (by decide))), nib]
theorem step4_lt (a : Nat) (h : a < 4294967296) : step4 a < 4294967296 := by rw [step4_eq]; exact bsteps_lt _ _ h
theorem notN_bits (x : Nat) (h : x < 4294967296) : bits .xor .u32 IntKind.u32.max (x : Int) = (notN x : Int) := by
  have : IntKind.u32.max = ((4294967295 : Nat) : Int) := by decide
  rw [this, u32_xor_nat _ _ (by decide) h, Nat.xor_comm]
  rfl
theorem take_snoc_l (l : List UInt8) (k : Nat) (h : k < l.length) : l.take (k + 1) = l.take k ++ [l[k]] := by
  rw [List.take_succ_eq_append_getElem h]

set_option maxHeartbeats 1000000 in
theorem add_any (sum : Nat) (hs : sum < 4294967296) (A : Option Addr) (l : List UInt8) (c : Nat) (w : World) (hr : Rd w A l) (hl : l.length ≤ 100000000000) (ht : Steps w) :
    Calls Tryd.prog 21 #[.int .u32 (sum : Int), .slice A l.length c] w fun e w' => e = .returned (.int .u32 (crcAdd sum l : Int)) ∧ w = w' := by
  have n0 := notN_bits sum hs
  have nlt := notN_lt sum hs
  have HT := Lib.hid ht
  clear ht
  go_enter Tryd.func21, Tryd.ntmps21
  go_wp2
  go_loop [5, 12] (fun r i => ∃ (k x : Nat), k ≤ l.length ∧ i = .int .i64 k ∧ r = .int .u32 (x : Int) ∧ x < 4294967296 ∧ Hid (crcGo (notN sum) (l.take k) = x)) (fun _ i => l.length - (intOf i).toNat)
  case atStart => exact ⟨0, notN sum, Nat.zero_le _, rfl, rfl, nlt, rfl⟩
  case round =>
    obtain ⟨k, x, hk, rfl, rfl, hx, HX⟩ := hrel
    by_cases hlt : k < l.length
    · obtain ⟨b, o, rfl, hb, hcell⟩ := hr (by omega)
      have hcell := hcell k hlt
      have hc8 := l[k].toNat_lt
      obtain ⟨a, HA, ha, e1⟩ : ∃ a : Nat, Hid (x ^^^ l[k].toNat = a) ∧ a < 4294967296 ∧ bits .xor .u32 (x : Int) (l[k].toNat : Int) = (a : Int) :=
        ⟨x ^^^ l[k].toNat, rfl, Nat.xor_lt_two_pow (n := 32) hx (by omega), u32_xor_nat _ _ hx (by omega)⟩
      obtain ⟨m, hm, e2, hcm, a2, HA2, ha2, e3⟩ : ∃ m : Nat, m < 16 ∧ bits .and .u32 (a : Int) 15 = (m : Int) ∧ w.cell? ⟨0, m, none⟩ = some (.int .u32 ((tabN.getD m 0 : Nat) : Int)) ∧ ∃ a2 : Nat, Hid (step4 a = a2) ∧ a2 < 4294967296 ∧ bits .xor .u32 ((a : Int) / 16) ((tabN.getD m 0 : Nat) : Int) = (a2 : Int) :=
        ⟨a % 16, Nat.mod_lt _ (by decide), and15 a ha, steps_cell HT.out _ (Nat.mod_lt _ (by decide)), step4 a, rfl, step4_lt a ha, half4 a ha⟩
      have ht1 := tabN_lt m hm
      generalize tabN.getD m 0 = t1 at *
      obtain ⟨m2, hm2, e4, hcm2, a3, HA3, ha3, e5⟩ : ∃ m : Nat, m < 16 ∧ bits .and .u32 (a2 : Int) 15 = (m : Int) ∧ w.cell? ⟨0, m, none⟩ = some (.int .u32 ((tabN.getD m 0 : Nat) : Int)) ∧ ∃ a3 : Nat, Hid (step4 a2 = a3) ∧ a3 < 4294967296 ∧ bits .xor .u32 ((a2 : Int) / 16) ((tabN.getD m 0 : Nat) : Int) = (a3 : Int) :=
        ⟨a2 % 16, Nat.mod_lt _ (by decide), and15 a2 ha2, steps_cell HT.out _ (Nat.mod_lt _ (by decide)), step4 a2, rfl, step4_lt a2 ha2, half4 a2 ha2⟩
      have ht2 := tabN_lt m2 hm2
      generalize tabN.getD m2 0 = t2 at *
      go_wp2
      go_round
      case rel =>
        refine ⟨k + 1, a3, by omega, by go_num, rfl, ha3, ?_⟩
        show _ = _
        rw [take_snoc_l l k hlt, crcGo_snoc, HX.out]
        unfold addN
        rw [HA.out, HA2.out, HA3.out]
      case measure => simp [intOf]; omega
    · obtain rfl : k = l.length := by omega
      have n1 := notN_bits x hx
      go_wp2
      go_ret
      refine ⟨ret_int ?_, rfl⟩
      have h := HX.out
      rw [List.take_length] at h
      unfold crcAdd
      rw [h]
end Go.Proofs.YtjhmdgcfdelbkaaDoor
