/- Package octet, its functions on one byte, Atom, Same, Fold: what each returns, as plain functions on lists of bytes. -/
import Derived.Test.YtabggjlpnhgpjaaDoorPl
namespace Go.Proofs.YtabggjlpnhgpjaaDoor
open Go.RowKit

def atomByteB (c : UInt8) : Bool := decide (33 ≤ c.toNat ∧ c.toNat ≤ 126 ∧ c.toNat ≠ 40 ∧ c.toNat ≠ 41 ∧ c.toNat ≠ 123 ∧ c.toNat ≠ 37 ∧ c.toNat ≠ 42 ∧ c.toNat ≠ 34 ∧ c.toNat ≠ 92 ∧ c.toNat ≠ 93)
def escapedB (c : UInt8) : Bool := decide (c.toNat = 34 ∨ c.toNat = 92)
def quotableB (c : UInt8) : Bool := decide (c.toNat ≠ 0 ∧ c.toNat ≠ 13 ∧ c.toNat ≠ 10 ∧ c.toNat ≤ 127)
def smallU (c : UInt8) : UInt8 := if 65 ≤ c.toNat ∧ c.toNat ≤ 90 then c + 32 else c
def atomB (l : List UInt8) : Bool := l.all atomByteB && !l.isEmpty
def foldL (l : List UInt8) : List UInt8 := l.map smallU
def sameB (a b : List UInt8) : Bool := decide (foldL a = foldL b)

theorem smallU_toNat (c : UInt8) : (smallU c).toNat = if 65 ≤ c.toNat ∧ c.toNat ≤ 90 then c.toNat + 32 else c.toNat := by
  unfold smallU
  split
  · rw [UInt8.toNat_add]; simp; omega
  · rfl

theorem escaped_any (c : UInt8) (w : World) : Calls Tryd.prog 24 #[.int .u8 (c.toNat : Int)] w fun e w' => e = .returned (.bool (escapedB c)) ∧ w = w' := by
  go_enter Tryd.func24, Tryd.ntmps24
  go_wp2
  all_goals
    go_ret
    exact ⟨ret_bool (by unfold escapedB; grind), rfl⟩
theorem quotable_any (c : UInt8) (w : World) : Calls Tryd.prog 23 #[.int .u8 (c.toNat : Int)] w fun e w' => e = .returned (.bool (quotableB c)) ∧ w = w' := by
  go_enter Tryd.func23, Tryd.ntmps23
  go_wp2
  all_goals
    go_ret
    exact ⟨ret_bool (by unfold quotableB; grind), rfl⟩
theorem small_any (c : UInt8) (w : World) : Calls Tryd.prog 30 #[.int .u8 (c.toNat : Int)] w fun e w' => e = .returned (.int .u8 ((smallU c).toNat : Int)) ∧ w = w' := by
  have hc := c.toNat_lt
  go_enter Tryd.func30, Tryd.ntmps30
  go_wp2
  all_goals
    go_ret
    exact ⟨ret_int (by rw [smallU_toNat]; grind), rfl⟩
theorem atomByte_any (c : UInt8) (w : World) : Calls Tryd.prog 29 #[.int .u8 (c.toNat : Int)] w fun e w' => e = .returned (.bool (atomByteB c)) ∧ w = w' := by
  have hc := c.toNat_lt
  go_enter Tryd.func29, Tryd.ntmps29
  go_wp2
  all_goals
    go_ret
    exact ⟨ret_bool (by unfold atomByteB; grind), rfl⟩

theorem atom_no (s : ByteArray) (k : Nat) (h : k < s.size) (ha : atomByteB s[k] = false) : atomB s.data.toList = false := by
  have hm : s[k] ∈ s.data.toList := by
    have : s[k] = s.data.toList[k]'(by simpa using h) := rfl
    rw [this]; exact List.getElem_mem _
  have : s.data.toList.all atomByteB = false := by
    rw [List.all_eq_false]; exact ⟨_, hm, by simp [ha]⟩
  simp [atomB, this]

set_option maxHeartbeats 400000 in
theorem atom_any (s : ByteArray) (w : World) (hs : s.size ≤ maxLen) :
    Calls Tryd.prog 11 #[.string s] w fun e w' => e = .returned (.bool (atomB s.data.toList)) ∧ w = w' := by
  unfold maxLen at hs
  go_enter Tryd.func11, Tryd.ntmps11
  go_wp2
  go_loop [6] (fun i => ∃ k : Nat, k ≤ s.size ∧ i = .int .i64 k ∧ (s.data.toList.take k).all atomByteB = true) (fun i => s.size - (intOf i).toNat)
  case atStart => exact ⟨0, Nat.zero_le _, rfl, rfl⟩
  case round =>
    obtain ⟨k, hk, rfl, hall⟩ := hrel
    have HA := Lib.hid hall
    clear hall
    by_cases hlt : k < s.size
    · by_cases hb : atomByteB s[k] = true
      · go_wp2_with (go_at_call 29; refine (atomByte_any _ _).mono ?_; rintro e w' ⟨rfl, rfl⟩)
        go_round
        case rel => exact ⟨k + 1, by omega, by go_num, by rw [take_snoc s k hlt, List.all_append, HA.out]; simp [hb]⟩
        case measure => simp [intOf]; omega
      · have hb' : atomByteB s[k] = false := by simpa using hb
        clear hb
        go_wp2_with (go_at_call 29; refine (atomByte_any _ _).mono ?_; rintro e w' ⟨rfl, rfl⟩)
        go_ret
        exact ⟨ret_bool (atom_no s k hlt hb').symm, rfl⟩
    · obtain rfl : k = s.size := by omega
      go_wp2
      go_ret
      exact ⟨ret_bool (by have h := HA.out; rw [take_all] at h; simp [atomB, h, toList_data]), rfl⟩
end Go.Proofs.YtabggjlpnhgpjaaDoor
