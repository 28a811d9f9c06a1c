/- Package date and the reference: two. -/
import Derived.Test.YtfigddnkkdgjhaaDoorDatB
set_option linter.unusedVariables false
namespace Go.Proofs.YtfigddnkkdgjhaaDoor
open Go.RowKit

def d2 (n : Int) : List UInt8 := [UInt8.ofNat (48 + (n / 10).toNat), UInt8.ofNat (48 + (n % 10).toNat)]
theorem conv_two (x y : UInt8) (n m : Int) (hn : n = (x.toNat : Int)) (hm : m = (y.toNat : Int)) (W : World) (g : Nat) (h : W.cell? ⟨g, 0, none⟩ = some (.int .u8 n)) (h1 : W.cell? ⟨g, 1, none⟩ = some (.int .u8 m)) :
    (convert 62 9 (.slice (some ⟨g, 0, none⟩) 2 2)).run Tryd.prog W = .ok (.string ⟨#[x, y]⟩) W := by
  subst hn hm
  have := run_convert_bytes_back (P := Tryd.prog) W 62 9 5 ⟨g, 0, none⟩ 2 [x, y] Tryd.underlying62 Tryd.underlying5 Tryd.underlying9 (fun j hj => by
    have : j < 2 := hj
    match j, this with
    | 0, _ => rw [add_plain_i]; exact h
    | 1, _ => rw [add_plain_i]; exact h1)
  exact this
theorem two_byte (r : Int) (h0 : 0 ≤ r) (h : r < 10) : 48 + r = ((UInt8.ofNat (48 + r.toNat)).toNat : Int) := by
  rw [UInt8.toNat_ofNat', Nat.mod_eq_of_lt (by omega)]; omega
set_option maxHeartbeats 1000000 in
theorem two_any (n : Int) (w : World) (h0 : 0 ≤ n) (h1 : n ≤ 99) :
    Calls Tryd.prog 28 #[.int .i64 n] w fun e w' => e = .returned (.string ⟨(d2 n).toArray⟩) ∧ Below w.heap.size w w' := by
  have hk := conv_two (UInt8.ofNat (48 + (n / 10).toNat)) (UInt8.ofNat (48 + (n % 10).toNat)) (48 + n / 10) (48 + n % 10) (two_byte _ (by omega) (by omega)) (two_byte _ (by omega) (by omega))
  obtain ⟨L, HL⟩ : ∃ L : ByteArray, Hid (L = ⟨(d2 n).toArray⟩) := ⟨_, rfl⟩
  have hL : (⟨#[UInt8.ofNat (48 + (n / 10).toNat), UInt8.ofNat (48 + (n % 10).toNat)]⟩ : ByteArray) = L := by rw [HL.out]; rfl
  rw [hL] at hk
  clear hL
  rw [← HL.out]
  clear HL
  go_enter Tryd.func28, Tryd.ntmps28
  go_wp2
  go_ret
  exact ⟨rfl, (Below.refl w.heap.size w).alloc (Nat.le_refl _) _⟩
set_option maxHeartbeats 1000000 in
theorem r_two (n : Int) (w : World) (h0 : 0 ≤ n) (h1 : n ≤ 99) :
    Calls Tryd.prog 38 #[.int .i64 n] w fun e w' => e = .returned (.string ⟨(d2 n).toArray⟩) ∧ Below w.heap.size w w' := by
  have hk := conv_two (UInt8.ofNat (48 + (n / 10).toNat)) (UInt8.ofNat (48 + (n % 10).toNat)) (48 + n / 10) (48 + n % 10) (two_byte _ (by omega) (by omega)) (two_byte _ (by omega) (by omega))
  obtain ⟨L, HL⟩ : ∃ L : ByteArray, Hid (L = ⟨(d2 n).toArray⟩) := ⟨_, rfl⟩
  have hL : (⟨#[UInt8.ofNat (48 + (n / 10).toNat), UInt8.ofNat (48 + (n % 10).toNat)]⟩ : ByteArray) = L := by rw [HL.out]; rfl
  rw [hL] at hk
  clear hL
  rw [← HL.out]
  clear HL
  go_enter Tryd.func38, Tryd.ntmps38
  go_wp2
  go_ret
  exact ⟨rfl, (Below.refl w.heap.size w).alloc (Nat.le_refl _) _⟩
end Go.Proofs.YtfigddnkkdgjhaaDoor
