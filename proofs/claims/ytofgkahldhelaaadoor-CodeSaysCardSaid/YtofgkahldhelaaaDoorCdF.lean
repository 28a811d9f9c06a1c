/- Quoted-printable: what a byte is. -/
import Derived.Test.YtofgkahldhelaaaDoorCdE
set_option linter.unusedVariables false
namespace Go.Proofs.YtofgkahldhelaaaDoor
open Go.RowKit

theorem byte_eq (c : UInt8) (n : Nat) (hn : n < 256) (h : c = UInt8.ofNat n) : (c.toNat : Int) = (n : Int) := by
  subst h
  simp [Nat.mod_eq_of_lt hn]
theorem blank_e (c : UInt8) (w : World) : Calls Tryd.prog 21 #[.int .u8 (c.toNat : Int)] w fun e w' => e = .returned (.bool (blankB c)) ∧ w = w' := by
  by_cases h1 : c = 32
  · subst h1
    go_enter Tryd.func21, Tryd.ntmps21
    go_wp2
    go_ret
    exact ⟨rfl, rfl⟩
  · by_cases h2 : c = 9
    · subst h2
      go_enter Tryd.func21, Tryd.ntmps21
      go_wp2
      go_ret
      exact ⟨rfl, rfl⟩
    · have n1 : ((c.toNat : Int) == 32) = false := byte_ne c 32 (by decide) h1
      have n2 : ((c.toNat : Int) == 9) = false := byte_ne c 9 (by decide) h2
      have e : blankB c = false := by simp [blankB, h1, h2]
      rw [e]
      go_enter Tryd.func21, Tryd.ntmps21
      go_wp2
      go_ret
      exact ⟨rfl, rfl⟩
/-- '[]byte("\\r\\n")'. -/
theorem lit2 (w : World) (x0 x1 : Int) : (convert 22 22 (.slice (some ⟨w.heap.size, 0, none⟩) 2 2)).run Tryd.prog (w.alloc (.cells #[.int .u8 x0, .int .u8 x1] 5)) = .ok (.slice (some ⟨w.heap.size, 0, none⟩) 2 2) (w.alloc (.cells #[.int .u8 x0, .int .u8 x1] 5 (2, 3))) :=
  Lib.run_convert_bytes_const w 22 5 #[.int .u8 x0, .int .u8 x1] 2 2 Tryd.underlying22 Tryd.underlying5
theorem bytesOf_nat (l : List UInt8) : Lib.bytesOf (l.map fun x => (x.toNat : Int)) = l := by
  induction l with
  | nil => rfl
  | cons c l ih =>
    simp only [List.map_cons, Lib.bytesOf] at ih ⊢
    rw [ih]
    simp
theorem prefix_line (l : List UInt8) : Lib.hasPrefix l [13, 10] = lineEnd l := by
  match l with
  | [] => rfl
  | [a] =>
    simp [Lib.hasPrefix, lineEnd, List.isPrefixOf]
  | a :: b :: r =>
    simp only [Lib.hasPrefix, lineEnd, List.isPrefixOf, List.take_succ_cons, List.take_zero]
    rw [Bool.eq_iff_iff]
    simp
    constructor
    · rintro ⟨h1, h2⟩
      exact ⟨h1.symm, h2.symm⟩
    · rintro ⟨h1, h2⟩
      exact ⟨h1.symm, h2.symm⟩
set_option maxHeartbeats 1000000 in
theorem lineEnd_e (A : Option Addr) (l : List UInt8) (n c : Nat) (w : World) (hn : l.length = n) (hr : Rd w A l) (hc : l.length ≤ c) :
    Calls Tryd.prog 18 #[.slice A n c] w fun e w' => e = .returned (.bool (lineEnd l)) ∧ Below w.heap.size w w' := by
  subst hn
  have hlit := lit2
  have hb := below_one4 w (.cells #[.int .u8 13, .int .u8 10] 5 (2, 3))
  have hp := Lib.hid (Tryd.bytes_HasPrefix_all A (some ⟨w.heap.size, 0, none⟩) l.length c 2 2 (l.map fun x => (x.toNat : Int)) [13, 10] (w.alloc (.cells #[.int .u8 13, .int .u8 10] 5 (2, 3))) (by simp) rfl hc (by
    intro hp
    obtain ⟨b, o, hA, hlt, hcell⟩ := (hr.below hb) hp
    refine ⟨b, o, hA, fun i hi => ?_⟩
    rw [hcell i hi]
    simp [List.getD, hi]) (by
    intro _
    refine ⟨w.heap.size, 0, rfl, fun i hi => ?_⟩
    rcases (by omega : i = 0 ∨ i = 1) with rfl | rfl <;> simp [World.cell?, World.alloc, -World.alloc_eq]))
  have e : Lib.hasPrefix (Lib.bytesOf (l.map fun x => (x.toNat : Int))) (Lib.bytesOf [13, 10]) = lineEnd l := by
    rw [bytesOf_nat]
    exact prefix_line l
  rw [e] at hp
  go_enter Tryd.func18, Tryd.ntmps18
  go_wp2_with ((with_reducible refine hp.out.mono ?_))
  rintro _ w1 ⟨rfl, rfl⟩
  go_wp2
  go_ret
  exact ⟨rfl, hb⟩

abbrev hexA : ByteArray := ⟨#[48, 49, 50, 51, 52, 53, 54, 55, 56, 57, 65, 66, 67, 68, 69, 70]⟩
def hexZ (c : UInt8) : Int := match hexv c with | some v => (v : Int) | none => -1
theorem hex_idx : ∀ n : Fin 256, Lib.indexByte hexA.data.toList (if 97 ≤ n.val ∧ n.val ≤ 102 then UInt8.ofNat (n.val - 32) else UInt8.ofNat n.val) = hexZ (UInt8.ofNat n.val) := by decide +kernel
theorem hexv_lt (c : UInt8) (v : Nat) (h : hexv c = some v) : v < 16 := by
  unfold hexv at h
  simp only at h
  split at h <;> (try split at h) <;> (try split at h) <;> simp at h <;> omega
theorem hex_e (c : UInt8) (w : World) : Calls Tryd.prog 22 #[.int .u8 (c.toNat : Int)] w fun e w' => e = .returned (.int .i64 (hexZ c)) ∧ w = w' := by
  have h8 := c.toNat_lt
  have key := hex_idx ⟨c.toNat, h8⟩
  have ec : UInt8.ofNat c.toNat = c := by simp
  simp only [ec] at key
  by_cases h : 97 ≤ c.toNat ∧ c.toNat ≤ 102
  · rw [if_pos h] at key
    have h1 : (97 : Int) ≤ (c.toNat : Int) := by omega
    have h2 : (c.toNat : Int) ≤ 102 := by omega
    have hix := Tryd.strings_IndexByte hexA ((c.toNat : Int) - 32) w
    rw [show ((c.toNat : Int) - 32).toNat.toUInt8 = UInt8.ofNat (c.toNat - 32) by rw [show ((c.toNat : Int) - 32).toNat = c.toNat - 32 by omega], key] at hix
    replace hix := Lib.hid hix
    clear key
    go_enter Tryd.func22, Tryd.ntmps22
    go_wp2_with ((with_reducible refine hix.out.mono ?_))
    rintro _ w1 ⟨rfl, rfl⟩
    go_wp2
    go_ret
    exact ⟨rfl, rfl⟩
  · rw [if_neg h] at key
    have hix := Tryd.strings_IndexByte hexA (c.toNat : Int) w
    rw [show ((c.toNat : Int)).toNat.toUInt8 = c by simp, key] at hix
    replace hix := Lib.hid hix
    clear key
    by_cases h1 : 97 ≤ c.toNat
    · have h1' : (97 : Int) ≤ (c.toNat : Int) := by omega
      have h2 : ¬ (c.toNat : Int) ≤ 102 := by omega
      go_enter Tryd.func22, Tryd.ntmps22
      go_wp2_with ((with_reducible refine hix.out.mono ?_))
      go_ret
      exact ⟨rfl, rfl⟩
    · have h1' : ¬ (97 : Int) ≤ (c.toNat : Int) := by omega
      go_enter Tryd.func22, Tryd.ntmps22
      go_wp2_with ((with_reducible refine hix.out.mono ?_))
      go_ret
      exact ⟨rfl, rfl⟩

set_option maxHeartbeats 1000000 in
theorem printable_s (b o : Nat) (d : UInt8) (r : List UInt8) (c : Nat) (w : World) (hr : Rd w (some ⟨b, o, none⟩) (d :: r)) (hc : r.length + 1 ≤ c) :
    Calls Tryd.prog 19 #[.slice (some ⟨b, o, none⟩) (r.length + 1) c] w fun e w' => e = .returned (.bool (printB (d :: r))) ∧ Below w.heap.size w w' := by
  have h8 := d.toNat_lt
  obtain ⟨b', o', hbo, hb, hcell⟩ := hr (by simp)
  injection hbo with hbo
  injection hbo with e1 e2
  subst e1
  subst e2
  have hc0 : w.cell? ⟨b, o, none⟩ = some (.int .u8 (d.toNat : Int)) := hcell 0 (by simp)
  have hbl := Lib.hid (blank_e d w)
  by_cases hB : blankB d = true
  · have hbl2 := hbl.out
    rw [hB] at hbl2
    replace hbl2 := Lib.hid hbl2
    by_cases h1 : 0 < r.length
    · have h1' : (0 : Int) < (r.length : Int) := by omega
      have hrd := Rd.drop hr 1 c (by rw [List.length_cons]; omega)
      rw [if_neg (by omega)] at hrd
      have hrd : Rd w (some ⟨b, o + 1, none⟩) r := by
        have e : (some (⟨b, o, none⟩ : Addr)).map (·.add 1) = some ⟨b, o + 1, none⟩ := by
          show some ((⟨b, o, none⟩ : Addr).add 1) = _
          rw [addp0]
        rw [e] at hrd
        exact hrd
      have hle := Lib.hid (lineEnd_e (some ⟨b, o + 1, none⟩) r r.length (c - 1) w rfl hrd (by omega))
      have hcn : ¬ c = 1 := by omega
      have e : printB (d :: r) = !lineEnd r := by
        simp only [printB]
        rw [if_pos hB, show decide (0 < r.length) = true by simp; omega, Bool.true_and]
      rw [e]
      clear e hrd hr hcell hB hbl
      go_enter Tryd.func19, Tryd.ntmps19
      go_wp2_with ((with_reducible refine hbl2.out.mono ?_))
      first | (rintro _ w1 ⟨rfl, rfl⟩; go_wp2_with ((with_reducible refine hle.out.mono ?_))) | (with_reducible refine hle.out.mono ?_)
      first | (rintro _ w2 rfl hb2) | (rintro _ w2 ⟨rfl, hb2⟩)
      go_wp2
      go_ret
      exact ⟨rfl, hb2⟩
    · have h1' : ¬ (0 : Int) < (r.length : Int) := by omega
      have hr0 : r = [] := List.eq_nil_of_length_eq_zero (by omega)
      have e : printB (d :: r) = false := by
        simp only [printB]
        rw [if_pos hB, hr0]
        rfl
      rw [e]
      subst hr0
      clear e hr hcell hB hbl
      go_enter Tryd.func19, Tryd.ntmps19
      go_wp2_with ((with_reducible refine hbl2.out.mono ?_))
      first | (rintro _ w1 ⟨rfl, rfl⟩; go_wp2) | skip
      go_ret
      exact ⟨rfl, Below.refl _ _⟩
  · have hB' : blankB d = false := by simpa using hB
    have hbl2 := hbl.out
    rw [hB'] at hbl2
    replace hbl2 := Lib.hid hbl2
    have e : printB (d :: r) = (decide (33 ≤ d.toNat) && decide (d.toNat ≤ 126) && !(d == 61)) := by
      simp only [printB]
      rw [if_neg hB]
    rw [e]
    clear e hr hcell hB hB' hbl
    by_cases h1 : 33 ≤ d.toNat
    · have h1' : (33 : Int) ≤ (d.toNat : Int) := by omega
      by_cases h2 : d.toNat ≤ 126
      · have h2' : (d.toNat : Int) ≤ 126 := by omega
        by_cases h3 : d = 61
        · have h3' : ((d.toNat : Int) != 61) = false := by rw [h3]; rfl
          have e9 : (decide (33 ≤ d.toNat) && decide (d.toNat ≤ 126) && !(d == 61)) = false := by rw [h3]; rfl
          rw [e9]
          clear e9 h3
          go_enter Tryd.func19, Tryd.ntmps19
          go_wp2_with ((with_reducible refine hbl2.out.mono ?_))
          first | (rintro _ w1 ⟨rfl, rfl⟩; go_wp2) | skip
          go_ret
          exact ⟨rfl, Below.refl _ _⟩
        · have h3' : ((d.toNat : Int) == 61) = false := byte_ne d 61 (by decide) h3
          have h3'' : ((d.toNat : Int) != 61) = true := by simp [bne, h3']
          go_enter Tryd.func19, Tryd.ntmps19
          go_wp2_with ((with_reducible refine hbl2.out.mono ?_))
          first | (rintro _ w1 ⟨rfl, rfl⟩; go_wp2) | skip
          go_ret
          exact ⟨ret_bool (by simp [h1, h2, h3]), Below.refl _ _⟩
      · have h2' : ¬ (d.toNat : Int) ≤ 126 := by omega
        go_enter Tryd.func19, Tryd.ntmps19
        go_wp2_with ((with_reducible refine hbl2.out.mono ?_))
        first | (rintro _ w1 ⟨rfl, rfl⟩; go_wp2) | skip
        go_ret
        exact ⟨ret_bool (by simp), Below.refl _ _⟩
    · have h1' : ¬ (33 : Int) ≤ (d.toNat : Int) := by omega
      go_enter Tryd.func19, Tryd.ntmps19
      go_wp2_with ((with_reducible refine hbl2.out.mono ?_))
      first | (rintro _ w1 ⟨rfl, rfl⟩; go_wp2) | skip
      go_ret
      exact ⟨ret_bool (by simp), Below.refl _ _⟩
theorem printable_e (b o : Nat) (d : UInt8) (r : List UInt8) (n c : Nat) (w : World) (hn : r.length + 1 = n) (hr : Rd w (some ⟨b, o, none⟩) (d :: r)) (hc : n ≤ c) :
    Calls Tryd.prog 19 #[.slice (some ⟨b, o, none⟩) n c] w fun e w' => e = .returned (.bool (printB (d :: r))) ∧ Below w.heap.size w w' := by
  subst hn
  exact printable_s b o d r c w hr hc
end Go.Proofs.YtofgkahldhelaaaDoor
