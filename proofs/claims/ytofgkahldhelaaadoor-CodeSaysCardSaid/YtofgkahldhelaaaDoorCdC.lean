/- Base64: four letters read. -/
import Derived.Test.YtofgkahldhelaaaDoorCdB
set_option linter.unusedVariables false
namespace Go.Proofs.YtofgkahldhelaaaDoor
open Go.RowKit

theorem trimEq_nil : trimEq [] = [] := rfl
theorem trimEq_take_eq (l : List UInt8) (n : Nat) (hn : n < l.length) (h : l[n] = 61) : trimEq (l.take (n + 1)) = trimEq (l.take n) := by
  rw [List.take_succ_eq_append_getElem hn, h, trimEq_eq]
theorem trimEq_take_ne (l : List UInt8) (n : Nat) (hn : n < l.length) (h : ¬ l[n] = 61) : trimEq (l.take (n + 1)) = l.take (n + 1) := by
  rw [List.take_succ_eq_append_getElem hn]
  exact trimEq_keep _ _ (by simpa using h)

set_option maxHeartbeats 1000000 in
theorem trim_byte (A : Option Addr) (l : List UInt8) (c : Nat) (w : World) (hr : Rd w A l) (hl : l.length ≤ 1000000) (hc : l.length ≤ c) :
    Calls Tryd.prog 30 #[.slice A l.length c, .int .u8 61] w fun e w' => e = .returned (.slice A (trimEq l).length c) ∧ trimEq l = l.take (trimEq l).length ∧ w = w' := by
  go_enter Tryd.func30, Tryd.ntmps30
  go_wp2
  go_loop [0] (fun v => ∃ n : Nat, n ≤ l.length ∧ v = .slice A n c ∧ Hid (trimEq (l.take n) = trimEq l)) (fun v => match v with | .slice _ n _ => n | _ => 0)
  case atStart => exact ⟨l.length, Nat.le_refl _, rfl, by show _ = _; rw [List.take_length]⟩
  case round =>
    obtain ⟨n, hn, rfl, HT⟩ := hrel
    by_cases hp : 0 < n
    · obtain ⟨m, rfl⟩ : ∃ m, n = m + 1 := ⟨n - 1, by omega⟩
      obtain ⟨b, o, rfl, hb, hcell⟩ := hr (by omega)
      have hcc := hcell m (by omega)
      have hp' : (0 : Int) < ((m : Nat) : Int) + 1 := by omega
      have hmc : (m : Int) < (c : Int) := by omega
      by_cases h61 : l[m] = 61
      · have h61' : ((l[m].toNat : Int) == 61) = true := by rw [h61]; rfl
        rw [h61] at hcc
        have hT := trimEq_take_eq l m (by omega) h61
        have HT2 := HT.out
        rw [hT] at HT2
        have HT3 := Lib.hid HT2
        clear HT2 hT
        go_wp2
        go_round
        case rel => exact ⟨m, by omega, rfl, HT3.out⟩
        case measure => simp
      · have hz : ((l[m].toNat : Int) == 61) = false := by
          rw [beq_eq_false_iff_ne]
          intro e
          exact h61 (UInt8.toNat_inj.1 (by simp; omega))
        have hT := trimEq_take_ne l m (by omega) h61
        have HT2 := HT.out
        rw [hT] at HT2
        have HT3 := Lib.hid HT2
        clear HT2 hT
        go_wp2
        go_ret
        refine ⟨?_, ?_, rfl⟩
        · rw [← HT3.out, List.length_take, Nat.min_eq_left (by omega)]
          rfl
        · rw [← HT3.out, List.length_take, Nat.min_eq_left (by omega)]
    · obtain rfl : n = 0 := by omega
      have HT2 := HT.out
      rw [List.take_zero, trimEq_nil] at HT2
      have HT3 := Lib.hid HT2
      clear HT2
      go_wp2
      go_ret
      exact ⟨by rw [← HT3.out]; rfl, by rw [← HT3.out]; rfl, rfl⟩
set_option maxRecDepth 100000 in
set_option maxHeartbeats 1000000 in
theorem trim_e (A : Option Addr) (l : List UInt8) (n c : Nat) (w : World) (hn : l.length = n) (hr : Rd w A l) (hl : l.length ≤ 1000000) (hc : l.length ≤ c) :
    Calls Tryd.prog 27 #[.slice A n c, .string ⟨#[61]⟩] w fun e w' => ∃ t : Nat, e = .returned (.slice A t c) ∧ Hid (t = (trimEq l).length) ∧ Hid (trimEq l = l.take t) ∧ w = w' := by
  subst hn
  have hb := trim_byte A l c w hr hl hc
  by_cases hp : l.length = 0
  · have e : l = [] := List.eq_nil_of_length_eq_zero hp
    subst e
    go_enter Tryd.func27, Tryd.ntmps27
    go_wp2
    go_ret
    exact ⟨0, rfl, rfl, rfl, rfl⟩
  · have hp' : ((l.length : Int) == 0) = false := by rw [beq_eq_false_iff_ne]; omega
    replace hb := Lib.hid hb
    go_enter Tryd.func27, Tryd.ntmps27
    go_wp2_with ((refine Calls.mono (f := 30) hb.out ?_))
    rintro _ w1 ⟨rfl, ht, rfl⟩
    replace ht := Lib.hid ht
    go_wp2
    go_ret
    exact ⟨_, rfl, rfl, ht.out, rfl⟩

/-! ### ungroup -/
theorem bits24_snoc (a : List UInt8) (c : UInt8) (i : Nat) : bits24 i (a ++ [c]) = match bits24 i a, unlett c with
    | some x, some v => some (x + v * 2 ^ (18 - 6 * (i + a.length)))
    | _, _ => none := by
  induction a generalizing i with
  | nil =>
    simp only [List.nil_append, bits24, List.length_nil, Nat.add_zero]
    cases unlett c <;> simp
  | cons d a ih =>
    simp only [List.cons_append, bits24, ih (i + 1), List.length_cons]
    cases unlett d with
    | none => simp
    | some y =>
      cases bits24 (i + 1) a with
      | none => simp
      | some x =>
        cases unlett c with
        | none => simp
        | some v =>
          simp
          rw [show i + 1 + a.length = i + (a.length + 1) by omega]
          omega
theorem bits24_none (a b : List UInt8) (i : Nat) (h : bits24 i a = none) : bits24 i (a ++ b) = none := by
  induction a generalizing i with
  | nil => simp [bits24] at h
  | cons d a ih =>
    simp only [bits24] at h
    simp only [List.cons_append, bits24]
    cases hd : unlett d with
    | none => simp
    | some y =>
      rw [hd] at h
      cases hx : bits24 (i + 1) a with
      | none => rw [ih (i + 1) hx]
      | some x => rw [hx] at h; simp at h
theorem unlett_lt (c : UInt8) (v : Nat) (h : unlett c = some v) : v < 64 := by
  unfold unlett unlettN at h
  split at h <;> (try split at h) <;> (try split at h) <;> (try split at h) <;> (try split at h) <;> simp at h <;> omega
theorem idx_letters (c : UInt8) : Lib.indexByte lettersA.data.toList ((c.toNat : Int)).toNat.toUInt8 = match unlett c with | some v => (v : Int) | none => -1 := by
  have key : ∀ n : Fin 256, Lib.indexByte lettersA.data.toList (UInt8.ofNat n.val) = match unlett (UInt8.ofNat n.val) with | some v => (v : Int) | none => -1 := by decide +kernel
  have h := key ⟨c.toNat, c.toNat_lt⟩
  have e : UInt8.ofNat c.toNat = c := by simp
  simp only [e] at h
  have e2 : ((c.toNat : Int)).toNat.toUInt8 = c := by simp
  rw [e2]
  exact h
theorem index_some (c : UInt8) (v : Nat) (hu : unlett c = some v) (w : World) : Calls Tryd.prog 28 #[.string lettersA, .int .u8 (c.toNat : Int)] w fun e w' => e = .returned (.int .i64 (v : Int)) ∧ w = w' := by
  refine (Tryd.strings_IndexByte lettersA (c.toNat : Int) w).mono ?_
  rintro e w' ⟨rfl, rfl⟩
  refine ⟨?_, rfl⟩
  have := idx_letters c
  rw [hu] at this
  rw [this]
theorem index_none (c : UInt8) (hu : unlett c = none) (w : World) : Calls Tryd.prog 28 #[.string lettersA, .int .u8 (c.toNat : Int)] w fun e w' => e = .returned (.int .i64 (-1)) ∧ w = w' := by
  refine (Tryd.strings_IndexByte lettersA (c.toNat : Int) w).mono ?_
  rintro e w' ⟨rfl, rfl⟩
  refine ⟨?_, rfl⟩
  have := idx_letters c
  rw [hu] at this
  rw [this]
/-- The bits of what is trimmed, up to k letters. -/
def pk (l : List UInt8) (k : Nat) : Option Nat := bits24 0 (l.take k)
theorem pk_step (l : List UInt8) (k : Nat) (hk : k < l.length) : pk l (k + 1) = match pk l k, unlett l[k] with
    | some x, some v => some (x + v * 2 ^ (18 - 6 * k))
    | _, _ => none := by
  unfold pk
  rw [List.take_succ_eq_append_getElem hk, bits24_snoc, List.length_take, Nat.min_eq_left (by omega), Nat.zero_add]
theorem pk_mod (l : List UInt8) : ∀ k x, k ≤ 4 → k ≤ l.length → pk l k = some x → x % 2 ^ (24 - 6 * k) = 0 ∧ x < 16777216
  | 0, x, _, _, h => by simp [pk, bits24] at h; subst h; exact ⟨by simp, by omega⟩
  | k + 1, x, hk, hl, h => by
    rw [pk_step l k (by omega)] at h
    cases hp : pk l k with
    | none => rw [hp] at h; simp at h
    | some y =>
      cases hu : unlett l[k] with
      | none => rw [hp, hu] at h; simp at h
      | some v =>
        rw [hp, hu] at h
        simp at h
        have hv := unlett_lt _ _ hu
        obtain ⟨h1, h2⟩ := pk_mod l k y (by omega) (by omega) hp
        subst h
        rcases (by omega : k = 0 ∨ k = 1 ∨ k = 2 ∨ k = 3) with rfl | rfl | rfl | rfl <;> simp at h1 ⊢ <;> omega
end Go.Proofs.YtofgkahldhelaaaDoor
