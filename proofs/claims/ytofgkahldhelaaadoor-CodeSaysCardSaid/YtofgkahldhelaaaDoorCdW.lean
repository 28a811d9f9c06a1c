/- Base64 read as the reference reads it: letter by letter in a group. Plain mathematics. -/
import Derived.Test.YtofgkahldhelaaaDoorCdV
set_option linter.unusedVariables false
set_option linter.unusedSimpArgs false
namespace Go.Proofs.YtofgkahldhelaaaDoor
open Go.RowKit

/-- One letter of a group: the number so far, the pads so far. -/
def rStep (last : Bool) (k : Nat) (s : Nat × Nat) (c : UInt8) : Option (Nat × Nat) :=
  if c = 61 ∧ last = true ∧ 2 ≤ k then some (s.1 * 64, s.2 + 1) else
  match unlett c with
  | none => none
  | some x => if 0 < s.2 then none else some (s.1 * 64 + x, s.2)
def rRun (last : Bool) : Nat → Nat × Nat → List UInt8 → Option (Nat × Nat)
  | _, s, [] => some s
  | k, s, c :: r => match rStep last k s c with
    | none => none
    | some t => rRun last (k + 1) t r
def rFin (s : Nat × Nat) : Option (List UInt8) :=
  if (s.2 = 1 ∧ s.1 % 256 ≠ 0) ∨ (s.2 = 2 ∧ s.1 % 65536 ≠ 0) then none else some ([UInt8.ofNat (s.1 / 65536), UInt8.ofNat (s.1 / 256), UInt8.ofNat s.1].take (3 - s.2))
def gR (last : Bool) (g : List UInt8) : Option (List UInt8) := match rRun last 0 (0, 0) g with
  | none => none
  | some s => rFin s
theorem unlett_61 : unlett 61 = none := by decide
theorem trim3 (c0 c1 c2 c3 : UInt8) : trimEq [c0, c1, c2, c3] = if c3 = 61 then (if c2 = 61 then (if c1 = 61 then (if c0 = 61 then [] else [c0]) else [c0, c1]) else [c0, c1, c2]) else [c0, c1, c2, c3] := by
  by_cases h3 : c3 = 61
  · by_cases h2 : c2 = 61
    · by_cases h1 : c1 = 61
      · by_cases h0 : c0 = 61
        · simp [trimEq, h0, h1, h2, h3]
        · simp [trimEq, h0, h1, h2, h3]
      · simp [trimEq, h1, h2, h3]
    · simp [trimEq, h2, h3]
  · simp [trimEq, h3]
theorem mod32 (n a : Nat) (h : n < 16777216) : (n * 2 ^ 32 % 2 ^ 32 = 0) := Nat.mul_mod_left _ _
theorem mod24 (n : Nat) : (n * 16777216 % 4294967296 = 0) ↔ n % 256 = 0 := by omega
theorem mod16 (n : Nat) : (n * 65536 % 4294967296 = 0) ↔ n % 65536 = 0 := by omega
theorem ref_ung (last : Bool) (c0 c1 c2 c3 : UInt8) : gR last [c0, c1, c2, c3] = match ung [c0, c1, c2, c3] with
    | none => none
    | some t => if t.length < 3 ∧ last = false then none else some t := by
  unfold gR ung
  rw [trim3]
  simp only [rRun, rStep]
  by_cases h3 : c3 = 61
  · by_cases h2 : c2 = 61
    · by_cases h1 : c1 = 61
      · subst h1 h2 h3
        by_cases h0 : c0 = 61
        · subst h0
          simp [unlett_61]
        · cases h0' : unlett c0 <;> simp [unlett_61, h0]
      · subst h2 h3
        cases last with
        | false =>
          cases h0' : unlett c0 with
          | none => simp [unlett_61, h1, bits24, h0']
          | some x0 =>
            cases h1' : unlett c1 with
            | none => simp [unlett_61, h1, bits24, h0', h1']
            | some x1 =>
              simp [unlett_61, h1, bits24, h0', h1', mod16]
              by_cases hz : (x0 * 262144 + x1 * 4096) % 65536 = 0
              · simp [hz]
              · simp [hz]
        | true =>
          cases h0' : unlett c0 with
          | none => simp [unlett_61, h1, bits24, h0']
          | some x0 =>
            cases h1' : unlett c1 with
            | none => simp [unlett_61, h1, bits24, h0', h1']
            | some x1 =>
              have e : ((x0 * 64 + x1) * 64 * 64) = x0 * 262144 + x1 * 4096 := by omega
              simp [unlett_61, h1, bits24, h0', h1', rFin, mod16, e]
              by_cases hz : (x0 * 262144 + x1 * 4096) % 65536 = 0
              · simp [hz]
              · simp [hz]
    · subst h3
      cases last with
      | false =>
        cases h0' : unlett c0 with
        | none => simp [unlett_61, h2, bits24, h0']
        | some x0 =>
          cases h1' : unlett c1 with
          | none => simp [unlett_61, h2, bits24, h0', h1']
          | some x1 =>
            cases h2' : unlett c2 with
            | none => simp [unlett_61, h2, bits24, h0', h1', h2']
            | some x2 =>
              simp [unlett_61, h2, bits24, h0', h1', h2', mod24]
              by_cases hz : (x0 * 262144 + (x1 * 4096 + x2 * 64)) % 256 = 0
              · simp [hz]
              · simp [hz]
      | true =>
        cases h0' : unlett c0 with
        | none => simp [unlett_61, h2, bits24, h0']
        | some x0 =>
          cases h1' : unlett c1 with
          | none => simp [unlett_61, h2, bits24, h0', h1']
          | some x1 =>
            cases h2' : unlett c2 with
            | none => simp [unlett_61, h2, bits24, h0', h1', h2']
            | some x2 =>
              have e : (((x0 * 64 + x1) * 64 + x2) * 64) = x0 * 262144 + (x1 * 4096 + x2 * 64) := by omega
              simp [unlett_61, h2, bits24, h0', h1', h2', rFin, mod24, e]
              by_cases hz : (x0 * 262144 + (x1 * 4096 + x2 * 64)) % 256 = 0
              · simp [hz]
              · simp [hz]
  · cases h0' : unlett c0 with
    | none =>
      by_cases h0 : c0 = 61 <;> simp [h3, bits24, h0']
    | some x0 =>
      cases h1' : unlett c1 with
      | none => simp [h3, bits24, h0', h1']
      | some x1 =>
        by_cases h2 : c2 = 61
        · subst h2
          cases last <;> cases h3' : unlett c3 <;> simp [h3, bits24, h0', h1', unlett_61, h3']
        · cases h2' : unlett c2 with
          | none => simp [h2, h3, bits24, h0', h1', h2']
          | some x2 =>
            cases h3' : unlett c3 with
            | none => simp [h2, h3, bits24, h0', h1', h2', h3']
            | some x3 =>
              have e : (((x0 * 64 + x1) * 64 + x2) * 64 + x3) = x0 * 262144 + (x1 * 4096 + (x2 * 64 + x3)) := by omega
              simp [h2, h3, bits24, h0', h1', h2', h3', rFin, e]
theorem gB_step (c0 c1 c2 c3 : UInt8) (r : List UInt8) : gB (c0 :: c1 :: c2 :: c3 :: r) = match gR (decide (r = [])) [c0, c1, c2, c3] with
    | none => none
    | some t => (gB r).map (t ++ ·) := by
  rw [gB, ref_ung]
  cases ung [c0, c1, c2, c3] with
  | none => rfl
  | some t =>
    by_cases ht : t.length < 3 <;> by_cases hr : r = [] <;> simp [ht, hr]
theorem rRun_snoc (last : Bool) : ∀ (a : List UInt8) (k : Nat) (s : Nat × Nat) (c : UInt8), rRun last k s (a ++ [c]) = match rRun last k s a with
    | none => none
    | some t => rStep last (k + a.length) t c
  | [], k, s, c => by
    simp only [List.nil_append, rRun, List.length_nil, Nat.add_zero]
    cases rStep last k s c <;> rfl
  | d :: a, k, s, c => by
    simp only [List.cons_append, rRun]
    cases rStep last k s d with
    | none => rfl
    | some t =>
      simp only
      rw [rRun_snoc last a (k + 1) t c, List.length_cons, show k + 1 + a.length = k + (a.length + 1) by omega]
theorem rRun_none (last : Bool) : ∀ (a b : List UInt8) (k : Nat) (s : Nat × Nat), rRun last k s a = none → rRun last k s (a ++ b) = none
  | [], b, k, s, h => by simp [rRun] at h
  | d :: a, b, k, s, h => by
    simp only [List.cons_append, rRun] at h ⊢
    cases hd : rStep last k s d with
    | none => rfl
    | some t =>
      rw [hd] at h
      exact rRun_none last a b (k + 1) t h
theorem unlett_lt' (c : UInt8) (v : Nat) (h : unlett c = some v) : v < 64 := by
  unfold unlett unlettN at h
  have := c.toNat_lt
  split at h
  · simp at h; omega
  · split at h
    · simp at h; omega
    · split at h
      · simp at h; omega
      · split at h
        · simp at h; omega
        · split at h
          · simp at h; omega
          · simp at h
theorem rStep_lt (last : Bool) (k : Nat) (s t : Nat × Nat) (c : UInt8) (m : Nat) (hs : s.1 < m) (h : rStep last k s c = some t) : t.1 < m * 64 ∧ t.2 ≤ s.2 + 1 ∧ (k < 2 → t.2 = s.2) := by
  unfold rStep at h
  split at h
  · simp at h
    subst h
    exact ⟨by show s.1 * 64 < m * 64; omega, Nat.le_refl _, fun hk => by omega⟩
  · split at h
    · cases h
    · rename_i x hx
      split at h
      · cases h
      · simp at h
        subst h
        have := unlett_lt' c x hx
        exact ⟨by show s.1 * 64 + x < m * 64; omega, Nat.le_succ _, fun _ => rfl⟩
theorem rRun_lt (last : Bool) : ∀ (a : List UInt8) (k : Nat) (s t : Nat × Nat) (m : Nat), s.1 < m → rRun last k s a = some t → t.1 < m * 64 ^ a.length ∧ t.2 ≤ s.2 + a.length
  | [], k, s, t, m, hs, h => by
    simp [rRun] at h
    subst h
    exact ⟨by simpa using hs, Nat.le_refl _⟩
  | c :: a, k, s, t, m, hs, h => by
    simp only [rRun] at h
    cases hd : rStep last k s c with
    | none => rw [hd] at h; cases h
    | some u =>
      rw [hd] at h
      have h1 := rStep_lt last k s u c m hs hd
      have h2 := rRun_lt last a (k + 1) u t (m * 64) h1.1 h
      rw [List.length_cons, Nat.pow_succ]
      refine ⟨?_, by omega⟩
      rw [Nat.mul_comm (64 ^ a.length) 64, ← Nat.mul_assoc]
      exact h2.1
/-- The state of a group's reading: bounds. -/
theorem rRun_bound (last : Bool) (g : List UInt8) (j x p : Nat) (hj : j ≤ 4) (hg : g.length = 4) (h : rRun last 0 (0, 0) (g.take j) = some (x, p)) : x < 16777216 ∧ (j ≤ 3 → x < 262144) ∧ p ≤ 4 := by
  have h1 := rRun_lt last (g.take j) 0 (0, 0) (x, p) 1 (by decide) h
  rw [List.length_take, hg, Nat.min_eq_left hj, Nat.one_mul] at h1
  have e4 : (64 : Nat) ^ 4 = 16777216 := by decide
  have e3 : (64 : Nat) ^ 3 = 262144 := by decide
  have h4 : (64 : Nat) ^ j ≤ 64 ^ 4 := Nat.pow_le_pow_right (by decide) hj
  have hx : x < 64 ^ j := h1.1
  refine ⟨by omega, fun h3 => ?_, by have : p ≤ 0 + j := h1.2; omega⟩
  have h5 : (64 : Nat) ^ j ≤ 64 ^ 3 := Nat.pow_le_pow_right (by decide) h3
  omega
/-- Pads come only at the end. -/
theorem rRun_pads (last : Bool) (c0 c1 c2 c3 : UInt8) (x p : Nat) (h : rRun last 0 (0, 0) [c0, c1, c2, c3] = some (x, p)) : p ≤ 2 := by
  simp only [rRun] at h
  cases h0 : rStep last 0 (0, 0) c0 with
  | none => rw [h0] at h; cases h
  | some s0 =>
    rw [h0] at h
    simp only at h
    have b0 := (rStep_lt last 0 (0, 0) s0 c0 1 (by decide) h0).2.2 (by decide)
    cases h1 : rStep last (0 + 1) s0 c1 with
    | none => rw [h1] at h; cases h
    | some s1 =>
      rw [h1] at h
      simp only at h
      have b1 := (rStep_lt last (0 + 1) s0 s1 c1 (s0.1 + 1) (by omega) h1).2.2 (by decide)
      cases h2 : rStep last (0 + 1 + 1) s1 c2 with
      | none => rw [h2] at h; cases h
      | some s2 =>
        rw [h2] at h
        simp only at h
        have b2 := (rStep_lt last _ s1 s2 c2 (s1.1 + 1) (by omega) h2).2.1
        cases h3 : rStep last (0 + 1 + 1 + 1) s2 c3 with
        | none => rw [h3] at h; cases h
        | some s3 =>
          rw [h3] at h
          simp at h
          have b3 := (rStep_lt last _ s2 s3 c3 (s2.1 + 1) (by omega) h3).2.1
          rw [h] at b3
          have b0' : s0.2 = 0 := b0
          have b3' : p ≤ s2.2 + 1 := b3
          omega
/-- What the sixty-four letters say of a letter. -/
def cV (c : UInt8) : Nat := match unlett c with
  | some x => x
  | none => 64
theorem cV_lett (q : Nat) (c : UInt8) (hq : q < 64) : lett q = c ↔ cV c = q := by
  constructor
  · intro h
    subst h
    rw [cV, unlett_lett hq]
  · intro h
    have key : ∀ n : Fin 256, cV (UInt8.ofNat n.val) < 64 → lett (cV (UInt8.ofNat n.val)) = UInt8.ofNat n.val := by decide +kernel
    have hc := key ⟨c.toNat, c.toNat_lt⟩
    have e : UInt8.ofNat c.toNat = c := by simp
    simp only [e] at hc
    rw [← h]
    exact hc (by rw [h]; exact hq)
theorem cV_le (c : UInt8) : cV c ≤ 64 := by
  unfold cV
  split
  · rename_i x h
    exact Nat.le_of_lt (unlett_lt' c x h)
  · exact Nat.le_refl _
theorem rStep_pad (last : Bool) (k x p : Nat) (c : UInt8) (h1 : c = 61) (h2 : last = true) (h3 : 2 ≤ k) : rStep last k (x, p) c = some (x * 64, p + 1) := by
  unfold rStep
  rw [if_pos ⟨h1, h2, h3⟩]
theorem rStep_bad (last : Bool) (k x p : Nat) (c : UInt8) (h : ¬ (c = 61 ∧ last = true ∧ 2 ≤ k)) (hv : cV c = 64 ∨ 0 < p) : rStep last k (x, p) c = none := by
  unfold rStep
  rw [if_neg h]
  unfold cV at hv
  cases hu : unlett c with
  | none => rfl
  | some v =>
    rw [hu] at hv
    have := unlett_lt' c v hu
    simp only at hv ⊢
    rw [if_pos (by omega)]
theorem rStep_ok (last : Bool) (k x : Nat) (c : UInt8) (h : ¬ (c = 61 ∧ last = true ∧ 2 ≤ k)) (hv : cV c < 64) : rStep last k (x, 0) c = some (x * 64 + cV c, 0) := by
  unfold rStep
  rw [if_neg h]
  unfold cV at hv ⊢
  cases hu : unlett c with
  | none => rw [hu] at hv; simp at hv
  | some v => simp
theorem gB_mod : ∀ (n : Nat) (l : List UInt8), l.length ≤ n → ¬ l.length % 4 = 0 → gB l = none
  | _, [], _, h => absurd rfl h
  | _, [_], _, _ => by simp [gB]
  | _, [_, _], _, _ => by simp [gB]
  | _, [_, _, _], _, _ => by simp [gB]
  | 0, _ :: _ :: _ :: _ :: _, hn, _ => by simp at hn
  | n + 1, a :: b :: c :: d :: r, hn, h => by
    have ih := gB_mod n r (by simp at hn; omega) (by simp at h; omega)
    rw [gB_step, ih]
    cases gR (decide (r = [])) [a, b, c, d] <;> rfl
end Go.Proofs.YtofgkahldhelaaaDoor
