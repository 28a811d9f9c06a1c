/- The shift register of chapter 3, as a function on numbers: its linearity; a burst is never lost. Plain mathematics. -/
import Derived.Test.YtjhmdgcfdelbkaaDoorPl
set_option linter.unusedVariables false
namespace Go.Proofs.YtjhmdgcfdelbkaaDoor

def bstep (n : Nat) : Nat := if n % 2 = 1 then n / 2 ^^^ 3988292384 else n / 2
def step4 (n : Nat) : Nat := bstep (bstep (bstep (bstep n)))
def tabN : List Nat := [0, 498536548, 997073096, 651767980, 1994146192, 1802195444, 1303535960, 1342533948, 3988292384, 4027552580, 3604390888, 3412177804, 2607071920, 2262029012, 2685067896, 3183342108]
def addN (x c : Nat) : Nat := step4 (step4 (x ^^^ c))
def crcGo (x : Nat) (l : List UInt8) : Nat := l.foldl (fun x c => addN x c.toNat) x
def notN (x : Nat) : Nat := x ^^^ 4294967295
def crcAdd (sum : Nat) (l : List UInt8) : Nat := notN (crcGo (notN sum) l)

theorem bstep_xor (x y : Nat) : bstep (x ^^^ y) = bstep x ^^^ bstep y := by
  unfold bstep
  have h := @Nat.xor_mod_two_eq_one x y
  rw [Nat.xor_div_two]
  by_cases hx : x % 2 = 1 <;> by_cases hy : y % 2 = 1
  · rw [if_neg (by rw [h]; simp [hx, hy]), if_pos hx, if_pos hy]
    rw [show x / 2 ^^^ 3988292384 ^^^ (y / 2 ^^^ 3988292384) = (x / 2 ^^^ y / 2) ^^^ (3988292384 ^^^ 3988292384) by ac_rfl, Nat.xor_self, Nat.xor_zero]
  · rw [if_pos (by rw [h]; simp [hx, hy]), if_pos hx, if_neg hy]; ac_rfl
  · rw [if_pos (by rw [h]; simp [hx, hy]), if_neg hx, if_pos hy]; ac_rfl
  · rw [if_neg (by rw [h]; simp [hx, hy]), if_neg hx, if_neg hy]
theorem bstep_double (q : Nat) : bstep (2 * q) = q := by unfold bstep; rw [if_neg (by omega)]; omega
theorem bstep_zero : bstep 0 = 0 := rfl
theorem bstep_lt (n : Nat) (h : n < 4294967296) : bstep n < 4294967296 := by
  unfold bstep
  split
  · exact Nat.xor_lt_two_pow (n := 32) (by omega) (by decide)
  · omega
theorem bstep_ne (n : Nat) (h : n < 4294967296) (h0 : n ≠ 0) : bstep n ≠ 0 := by
  unfold bstep
  split
  · intro e
    have e2 : n / 2 = 3988292384 := by
      have := congrArg (· ^^^ 3988292384) e
      simp only [Nat.xor_assoc, Nat.xor_self, Nat.xor_zero, Nat.zero_xor] at this
      exact this
    omega
  · omega
def bsteps : Nat → Nat → Nat
  | 0, n => n
  | k + 1, n => bsteps k (bstep n)
theorem bsteps_add (a b n : Nat) : bsteps (a + b) n = bsteps b (bsteps a n) := by
  induction a generalizing n with
  | zero => rw [Nat.zero_add]; rfl
  | succ a ih => rw [Nat.succ_add]; exact ih (bstep n)
theorem bsteps_xor (k x y : Nat) : bsteps k (x ^^^ y) = bsteps k x ^^^ bsteps k y := by
  induction k generalizing x y with
  | zero => rfl
  | succ k ih => simp only [bsteps]; rw [bstep_xor, ih]
theorem bsteps_pow (k q : Nat) : bsteps k (2 ^ k * q) = q := by
  induction k generalizing q with
  | zero => simp [bsteps]
  | succ k ih =>
    simp only [bsteps]
    rw [show 2 ^ (k + 1) * q = 2 * (2 ^ k * q) by rw [Nat.pow_succ]; ac_rfl, bstep_double, ih]
theorem bsteps_lt (k n : Nat) (h : n < 4294967296) : bsteps k n < 4294967296 := by
  induction k generalizing n with
  | zero => exact h
  | succ k ih => exact ih _ (bstep_lt n h)
theorem bsteps_ne (k n : Nat) (h : n < 4294967296) (h0 : n ≠ 0) : bsteps k n ≠ 0 := by
  induction k generalizing n with
  | zero => exact h0
  | succ k ih => exact ih _ (bstep_lt n h) (bstep_ne n h h0)
theorem step4_eq (n : Nat) : step4 n = bsteps 4 n := rfl
theorem addN_eq (x c : Nat) : addN x c = bsteps 8 (x ^^^ c) := rfl
theorem addN_lt (x c : Nat) (hx : x < 4294967296) (hc : c < 256) : addN x c < 4294967296 := by
  rw [addN_eq]; exact bsteps_lt _ _ (Nat.xor_lt_two_pow (n := 32) hx (by omega))
/-- A number is its upper bits put over its lower ones. -/
theorem split_xor (k n : Nat) : n = 2 ^ k * (n / 2 ^ k) ^^^ n % 2 ^ k := by
  apply Nat.eq_of_testBit_eq
  intro i
  rw [Nat.testBit_xor, Nat.testBit_two_pow_mul, Nat.testBit_mod_two_pow, Nat.testBit_div_two_pow]
  by_cases h : i < k
  · have h2 : ¬ k ≤ i := by omega
    simp [h, h2]
  · have h2 : k ≤ i := by omega
    simp [h, h2, Nat.sub_add_cancel h2]
theorem nib (n : Nat) : n / 16 ^^^ tabN.getD (n % 16) 0 = step4 n := by
  rw [step4_eq]
  conv => rhs; rw [split_xor 4 n]
  rw [bsteps_xor, bsteps_pow]
  have h : ∀ r, r < 16 → tabN.getD r 0 = bsteps 4 r := by decide
  rw [h _ (Nat.mod_lt _ (by decide))]
theorem crcGo_lt (l : List UInt8) (x : Nat) (hx : x < 4294967296) : crcGo x l < 4294967296 := by
  induction l generalizing x with
  | nil => exact hx
  | cons c l ih => exact ih _ (addN_lt x _ hx (by have := c.toNat_lt; omega))
theorem crcGo_append (x : Nat) (a b : List UInt8) : crcGo x (a ++ b) = crcGo (crcGo x a) b := by simp [crcGo]
theorem crcGo_snoc (x : Nat) (a : List UInt8) (c : UInt8) : crcGo x (a ++ [c]) = addN (crcGo x a) c.toNat := by simp [crcGo]
theorem notN_lt (x : Nat) (h : x < 4294967296) : notN x < 4294967296 := Nat.xor_lt_two_pow (n := 32) h (by decide)
theorem notN_not (x : Nat) : notN (notN x) = x := by unfold notN; rw [Nat.xor_assoc, Nat.xor_self, Nat.xor_zero]
theorem crcAdd_lt (s : Nat) (l : List UInt8) (h : s < 4294967296) : crcAdd s l < 4294967296 := notN_lt _ (crcGo_lt _ _ (notN_lt _ h))
theorem crcAdd_append (s : Nat) (a b : List UInt8) : crcAdd (crcAdd s a) b = crcAdd s (a ++ b) := by unfold crcAdd; rw [notN_not, crcGo_append]
theorem crcAdd_nil (s : Nat) : crcAdd s [] = s := by unfold crcAdd; exact notN_not s
def crcOf (ls : List (List UInt8)) : Nat := ls.foldl crcAdd 0
theorem crcGo_xor : ∀ (a b : List UInt8) (x y : Nat), a.length = b.length → crcGo (x ^^^ y) (List.zipWith (· ^^^ ·) a b) = crcGo x a ^^^ crcGo y b
  | [], [], x, y, _ => rfl
  | c :: a, d :: b, x, y, h => by
    have e : addN (x ^^^ y) (c ^^^ d).toNat = addN x c.toNat ^^^ addN y d.toNat := by
      rw [addN_eq, addN_eq, addN_eq, UInt8.toNat_xor, ← bsteps_xor]
      congr 1
      ac_rfl
    show crcGo (addN (x ^^^ y) (c ^^^ d).toNat) (List.zipWith (· ^^^ ·) a b) = crcGo (addN x c.toNat) a ^^^ crcGo (addN y d.toNat) b
    rw [e]
    exact crcGo_xor a b _ _ (by simpa using h)
/-- The n lowest bytes of a number, the lowest first. -/
def bytesN : Nat → Nat → List UInt8
  | 0, _ => []
  | n + 1, e => UInt8.ofNat (e % 256) :: bytesN n (e / 256)
theorem bytesN_len (n e : Nat) : (bytesN n e).length = n := by
  induction n generalizing e with
  | zero => rfl
  | succ n ih => simp [bytesN, ih]
theorem bytesN_get (n e i : Nat) (h : i < n) (h' : i < (bytesN n e).length) : (bytesN n e)[i].toNat = e / 256 ^ i % 256 := by
  induction n generalizing e i with
  | zero => omega
  | succ n ih =>
    cases i with
    | zero => simp [bytesN]
    | succ i =>
      have := ih (e / 256) i (by omega) (by rw [bytesN_len]; omega)
      simp only [bytesN, List.getElem_cons_succ]
      rw [this, Nat.div_div_eq_div_mul, Nat.pow_succ, Nat.mul_comm 256]
theorem crc_bytes (n e x : Nat) (h : e < 256 ^ n) : crcGo x (bytesN n e) = bsteps (8 * n) (x ^^^ e) := by
  induction n generalizing e x with
  | zero =>
    have : e = 0 := by simpa using h
    subst this
    simp [bytesN, crcGo, bsteps]
  | succ n ih =>
    have e1 : (UInt8.ofNat (e % 256)).toNat = e % 256 := by simp
    show crcGo (addN x (UInt8.ofNat (e % 256)).toNat) (bytesN n (e / 256)) = _
    rw [e1, ih _ _ (by rw [Nat.pow_succ] at h; exact Nat.div_lt_of_lt_mul (by rw [Nat.mul_comm]; exact h)), addN_eq, show 8 * (n + 1) = 8 + 8 * n by omega, bsteps_add]
    congr 1
    conv => rhs; rw [split_xor 8 e]
    rw [show x ^^^ (2 ^ 8 * (e / 2 ^ 8) ^^^ e % 2 ^ 8) = (x ^^^ e % 256) ^^^ 2 ^ 8 * (e / 2 ^ 8) by rw [Nat.xor_assoc, Nat.xor_comm (e % 256)], bsteps_xor 8 (x ^^^ e % 256), bsteps_pow]
/-- A burst: up to 32 bits, not all 0, put over the bytes from bit f on: another sum. -/
theorem burst (n f bits : Nat) (hb : bits < 4294967296) (h0 : bits ≠ 0) (hf : f + 32 ≤ 8 * n) : crcGo 0 (bytesN n (bits * 2 ^ f)) ≠ 0 := by
  have hlt : bits * 2 ^ f < 256 ^ n := by
    have h1 : bits * 2 ^ f < 2 ^ 32 * 2 ^ f := Nat.mul_lt_mul_of_pos_right hb (Nat.pow_pos (by decide))
    have h2 : 2 ^ 32 * 2 ^ f ≤ 2 ^ (8 * n) := by rw [← Nat.pow_add]; exact Nat.pow_le_pow_right (by decide) (by omega)
    have h3 : (256 : Nat) ^ n = 2 ^ (8 * n) := by rw [Nat.pow_mul]
    omega
  rw [crc_bytes n _ 0 hlt, Nat.zero_xor, show 8 * n = f + (8 * n - f) by omega, bsteps_add, Nat.mul_comm bits, bsteps_pow]
  exact bsteps_ne _ _ hb h0
end Go.Proofs.YtjhmdgcfdelbkaaDoor
