/- One bit turned: another sum, another number. Plain mathematics. -/
import Derived.Test.YtjhmdgcfdelbkaaDoorRecC
set_option linter.unusedVariables false
namespace Go.Proofs.YtjhmdgcfdelbkaaDoor.turn
open Go.RowKit

theorem bytesN_bit (n e i k : Nat) (h : i < n) (h' : i < (bytesN n e).length) : (bytesN n e)[i].toNat.testBit k = (decide (k < 8) && e.testBit (k + 8 * i)) := by
  rw [bytesN_get n e i h h', show (256 : Nat) = 2 ^ 8 by decide, ← Nat.pow_mul, Nat.testBit_mod_two_pow, Nat.testBit_div_two_pow]
theorem flip_step (l : List UInt8) (e j t : Nat) (hj : j < l.length) (ht : t < 8) (h' : j < (List.zipWith (· ^^^ ·) l (bytesN l.length e)).length) :
    List.zipWith (· ^^^ ·) l (bytesN l.length (e ^^^ 2 ^ (8 * j + t))) = (List.zipWith (· ^^^ ·) l (bytesN l.length e)).set j ((List.zipWith (· ^^^ ·) l (bytesN l.length e))[j] ^^^ UInt8.ofNat (2 ^ t)) := by
  apply List.ext_getElem
  · simp [bytesN_len]
  · intro i h1 h2
    have hi : i < l.length := by simpa [bytesN_len] using h1
    rw [List.getElem_set, List.getElem_zipWith]
    apply UInt8.toNat_inj.1
    apply Nat.eq_of_testBit_eq
    intro k
    have hofs : (UInt8.ofNat (2 ^ t)).toNat = 2 ^ t := by
      have : 2 ^ t < 256 := by
        have := Nat.pow_lt_pow_right (a := 2) (by decide) ht
        simpa using this
      simp [Nat.mod_eq_of_lt this]
    by_cases hji : j = i
    · subst hji
      rw [if_pos rfl, List.getElem_zipWith, UInt8.toNat_xor, UInt8.toNat_xor, UInt8.toNat_xor, Nat.testBit_xor, Nat.testBit_xor, Nat.testBit_xor, bytesN_bit _ _ _ _ hi, bytesN_bit _ _ _ _ hi, Nat.testBit_xor, hofs, Nat.testBit_two_pow, Nat.testBit_two_pow]
      by_cases hk : k < 8
      · have e1 : decide (8 * j + t = k + 8 * j) = decide (t = k) := by congr 1; exact propext ⟨by omega, by omega⟩
        rw [e1]
        simp [hk]
      · have e1 : decide (t = k) = false := by simp; omega
        rw [e1]
        simp [hk]
    · rw [if_neg hji, List.getElem_zipWith, UInt8.toNat_xor, UInt8.toNat_xor, Nat.testBit_xor, Nat.testBit_xor, bytesN_bit _ _ _ _ hi, bytesN_bit _ _ _ _ hi, Nat.testBit_xor, Nat.testBit_two_pow]
      by_cases hk : k < 8
      · have e1 : decide (8 * j + t = k + 8 * i) = false := by simp; omega
        rw [e1]; simp
      · simp [hk]
theorem flip_none (l : List UInt8) : List.zipWith (· ^^^ ·) l (bytesN l.length 0) = l := by
  apply List.ext_getElem
  · simp [bytesN_len]
  · intro i h1 h2
    rw [List.getElem_zipWith]
    apply UInt8.toNat_inj.1
    rw [UInt8.toNat_xor, bytesN_get _ _ _ h2, Nat.zero_div]
    simp

theorem crc_one (l : List UInt8) (f : Nat) (hf : f < 8 * l.length) : crcAdd 0 (List.zipWith (· ^^^ ·) l (bytesN l.length (2 ^ f))) ≠ crcAdd 0 l := by
  have hlt : 2 ^ f < 256 ^ l.length := by
    rw [show (256 : Nat) = 2 ^ 8 by decide, ← Nat.pow_mul]
    exact Nat.pow_lt_pow_right (by decide) hf
  have h1 := crc_bytes l.length (2 ^ f) 0 hlt
  rw [Nat.zero_xor, show 8 * l.length = f + (8 * l.length - f) by omega, bsteps_add, show 2 ^ f = 2 ^ f * 1 by rw [Nat.mul_one], bsteps_pow] at h1
  have hne : bsteps (8 * l.length - f) 1 ≠ 0 := bsteps_ne _ _ (by decide) (by decide)
  rw [Nat.mul_one] at h1
  have hx := crcGo_xor l (bytesN l.length (2 ^ f)) (notN 0) 0 (by rw [bytesN_len])
  rw [Nat.xor_zero, h1] at hx
  intro he
  have he := congrArg notN he
  unfold crcAdd at he
  rw [notN_not, notN_not, hx] at he
  apply hne
  have := congrArg (crcGo (notN 0) l ^^^ ·) he
  simpa [← Nat.xor_assoc] using this
/-- One bit of one byte turned: another sum. -/
theorem crc_turned (l : List UInt8) (j t : Nat) (hj : j < l.length) (ht : t < 8) : crcAdd 0 (l.set j (l[j] ^^^ UInt8.ofNat (2 ^ t))) ≠ crcAdd 0 l := by
  have h := flip_step l 0 j t hj ht (by simp [bytesN_len, hj])
  rw [Nat.zero_xor] at h
  have e : ∀ (z : List UInt8) (hz : z = l) (h' : j < z.length), z.set j (z[j] ^^^ UInt8.ofNat (2 ^ t)) = l.set j (l[j] ^^^ UInt8.ofNat (2 ^ t)) := by
    intro z hz h'
    subst hz
    rfl
  rw [e _ (flip_none l)] at h
  rw [← h]
  exact crc_one l _ (by omega)
theorem bit_ne (c : UInt8) (t : Nat) (ht : t < 8) : c ^^^ UInt8.ofNat (2 ^ t) ≠ c := by
  intro h
  have h := congrArg (fun x => (c ^^^ x).toNat) h
  simp only [← UInt8.xor_assoc, UInt8.xor_self, UInt8.zero_xor] at h
  have : 2 ^ t < 256 := by
    have := Nat.pow_lt_pow_right (a := 2) (by decide) ht
    simpa using this
  rw [UInt8.toNat_ofNat', Nat.mod_eq_of_lt this] at h
  have h2 : 0 < 2 ^ t := Nat.pow_pos (by decide)
  simp at h
/-- Bytes of one number are the same where they are as many. -/
theorem beN_inj : ∀ (n : Nat) (a b : List UInt8), a.length = n → b.length = n → beN a = beN b → a = b := by
  intro n
  induction n with
  | zero => intro a b ha hb _; rw [List.eq_nil_of_length_eq_zero ha, List.eq_nil_of_length_eq_zero hb]
  | succ n ih =>
    intro a b ha hb h
    have split : ∀ l : List UInt8, l.length = n + 1 → ∃ x c, l = x ++ [c] ∧ x.length = n := by
      intro l hl
      rcases List.eq_nil_or_concat l with h0 | ⟨x, c, h0⟩
      · subst h0; simp at hl
      · exact ⟨x, c, by simpa using h0, by subst h0; simpa using hl⟩
    obtain ⟨x, c, rfl, hx⟩ := split a ha
    obtain ⟨y, d, rfl, hy⟩ := split b hb
    rw [beN_snoc, beN_snoc] at h
    have hc := c.toNat_lt
    have hd := d.toNat_lt
    have e1 : beN x = beN y := by omega
    have e2 : c = d := UInt8.toNat_inj.1 (by omega)
    rw [ih x y hx hy e1, e2]
theorem beN_be (k : Nat) : ∀ n, n < 256 ^ k → beN (be k n) = n := by
  induction k with
  | zero => intro n hn; simp at hn; subst hn; rfl
  | succ k ih =>
    intro n hn
    have e : be (k + 1) n = be k (n / 256) ++ [UInt8.ofNat (n % 256)] := by simp [be, bytesN]
    rw [e, beN_snoc, ih _ (by rw [Nat.pow_succ] at hn; exact Nat.div_lt_of_lt_mul (by rw [Nat.mul_comm]; exact hn))]
    rw [UInt8.toNat_ofNat', Nat.mod_mod]
    omega
/-- What Get reads of a record of which one bit behind its length is turned. -/
theorem putR_turned (num : Nat) (body : List UInt8) (j t : Nat) (hj4 : 4 ≤ j) (hj : j < (putR num body).length) (ht : t < 8) (hb : body.length ≤ 200000) :
    let l := (putR num body).set j ((putR num body)[j] ^^^ UInt8.ofNat (2 ^ t))
    beN (l.take 4) = body.length ∧ crcAdd 0 (l.take (12 + body.length)) ≠ beN ((l.drop (12 + body.length)).take 4) := by
  intro l
  have hlen := putR_len num body
  have hh := headR_len num body
  have e4 : (putR num body).take 4 = be 4 body.length := by
    rw [putR, headR, List.append_assoc, List.append_assoc, List.take_left' (be_len 4 _)]
  have eE : (putR num body).take (12 + body.length) = headR num body := by rw [putR, List.take_left' hh]
  have eD : (putR num body).drop (12 + body.length) = be 4 (crcAdd 0 (headR num body)) := by rw [putR, List.drop_left' hh]
  have hcr := crcAdd_lt 0 (headR num body) (by decide)
  refine ⟨?_, ?_⟩
  · show beN (((putR num body).set j _).take 4) = _
    rw [List.take_set_of_le hj4, e4, beN_be 4 _ (by omega)]
  · show crcAdd 0 (((putR num body).set j _).take (12 + body.length)) ≠ beN ((((putR num body).set j _).drop (12 + body.length)).take 4)
    by_cases hjE : j < 12 + body.length
    · have e9 : (be 4 (crcAdd 0 (headR num body))).take 4 = be 4 (crcAdd 0 (headR num body)) := List.take_of_length_le (by rw [be_len]; exact Nat.le_refl _)
      rw [List.drop_set_of_lt hjE, eD, e9, beN_be 4 _ (by omega), List.take_set, eE]
      have hjh : j < (headR num body).length := by omega
      have e : (putR num body)[j] = (headR num body)[j] := by
        simp only [putR]
        rw [List.getElem_append_left hjh]
      rw [e]
      exact crc_turned _ j t hjh ht
    · rw [List.take_set_of_le (by omega), eE]
      intro he
      have hs : ((putR num body).set j ((putR num body)[j] ^^^ UInt8.ofNat (2 ^ t))).drop (12 + body.length) = (be 4 (crcAdd 0 (headR num body))).set (j - (12 + body.length)) ((putR num body)[j] ^^^ UInt8.ofNat (2 ^ t)) := by
        rw [List.drop_set, if_neg (by omega), eD]
      rw [hs, List.take_of_length_le (by simp [be_len])] at he
      have he2 : beN (be 4 (crcAdd 0 (headR num body))) = beN ((be 4 (crcAdd 0 (headR num body))).set (j - (12 + body.length)) ((putR num body)[j] ^^^ UInt8.ofNat (2 ^ t))) := by
        rw [← he, beN_be 4 _ (by omega)]
      have he3 := beN_inj 4 _ _ (be_len 4 _) (by rw [List.length_set, be_len]) he2
      have hk : j - (12 + body.length) < (be 4 (crcAdd 0 (headR num body))).length := by rw [be_len]; omega
      have e : (putR num body)[j] = (be 4 (crcAdd 0 (headR num body)))[j - (12 + body.length)] := by
        simp only [putR]
        rw [List.getElem_append_right (by omega)]
        congr 1
        omega
      have h5 := congrArg (fun z => z[j - (12 + body.length)]?) he3
      simp only [List.getElem?_eq_getElem hk, List.getElem?_set_self hk, Option.some.injEq] at h5
      rw [e] at h5
      exact bit_ne _ t ht h5.symm
end Go.Proofs.YtjhmdgcfdelbkaaDoor.turn
