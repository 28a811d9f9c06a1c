/- Plain functions on lists of bytes that the octet layer and the reference share: of no program. -/
import Derived.Test.YtcigfmnkfelhjaaDoorPl
set_option linter.unusedVariables false
namespace Go.Proofs.YtcigfmnkfelhjaaDoor
open Go.RowKit

def atomByteB (c : UInt8) : Bool := decide (33 ≤ c.toNat ∧ c.toNat ≤ 126 ∧ c.toNat ≠ 40 ∧ c.toNat ≠ 41 ∧ c.toNat ≠ 123 ∧ c.toNat ≠ 37 ∧ c.toNat ≠ 42 ∧ c.toNat ≠ 34 ∧ c.toNat ≠ 92 ∧ c.toNat ≠ 93)
def escapedB (c : UInt8) : Bool := decide (c.toNat = 34 ∨ c.toNat = 92)
def quotableB (c : UInt8) : Bool := decide (c.toNat ≠ 0 ∧ c.toNat ≠ 13 ∧ c.toNat ≠ 10 ∧ c.toNat ≤ 127)
def smallU (c : UInt8) : UInt8 := if 65 ≤ c.toNat ∧ c.toNat ≤ 90 then c + 32 else c
def atomB (l : List UInt8) : Bool := l.all atomByteB && !l.isEmpty
def foldL (l : List UInt8) : List UInt8 := l.map smallU
def sameB (a b : List UInt8) : Bool := decide (foldL a = foldL b)

theorem smallU_toNat (c : UInt8) : (smallU c).toNat = if 65 ≤ c.toNat ∧ c.toNat ≤ 90 then c.toNat + 32 else c.toNat := by
  unfold smallU
  split
  · rw [UInt8.toNat_add]; simp; omega
  · rfl

theorem atom_no (s : ByteArray) (k : Nat) (h : k < s.size) (ha : atomByteB s[k] = false) : atomB s.data.toList = false := by
  have hm : s[k] ∈ s.data.toList := by
    have : s[k] = s.data.toList[k]'(by simpa using h) := rfl
    rw [this]; exact List.getElem_mem _
  have : s.data.toList.all atomByteB = false := by
    rw [List.all_eq_false]; exact ⟨_, hm, by simp [ha]⟩
  simp [atomB, this]

theorem same_no (s t : ByteArray) (k : Nat) (h1 : k < s.size) (h2 : k < t.size) (hb : ¬ smallU s[k] = smallU t[k]) : sameB s.data.toList t.data.toList = false := by
  simp only [sameB, decide_eq_false_iff_not]
  intro h
  have e := congrArg (fun l => l[k]?) h
  simp only [foldL, List.getElem?_map] at e
  rw [List.getElem?_eq_getElem (by simpa using h1), List.getElem?_eq_getElem (by simpa using h2)] at e
  simp only [Option.map_some, Option.some.injEq, get_data] at e
  exact hb e
theorem same_len (s t : ByteArray) (h : ¬ s.size = t.size) : sameB s.data.toList t.data.toList = false := by
  simp only [sameB, decide_eq_false_iff_not]
  intro he
  have e := congrArg List.length he
  simp [foldL] at e
  exact h e
theorem toNat_ne {a b : UInt8} (h : ¬ a = b) : ((a.toNat : Int) != (b.toNat : Int)) = true := by
  rw [bne_iff_ne]
  intro e
  exact h (UInt8.toNat_inj.1 (by omega))

def escB (c : UInt8) : List UInt8 := if escapedB c then [92, c] else [c]
def escL (l : List UInt8) : List UInt8 := l.flatMap escB
def quoteOk (l : List UInt8) : Bool := decide (l.length ≤ 8192) && l.all quotableB
def quoteS (l : List UInt8) : List UInt8 := if quoteOk l then 34 :: (escL l ++ [34]) else []
theorem escL_len (l : List UInt8) : (escL l).length ≤ 2 * l.length := by
  induction l with
  | nil => simp [escL]
  | cons c l ih =>
    have h1 : (escB c).length ≤ 2 := by unfold escB; split <;> simp
    simp only [escL, List.flatMap_cons, List.length_append, List.length_cons] at ih ⊢
    omega
theorem escL_snoc (l : List UInt8) (c : UInt8) : escL (l ++ [c]) = escL l ++ escB c := by simp [escL]
theorem mem_at (s : ByteArray) (k : Nat) (h : k < s.size) : s[k] ∈ s.data.toList := by
  rw [← get_data s k (by simpa using h)]; exact List.getElem_mem _
theorem quote_no (s : ByteArray) (k : Nat) (h : k < s.size) (hb : quotableB s[k] = false) : quoteOk s.data.toList = false := by
  have : s.data.toList.all quotableB = false := by
    rw [List.all_eq_false]; exact ⟨_, mem_at s k h, by simp [hb]⟩
  simp [quoteOk, this]
theorem quote_yes (s : ByteArray) (h : s.size ≤ 8192) (hb : s.data.toList.all quotableB = true) : quoteOk s.data.toList = true := by
  unfold quoteOk; rw [hb, len_data]; simp [h]
def digB (c : UInt8) : Bool := decide (48 ≤ c.toNat ∧ c.toNat ≤ 57)
def numN (l : List UInt8) : Nat := l.foldl (fun n c => 10 * n + (c.toNat - 48)) 0
def numOk (l : List UInt8) : Bool := decide (1 ≤ l.length ∧ l.length ≤ 10) && l.all digB
def numR (l : List UInt8) : Nat := if numOk l then numN l else 0
theorem numN_snoc (l : List UInt8) (c : UInt8) : numN (l ++ [c]) = 10 * numN l + (c.toNat - 48) := by simp [numN]
theorem numN_lt : ∀ (n : Nat) (l : List UInt8), l.length = n → l.all digB = true → numN l < 10 ^ n
  | 0, l, h, _ => by
    obtain rfl : l = [] := List.eq_nil_of_length_eq_zero h
    decide
  | n + 1, l, h, hd => by
    obtain ⟨m, c, rfl⟩ : ∃ m c, l = m ++ [c] := by
      rcases List.eq_nil_or_concat l with rfl | ⟨m, c, rfl⟩
      · simp at h
      · exact ⟨m, c, by simp⟩
    rw [List.all_append, Bool.and_eq_true] at hd
    have hc : digB c = true := by simpa using hd.2
    have h1 := numN_lt n m (by simpa using h) hd.1
    rw [numN_snoc, Nat.pow_succ]
    have := of_decide_eq_true hc
    omega
theorem numN_small (l : List UInt8) (h : l.length ≤ 9) (hd : l.all digB = true) : numN l ≤ 1000000000 := by
  have h1 := numN_lt _ l rfl hd
  have h2 : 10 ^ l.length ≤ 10 ^ 9 := Nat.pow_le_pow_right (by omega) h
  omega
theorem num_no (s : ByteArray) (k : Nat) (h : k < s.size) (hb : digB s[k] = false) : numOk s.data.toList = false := by
  have hm : s[k] ∈ s.data.toList := by rw [← get_data s k (by simpa using h)]; exact List.getElem_mem _
  have : s.data.toList.all digB = false := by rw [List.all_eq_false]; exact ⟨_, hm, by simp [hb]⟩
  simp [numOk, this]

end Go.Proofs.YtcigfmnkfelhjaaDoor
