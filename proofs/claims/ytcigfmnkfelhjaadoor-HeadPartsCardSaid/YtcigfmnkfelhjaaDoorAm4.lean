/- The abstract machine: operators. -/
import Derived.Test.YtcigfmnkfelhjaaDoorAm3
import Derived.Laws.Entries
import Derived.Lib.Strings
set_option linter.unusedVariables false
namespace Go.Proofs.YtcigfmnkfelhjaaDoor.Am
open Go

/-! ## Numbers -/
theorem eqI_eq (a b : Int) : eqI a b = (a == b) := by
  cases a <;> cases b <;> simp only [eqI]
  · rename_i m n
    cases h : Nat.beq m n with
    | true => have := Nat.eq_of_beq_eq_true h; subst this; simp
    | false => have := Nat.ne_of_beq_eq_false h; simp; omega
  · rfl
  · rfl
  · rename_i m n
    cases h : Nat.beq m n with
    | true => have := Nat.eq_of_beq_eq_true h; subst this; simp
    | false => have := Nat.ne_of_beq_eq_false h; simp; omega
theorem blt_eq (m n : Nat) : Nat.blt m n = decide (m < n) := by
  cases h : Nat.blt m n with
  | true => have : m < n := by simpa using h
            simp [this]
  | false =>
    have : ¬ m < n := fun h' => by
      have : Nat.blt m n = true := by simpa using h'
      rw [this] at h; cases h
    simp [this]
theorem ltI_eq (a b : Int) : ltI a b = decide (a < b) := by
  cases a <;> cases b <;> simp only [ltI, blt_eq]
  · rename_i m n
    by_cases h : m < n
    · have h2 : (Int.ofNat m) < Int.ofNat n := by simp; omega
      rw [decide_eq_true h, decide_eq_true h2]
    · have h2 : ¬ (Int.ofNat m) < Int.ofNat n := by simp; omega
      rw [decide_eq_false h, decide_eq_false h2]
  · rename_i m n
    have h2 : ¬ (Int.ofNat m) < Int.negSucc n := by simp; omega
    rw [decide_eq_false h2]
  · rename_i m n
    have h2 : (Int.negSucc m) < Int.ofNat n := by simp; omega
    rw [decide_eq_true h2]
  · rename_i m n
    by_cases h : n < m
    · have h2 : (Int.negSucc m) < Int.negSucc n := by omega
      rw [decide_eq_true h, decide_eq_true h2]
    · have h2 : ¬ (Int.negSucc m) < Int.negSucc n := by omega
      rw [decide_eq_false h, decide_eq_false h2]
theorem eqK_iff (a b : IntKind) : eqK a b = true ↔ a = b := by cases a <;> cases b <;> decide

theorem maxN_le (k : IntKind) : maxN k ≤ 2 ^ k.bits := by cases k <;> decide
theorem w_i8 (n : Int) : IntKind.i8.wrap n = if n % 256 ≥ 128 then n % 256 - 256 else n % 256 := by simp [IntKind.wrap, IntKind.bits, IntKind.signed]
theorem w_i16 (n : Int) : IntKind.i16.wrap n = if n % 65536 ≥ 32768 then n % 65536 - 65536 else n % 65536 := by simp [IntKind.wrap, IntKind.bits, IntKind.signed]
theorem w_i32 (n : Int) : IntKind.i32.wrap n = if n % 4294967296 ≥ 2147483648 then n % 4294967296 - 4294967296 else n % 4294967296 := by simp [IntKind.wrap, IntKind.bits, IntKind.signed]
theorem w_i64 (n : Int) : IntKind.i64.wrap n = if n % 18446744073709551616 ≥ 9223372036854775808 then n % 18446744073709551616 - 18446744073709551616 else n % 18446744073709551616 := by simp [IntKind.wrap, IntKind.bits, IntKind.signed]
theorem w_u8 (n : Int) : IntKind.u8.wrap n = n % 256 := by simp [IntKind.wrap, IntKind.bits, IntKind.signed]
theorem w_u16 (n : Int) : IntKind.u16.wrap n = n % 65536 := by simp [IntKind.wrap, IntKind.bits, IntKind.signed]
theorem w_u32 (n : Int) : IntKind.u32.wrap n = n % 4294967296 := by simp [IntKind.wrap, IntKind.bits, IntKind.signed]
theorem w_u64 (n : Int) : IntKind.u64.wrap n = n % 18446744073709551616 := by simp [IntKind.wrap, IntKind.bits, IntKind.signed]
theorem wrap_small (k : IntKind) (m : Nat) (h : m < maxN k) : k.wrap (Int.ofNat m) = Int.ofNat m := by
  change k.wrap ((m : Nat) : Int) = ((m : Nat) : Int)
  cases k <;> simp only [maxN] at h <;> simp only [w_i8, w_i16, w_i32, w_i64, w_u8, w_u16, w_u32, w_u64] <;> (first | omega | (rw [if_neg (by omega)]; omega))
theorem wrap_small_neg (k : IntKind) (m : Nat) (hs : k.signed = true) (h : m < maxN k) : k.wrap (Int.negSucc m) = Int.negSucc m := by
  rw [Int.negSucc_eq]
  cases k <;> simp only [maxN] at h <;> simp only [IntKind.signed, Bool.false_eq_true] at hs <;>
    simp only [w_i8, w_i16, w_i32, w_i64] <;> (rw [if_pos (by omega)]; omega)
theorem wrapI_eq (k : IntKind) (n : Int) : wrapI k n = k.wrap n := by
  cases n with
  | ofNat m =>
    simp only [wrapI, blt_eq]
    by_cases h : m < maxN k
    · rw [decide_eq_true h]; exact (wrap_small k m h).symm
    · rw [decide_eq_false h]; rfl
  | negSucc m =>
    simp only [wrapI, blt_eq]
    cases hs : k.signed with
    | false => rfl
    | true =>
      by_cases h : m < maxN k
      · rw [decide_eq_true h]; exact (wrap_small_neg k m hs h).symm
      · rw [decide_eq_false h]; rfl
theorem maxN_pow (k : IntKind) : ∃ e, maxN k = 2 ^ e := by
  cases k
  · exact ⟨7, by decide⟩
  · exact ⟨15, by decide⟩
  · exact ⟨31, by decide⟩
  · exact ⟨63, by decide⟩
  · exact ⟨8, by decide⟩
  · exact ⟨16, by decide⟩
  · exact ⟨32, by decide⟩
  · exact ⟨64, by decide⟩
theorem ofInt_nat (w m : Nat) : BitVec.ofInt w (Int.ofNat m) = BitVec.ofNat w m := by
  rw [show (Int.ofNat m) = ((m : Nat) : Int) from rfl, BitVec.ofInt_natCast]
theorem bitsI_eq (k : IntKind) (slow : BitVec k.bits → BitVec k.bits → BitVec k.bits) (fast : Nat → Nat → Nat) (a b : Int)
    (hf : ∀ m n, m < maxN k → n < maxN k → fast m n < maxN k ∧ (slow (BitVec.ofNat _ m) (BitVec.ofNat _ n)).toNat = fast m n) :
    bitsI k slow fast a b = k.wrap (slow (BitVec.ofInt k.bits a) (BitVec.ofInt k.bits b)).toNat := by
  cases a with
  | negSucc m => rfl
  | ofNat m =>
    cases b with
    | negSucc n => rfl
    | ofNat n =>
      simp only [bitsI, blt_eq]
      by_cases h : m < maxN k
      · by_cases h' : n < maxN k
        · rw [decide_eq_true h, decide_eq_true h']
          obtain ⟨h1, h2⟩ := hf m n h h'
          simp only [Bool.and_self, cond_true]
          rw [ofInt_nat, ofInt_nat, h2]
          exact (wrap_small k _ h1).symm
        · rw [decide_eq_false h']; simp
      · rw [decide_eq_false h]; simp
theorem bits_and (k : IntKind) (m n : Nat) (h : m < maxN k) (h' : n < maxN k) : Nat.land m n < maxN k ∧ (BitVec.ofNat k.bits m &&& BitVec.ofNat k.bits n).toNat = Nat.land m n := by
  have := maxN_le k
  refine ⟨Nat.lt_of_le_of_lt (Nat.and_le_left (n := m) (m := n)) h, ?_⟩
  rw [BitVec.toNat_and, BitVec.toNat_ofNat, BitVec.toNat_ofNat, Nat.mod_eq_of_lt (by omega), Nat.mod_eq_of_lt (by omega)]
  rfl
theorem bits_or (k : IntKind) (m n : Nat) (h : m < maxN k) (h' : n < maxN k) : Nat.lor m n < maxN k ∧ (BitVec.ofNat k.bits m ||| BitVec.ofNat k.bits n).toNat = Nat.lor m n := by
  have := maxN_le k
  obtain ⟨e, he⟩ := maxN_pow k
  refine ⟨by rw [he] at h h' ⊢; exact Nat.or_lt_two_pow h h', ?_⟩
  rw [BitVec.toNat_or, BitVec.toNat_ofNat, BitVec.toNat_ofNat, Nat.mod_eq_of_lt (by omega), Nat.mod_eq_of_lt (by omega)]
  rfl
theorem bits_xor (k : IntKind) (m n : Nat) (h : m < maxN k) (h' : n < maxN k) : Nat.xor m n < maxN k ∧ (BitVec.ofNat k.bits m ^^^ BitVec.ofNat k.bits n).toNat = Nat.xor m n := by
  have := maxN_le k
  obtain ⟨e, he⟩ := maxN_pow k
  refine ⟨by rw [he] at h h' ⊢; exact Nat.xor_lt_two_pow h h', ?_⟩
  rw [BitVec.toNat_xor, BitVec.toNat_ofNat, BitVec.toNat_ofNat, Nat.mod_eq_of_lt (by omega), Nat.mod_eq_of_lt (by omega)]
  rfl

section
variable {P : Program} {w : World} {ρ : Rho}
theorem intK_some {k : IntKind} {n : Int} {v : AV} (h : intK k n = some v) : v = .int k n := by
  unfold intK at h; rw [fI_eq] at h; injection h with h; exact h.symm

theorem aInt_run {op : BinOp} {k : IntKind} {a b : Int} {v : AV} (t : TypeId) (hs1 : op ≠ .shl) (hs2 : op ≠ .shr) (h : aInt op k a b = some v) :
    ∃ v', (binOp op t (.int k a) (.int k b)).run P w = .ok v' w ∧ VR ρ v v' := by
  have nb : ∀ (x : Int), (Nat.ble 0 0) = true := fun _ => rfl
  cases op <;> simp only [aInt] at h
  case shl => exact absurd rfl hs1
  case shr => exact absurd rfl hs2
  case add => rw [wrapI_eq] at h; rw [intK_some h]; exact ⟨_, by simp [binOp, Op.intArith], .int _ _⟩
  case sub => rw [wrapI_eq] at h; rw [intK_some h]; exact ⟨_, by simp [binOp, Op.intArith], .int _ _⟩
  case mul => rw [wrapI_eq] at h; rw [intK_some h]; exact ⟨_, by simp [binOp, Op.intArith], .int _ _⟩
  case quo =>
    rw [eqI_eq] at h
    cases hb : (b == 0) with
    | true => rw [hb] at h; cases h
    | false =>
      have hb' : b ≠ 0 := by simpa using hb
      rw [hb] at h; simp only [cond_false] at h
      rw [wrapI_eq] at h; rw [intK_some h]; exact ⟨_, by simp [binOp, Op.intDiv, hb'], .int _ _⟩
  case rem =>
    rw [eqI_eq] at h
    cases hb : (b == 0) with
    | true => rw [hb] at h; cases h
    | false =>
      have hb' : b ≠ 0 := by simpa using hb
      rw [hb] at h; simp only [cond_false] at h
      rw [intK_some h]; exact ⟨_, by simp [binOp, Op.intDiv, hb'], .int _ _⟩
  case and => rw [bitsI_eq k _ _ _ _ (bits_and k)] at h; rw [intK_some h]; exact ⟨_, by simp [binOp, Op.intBits], .int _ _⟩
  case or => rw [bitsI_eq k _ _ _ _ (bits_or k)] at h; rw [intK_some h]; exact ⟨_, by simp [binOp, Op.intBits], .int _ _⟩
  case xor => rw [bitsI_eq k _ _ _ _ (bits_xor k)] at h; rw [intK_some h]; exact ⟨_, by simp [binOp, Op.intBits], .int _ _⟩
  case andNot => rw [intK_some h]; exact ⟨_, by simp [binOp, Op.intBits], .int _ _⟩
  case eql => injection h with h; subst h; rw [eqI_eq]; exact ⟨_, by simp [binOp, Op.intCmp], .bool _⟩
  case neq => injection h with h; subst h; rw [eqI_eq]; exact ⟨_, by simp [binOp, Op.intCmp]; rfl, .bool _⟩
  case lss => injection h with h; subst h; rw [ltI_eq]; exact ⟨_, by simp [binOp, Op.intCmp], .bool _⟩
  case leq =>
    injection h with h; subst h; rw [ltI_eq]
    refine ⟨.bool (decide (a ≤ b)), by simp [binOp, Op.intCmp], ?_⟩
    have : (!decide (b < a)) = decide (a ≤ b) := by by_cases hh : a ≤ b <;> simp [hh, Int.not_lt.2, Int.not_le.1]
    rw [this]; exact .bool _
  case gtr => injection h with h; subst h; rw [ltI_eq]; exact ⟨_, by simp [binOp, Op.intCmp], .bool _⟩
  case geq =>
    injection h with h; subst h; rw [ltI_eq]
    refine ⟨.bool (decide (a ≥ b)), by simp [binOp, Op.intCmp], ?_⟩
    have : (!decide (a < b)) = decide (a ≥ b) := by by_cases hh : a ≥ b <;> simp [hh, Int.not_lt.2, Int.not_le.1]
    rw [this]; exact .bool _

/-! ## Strings -/
theorem ofBytes_map (l : List UInt8) : ofBytes l = l.map (·.toNat) := by
  induction l with
  | nil => rfl
  | cons a r ih => simp [ofBytes, ih]
theorem ofBytes_append (a b : List UInt8) : ofBytes (a ++ b) = ofBytes a ++ ofBytes b := by simp [ofBytes_map]
theorem ofBytes_length (l : List UInt8) : (ofBytes l).length = l.length := by simp [ofBytes_map]
theorem eqL_eq : ∀ (a b : List UInt8), eqL (ofBytes a) (ofBytes b) = (a == b)
  | [], [] => rfl
  | [], _ :: _ => rfl
  | _ :: _, [] => rfl
  | x :: a, y :: b => by
    simp only [ofBytes, eqL]
    rw [eqL_eq a b]
    cases h : Nat.beq x.toNat y.toNat with
    | true =>
      have := UInt8.toNat_inj.1 (Nat.eq_of_beq_eq_true h)
      subst this
      simp
    | false =>
      have : x ≠ y := fun e => Nat.ne_of_beq_eq_false h (by rw [e])
      simp [this]
theorem ltL_eq : ∀ (a b : List UInt8), ltL (ofBytes a) (ofBytes b) = Op.bytesLess a b
  | [], [] => rfl
  | [], _ :: _ => rfl
  | _ :: _, [] => rfl
  | x :: a, y :: b => by
    simp only [ofBytes, ltL, Op.bytesLess, blt_eq]
    rw [ltL_eq a b]
    by_cases h1 : x < y
    · have h2 : x.toNat < y.toNat := UInt8.lt_iff_toNat_lt.1 h1
      rw [decide_eq_true h2, decide_eq_true h1]; rfl
    · have h2 : ¬ x.toNat < y.toNat := fun h => h1 (UInt8.lt_iff_toNat_lt.2 h)
      rw [decide_eq_false h2, decide_eq_false h1]
      simp only [cond_false, Bool.false_or]
      cases h : Nat.beq x.toNat y.toNat with
      | true =>
        have := UInt8.toNat_inj.1 (Nat.eq_of_beq_eq_true h)
        subst this
        simp
      | false =>
        have : x ≠ y := fun e => Nat.ne_of_beq_eq_false h (by rw [e])
        simp [this]
theorem appK_eq {R : Type} : ∀ (a b : List Nat) (k : List Nat → R), appK a b k = k (a ++ b)
  | [], b, k => rfl
  | x :: a, b, k => by simp [appK, appK_eq a b]
theorem ble_iff (m n : Nat) : Nat.ble m n = true ↔ m ≤ n := by simp
theorem aStr_run {op : BinOp} {a b : ByteArray} {v : AV} (t : TypeId) (h : aStr op (ofBytes a.data.toList) (ofBytes b.data.toList) = some v) :
    ∃ v', (binOp op t (.string a) (.string b)).run P w = .ok v' w ∧ VR ρ v v' := by
  have e1 : (a.toList == b.toList) = eqL (ofBytes a.data.toList) (ofBytes b.data.toList) := by rw [eqL_eq, Lib.toList_data, Lib.toList_data]
  have e2 : Op.bytesLess a.toList b.toList = ltL (ofBytes a.data.toList) (ofBytes b.data.toList) := by rw [ltL_eq, Lib.toList_data, Lib.toList_data]
  cases op <;> simp only [aStr] at h
  case add =>
    obtain ⟨h1, h2⟩ := cond_some h
    rw [appK_eq, ← ofBytes_append] at h2
    injection h2 with h2
    subst h2
    have hl : ¬ (((a.size + b.size : Nat) : Int) > IntKind.i64.max) := by
      have := (ble_iff _ _).1 h1
      simp only [ofBytes_length] at this
      have h3 : a.data.toList.length = a.size := rfl
      have h4 : b.data.toList.length = b.size := rfl
      have h5 : a.data.toList.length + b.data.toList.length ≤ 9223372036854775807 := this
      have h6 : IntKind.i64.max = 9223372036854775807 := by decide
      rw [h6]
      omega
    refine ⟨.string (a ++ b), ?_, ?_⟩
    · simp only [binOp, Op.stringOp]
      rw [if_neg hl]
      rfl
    · have : (a ++ b).data.toList = a.data.toList ++ b.data.toList := by simp
      rw [← this]
      exact .str _
  all_goals first
    | (cases h; done)
    | (injection h with h; subst h; simp only [← e1, ← e2]; exact ⟨_, by simp only [binOp, Op.stringOp]; rfl, .bool _⟩)

/-! ## Equality of other values -/
theorem equal_of {t : TypeId} {x y : Value} {r : Result Bool} (h : ∀ d, (Op.equalIn (d + 1) t x y).run P w = r) : (Op.equal t x y).run P w = r := by
  simp [Op.equal, Op.maxDepth, h 9999]
theorem aEq_run {t : TypeId} {x y : AV} {x' y' : Value} {b : Bool} (hx : VR ρ x x') (hy : VR ρ y y') (h : aEq (P.underlying t) x y = some b) :
    (Op.equal t x' y').run P w = .ok b w ∧ (∀ k n, x' ≠ .int k n) ∧ (∀ s, x' ≠ .string s) ∧ (¬ (x' = .nilIface ∧ y' = .nilIface)) ∧ (∀ c, x' ≠ .agg c) ∧ (∀ a b, x' ≠ .float a b) ∧ (∀ a b c, x' ≠ .complex a b c) := by
  cases hd : P.underlying t with
  | none => rw [hd] at h; simp [aEq] at h
  | some d =>
    rw [hd] at h
    have hu := fun w => run_underlying hd w
    unfold aEq at h
    split at h <;> first
      | (cases h; done)
      | ((first | (rename_i heq; injection heq with heq; subst heq) | (rename_i heq _; injection heq with heq; subst heq))
         cases hx; cases hy
         injection h with h; subst h
         refine ⟨?_, by simp, by simp, by simp, by simp, by simp, by simp⟩
         refine equal_of fun d => ?_
         simp only [Op.equalIn, Sem.run_bind, hu, Result.andThen_ok]
         first
           | rfl
           | (rename_i p q; cases p <;> cases q <;> rfl))
end
end Go.Proofs.YtcigfmnkfelhjaaDoor.Am
