/- Plain mathematics of sequence sets: cutting a text at a byte, numerals read again, the spans of a sorted list. -/
import Derived.Lib.SplitLaws
import Derived.Lib.ItoaLen
import Derived.Lib.ItoaMem
import Derived.Lib.Join
set_option linter.unusedVariables false
namespace Go.Proofs.YtehbekjcnlcooaaDoor

theorem byte_first (c : UInt8) : ∀ (l : List UInt8), c ∉ l ∨ ∃ a b, l = a ++ c :: b ∧ c ∉ a
  | [] => .inl (by simp)
  | x :: l => by
    by_cases h : x = c
    · exact .inr ⟨[], l, by simp [h], by simp⟩
    · rcases byte_first c l with h1 | ⟨a, b, rfl, h2⟩
      · exact .inl (by simp [h1, Ne.symm h])
      · exact .inr ⟨x :: a, b, rfl, by simp [h2, Ne.symm h]⟩
theorem ib_first (c : UInt8) (b : List UInt8) : ∀ (a : List UInt8), c ∉ a → Lib.indexByte (a ++ c :: b) c = (a.length : Int)
  | [], _ => by simp [Lib.indexByte]
  | x :: a, h => by
    have h1 := ib_first c b a (fun hm => h (by simp [hm]))
    have hx : (x == c) = false := beq_eq_false_iff_ne.2 fun e => h (by simp [e])
    rw [List.cons_append, Lib.indexByte, hx, h1]
    have e : ((a.length : Int) == -1) = false := beq_eq_false_iff_ne.2 (by omega)
    simp [e]
theorem ib_none (c : UInt8) : ∀ (a : List UInt8), c ∉ a → Lib.indexByte a c = -1
  | [], _ => rfl
  | x :: a, h => by
    have h1 := ib_none c a (fun hm => h (by simp [hm]))
    have hx : (x == c) = false := beq_eq_false_iff_ne.2 fun e => h (by simp [e])
    rw [Lib.indexByte, hx, h1]
    rfl
theorem cut_hit (c : UInt8) (a b : List UInt8) (h : c ∉ a) : Lib.cut (a ++ c :: b) [c] = (a, b, true) := by
  unfold Lib.cut
  rw [Lib.index_one, ib_first c b a h, if_pos (by omega)]
  have e1 : ((a.length : Int)).toNat = a.length := by omega
  rw [e1]
  refine Prod.ext ?_ (Prod.ext ?_ rfl)
  · simp
  · simp
theorem cut_miss (c : UInt8) (a : List UInt8) (h : c ∉ a) : Lib.cut a [c] = (a, [], false) := by
  unfold Lib.cut
  rw [Lib.index_one, ib_none c a h]
  rfl

/-- A text cut at a byte. -/
def splL (c : UInt8) : List UInt8 → List (List UInt8)
  | [] => [[]]
  | x :: l => if x = c then [] :: splL c l else (x :: (splL c l).headD []) :: (splL c l).tail
theorem splL_miss (c : UInt8) : ∀ (l : List UInt8), c ∉ l → splL c l = [l]
  | [], _ => rfl
  | x :: l, h => by
    have h1 := splL_miss c l (fun hm => h (by simp [hm]))
    rw [splL, if_neg (fun e => h (by simp [e])), h1]
    rfl
theorem splL_hit (c : UInt8) (b : List UInt8) : ∀ (a : List UInt8), c ∉ a → splL c (a ++ c :: b) = a :: splL c b
  | [], _ => by simp [splL]
  | x :: a, h => by
    have h1 := splL_hit c b a (fun hm => h (by simp [hm]))
    rw [List.cons_append, splL, if_neg (fun e => h (by simp [e])), h1]
    rfl
theorem splL_len (c : UInt8) : ∀ (n : Nat) (l : List UInt8), l.length ≤ n → (splL c l).length ≤ l.length + 1
  | 0, l, h => by
    obtain rfl := List.eq_nil_of_length_eq_zero (Nat.le_zero.1 h)
    simp [splL]
  | n + 1, l, h => by
    rcases byte_first c l with h1 | ⟨a, b, rfl, h1⟩
    · rw [splL_miss c l h1]; simp
    · rw [splL_hit c b a h1]
      simp at h ⊢
      have := splL_len c n b (by omega)
      omega
theorem indexB_list (s : ByteArray) (c : UInt8) : Lib.indexB s ⟨#[c]⟩ = Lib.indexByte s.data.toList c := by
  rw [Lib.indexB]
  exact Lib.index_one _ c
theorem splitB_splL (c : UInt8) : ∀ (n : Nat) (s : ByteArray), s.size ≤ n → Lib.splitB ⟨#[c]⟩ 0 (Lib.countB s ⟨#[c]⟩) s = (splL c s.data.toList).map fun l => ⟨l.toArray⟩ := fun n => by
  induction n with
  | zero =>
    intro s h
    have hs : s.data.toList = [] := List.eq_nil_of_length_eq_zero (by rw [Array.length_toList]; exact Nat.le_zero.1 h)
    rw [Lib.splitB_miss _ _ _ _ (by rw [indexB_list, hs]; rfl), hs]
    simp [splL, ← hs]
  | succ n ih =>
    intro s h
    rcases byte_first c s.data.toList with h1 | ⟨a, b, h1, h2⟩
    · rw [Lib.splitB_miss _ _ _ _ (by rw [indexB_list, ib_none c _ h1]), splL_miss c _ h1]
      simp
    · have hi : Lib.indexB s ⟨#[c]⟩ = (a.length : Int) := by rw [indexB_list, h1, ib_first c b a h2]
      have hl : s.size = a.length + 1 + b.length := by
        have : s.data.toList.length = s.size := by rw [Array.length_toList]; rfl
        rw [h1] at this
        simp at this
        omega
      have hsz : (⟨#[c]⟩ : ByteArray).size = 1 := rfl
      have e2 : (s.extract (a.length + 1) s.size).data.toList = b := by
        rw [ByteArray.data_extract, Array.toList_extract, h1]
        simp
        rw [hl]
        rw [List.take_of_length_le (by omega)]
      have e1 : (s.extract 0 a.length) = ⟨a.toArray⟩ := by
        apply ByteArray.ext
        rw [ByteArray.data_extract]
        apply Array.toList_inj.1
        rw [Array.toList_extract, h1]
        simp
      have hc := Lib.countB_hit s ⟨#[c]⟩ a.length (Nat.le_refl 1) hi
      rw [hsz] at hc
      have hi2 := ih (s.extract (a.length + 1) s.size) (by rw [ByteArray.size_extract]; omega)
      rw [e2] at hi2
      rw [hc, Nat.add_comm 1, Lib.splitB_hit _ _ _ _ _ hi, h1, splL_hit c b a h2, List.map_cons, hsz, Nat.add_zero, e1, hi2]
/-- What is joined by a byte that no piece has is cut again. -/
theorem splL_join (c : UInt8) : ∀ (ps : List (List UInt8)), ps ≠ [] → (∀ p ∈ ps, c ∉ p) → splL c (Lib.join ps [c]) = ps
  | [], h, _ => absurd rfl h
  | [p], _, h => by rw [Lib.join_one, splL_miss c p (h p (by simp))]
  | p :: q :: r, _, h => by
    have e : Lib.join (p :: q :: r) [c] = p ++ c :: Lib.join (q :: r) [c] := by simp [Lib.join, List.intercalate]
    rw [e, splL_hit c _ p (h p (by simp)), splL_join c (q :: r) (by simp) (fun x hx => h x (by simp [hx]))]

theorem u8_dig (d : Nat) (h : d < 10) : (UInt8.ofNat (48 + d)).toNat = 48 + d := by
  rw [UInt8.toNat_ofNat']
  omega
/-- A numeral's digits: all are digits, the first is no 0 but for 0, the value. -/
theorem dec_dig (u : Nat) : ∀ c ∈ Lib.decDigits u, 48 ≤ c.toNat ∧ c.toNat ≤ 57 := by
  induction u using Nat.strongRecOn with
  | _ u ih =>
    intro c hc
    rw [Lib.decDigits] at hc
    split at hc
    · rename_i h
      simp at hc
      rw [hc]
      have := u8_dig u h
      simp at this ⊢
      omega
    · rename_i h
      rcases List.mem_append.1 hc with hc | hc
      · exact ih (u / 10) (by omega) c hc
      · simp only [List.mem_singleton] at hc
        have := u8_dig (u % 10) (by omega)
        rw [hc, this]
        omega
theorem dec_head (u : Nat) (hu : u ≠ 0) : (Lib.decDigits u).head? ≠ some 48 ∧ Lib.decDigits u ≠ [] := by
  induction u using Nat.strongRecOn with
  | _ u ih =>
    rw [Lib.decDigits]
    split
    · rename_i h
      refine ⟨fun e => ?_, by simp⟩
      simp only [List.head?_cons, Option.some.injEq] at e
      have := u8_dig u h
      rw [e] at this
      simp at this
      omega
    · rename_i h
      obtain ⟨h1, h2⟩ := ih (u / 10) (by omega) (by omega)
      refine ⟨?_, by simp⟩
      cases hd : Lib.decDigits (u / 10) with
      | nil => exact absurd hd h2
      | cons x t =>
        rw [hd] at h1
        simpa using h1
theorem dec_val (u : Nat) : (Lib.decDigits u).foldl (fun n c => n * 10 + (c.toNat - 48)) 0 = u := by
  induction u using Nat.strongRecOn with
  | _ u ih =>
    rw [Lib.decDigits]
    split
    · rename_i h
      have := u8_dig u h
      simp at this ⊢
      omega
    · rename_i h
      have := u8_dig (u % 10) (by omega)
      rw [List.foldl_append, ih (u / 10) (by omega)]
      simp only [List.foldl_cons, List.foldl_nil]
      rw [this]
      omega
theorem dec_len10 (u : Nat) (h : u ≤ 4294967295) : (Lib.decDigits u).length ≤ 10 := by
  rw [Lib.decDigits_length]
  have h1 : ∀ (k : Nat) (u : Nat), u < 10 ^ (k + 1) → Lib.nDigits u ≤ k + 1 := fun k => by
    induction k with
    | zero => intro u h; rw [Lib.nDigits_small (by omega)]; omega
    | succ k ih =>
      intro u h
      by_cases hs : u < 10
      · rw [Lib.nDigits_small hs]; omega
      · rw [Lib.nDigits_big hs]
        have := ih (u / 10) (by rw [Nat.pow_succ] at h; omega)
        omega
  exact h1 9 u (by omega)

/-- What Of does with the next number of a sorted list. -/
def stepOf (ys : List (Int × Int)) (n : Int) : List (Int × Int) :=
  match ys.getLast? with
  | some y => if n ≤ y.2 + 1 then ys.dropLast ++ [(y.1, n)] else ys ++ [(n, n)]
  | none => [(n, n)]
theorem stepOf_nil (n : Int) : stepOf [] n = [(n, n)] := rfl
theorem stepOf_snoc (zs : List (Int × Int)) (a b n : Int) : stepOf (zs ++ [(a, b)]) n = if n ≤ b + 1 then zs ++ [(a, n)] else zs ++ [(a, b)] ++ [(n, n)] := by
  unfold stepOf
  simp
def okN (n : Int) : Bool := decide (1 ≤ n ∧ n ≤ 4294967295)
def runOf (l : List Int) : List (Int × Int) := (l.filter okN).foldl stepOf []
def ofF (l : List Int) : List (Int × Int) := runOf (l.mergeSort fun x y => decide (x ≤ y))
theorem runOf_snoc (l : List Int) (k : Nat) (h : k < l.length) : runOf (l.take (k + 1)) = if okN l[k] then stepOf (runOf (l.take k)) l[k] else runOf (l.take k) := by
  unfold runOf
  rw [List.take_succ_eq_append_getElem h, List.filter_append, List.filter_cons]
  split
  · rw [List.foldl_append]; rfl
  · simp
theorem stepOf_len (ys : List (Int × Int)) (n : Int) : (stepOf ys n).length ≤ ys.length + 1 := by
  rcases List.eq_nil_or_concat ys with rfl | ⟨zs, ⟨a, b⟩, rfl⟩
  · rw [stepOf_nil]; simp
  · rw [List.concat_eq_append, stepOf_snoc]
    split <;> simp
theorem runOf_len (l : List Int) : (runOf l).length ≤ l.length := by
  have key : ∀ (l : List Int) (ys : List (Int × Int)), (l.foldl stepOf ys).length ≤ ys.length + l.length := fun l => by
    induction l with
    | nil => intro ys; simp
    | cons x l ih =>
      intro ys
      rw [List.foldl_cons, List.length_cons]
      have h1 := ih (stepOf ys x)
      have h2 := stepOf_len ys x
      omega
  have h1 := key (l.filter okN) []
  have h2 := List.length_filter_le okN l
  unfold runOf
  simp at h1
  omega
/-- What the spans of a sorted list's numbers are: each from below to above, gaps between them, the last ends with the last number, just the numbers. -/
structure OfInv (p : List Int) (ys : List (Int × Int)) : Prop where
  le : ∀ y ∈ ys, y.1 ≤ y.2
  gap : ys.Pairwise fun x y => x.2 + 1 < y.1
  mem : ∀ n, (∃ y ∈ ys, y.1 ≤ n ∧ n ≤ y.2) ↔ n ∈ p
  bd : ∀ y ∈ ys, ∀ q ∈ ys.getLast?, y.2 ≤ q.2
  last : ∀ y ∈ ys.getLast?, y.2 ∈ p
theorem ofInv_nil : OfInv [] [] := ⟨by simp, by simp, by simp, by simp, by simp⟩
theorem ofInv_step (p : List Int) (ys : List (Int × Int)) (n : Int) (h : OfInv p ys) (hs : ∀ m ∈ p, m ≤ n) : OfInv (p ++ [n]) (stepOf ys n) := by
  rcases List.eq_nil_or_concat ys with rfl | ⟨zs, ⟨a, b⟩, rfl⟩
  · have hp : p = [] := by
      apply List.eq_nil_iff_forall_not_mem.2
      intro m hm
      obtain ⟨y, hy, _⟩ := (h.mem m).2 hm
      simp at hy
    subst hp
    rw [stepOf_nil]
    refine ⟨by simp, by simp, ?_, by simp, by simp⟩
    intro m
    simp
    omega
  · rw [List.concat_eq_append] at h
    rw [List.concat_eq_append, stepOf_snoc]
    have hb : b ∈ p := h.last (a, b) (by simp)
    have hbn := hs b hb
    have hab : a ≤ b := h.le (a, b) (by simp)
    have hgap := h.gap
    rw [List.pairwise_append] at hgap
    obtain ⟨g1, _, g3⟩ := hgap
    have hbd : ∀ y ∈ zs, y.2 ≤ b := fun y hy => h.bd y (by simp [hy]) (a, b) (by simp)
    split
    · rename_i hn
      refine ⟨?_, ?_, ?_, ?_, ?_⟩
      · intro y hy
        rcases List.mem_append.1 hy with hy | hy
        · exact h.le y (by simp [hy])
        · simp at hy; subst hy; dsimp only; omega
      · rw [List.pairwise_append]
        refine ⟨g1, by simp, fun x hx y hy => ?_⟩
        simp at hy
        subst hy
        exact g3 x hx (a, b) (by simp)
      · intro m
        rw [List.mem_append, ← h.mem m]
        constructor
        · rintro ⟨y, hy, h1, h2⟩
          rcases List.mem_append.1 hy with hy | hy
          · exact .inl ⟨y, by simp [hy], h1, h2⟩
          · simp at hy
            subst hy
            dsimp only at h1 h2
            by_cases hm : m ≤ b
            · exact .inl ⟨(a, b), by simp, h1, hm⟩
            · exact .inr (by simp; omega)
        · rintro (⟨y, hy, h1, h2⟩ | hm)
          · rcases List.mem_append.1 hy with hy | hy
            · exact ⟨y, by simp [hy], h1, h2⟩
            · simp at hy
              subst hy
              dsimp only at h1 h2
              exact ⟨(a, n), by simp, h1, by dsimp only; omega⟩
          · simp at hm
            exact ⟨(a, n), by simp, by dsimp only; omega, by dsimp only; omega⟩
      · intro y hy q hq
        simp at hq
        subst hq
        rcases List.mem_append.1 hy with hy | hy
        · have := hbd y hy; dsimp only; omega
        · simp at hy; subst hy; exact Int.le_refl _
      · intro y hy
        simp at hy
        subst hy
        simp
    · rename_i hn
      refine ⟨?_, ?_, ?_, ?_, ?_⟩
      · intro y hy
        rcases List.mem_append.1 hy with hy | hy
        · exact h.le y hy
        · simp at hy; subst hy; exact Int.le_refl _
      · rw [List.pairwise_append]
        refine ⟨h.gap, by simp, fun x hx y hy => ?_⟩
        simp at hy
        subst hy
        have : x.2 ≤ b := h.bd x hx (a, b) (by simp)
        dsimp only
        omega
      · intro m
        rw [List.mem_append, ← h.mem m]
        constructor
        · rintro ⟨y, hy, h1, h2⟩
          rcases List.mem_append.1 hy with hy | hy
          · exact .inl ⟨y, hy, h1, h2⟩
          · simp at hy
            subst hy
            dsimp only at h1 h2
            exact .inr (by simp; omega)
        · rintro (⟨y, hy, h1, h2⟩ | hm)
          · exact ⟨y, by rw [List.mem_append]; exact .inl hy, h1, h2⟩
          · simp at hm
            exact ⟨(n, n), by simp, by dsimp only; omega, by dsimp only; omega⟩
      · intro y hy q hq
        simp at hq
        subst hq
        rcases List.mem_append.1 hy with hy | hy
        · have : y.2 ≤ b := h.bd y hy (a, b) (by simp)
          dsimp only
          omega
        · simp at hy; subst hy; exact Int.le_refl _
      · intro y hy
        simp at hy
        subst hy
        simp
theorem ofInv_run (p : List Int) (hp : p.Pairwise (· ≤ ·)) : OfInv p (p.foldl stepOf []) := by
  have key : ∀ (q p : List Int) (ys : List (Int × Int)), OfInv p ys → (p ++ q).Pairwise (· ≤ ·) → OfInv (p ++ q) (q.foldl stepOf ys) := fun q => by
    induction q with
    | nil => intro p ys h _; simpa using h
    | cons x q ih =>
      intro p ys h hs
      have e : p ++ x :: q = (p ++ [x]) ++ q := by simp
      rw [List.foldl_cons, e]
      rw [e] at hs
      refine ih (p ++ [x]) _ (ofInv_step p ys x h ?_) hs
      intro m hm
      rw [List.append_assoc, List.pairwise_append] at hs
      exact hs.2.2 m hm x (by simp)
  simpa using key p [] [] ofInv_nil (by simpa using hp)
theorem sort_pair (l : List Int) : (l.mergeSort fun x y => decide (x ≤ y)).Pairwise (· ≤ ·) := by
  have := List.pairwise_mergeSort (le := fun (x y : Int) => decide (x ≤ y)) (fun a b c h1 h2 => by simp at *; omega) (fun a b => by simp; omega) l
  exact this.imp fun h => by simpa using h
theorem sort_mem (l : List Int) (x : Int) : x ∈ (l.mergeSort fun x y => decide (x ≤ y)) ↔ x ∈ l := List.mem_mergeSort
theorem ofF_inv (l : List Int) : OfInv ((l.mergeSort fun x y => decide (x ≤ y)).filter okN) (ofF l) := ofInv_run _ ((sort_pair l).filter _)
theorem ofF_mem (l : List Int) (n : Int) (h1 : 1 ≤ n) (h2 : n ≤ 4294967295) : (∃ y ∈ ofF l, y.1 ≤ n ∧ n ≤ y.2) ↔ n ∈ l := by
  rw [(ofF_inv l).mem n, List.mem_filter, sort_mem]
  unfold okN
  simp [h1, h2]
theorem ofF_range (l : List Int) (y : Int × Int) (h : y ∈ ofF l) : 1 ≤ y.1 ∧ y.1 ≤ y.2 ∧ y.2 ≤ 4294967295 := by
  have i := ofF_inv l
  have hle := i.le y h
  have ha := (i.mem y.1).1 ⟨y, h, Int.le_refl _, hle⟩
  have hb := (i.mem y.2).1 ⟨y, h, hle, Int.le_refl _⟩
  rw [List.mem_filter] at ha hb
  unfold okN at ha hb
  simp at ha hb
  omega
theorem runOf_range (p : List Int) (hp : p.Pairwise (· ≤ ·)) (y : Int × Int) (h : y ∈ runOf p) : 1 ≤ y.1 ∧ y.1 ≤ y.2 ∧ y.2 ≤ 4294967295 := by
  have i := ofInv_run _ (hp.filter okN)
  have hle := i.le y h
  have ha := (i.mem y.1).1 ⟨y, h, Int.le_refl _, hle⟩
  have hb := (i.mem y.2).1 ⟨y, h, hle, Int.le_refl _⟩
  rw [List.mem_filter] at ha hb
  unfold okN at ha hb
  simp at ha hb
  omega
theorem ofF_len (l : List Int) : (ofF l).length ≤ l.length := by
  have := runOf_len (l.mergeSort fun x y => decide (x ≤ y))
  rw [List.length_mergeSort] at this
  exact this
end Go.Proofs.YtehbekjcnlcooaaDoor
