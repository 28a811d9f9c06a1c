/- Package head: where the fields of a header stand; plain mathematics. -/
import Derived.Test.YtcigfmnkfelhjaaDoorHdD
set_option linter.unusedVariables false
namespace Go.Proofs.YtcigfmnkfelhjaaDoor
open Go.RowKit

/-- A field stands where it says, from lo on and up to hi. -/
def StandF (l : List UInt8) (lo hi : Nat) (f : Fd) : Prop :=
  lo ≤ f.from_ ∧ f.from_ + f.name.size + 1 ≤ f.to_ ∧ f.to_ ≤ hi ∧ 1 ≤ f.name.size ∧ (l.drop f.from_).take (f.name.size + 1) = f.name.data.toList ++ [58]
/-- Fields one after the other. -/
def Chain (l : List UInt8) : Nat → List Fd → Nat → Prop
  | lo, [], hi => lo ≤ hi
  | lo, f :: r, hi => (∃ m, StandF l lo m f ∧ m ≤ hi) ∧ Chain l f.to_ r hi
theorem Chain.mono {l : List UInt8} : ∀ {xs : List Fd} {lo hi hi' : Nat}, Chain l lo xs hi → hi ≤ hi' → Chain l lo xs hi'
  | [], lo, hi, hi', h, hh => by
    have h' : lo ≤ hi := h
    show lo ≤ hi'
    omega
  | f :: r, lo, hi, hi', h, hh => by
    obtain ⟨⟨m, h1, h2⟩, h3⟩ := h
    exact ⟨⟨m, h1, by omega⟩, h3.mono hh⟩
theorem Chain.le {l : List UInt8} : ∀ {xs : List Fd} {lo hi : Nat}, Chain l lo xs hi → lo ≤ hi
  | [], lo, hi, h => h
  | f :: r, lo, hi, h => by
    obtain ⟨⟨m, ⟨h1, h2, h3, _⟩, h4⟩, h5⟩ := h
    omega
theorem Chain.snoc {l : List UInt8} {f : Fd} {m hi : Nat} : ∀ {xs : List Fd} {lo : Nat}, Chain l lo xs m → StandF l m hi f → Chain l lo (xs ++ [f]) hi
  | [], lo, h, hf => by
    have h' : lo ≤ m := h
    obtain ⟨h1, h2, h3, h4, h5⟩ := hf
    exact ⟨⟨hi, ⟨by omega, h2, h3, h4, h5⟩, Nat.le_refl _⟩, show f.to_ ≤ hi from h3⟩
  | x :: r, lo, h, hf => by
    obtain ⟨⟨m', h1, h2⟩, h3⟩ := h
    have h6 := h3.le
    obtain ⟨k1, k2, k3, k4⟩ := hf
    have h7 : m ≤ hi := by omega
    exact ⟨⟨m', h1, by omega⟩, h3.snoc ⟨k1, k2, k3, k4⟩⟩
theorem Chain.last {l : List UInt8} {f : Fd} {m hi : Nat} : ∀ {xs : List Fd} {lo : Nat}, Chain l lo (xs ++ [f]) m → m ≤ hi → Chain l lo (xs ++ [{ f with to_ := hi }]) hi
  | [], lo, h, hh => by
    obtain ⟨⟨m', ⟨h1, h2, h3, h4, h5⟩, h6⟩, h7⟩ := h
    have h7' : f.to_ ≤ m := h7
    refine ⟨⟨hi, ⟨h1, ?_, Nat.le_refl _, h4, h5⟩, Nat.le_refl _⟩, Nat.le_refl _⟩
    show f.from_ + f.name.size + 1 ≤ hi
    omega
  | x :: r, lo, h, hh => by
    obtain ⟨⟨m', h1, h2⟩, h3⟩ := h
    exact ⟨⟨m', h1, by omega⟩, h3.last hh⟩
theorem setTo_nil (t : Nat) : setTo [] t = [] := rfl
theorem setTo_snoc (xs : List Fd) (f : Fd) (t : Nat) : setTo (xs ++ [f]) t = xs ++ [{ f with to_ := t }] := by
  unfold setTo
  simp
theorem Chain.setTo {l : List UInt8} {xs : List Fd} {lo m hi : Nat} (h : Chain l lo xs m) (hh : m ≤ hi) : Chain l lo (setTo xs hi) hi := by
  rcases List.eq_nil_or_concat xs with rfl | ⟨ys, f, rfl⟩
  · exact h.mono hh
  · rw [List.concat_eq_append] at h ⊢
    rw [setTo_snoc]
    exact h.last hh
theorem nlGo_colon : ∀ (l : List UInt8) (i : Nat), nlGo i l ≠ 0 → ∃ j, nlGo i l = i + j ∧ l[j]? = some 58
  | [], i, h => absurd rfl h
  | c :: r, i, h => by
    unfold nlGo at h ⊢
    by_cases h1 : c.toNat = 58
    · rw [if_pos h1]
      exact ⟨0, rfl, by
        have : c = 58 := UInt8.toNat_inj.1 h1
        rw [this]; rfl⟩
    · rw [if_neg h1] at h ⊢
      by_cases h2 : c.toNat < 33 ∨ 126 < c.toNat
      · rw [if_pos h2] at h
        exact absurd rfl h
      · rw [if_neg h2] at h ⊢
        obtain ⟨j, h3, h4⟩ := nlGo_colon r (i + 1) h
        exact ⟨j + 1, by omega, by simpa using h4⟩
theorem nl_colon (l : List UInt8) (h : nl l ≠ 0) : l.take (nl l + 1) = l.take (nl l) ++ [58] := by
  obtain ⟨j, h1, h2⟩ := nlGo_colon l 0 h
  have e : nl l = j := by unfold nl; omega
  rw [e]
  have hj : j < l.length := (List.getElem?_eq_some_iff.1 h2).1
  rw [List.take_succ_eq_append_getElem hj]
  rw [List.getElem?_eq_getElem hj] at h2
  rw [Option.some.inj h2]
/-- The scan of lines keeps the chain. -/
theorem fdGo_chain (l : List UInt8) : ∀ (ls : List (List UInt8)) (at_ : Nat) (op : Bool) (acc : List Fd) (tail : List UInt8), l.drop at_ = ls.flatten ++ tail → at_ + ls.flatten.length ≤ l.length → Chain l 0 acc at_ → Chain l 0 (fdGo ls at_ op acc) (at_ + ls.flatten.length)
  | [], at_, op, acc, tail, _, _, h => by simpa [fdGo] using h
  | ln :: r, at_, op, acc, tail, hd, hle, h => by
    rw [List.flatten_cons, List.append_assoc] at hd
    rw [List.flatten_cons, List.length_append] at hle ⊢
    have hd2 : l.drop (at_ + ln.length) = r.flatten ++ tail := by
      rw [← List.drop_drop, hd, List.drop_left]
    have e1 : at_ + (ln.length + r.flatten.length) = (at_ + ln.length) + r.flatten.length := by omega
    rw [e1] at hle ⊢
    unfold fdGo
    split
    · refine fdGo_chain l r _ op _ tail hd2 hle ?_
      split
      · exact h.setTo (by omega)
      · exact h.mono (by omega)
    · split
      · exact fdGo_chain l r _ false acc tail hd2 hle (h.mono (by omega))
      · rename_i hn
        split
        · exact h.mono (by omega)
        · refine fdGo_chain l r _ true _ tail hd2 hle ?_
          have hlt := nl_lt ln hn
          refine h.snoc ⟨Nat.le_refl _, ?_, Nat.le_refl _, ?_, ?_⟩
          · show at_ + (ln.take (nl ln)).toArray.size + 1 ≤ at_ + ln.length
            simp
            omega
          · show 1 ≤ (ln.take (nl ln)).toArray.size
            simp
            omega
          · have e2 : (ln.take (nl ln)).toArray.size = nl ln := by simp; omega
            show (l.drop at_).take ((ln.take (nl ln)).toArray.size + 1) = (ln.take (nl ln)).toArray.toList ++ [58]
            rw [e2, hd, List.take_append_of_le_length (by omega), nl_colon ln hn]
theorem chain_map (l : List UInt8) (g : Fd → Fd) (hg : ∀ f, (g f).name = f.name ∧ (g f).from_ = f.from_ ∧ (g f).to_ = f.to_) : ∀ {xs : List Fd} {lo hi : Nat}, Chain l lo xs hi → Chain l lo (xs.map g) hi
  | [], lo, hi, h => h
  | f :: r, lo, hi, h => by
    obtain ⟨⟨m, h1, h2⟩, h3⟩ := h
    obtain ⟨e1, e2, e3⟩ := hg f
    refine ⟨⟨m, ?_, h2⟩, ?_⟩
    · unfold StandF
      rw [e1, e2, e3]
      exact h1
    · rw [e3]
      exact chain_map l g hg h3
theorem fields_chain (V : ByteArray → ByteArray) (l : List UInt8) (E : Nat) (hE : E ≤ l.length) : Chain l 0 (fieldsF V l E) l.length := by
  unfold fieldsF
  refine chain_map l (fun f => { f with value := V (rawOf l f) }) (fun f => ⟨rfl, rfl, rfl⟩) ?_
  have hf := linesL_flat _ (l.take E) (Nat.le_refl _)
  have hlen : (linesL (l.take E)).flatten.length = E := by rw [hf, List.length_take]; omega
  have h := fdGo_chain l (linesL (l.take E)) 0 false [] (l.drop E) (by rw [List.drop_zero, hf, List.take_append_drop]) (by omega) (Nat.zero_le _)
  exact h.mono (by omega)
/-- What is picked: the bytes of the fields that q takes. -/
def pkB (l : List UInt8) (q : Fd → Bool) : List Fd → List UInt8
  | [] => []
  | f :: r => (if q f then (l.take f.to_).drop f.from_ else []) ++ pkB l q r
def sumF : List Fd → Nat
  | [] => 0
  | f :: r => (f.to_ - f.from_) + sumF r
theorem pk_sum (l : List UInt8) (q : Fd → Bool) : ∀ {xs : List Fd} {lo hi : Nat}, Chain l lo xs hi → hi ≤ l.length → (pkB l q xs).length + (pkB l (fun f => !q f) xs).length = sumF xs
  | [], _, _, _, _ => rfl
  | f :: r, lo, hi, h, hh => by
    obtain ⟨⟨m, ⟨h1, h2, h3, _⟩, h4⟩, h5⟩ := h
    have ih := pk_sum l q h5 hh
    unfold pkB sumF
    rw [List.length_append, List.length_append]
    have e : ((l.take f.to_).drop f.from_).length = f.to_ - f.from_ := by rw [List.length_drop, List.length_take]; omega
    cases hq : q f
    · simp only [Bool.false_eq_true, if_false, Bool.not_false, if_true, List.length_nil, e]
      omega
    · simp only [Bool.false_eq_true, if_false, Bool.not_true, if_true, List.length_nil, e]
      omega
theorem pk_snoc (l : List UInt8) (q : Fd → Bool) : ∀ (xs : List Fd) (f : Fd), pkB l q (xs ++ [f]) = pkB l q xs ++ (if q f then (l.take f.to_).drop f.from_ else [])
  | [], f => by simp [pkB]
  | x :: r, f => by simp only [List.cons_append, pkB, pk_snoc l q r f, List.append_assoc]
theorem pk_le (l : List UInt8) (q : Fd → Bool) : ∀ {xs : List Fd} {lo hi : Nat}, Chain l lo xs hi → hi ≤ l.length → (pkB l q xs).length + lo ≤ hi
  | [], lo, hi, h, _ => by
    have h' : lo ≤ hi := h
    simp only [pkB, List.length_nil]
    omega
  | f :: r, lo, hi, h, hh => by
    obtain ⟨⟨m, ⟨h1, h2, h3, _⟩, h4⟩, h5⟩ := h
    have ih := pk_le l q h5 hh
    unfold pkB
    rw [List.length_append]
    have e : ((l.take f.to_).drop f.from_).length = f.to_ - f.from_ := by rw [List.length_drop, List.length_take]; omega
    split
    · rw [e]; omega
    · simp only [List.length_nil]; omega
theorem Chain.take {l : List UInt8} : ∀ {xs : List Fd} {lo hi : Nat} (k : Nat), Chain l lo xs hi → Chain l lo (xs.take k) hi
  | [], lo, hi, k, h => by simpa using h
  | f :: r, lo, hi, 0, h => h.le
  | f :: r, lo, hi, k + 1, h => ⟨h.1, h.2.take k⟩
theorem Chain.at_ {l : List UInt8} : ∀ {xs : List Fd} {lo hi : Nat}, Chain l lo xs hi → ∀ f ∈ xs, ∃ m, StandF l 0 m f ∧ m ≤ hi
  | [], _, _, _, f, hf => by simp at hf
  | x :: r, lo, hi, h, f, hf => by
    rcases List.mem_cons.1 hf with rfl | hf
    · obtain ⟨⟨m, ⟨h1, h2⟩, h3⟩, _⟩ := h
      exact ⟨m, ⟨Nat.zero_le _, h2⟩, h3⟩
    · exact h.2.at_ f hf
theorem fields_value (V : ByteArray → ByteArray) (l : List UInt8) (E : Nat) : ∀ f ∈ fieldsF V l E, f.value = V (rawOf l f) := by
  intro f hf
  unfold fieldsF at hf
  obtain ⟨g, hg, rfl⟩ := List.mem_map.1 hf
  rfl
end Go.Proofs.YtcigfmnkfelhjaaDoor
