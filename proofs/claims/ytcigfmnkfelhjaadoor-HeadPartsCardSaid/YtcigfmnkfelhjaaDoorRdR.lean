/- Slices that came in and are only read: their elements by a relation. -/
import Derived.Test.YtcigfmnkfelhjaaDoorRow
import Derived.Lib.BufferRead
set_option linter.unusedVariables false
namespace Go.Proofs.YtcigfmnkfelhjaaDoor
open Go.RowKit

section
variable {α : Type}
/-- The slice value with the pointer A reads as the elements xs, k cells each, each by R. -/
def RdR (R : World → List Value → α → Prop) (k : Nat) (w : World) (A : Option Addr) (xs : List α) : Prop :=
  0 < xs.length → ∃ b o, A = some ⟨b, o, none⟩ ∧ b < w.heap.size ∧ ∀ i (h : i < xs.length), ∃ cs, R w cs xs[i] ∧ cs.length = k ∧ ∀ j (hj : j < cs.length), w.cell? ⟨b, o + k * i + j, none⟩ = some cs[j]
variable {R : World → List Value → α → Prop} {k : Nat} {w w' : World} {A : Option Addr} {xs : List α}
theorem RdR.nil : RdR R k w A [] := fun h => absurd h (by simp)
theorem RdR.below (hR : Keeps R) {C : Nat} (h : RdR R k w A xs) (hb : Below C w w') (hC : w.heap.size ≤ C) : RdR R k w' A xs := fun hp => by
  obtain ⟨b, o, hA, hlt, hc⟩ := h hp
  refine ⟨b, o, hA, Nat.lt_of_lt_of_le (by omega) (Nat.le_trans (Nat.le_refl _) (show w.heap.size ≤ w'.heap.size from ?_)), fun i hi => ?_⟩
  · apply Decidable.byContradiction
    intro hh
    have h1 := hb.block (w'.heap.size) (by omega)
    rw [Array.getElem?_eq_none (Nat.le_refl _)] at h1
    have h2 := Array.getElem?_eq_none_iff.1 h1.symm
    omega
  · obtain ⟨cs, h1, h2, h3⟩ := hc i hi
    exact ⟨cs, hR _ _ _ _ _ h1 hb hC, h2, fun j hj => (hb.cell (p := ⟨b, o + k * i + j, none⟩) (Nat.lt_of_lt_of_le hlt hC)).trans (h3 j hj)⟩
/-- One cell an element: its value. -/
theorem RdR.one (h : RdR R 1 w A xs) (i : Nat) (hi : i < xs.length) : ∃ b o v, A = some ⟨b, o, none⟩ ∧ R w [v] xs[i] ∧ w.cell? ⟨b, o + i, none⟩ = some v := by
  obtain ⟨b, o, hA, _, hc⟩ := h (by omega)
  obtain ⟨cs, h1, h2, h3⟩ := hc i hi
  match cs, h2, h1, h3 with
  | [v], _, h1, h3 => exact ⟨b, o, v, hA, h1, by have := h3 0 (by simp); simpa using this⟩
end
theorem Rd.backs {P : Program} {w : World} {A : Option Addr} {l : List UInt8} (h : Rd w A l) (src dst e : TypeId) (cap : Nat) (hs : P.underlying src = some (.slice e)) (he : P.underlying e = some (.int .u8)) (hd : P.underlying dst = some .string) :
    (convert src dst (.slice A l.length cap)).run P w = .ok (.string ⟨l.toArray⟩) w := by
  rcases A with _ | a
  · have h2 : l = [] := by
      rcases Nat.eq_zero_or_pos l.length with h0 | h0
      · exact List.eq_nil_of_length_eq_zero h0
      · obtain ⟨b, o, h, _⟩ := h h0
        cases h
    subst h2
    exact Lib.run_convert_nil_bytes w src dst e cap hs he hd
  · refine run_convert_bytes_back w src dst e a cap l hs he hd fun j hj => ?_
    obtain ⟨b, o, hA, _, hc⟩ := h (by omega)
    injection hA with hA
    subst hA
    rw [addp]
    exact hc j hj
/-- An element that is a slice of bytes. -/
def BytesR (w : World) (cs : List Value) (l : List UInt8) : Prop := ∃ A cap, cs = [.slice A l.length cap] ∧ l.length ≤ cap ∧ cap ≤ maxLen ∧ Rd w A l
theorem Rd.belowC {w w' : World} {A : Option Addr} {l : List UInt8} {C : Nat} (h : Rd w A l) (hb : Below C w w') (hC : w.heap.size ≤ C) : Rd w' A l := fun hp => by
  obtain ⟨b, o, hA, hlt, hc⟩ := h hp
  have hcell : ∀ i (hi : i < l.length), w'.cell? ⟨b, o + i, none⟩ = some (.int .u8 (l[i].toNat : Int)) := fun i hi => (hb.cell (p := ⟨b, o + i, none⟩) (Nat.lt_of_lt_of_le hlt hC)).trans (hc i hi)
  exact ⟨b, o, hA, World.block_lt_of_cell? w' _ (hcell 0 hp), hcell⟩
theorem BytesR.keeps : Keeps BytesR := by
  rintro w w' cs x C ⟨A, cap, rfl, h1, h2, h3⟩ hb hC
  exact ⟨A, cap, rfl, h1, h2, h3.belowC hb hC⟩
theorem rd_rows {w : World} (a : Addr) (len cap : Nat) (A : Nat → Option Addr) (L C : Nat → Nat) (Z : Nat → List Int) (hl : len ≤ cap)
    (H : ∀ r, r < cap → w.cell? (a.add r) = some (.slice (A r) (L r) (C r)) ∧ L r ≤ C r ∧ C r ≤ maxLen ∧ (Z r).length = C r ∧ (∀ n ∈ Z r, (Lit.int .u8 n).wf = true) ∧ (A r = none → C r = 0) ∧ ∀ a', A r = some a' → ∀ c, c < C r → w.cell? (a'.add c) = some (.int .u8 ((Z r).getD c 0))) :
    ∃ ls : List (List UInt8), ls.length = len ∧ RdR BytesR 1 w (some a) ls := by
  have key : ∀ m, m ≤ len → ∃ ls : List (List UInt8), ls.length = m ∧ ∀ i (h : i < ls.length), ls[i].length = L i ∧ Rd w (A i) ls[i] := by
    intro m
    induction m with
    | zero => exact fun _ => ⟨[], rfl, fun i h => absurd h (by simp)⟩
    | succ m ih =>
      intro hm
      obtain ⟨ls, h1, h2⟩ := ih (by omega)
      obtain ⟨_, k2, _, k4, k5, k6, k7⟩ := H m (by omega)
      obtain ⟨l, hl1, hl2⟩ : ∃ l : List UInt8, l.length = L m ∧ Rd w (A m) l := by
        cases hA : A m with
        | none => exact ⟨[], by have := k6 hA; simp; omega, Rd.nil⟩
        | some x => exact rd_ints x (L m) (C m) (Z m) k2 k4 (fun i hi => k7 x hA i (by omega)) k5
      refine ⟨ls ++ [l], by simp [h1], fun i hi => ?_⟩
      by_cases hlt : i < ls.length
      · rw [List.getElem_append_left hlt]; exact h2 i hlt
      · have : i = ls.length := by simp at hi; omega
        subst this
        rw [List.getElem_append_right (Nat.le_refl _)]
        simp only [Nat.sub_self, List.getElem_cons_zero, h1]
        exact ⟨hl1, hl2⟩
  obtain ⟨ls, h1, h2⟩ := key len (Nat.le_refl _)
  refine ⟨ls, h1, fun hp => ?_⟩
  obtain ⟨b, o, sp⟩ := a
  have h0 := (H 0 (by omega)).1
  have hsp : sp = none := by simpa [Addr.add] using World.cell?_spot h0
  subst hsp
  rw [addp] at h0
  refine ⟨b, o, rfl, World.block_lt_of_cell? w _ h0, fun i hi => ?_⟩
  obtain ⟨k1, k2, k3, _⟩ := H i (by omega)
  rw [addp] at k1
  obtain ⟨e1, e2⟩ := h2 i hi
  refine ⟨[.slice (A i) ls[i].length (C i)], ⟨A i, C i, rfl, by omega, k3, e2⟩, rfl, fun j hj => ?_⟩
  have hj0 : j = 0 := by simpa using hj
  subst hj0
  rw [Nat.one_mul, Nat.add_zero, k1, e1]
  rfl
/-- An element that is a string. -/
def StrR (w : World) (cs : List Value) (s : ByteArray) : Prop := cs = [.string s] ∧ s.size ≤ maxLen
theorem StrR.keeps : Keeps StrR := fun w w' cs x C h hb hC => h
end Go.Proofs.YtcigfmnkfelhjaaDoor
