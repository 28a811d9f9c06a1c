/- Rows of elements of several cells, each read by a relation of its own; bytes in a typed block: of no program but for the type of bytes. -/
import Derived.Test.YtcigfmnkfelhjaaDoorAp
import Derived.OwnWalk
set_option linter.unusedVariables false
namespace Go.Proofs.YtcigfmnkfelhjaaDoor
open Go.RowKit

theorem addp (b o i : Nat) : (⟨b, o, none⟩ : Addr).add i = ⟨b, o + i, none⟩ := by unfold Addr.add; split <;> simp_all
/-- Bytes that lie in a block of bytes: like 'Rd', and the block's type is known. -/
def TB (w : World) (A : Option Addr) (l : List UInt8) : Prop :=
  0 < l.length → ∃ b o cur fz, A = some ⟨b, o, none⟩ ∧ w.heap[b]? = some (.cells cur 5 fz) ∧ ∀ i (h : i < l.length), cur[o + i]? = some (.int .u8 (l[i].toNat : Int))
theorem TB.rd {w : World} {A : Option Addr} {l : List UInt8} (h : TB w A l) : Rd w A l := fun hp => by
  obtain ⟨b, o, cur, fz, rfl, hb, hc⟩ := h hp
  exact ⟨b, o, rfl, (Array.getElem?_eq_some_iff.1 hb).1, fun i hi => by simp [World.cell?, hb, hc i hi]⟩
theorem TB.nil {w : World} {A : Option Addr} : TB w A [] := fun h => absurd h (by simp)
theorem TB.below {w w' : World} {A : Option Addr} {l : List UInt8} {B : Nat} (h : TB w A l) (hb : Below B w w') (hB : w.heap.size ≤ B) : TB w' A l := fun hp => by
  obtain ⟨b, o, cur, fz, hA, hh, hc⟩ := h hp
  have hlt : b < w.heap.size := (Array.getElem?_eq_some_iff.1 hh).1
  exact ⟨b, o, cur, fz, hA, (hb.block b (by omega)).trans hh, hc⟩
theorem TB.grown {w w' : World} {A : Option Addr} {l : List UInt8} {row : Option Nat} {e : TypeId} (h : TB w A l) (hg : w.grownBy w' row) (hr : ∀ k, row = some k → ∃ c fz, w.heap[k]? = some (.cells c e fz)) (he : e ≠ 5) : TB w' A l := fun hp => by
  obtain ⟨b, o, cur, fz, hA, hh, hc⟩ := h hp
  have hlt : b < w.heap.size := (Array.getElem?_eq_some_iff.1 hh).1
  refine ⟨b, o, cur, fz, hA, ?_, hc⟩
  rw [hg.block b hlt ?_]
  · exact hh
  · intro e1
    obtain ⟨c, f2, h2⟩ := hr b e1.symm
    rw [hh] at h2
    simp at h2
    exact he h2.2.1.symm
theorem TB.of_own {w : World} {B : Nat} {v : Value} {l : List UInt8} (h : w.ownsRow B 5 1 v l.length (Lib.byteCells l)) : ∃ A cap, v = .slice A l.length cap ∧ l.length ≤ cap ∧ cap ≤ maxLen ∧ TB w A l := by
  rcases h.2 with ⟨rfl, h0⟩ | ⟨g, cap, cur, rfl, hg, hh, hn, hm, hs, ht⟩
  · have : l = [] := List.eq_nil_of_length_eq_zero h0
    subst this
    exact ⟨none, 0, rfl, Nat.le_refl _, Nat.zero_le _, TB.nil⟩
  · refine ⟨_, cap, rfl, hn, hm, fun _ => ⟨g, 0, cur, _, rfl, hh, fun i hi => ?_⟩⟩
    have h2 : (cur.toList.take (l.length * 1))[i]? = (Lib.byteCells l)[i]? := by rw [ht]
    rw [List.getElem?_take_of_lt (by omega)] at h2
    rw [Nat.zero_add]
    simpa [Lib.byteCells, hi] using h2

theorem ownk_kind {w : World} {B : Nat} {e : TypeId} {k : Nat} {v : Value} {n : Nat} {xs : List Value} (h : w.ownsRow B e k v n xs) : ∀ g, v.ownBlock = some g → ∃ c fz, w.heap[g]? = some (.cells c e fz) := by
  intro g hg
  rcases h.2 with ⟨rfl, _⟩ | ⟨g', cap, cur, rfl, _, hgg, _⟩
  · simp [Value.ownBlock] at hg
  · simp [Value.ownBlock] at hg
    subst hg
    exact ⟨cur, _, hgg⟩
theorem ownk_below {w w' : World} {B C : Nat} {e : TypeId} {k : Nat} {v : Value} {n : Nat} {xs : List Value} (h : w.ownsRow B e k v n xs) (hb : Below C w w') (hC : w.heap.size ≤ C) : w'.ownsRow B e k v n xs := by
  refine ⟨h.1, ?_⟩
  rcases h.2 with h2 | ⟨g, cap, cur, hv, hg, hh, r⟩
  · exact .inl h2
  · have : g < w.heap.size := (Array.getElem?_eq_some_iff.1 hh).1
    exact .inr ⟨g, cap, cur, hv, hg, (hb.block g (by omega)).trans hh, r⟩
theorem ownk_mono {w : World} {B C : Nat} {e : TypeId} {k : Nat} {v : Value} {n : Nat} {xs : List Value} (h : w.ownsRow B e k v n xs) (hC : C ≤ B) : w.ownsRow C e k v n xs := by
  refine ⟨h.1, ?_⟩
  rcases h.2 with h2 | ⟨g, cap, cur, hv, hg, r⟩
  · exact .inl h2
  · exact .inr ⟨g, cap, cur, hv, by omega, r⟩

section
variable {α : Type}
/-- The cells of a row: k for each element, read by R. -/
def Els (R : World → List Value → α → Prop) (k : Nat) (w : World) (cells : List Value) (xs : List α) : Prop :=
  cells.length = k * xs.length ∧ ∀ i (h : i < xs.length), R w ((cells.drop (k * i)).take k) xs[i]
/-- A slice that the call owns: its elements have type e and k cells each. -/
def SlR (R : World → List Value → α → Prop) (e : TypeId) (k : Nat) (w : World) (B : Nat) (v : Value) (xs : List α) : Prop :=
  ∃ cells, w.ownsRow B e k v xs.length cells ∧ Els R k w cells xs
/-- R bears what happens above the blocks that there are. -/
def Keeps (R : World → List Value → α → Prop) : Prop := ∀ w w' cs x C, R w cs x → Below C w w' → w.heap.size ≤ C → R w' cs x
/-- R bears the growing of a row of type e. -/
def KeepsRow (R : World → List Value → α → Prop) (e : TypeId) : Prop := ∀ w w' cs x row, R w cs x → w.grownBy w' row → (∀ k, row = some k → ∃ c fz, w.heap[k]? = some (.cells c e fz)) → R w' cs x
variable {R : World → List Value → α → Prop} {e : TypeId} {k : Nat} {w w' : World} {B : Nat} {v : Value} {xs : List α} {cells : List Value}
theorem Els.nil : Els R k w [] [] := ⟨by simp, fun i h => absurd h (by simp)⟩
theorem SlR.nil : SlR R e k w B (.slice none 0 0) [] := ⟨[], World.ownsRow_nil _ _ _ _, Els.nil⟩
theorem Els.below (hR : Keeps R) {C : Nat} (h : Els R k w cells xs) (hb : Below C w w') (hC : w.heap.size ≤ C) : Els R k w' cells xs :=
  ⟨h.1, fun i hi => hR _ _ _ _ _ (h.2 i hi) hb hC⟩
theorem SlR.below (hR : Keeps R) {C : Nat} (h : SlR R e k w B v xs) (hb : Below C w w') (hC : w.heap.size ≤ C) : SlR R e k w' B v xs := by
  obtain ⟨cells, h1, h2⟩ := h
  exact ⟨cells, ownk_below h1 hb hC, h2.below hR hb hC⟩
theorem SlR.shape (h : SlR R e k w B v xs) : ∃ A cap, v = .slice A xs.length cap ∧ xs.length ≤ cap ∧ cap ≤ maxLen ∧ (0 < xs.length → ∃ g, A = some ⟨g, 0, none⟩ ∧ B ≤ g) := by
  obtain ⟨cells, h1, h2⟩ := h
  rcases h1.2 with ⟨rfl, h0⟩ | ⟨g, cap, cur, rfl, hg, hh, hn, hm, _⟩
  · exact ⟨none, 0, by rw [h0], by omega, Nat.zero_le _, fun h => absurd h (by omega)⟩
  · exact ⟨_, cap, rfl, hn, hm, fun _ => ⟨g, rfl, hg⟩⟩
theorem Els.snoc {new : List Value} {x : α} (h : Els R k w cells xs) (hn : new.length = k) (hx : R w new x) : Els R k w (cells ++ new) (xs ++ [x]) := by
  refine ⟨by simp [h.1, hn, Nat.mul_add], fun i hi => ?_⟩
  by_cases hlt : i < xs.length
  · rw [List.getElem_append_left hlt]
    have e1 : ((cells ++ new).drop (k * i)).take k = (cells.drop (k * i)).take k := by
      have : k * i + k ≤ cells.length := by
        rw [h.1]
        have := Nat.mul_le_mul_left k (show i + 1 ≤ xs.length from hlt)
        rw [Nat.mul_add, Nat.mul_one] at this
        exact this
      rw [List.drop_append_of_le_length (by omega), List.take_append_of_le_length (by rw [List.length_drop]; omega)]
    rw [e1]
    exact h.2 i hlt
  · have : i = xs.length := by simp at hi; omega
    subst this
    rw [List.getElem_append_right (Nat.le_refl _)]
    have e1 : ((cells ++ new).drop (k * xs.length)).take k = new := by
      rw [← h.1, List.drop_left, ← hn, List.take_length]
    rw [e1]
    simpa using hx
theorem Els.grown {row : Option Nat} {er : TypeId} (hR : KeepsRow R er) (h : Els R k w cells xs) (hg : w.grownBy w' row) (hr : ∀ j, row = some j → ∃ c fz, w.heap[j]? = some (.cells c er fz)) : Els R k w' cells xs :=
  ⟨h.1, fun i hi => hR _ _ _ _ _ (h.2 i hi) hg hr⟩
/-- Behind an append of one element, by the law 'wpList_append_own': what the new row holds. -/
theorem SlR.push {v' : Value} {new : List Value} {x : α} (hR : KeepsRow R e) (h1 : w.ownsRow B e k v xs.length cells) (h2 : Els R k w cells xs) (hn : new.length = k) (hx : R w new x) (ho : w'.ownsRow B e k v' (xs.length + 1) (cells ++ new)) (hg : w.grownBy w' v.ownBlock) : SlR R e k w' B v' (xs ++ [x]) := by
  refine ⟨cells ++ new, by rw [List.length_append]; exact ho, ?_⟩
  exact (h2.snoc hn hx).grown hR hg (ownk_kind h1)
/-- The cells of element i. -/
theorem SlR.at_ {g cap n : Nat} (h : SlR R e k w B (.slice (some ⟨g, 0, none⟩) n cap) xs) (i : Nat) (hi : i < xs.length) :
    ∃ cs, R w cs xs[i] ∧ cs.length = k ∧ ∀ j (hj : j < cs.length), w.cell? ⟨g, k * i + j, none⟩ = some cs[j] := by
  obtain ⟨cells, h1, h2⟩ := h
  rcases h1.2 with ⟨hv, _⟩ | ⟨g', cap', cur, hv, hg, hh, hn, hm, hs, ht⟩
  · cases hv
  · injection hv with e1 e2 e3
    injection e1 with e1
    injection e1 with e1
    subst e1
    have hk : k * i + k ≤ cells.length := by
      rw [h2.1]
      have := Nat.mul_le_mul_left k (show i + 1 ≤ xs.length from hi)
      rw [Nat.mul_add, Nat.mul_one] at this
      exact this
    have hl : ((cells.drop (k * i)).take k).length = k := by rw [List.length_take, List.length_drop]; omega
    refine ⟨_, h2.2 i hi, hl, fun j hj => ?_⟩
    rw [hl] at hj
    have h3 : cells[k * i + j]? = some ((cells.drop (k * i)).take k)[j] := by
      rw [List.getElem_take, List.getElem_drop, ← List.getElem?_eq_getElem]
    have h4 : (cur.toList.take (xs.length * k))[k * i + j]? = cells[k * i + j]? := by rw [ht]
    rw [List.getElem?_take_of_lt (by rw [← h1.1]; omega)] at h4
    have h5 : cur[k * i + j]? = cells[k * i + j]? := by simpa using h4
    simp only [World.cell?, hh]
    rw [h5, h3]
    simp
end
end Go.Proofs.YtcigfmnkfelhjaaDoor
