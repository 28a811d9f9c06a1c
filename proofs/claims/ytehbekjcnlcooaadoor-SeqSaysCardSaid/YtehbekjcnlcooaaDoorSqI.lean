/- Numbers as elements of rows. -/
import Derived.Test.YtehbekjcnlcooaaDoorSqA
import Derived.OwnWalk
import Derived.Deep.AppendLies
set_option linter.unusedVariables false
namespace Go.Proofs.YtehbekjcnlcooaaDoor
open Go.RowKit

/-- An element: one number. -/
def IntR (w : World) (cs : List Value) (n : Int) : Prop := cs = [.int .i64 n]
theorem IntR.keeps : Keeps IntR := fun w w' cs x C h hb hC => h
theorem IntR.keepsRow : KeepsRow IntR 2 := fun w w' cs x row h hg hr => h
theorem intInfo : (Tryd.prog.info? 2).map (fun i => (i.zero, i.size, i.bytes)) = some (some (.int .i64 0), 1, 8) := by kernel_rfl
theorem int_cell {w : World} {b o : Nat} {l : List Int} (h : RdR IntR 1 w (some ⟨b, o, none⟩) l) (i : Nat) (hi : i < l.length) : w.cell? ⟨b, o + i, none⟩ = some (.int .i64 l[i]) := by
  obtain ⟨b', o', v, hA, h1, h2⟩ := h.one i hi
  cases hA
  unfold IntR at h1
  cases h1
  exact h2
theorem spInfo : (Tryd.prog.info? 38).map (fun i => (i.zero, i.size, i.bytes)) = some (some (.agg #[.int .i64 0, .int .i64 0]), 2, 16) := by kernel_rfl
theorem SpR.keepsRow0 : KeepsRow SpR 38 := fun w w' cs x row h hg hr => h
section
variable {α : Type} {R : World → List Value → α → Prop} {e : TypeId} {k : Nat} {w : World} {B : Nat} {v : Value} {xs : List α}
theorem SlR.rdq (h : SlR R e k w B v xs) (hk : 0 < k) : ∃ A cap, v = .slice A xs.length cap ∧ xs.length ≤ cap ∧ cap ≤ maxLen ∧ RdR R k w A xs := by
  obtain ⟨A, cap, rfl, h1, h2, h3⟩ := h.shape
  refine ⟨A, cap, rfl, h1, h2, fun hp => ?_⟩
  obtain ⟨g, rfl, hg⟩ := h3 hp
  refine ⟨g, 0, rfl, ?_, fun i hi => ?_⟩
  · obtain ⟨cs, _, hl, hc⟩ := h.at_ 0 hp
    exact World.block_lt_of_cell? w _ (hc 0 (by omega))
  · obtain ⟨cs, h4, h5, h6⟩ := h.at_ i hi
    exact ⟨cs, h4, h5, fun j hj => by rw [Nat.zero_add]; exact h6 j hj⟩
theorem SlR.setq (hR : ∀ w cs x a u, R w cs x → R (w.setCell a u) cs x) (h : SlR R e k w B v xs) {a : Addr} (ha : a.block < B) (u : Value) : SlR R e k (w.setCell a u) B v xs := by
  obtain ⟨cells, h1, h2, h3⟩ := h
  exact ⟨cells, ownsRow_setCell_below h1 ha u, h2, fun i hi => hR _ _ _ _ _ (h3 i hi)⟩
end

theorem heap_setCell_at (w : World) (g o : Nat) (v : Value) (cur : Array Value) (e : TypeId) (fz : Nat × Nat) (h : w.heap[g]? = some (.cells cur e fz)) :
    (w.setCell ⟨g, o, none⟩ v).heap[g]? = some (.cells (cur.setIfInBounds o v) e fz) := by
  simp [World.setCell, Array.getElem?_modify, h]
section
variable {α : Type} {R : World → List Value → α → Prop} {e : TypeId} {k : Nat} {w : World} {B : Nat} {xs : List α}
/-- Cell j of element i of an own row is stored into. -/
theorem SlR.setEl {g cap n : Nat} (h : SlR R e k w B (.slice (some ⟨g, 0, none⟩) n cap) xs) (i j : Nat) (hi : i < xs.length) (hj : j < k) (val : Value) (y : α)
    (hkeep : ∀ cs x w', R w cs x → R w' cs x) (hy : ∀ cs w', R w cs xs[i] → cs.length = k → R w' (cs.set j val) y) :
    SlR R e k (w.setCell ⟨g, i * k + j, none⟩ val) B (.slice (some ⟨g, 0, none⟩) n cap) (xs.set i y) := by
  obtain ⟨cells, h1, h2⟩ := h
  rcases h1 with ⟨hl, ⟨hv, _⟩ | ⟨g', cap', cur, hv, hg, hh, hn, hm, hs, ht⟩⟩
  · cases hv
  · injection hv with e1 e2 e3
    injection e1 with e1
    injection e1 with e1
    subst e1
    subst e3
    have hk : i * k + k ≤ xs.length * k := by
      have := Nat.mul_le_mul_right k (show i + 1 ≤ xs.length from hi)
      rwa [Nat.add_mul, Nat.one_mul] at this
    have hk2 : xs.length * k ≤ cap * k := Nat.mul_le_mul_right k hn
    refine ⟨cells.set (i * k + j) val, ⟨by rw [List.length_set, List.length_set]; exact hl, .inr ⟨g, cap, cur.setIfInBounds (i * k + j) val, ?_, hg, heap_setCell_at _ _ _ _ _ _ _ hh, by rw [List.length_set]; exact hn, hm, by simpa using hs, ?_⟩⟩, ?_⟩
    · rw [List.length_set, e2]
    · rw [List.length_set, Array.toList_setIfInBounds, List.take_set, ht]
    · refine ⟨by rw [List.length_set, List.length_set]; exact h2.1, fun i' hi' => ?_⟩
      have hi2 : i' < xs.length := by rwa [List.length_set] at hi'
      have hcl : ((cells.drop (k * i')).take k).length = k := by
        have := Nat.mul_le_mul_right k (show i' + 1 ≤ xs.length from hi2)
        rw [Nat.add_mul, Nat.one_mul] at this
        rw [List.length_take, List.length_drop, hl, Nat.mul_comm k i']
        omega
      by_cases he : i' = i
      · subst he
        rw [List.getElem_set_self]
        have e9 : ((cells.set (i' * k + j) val).drop (k * i')).take k = ((cells.drop (k * i')).take k).set j val := by
          rw [List.drop_set, if_neg (by rw [Nat.mul_comm k i']; omega), List.take_set]
          congr 1
          rw [Nat.mul_comm k i']; omega
        rw [e9]
        exact hy _ _ (h2.2 i' hi2) hcl
      · rw [List.getElem_set_ne (fun h => he h.symm)]
        have e9 : ((cells.set (i * k + j) val).drop (k * i')).take k = (cells.drop (k * i')).take k := by
          rcases Nat.lt_or_gt_of_ne he with hlt | hgt
          · have h3 := Nat.mul_le_mul_right k (show i' + 1 ≤ i from hlt)
            rw [Nat.add_mul, Nat.one_mul] at h3
            rw [List.drop_set, if_neg (by rw [Nat.mul_comm k i']; omega), List.take_set, List.set_eq_of_length_le]
            rw [List.length_take, Nat.mul_comm k i']
            omega
          · have h3 := Nat.mul_le_mul_right k (show i + 1 ≤ i' from hgt)
            rw [Nat.add_mul, Nat.one_mul] at h3
            rw [List.drop_set, if_pos (by rw [Nat.mul_comm k i']; omega)]
        rw [e9]
        exact hkeep _ _ _ (h2.2 i' hi2)
theorem SlR.setLow {v : Value} (hR : ∀ w w' cs x, R w cs x → R w' cs x) (h : SlR R e k w B v xs) {a : Addr} (ha : a.block < B) (u : Value) : SlR R e k (w.setCell a u) B v xs := by
  obtain ⟨cells, h1, h2, h3⟩ := h
  exact ⟨cells, ownsRow_setCell_below h1 ha u, h2, fun i hi => hR _ _ _ _ (h3 i hi)⟩
end
end Go.Proofs.YtehbekjcnlcooaaDoor
