/- append onto a row of bytes of the call's own: where the row lies behind it. Two rows apart. -/
import Derived.Test.YtcigfmnkfelhjaaDoorAp
import Derived.Lib.AppendStr
set_option linter.unusedVariables false
namespace Go.Proofs.YtcigfmnkfelhjaaDoor
open Go.RowKit

section
variable {P : Program} (w : World)
theorem run_append_rda (base : Nat) (t ty e : TypeId) (i : TypeInfo) (ht : P.underlying t = some (.slice e)) (hi : P.info? e = some i) (hz : i.zero = some (.int .u8 0)) (hsize : i.size = 1) (hby : i.bytes = 1)
    (v : Value) (l1 : List UInt8) (hown : w.ownsRow base e 1 v l1.length (Lib.byteCells l1)) (A : Option Addr) (l2 : List UInt8) (c : Nat) (hr : Rd w A l2) (h63 : l1.length + l2.length ≤ 140737488355328) (hbase : base ≤ w.heap.size) :
    ∃ v' w', (Builtin.append_ #[t, t] ty #[v, .slice A l2.length c]).run P w = .ok v' w' ∧ w'.ownsRow base e 1 v' (l1 ++ l2).length (Lib.byteCells (l1 ++ l2)) ∧ w.grownBy w' v.ownBlock ∧ (v'.ownBlock = v.ownBlock ∨ v'.ownBlock = some w.heap.size) := by
  rw [List.length_append, Lib.byteCells_append]
  have hm : l1.length + l2.length ≤ maxLen := by unfold maxLen; omega
  rcases A with _ | ad
  · have h2 : l2 = [] := by
      rcases Nat.eq_zero_or_pos l2.length with h0 | h0
      · exact List.eq_nil_of_length_eq_zero h0
      · obtain ⟨b, o, h, _⟩ := hr h0
        cases h
    subst h2
    refine ⟨v, w, ?_, by simpa [Lib.byteCells] using hown, World.grownBy.refl w _, .inl rfl⟩
    rcases hown.2 with ⟨rfl, h0⟩ | ⟨g, cap, cur, rfl, _, _, hnc, _⟩
    · have : l1 = [] := List.eq_nil_of_length_eq_zero h0
      subst this
      simp [Builtin.append_, run_underlying ht, sizeOf, typeInfo, hi, Builtin.lenOf, Builtin.firstCells]
    · simp [Builtin.append_, run_underlying ht, sizeOf, typeInfo, hi, Builtin.lenOf, Builtin.firstCells, hnc, storeCells]
  · have hcells : ∀ j u, (Lib.byteCells l2)[j]? = some u → w.cell? (ad.add j) = some u := by
      intro j u hu
      have hj : j < l2.length := by
        have := (List.getElem?_eq_some_iff.1 hu).1
        rwa [Lib.byteCells_length] at this
      obtain ⟨b, o, h, _, hc⟩ := hr (by omega)
      injection h with h
      subst h
      have e : (⟨b, o, none⟩ : Addr).add j = ⟨b, o + j, none⟩ := by unfold Addr.add; split <;> simp_all
      rw [e, hc j hj, ← hu]
      simp [Lib.byteCells, hj]
    obtain ⟨v', w', hrun, h2, h3, _, h5⟩ := run_append_own_at (P := P) w base t ty e i (.int .u8 0) 1 1 ht hi hz hsize hby rfl (by decide) v l1.length (Lib.byteCells l1) hown ad l2.length c (Lib.byteCells l2) (by rw [Lib.byteCells_length]; omega) hcells
      (by intro u hu; simp only [Lib.byteCells, List.mem_map] at hu; obtain ⟨x, _, rfl⟩ := hu; rfl) hm (by omega) hbase
    exact ⟨v', w', hrun, h2, h3, h5⟩
theorem wpList_append_rda {ops : Array Oper} {rest : List Oper} {o : Oper} {a : Act} {Q : Exit → Act → World → Prop} (hgd : o.guard = none) (s x : Operand) (t : TypeId)
    (ho : o.op = .call { callee := .builtin .append, args := #[s, x], argTypes := #[t, t] })
    (base : Nat) (e : TypeId) (i : TypeInfo) (ht : P.underlying t = some (.slice e)) (hi : P.info? e = some i) (hz : i.zero = some (.int .u8 0)) (hsize : i.size = 1) (hby : i.bytes = 1)
    (v : Value) (l1 : List UInt8) (hs : a.eval s = v) (hown : w.ownsRow base e 1 v l1.length (Lib.byteCells l1)) (A : Option Addr) (l2 : List UInt8) (n c : Nat) (hn : n = l2.length) (hx : a.eval x = .slice A n c) (hr : Rd w A l2) (h63 : l1.length + l2.length ≤ 140737488355328) (hbase : base ≤ w.heap.size)
    (h : ∀ v' w', w'.ownsRow base e 1 v' (l1 ++ l2).length (Lib.byteCells (l1 ++ l2)) → w.grownBy w' v.ownBlock → (v'.ownBlock = v.ownBlock ∨ v'.ownBlock = some w.heap.size) → wpList P ops Q rest (a.put o.dst v') w') : wpList P ops Q (o :: rest) a w :=
  wpList_plain hgd fun K hK => by
    subst hn
    obtain ⟨v', w', hrun, h2, h3, h4⟩ := run_append_rda (P := P) w base t o.type e i ht hi hz hsize hby v l1 hown A l2 c hr h63 hbase
    unfold Oper.wp execOp
    simp only [ho, resolve, invoke, builtin, Sem.run_bind, Sem.run_pure, Result.andThen_ok, List.map_toArray, List.map_cons, List.map_nil, hs, hx, hrun]
    exact hK _ _ (h v' w' h2 h3 h4)
/-- append of a string's bytes. -/
theorem wpList_append_st {ops : Array Oper} {rest : List Oper} {o : Oper} {a : Act} {Q : Exit → Act → World → Prop} (hgd : o.guard = none) (s x : Operand) (t u : TypeId)
    (ho : o.op = .call { callee := .builtin .append, args := #[s, x], argTypes := #[t, u] })
    (base : Nat) (e : TypeId) (i : TypeInfo) (ht : P.underlying t = some (.slice e)) (hu : P.underlying u = some .string) (hi : P.info? e = some i) (hz : i.zero = some (.int .u8 0)) (hsize : i.size = 1) (hby : i.bytes = 1)
    (v : Value) (l1 : List UInt8) (hs : a.eval s = v) (hown : w.ownsRow base e 1 v l1.length (Lib.byteCells l1)) (l2 : List UInt8) (st : ByteArray) (hst : st.data.toList = l2) (hx : a.eval x = .string st) (h63 : l1.length + l2.length ≤ 140737488355328) (hbase : base ≤ w.heap.size)
    (h : ∀ v' w', w'.ownsRow base e 1 v' (l1 ++ l2).length (Lib.byteCells (l1 ++ l2)) → w.grownBy w' v.ownBlock → wpList P ops Q rest (a.put o.dst v') w') : wpList P ops Q (o :: rest) a w := by
  have hsz : st.size = l2.length := by rw [← hst]; simp
  refine Lib.wpList_append_own_string w hgd s x t u ho base e i ht hu hi hz hsize hby v l1.length (Lib.byteCells l1) hs hown st hx (by unfold maxLen; omega) (by omega) hbase ?_
  intro v' w' h1 h2 _
  have e1 : Lib.byteCells l1 ++ Lib.strCells st = Lib.byteCells (l1 ++ l2) := by
    rw [Lib.byteCells_append]
    congr 1
    rw [← hst]
    simp [Lib.strCells, Lib.byteCells]
  rw [e1] at h1
  exact h v' w' (by rw [List.length_append, ← hsz]; exact h1) h2
end
/-- A row of one's own under the growing of another. -/
theorem own_kept {w w' : World} {B : Nat} {e : TypeId} {k : Nat} {v : Value} {n : Nat} {xs : List Value} {row : Option Nat} (h : w.ownsRow B e k v n xs) (hg : w.grownBy w' row) (hne : v.ownBlock = none ∨ v.ownBlock ≠ row) : w'.ownsRow B e k v n xs := by
  refine ⟨h.1, ?_⟩
  rcases h.2 with h2 | ⟨g, cap, cur, rfl, hg', hh, r⟩
  · exact .inl h2
  · have hlt : g < w.heap.size := (Array.getElem?_eq_some_iff.1 hh).1
    refine .inr ⟨g, cap, cur, rfl, hg', (hg.block g hlt ?_).trans hh, r⟩
    rcases hne with h0 | h0
    · simp [Value.ownBlock] at h0
    · intro e1
      exact h0 (by rw [← e1]; rfl)
/-- Two rows do not share a block. -/
def Apart (u v : Value) : Prop := u.ownBlock = none ∨ u.ownBlock ≠ v.ownBlock
theorem own_lt {w : World} {B : Nat} {e : TypeId} {k : Nat} {v : Value} {n : Nat} {xs : List Value} (h : w.ownsRow B e k v n xs) : ∀ g, v.ownBlock = some g → g < w.heap.size := by
  intro g hg
  rcases h.2 with ⟨rfl, _⟩ | ⟨g', cap, cur, rfl, _, hh, r⟩
  · simp [Value.ownBlock] at hg
  · simp [Value.ownBlock] at hg
    subst hg
    exact (Array.getElem?_eq_some_iff.1 hh).1
/-- u stays apart from v behind an append onto v. -/
theorem Apart.grown {w : World} {B : Nat} {e : TypeId} {k n : Nat} {u v v' : Value} {xs : List Value} (h : Apart u v) (hu : w.ownsRow B e k u n xs) {N : Nat} (hat : v'.ownBlock = v.ownBlock ∨ v'.ownBlock = some N) (hN : w.heap.size ≤ N) : Apart u v' := by
  rcases h with h | h
  · exact .inl h
  · by_cases h0 : u.ownBlock = none
    · exact .inl h0
    · refine .inr ?_
      rcases hat with h1 | h1
      · rw [h1]; exact h
      · rw [h1]
        intro e1
        have := own_lt hu _ e1
        omega
theorem Apart.symm {u v : Value} (h : Apart u v) : Apart v u := by
  rcases h with h | h
  · by_cases h0 : v.ownBlock = none
    · exact .inl h0
    · exact .inr (by rw [h]; exact h0)
  · exact .inr (Ne.symm h)
end Go.Proofs.YtcigfmnkfelhjaaDoor
