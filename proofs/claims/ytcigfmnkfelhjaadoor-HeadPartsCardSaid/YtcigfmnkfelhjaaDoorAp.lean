/- append onto a row of bytes of the call's own, from whatever slice of bytes that reads. -/
import Derived.Test.YtcigfmnkfelhjaaDoorPl
import Derived.Maps.AppendAt
import Derived.Deep.AppendLies
import Derived.OwnWalk
set_option linter.unusedVariables false
namespace Go.Proofs.YtcigfmnkfelhjaaDoor
open Go.RowKit

section
variable {P : Program} (w : World)
theorem run_append_rd (base : Nat) (t ty e : TypeId) (i : TypeInfo) (ht : P.underlying t = some (.slice e)) (hi : P.info? e = some i) (hz : i.zero = some (.int .u8 0)) (hsize : i.size = 1) (hby : i.bytes = 1)
    (v : Value) (l1 : List UInt8) (hown : w.ownsRow base e 1 v l1.length (Lib.byteCells l1)) (A : Option Addr) (l2 : List UInt8) (c : Nat) (hr : Rd w A l2) (h63 : l1.length + l2.length ≤ 140737488355328) (hbase : base ≤ w.heap.size) :
    ∃ v' w', (Builtin.append_ #[t, t] ty #[v, .slice A l2.length c]).run P w = .ok v' w' ∧ w'.ownsRow base e 1 v' (l1 ++ l2).length (Lib.byteCells (l1 ++ l2)) ∧ w.grownBy w' v.ownBlock := by
  rw [List.length_append, Lib.byteCells_append]
  have hm : l1.length + l2.length ≤ maxLen := by unfold maxLen; omega
  rcases A with _ | ad
  · have h2 : l2 = [] := by
      rcases Nat.eq_zero_or_pos l2.length with h0 | h0
      · exact List.eq_nil_of_length_eq_zero h0
      · obtain ⟨b, o, h, _⟩ := hr h0
        cases h
    subst h2
    refine ⟨v, w, ?_, by simpa [Lib.byteCells] using hown, World.grownBy.refl w _⟩
    rcases hown.2 with ⟨rfl, h0⟩ | ⟨g, cap, cur, rfl, _, _, hnc, _⟩
    · have : l1 = [] := List.eq_nil_of_length_eq_zero h0
      subst this
      simp [Builtin.append_, run_underlying ht, sizeOf, typeInfo, hi, Builtin.lenOf, Builtin.firstCells]
    · simp [Builtin.append_, run_underlying ht, sizeOf, typeInfo, hi, Builtin.lenOf, Builtin.firstCells, hnc, storeCells]
  · have hcells : ∀ j u, (Lib.byteCells l2)[j]? = some u → w.cell? (ad.add j) = some u := by
      intro j u hu
      have hj : j < l2.length := by
        have := (List.getElem?_eq_some_iff.1 hu).1
        rwa [Lib.byteCells_length] at this
      obtain ⟨b, o, h, _, hc⟩ := hr (by omega)
      injection h with h
      subst h
      have e : (⟨b, o, none⟩ : Addr).add j = ⟨b, o + j, none⟩ := by unfold Addr.add; split <;> simp_all
      rw [e, hc j hj, ← hu]
      simp [Lib.byteCells, hj]
    obtain ⟨v', w', hrun, h2, h3, _, _⟩ := run_append_own_at (P := P) w base t ty e i (.int .u8 0) 1 1 ht hi hz hsize hby rfl (by decide) v l1.length (Lib.byteCells l1) hown ad l2.length c (Lib.byteCells l2) (by rw [Lib.byteCells_length]; omega) hcells
      (by intro u hu; simp only [Lib.byteCells, List.mem_map] at hu; obtain ⟨x, _, rfl⟩ := hu; rfl) hm (by omega) hbase
    exact ⟨v', w', hrun, h2, h3⟩

theorem wpList_append_rd {ops : Array Oper} {rest : List Oper} {o : Oper} {a : Act} {Q : Exit → Act → World → Prop} (hgd : o.guard = none) (s x : Operand) (t : TypeId)
    (ho : o.op = .call { callee := .builtin .append, args := #[s, x], argTypes := #[t, t] })
    (base : Nat) (e : TypeId) (i : TypeInfo) (ht : P.underlying t = some (.slice e)) (hi : P.info? e = some i) (hz : i.zero = some (.int .u8 0)) (hsize : i.size = 1) (hby : i.bytes = 1)
    (v : Value) (l1 : List UInt8) (hs : a.eval s = v) (hown : w.ownsRow base e 1 v l1.length (Lib.byteCells l1)) (A : Option Addr) (l2 : List UInt8) (n c : Nat) (hn : n = l2.length) (hx : a.eval x = .slice A n c) (hr : Rd w A l2) (h63 : l1.length + l2.length ≤ 140737488355328) (hbase : base ≤ w.heap.size)
    (h : ∀ v' w', w'.ownsRow base e 1 v' (l1 ++ l2).length (Lib.byteCells (l1 ++ l2)) → w.grownBy w' v.ownBlock → wpList P ops Q rest (a.put o.dst v') w') : wpList P ops Q (o :: rest) a w :=
  wpList_plain hgd fun K hK => by
    subst hn
    obtain ⟨v', w', hrun, h2, h3⟩ := run_append_rd (P := P) w base t o.type e i ht hi hz hsize hby v l1 hown A l2 c hr h63 hbase
    unfold Oper.wp execOp
    simp only [ho, resolve, invoke, builtin, Sem.run_bind, Sem.run_pure, Result.andThen_ok, List.map_toArray, List.map_cons, List.map_nil, hs, hx, hrun]
    exact hK _ _ (h v' w' h2 h3)
end
/-- A row of bytes that the call owns reads as its bytes. -/
theorem Bts.of_own {w : World} {B : Nat} {e : TypeId} {v : Value} {l : List UInt8} (h : w.ownsRow B e 1 v l.length (Lib.byteCells l)) : ∃ A cap, v = .slice A l.length cap ∧ l.length ≤ cap ∧ Rd w A l := by
  rcases h.2 with ⟨rfl, h0⟩ | ⟨g, cap, cur, rfl, hg, hh, hn, hm, hs, ht⟩
  · have : l = [] := List.eq_nil_of_length_eq_zero h0
    subst this
    exact ⟨none, 0, rfl, Nat.le_refl _, Rd.nil⟩
  · refine ⟨_, cap, rfl, hn, fun _ => ⟨g, 0, rfl, (Array.getElem?_eq_some_iff.1 hh).1, fun i hi => ?_⟩⟩
    have h2 : (cur.toList.take (l.length * 1))[i]? = (Lib.byteCells l)[i]? := by rw [ht]
    rw [List.getElem?_take_of_lt (by omega)] at h2
    have h3 : cur[i]? = some (.int .u8 (l[i].toNat : Int)) := by simpa [Lib.byteCells, hi] using h2
    simp [World.cell?, hh, h3]
end Go.Proofs.YtcigfmnkfelhjaaDoor
