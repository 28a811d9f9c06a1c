/- A set that comes in as an argument: its spans. -/
import Derived.Test.YtehbekjcnlcooaaDoorSqA
import Derived.Test.YtehbekjcnlcooaaDoorArg
import Derived.ChangeSame
set_option linter.unusedVariables false
namespace Go.Proofs.YtehbekjcnlcooaaDoor
open Go.RowKit Go.ChangeShapes

theorem arg_rowsN {H : Type} {enc : TypeId × Value → H} {P : Program} {w : World} {base : Nat} {sp : Nat → Bool} {held : Bool} {t e : TypeId} {k : Nat} {α : Type} {R : World → List Value → α → Prop} (ht : P.underlying t = some (.slice e)) (hk : P.cellsOf e = k) (hk0 : 0 < k)
    (hR : ∀ fuel cs y, DataW.trod enc P w base sp held fuel e cs = some y → ∃ x, R w cs x) {fuel : Nat} {A : Option Addr} {len cap : Nat} {x : DataW H × List MemPlace}
    (h : DataW.trod enc P w base sp held fuel t (Value.slice A len cap).cells.toList = some x) : ∃ l : List α, l.length = len ∧ RdR R k w A l ∧ l.length ≤ cap ∧ cap ≤ maxLen := by
  rcases DataW.trod_slice ht h with ⟨hcs, _⟩ | ⟨a, len', cap', elems, rest, n, _, hcs, hx, _, hl, hm, hlen, hel, _⟩
  · simp [Value.cells] at hcs
    obtain ⟨rfl, rfl, rfl⟩ := hcs
    exact ⟨[], rfl, RdR.nil, Nat.le_refl _, Nat.zero_le _⟩
  · simp [Value.cells] at hcs
    obtain ⟨rfl, rfl, rfl⟩ := hcs
    rw [hk] at hel
    have each : ∀ i, i < len → ∃ y cs, R w cs y ∧ cs.length = k ∧ ∀ j, j < k → w.cell? ((a.add (i * k)).add j) = cs[j]? := by
      intro i hi
      have h1 := hel i hi
      rw [List.getElem?_eq_getElem (by omega), Option.bind_eq_some_iff] at h1
      obtain ⟨cs, hc, hy⟩ := h1
      obtain ⟨y, hy⟩ := hR _ _ _ hy
      unfold World.cells? at hc
      split at hc
      · obtain ⟨g1, g2⟩ := mapM_get hc
        simp at g1 g2
        exact ⟨y, cs, hy, g1, fun j hj => g2 j hj⟩
      · cases hc
    have key : ∀ m, m ≤ len → ∃ l : List α, l.length = m ∧ ∀ i (h : i < l.length), ∃ cs, R w cs l[i] ∧ cs.length = k ∧ ∀ j, j < k → w.cell? ((a.add (i * k)).add j) = cs[j]? := by
      intro m
      induction m with
      | zero => exact fun _ => ⟨[], rfl, fun i h => absurd h (by simp)⟩
      | succ m ih =>
        intro hm'
        obtain ⟨l, h1, h2⟩ := ih (by omega)
        obtain ⟨y, cs, h3⟩ := each m (by omega)
        refine ⟨l ++ [y], by simp [h1], fun i hi => ?_⟩
        by_cases hlt : i < l.length
        · rw [List.getElem_append_left hlt]
          exact h2 i hlt
        · obtain rfl : i = l.length := by simp at hi; omega
          rw [List.getElem_append_right (Nat.le_refl _)]
          simp only [Nat.sub_self, List.getElem_cons_zero]
          rw [h1]
          exact ⟨cs, h3⟩
    obtain ⟨l, h1, h2⟩ := key len (Nat.le_refl _)
    refine ⟨l, h1, fun hp => ?_, by omega, hm⟩
    obtain ⟨b, o, spt⟩ := a
    obtain ⟨cs0, _, g2, g3⟩ := h2 0 hp
    have g4 := g3 0 hk0
    rw [List.getElem?_eq_getElem (by omega)] at g4
    have hsp : spt = none := by simpa [Addr.add] using World.cell?_spot g4
    subst hsp
    simp only [addp] at h2 g4
    refine ⟨b, o, rfl, World.block_lt_of_cell? w _ g4, fun i hi => ?_⟩
    obtain ⟨cs, k1, k2, k3⟩ := h2 i hi
    refine ⟨cs, k1, k2, fun j hj => ?_⟩
    have := k3 j (by omega)
    rw [List.getElem?_eq_getElem hj] at this
    rw [Nat.mul_comm k i]
    exact this
set_option maxRecDepth 100000 in
theorem sp_r {H : Type} {enc : TypeId × Value → H} {w : World} {base : Nat} {sp : Nat → Bool} {held : Bool} {fuel : Nat} {cs : List Value} {y : DataW H × List MemPlace} (h : DataW.trod enc Tryd.prog w base sp held fuel 38 cs = some y) : ∃ x, SpR w cs x := by
  obtain ⟨z0, z1, m, hx, hl, g0, g1⟩ := trod_struct2 Tryd.underlying38 h
  rw [show Tryd.prog.cellsOf 38 = 2 by kernel_rfl] at hl
  obtain ⟨a, b, rfl⟩ : ∃ a b, cs = [a, b] := by
    match cs, hl with
    | [a, b], _ => exact ⟨a, b, rfl⟩
  · dsimp only at g0 g1
    rw [show Tryd.prog.cellsOf 2 = 1 by kernel_rfl] at g0 g1
    obtain ⟨n0, e0, _, _⟩ := DataW.trod_int Tryd.underlying2 g0
    obtain ⟨n1, e1, _, _⟩ := DataW.trod_int Tryd.underlying2 g1
    obtain rfl : a = .int .i64 n0 := by simpa using e0
    obtain rfl : b = .int .i64 n1 := by simpa using e1
    exact ⟨(n0, n1), rfl⟩
/-- The struct that holds a slice of spans. -/
theorem set_arg {H : Type} {enc : TypeId × Value → H} {w : World} {base : Nat} {sp : Nat → Bool} {held : Bool} {fuel : Nat} {x : Value} {y : DataW H × List MemPlace}
    (h : DataW.trod enc Tryd.prog w base sp held fuel 24 (Value.agg #[x]).cells.toList = some y) : ∃ (A : Option Addr) (l : List (Int × Int)) (cap : Nat), x = .slice A l.length cap ∧ RdR SpR 2 w A l ∧ l.length ≤ cap ∧ cap ≤ maxLen := by
  obtain ⟨z0, m, hx, hl, g0⟩ := trod_struct1 Tryd.underlying24 h
  dsimp only at g0
  rw [show Tryd.prog.cellsOf 22 = 1 by kernel_rfl] at g0
  have g1 : DataW.trod enc Tryd.prog w base sp held m 22 [x] = some z0 := by simpa [Value.cells] using g0
  have key : ∀ A len cap, x = .slice A len cap → ∃ (A : Option Addr) (l : List (Int × Int)) (cap : Nat), x = .slice A l.length cap ∧ RdR SpR 2 w A l ∧ l.length ≤ cap ∧ cap ≤ maxLen := by
    rintro A len cap rfl
    obtain ⟨l, rfl, h2, h3, h4⟩ := arg_rowsN (R := SpR) Tryd.underlying22 (show Tryd.prog.cellsOf 38 = 2 by kernel_rfl) (by decide) (fun _ _ _ hy => sp_r hy) (A := A) (len := len) (cap := cap) (by simpa [Value.cells] using g1)
    exact ⟨A, l, cap, rfl, h2, h3, h4⟩
  rcases DataW.trod_slice Tryd.underlying22 g1 with ⟨hcs, _⟩ | ⟨a, len', cap', _, _, _, _, hcs, _⟩
  · exact key none 0 0 (by simpa using hcs)
  · exact key (some a) len' cap' (by simpa using hcs)
end Go.Proofs.YtehbekjcnlcooaaDoor
