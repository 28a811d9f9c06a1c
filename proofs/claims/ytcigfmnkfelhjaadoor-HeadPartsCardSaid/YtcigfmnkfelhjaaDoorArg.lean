/- Slices that come in as arguments, whatever their elements: of no program. -/
import Derived.Test.YtcigfmnkfelhjaaDoorRdR
import Derived.ChangeArms
import Derived.SliceStrings
import Derived.SizedLaws
set_option linter.unusedVariables false
namespace Go.Proofs.YtcigfmnkfelhjaaDoor
open Go.RowKit

theorem mapM_get {f : Nat → Option Value} : ∀ {l : List Nat} {cs : List Value}, l.mapM f = some cs → cs.length = l.length ∧ ∀ j (h : j < l.length), f l[j] = cs[j]?
  | [], cs, h => by
    simp at h
    subst h
    exact ⟨rfl, fun j h => absurd h (by simp)⟩
  | x :: l, cs, h => by
    rw [List.mapM_cons] at h
    cases hx : f x with
    | none => simp [hx] at h
    | some v =>
      cases hl : l.mapM f with
      | none => simp [hx, hl] at h
      | some vs =>
        simp [hx, hl] at h
        subst h
        obtain ⟨h1, h2⟩ := mapM_get hl
        refine ⟨by simp [h1], fun j hj => ?_⟩
        cases j with
        | zero => simpa using hx
        | succ j => simpa using h2 j (by simpa using hj)
theorem weights_all {H : Type} {P : Program} {e : TypeId} : ∀ {ds : List (DataW H)} {d : DataW H}, d ∈ ds → ∀ n ∈ d.weights P e, n ∈ DataW.weightsAll P e ds
  | d0 :: ds, d, hd, n, hn => by
    simp only [DataW.weightsAll, List.mem_append]
    rcases List.mem_cons.1 hd with rfl | hd
    · exact .inl hn
    · exact .inr (weights_all hd n hn)
theorem arg_rows {H : Type} {enc : TypeId × Value → H} {P : Program} {w : World} {base : Nat} {sp : Nat → Bool} {held : Bool} {t e : TypeId} {k : Nat} {α : Type} {R : World → List Value → α → Prop} (ht : P.underlying t = some (.slice e)) (hk : P.cellsOf e = k) (hk0 : 0 < k)
    (hR : ∀ fuel cs y, DataW.trod enc P w base sp held fuel e cs = some y → (∀ n ∈ y.1.weights P e, n ≤ reachBytes) → ∃ x, R w cs x) {fuel : Nat} {A : Option Addr} {len cap : Nat} {x : DataW H × List MemPlace}
    (h : DataW.trod enc P w base sp held fuel t (Value.slice A len cap).cells.toList = some x) (hz : ∀ n ∈ x.1.weights P t, n ≤ reachBytes) : ∃ l : List α, l.length = len ∧ RdR R k w A l ∧ l.length ≤ cap ∧ cap ≤ maxLen := by
  rcases DataW.trod_slice ht h with ⟨hcs, _⟩ | ⟨a, len', cap', elems, rest, n, _, hcs, hx, _, hl, hm, hlen, hel, _⟩
  · simp [Value.cells] at hcs
    obtain ⟨rfl, rfl, rfl⟩ := hcs
    exact ⟨[], rfl, RdR.nil, Nat.le_refl _, Nat.zero_le _⟩
  · simp [Value.cells] at hcs
    obtain ⟨rfl, rfl, rfl⟩ := hcs
    rw [hk] at hel
    have each : ∀ i, i < len → ∃ y cs, R w cs y ∧ cs.length = k ∧ ∀ j, j < k → w.cell? ((a.add (i * k)).add j) = cs[j]? := by
      intro i hi
      have h1 := hel i hi
      rw [List.getElem?_eq_getElem (by omega), Option.bind_eq_some_iff] at h1
      obtain ⟨cs, hc, hy⟩ := h1
      obtain ⟨y, hy⟩ := hR _ _ _ hy (fun n hn => hz n (by
        subst hx
        simp only [DataW.weights, ht, List.mem_cons, List.mem_append]
        exact .inr (.inl (weights_all (List.mem_map.2 ⟨_, List.getElem_mem (by omega : i < elems.length), rfl⟩) n hn))))
      unfold World.cells? at hc
      split at hc
      · obtain ⟨g1, g2⟩ := mapM_get hc
        simp at g1 g2
        exact ⟨y, cs, hy, g1, fun j hj => g2 j hj⟩
      · cases hc
    have key : ∀ m, m ≤ len → ∃ l : List α, l.length = m ∧ ∀ i (h : i < l.length), ∃ cs, R w cs l[i] ∧ cs.length = k ∧ ∀ j, j < k → w.cell? ((a.add (i * k)).add j) = cs[j]? := by
      intro m
      induction m with
      | zero => exact fun _ => ⟨[], rfl, fun i h => absurd h (by simp)⟩
      | succ m ih =>
        intro hm'
        obtain ⟨l, h1, h2⟩ := ih (by omega)
        obtain ⟨y, cs, h3⟩ := each m (by omega)
        refine ⟨l ++ [y], by simp [h1], fun i hi => ?_⟩
        by_cases hlt : i < l.length
        · rw [List.getElem_append_left hlt]
          exact h2 i hlt
        · obtain rfl : i = l.length := by simp at hi; omega
          rw [List.getElem_append_right (Nat.le_refl _)]
          simp only [Nat.sub_self, List.getElem_cons_zero]
          rw [h1]
          exact ⟨cs, h3⟩
    obtain ⟨l, h1, h2⟩ := key len (Nat.le_refl _)
    refine ⟨l, h1, fun hp => ?_, by omega, hm⟩
    obtain ⟨b, o, spt⟩ := a
    obtain ⟨cs0, _, g2, g3⟩ := h2 0 hp
    have g4 := g3 0 hk0
    rw [List.getElem?_eq_getElem (by omega)] at g4
    have hsp : spt = none := by simpa [Addr.add] using World.cell?_spot g4
    subst hsp
    simp only [addp] at h2 g4
    refine ⟨b, o, rfl, World.block_lt_of_cell? w _ g4, fun i hi => ?_⟩
    obtain ⟨cs, k1, k2, k3⟩ := h2 i hi
    refine ⟨cs, k1, k2, fun j hj => ?_⟩
    have := k3 j (by omega)
    rw [List.getElem?_eq_getElem hj] at this
    rw [Nat.mul_comm k i]
    exact this
/-- An element that is a string of a length that there can be. -/
def StrZ (w : World) (cs : List Value) (s : ByteArray) : Prop := cs = [.string s] ∧ s.size ≤ 140737488351232
theorem StrZ.keeps : Keeps StrZ := fun w w' cs x C h hb hC => h
theorem str_r {H : Type} {enc : TypeId × Value → H} {P : Program} {w : World} {base : Nat} {sp : Nat → Bool} {held : Bool} {e : TypeId} (he : P.underlying e = some .string) {fuel : Nat} {cs : List Value} {y : DataW H × List MemPlace} (h : DataW.trod enc P w base sp held fuel e cs = some y) (hz : ∀ n ∈ y.1.weights P e, n ≤ reachBytes) : ∃ s, StrZ w cs s := by
  obtain ⟨s, rfl, rfl, hw⟩ := DataW.trod_string he h
  refine ⟨s, rfl, ?_⟩
  have := hz s.data.toList.length (by simp [DataW.weights])
  rw [show reachBytes = 140737488351232 by decide] at this
  simpa using this
end Go.Proofs.YtcigfmnkfelhjaaDoor
