/- The abstract machine: literals, slices, places, conversions. -/
import Derived.Test.YtcigfmnkfelhjaaDoorAm6
import Derived.Laws.Tables
import Derived.Laws.MakeOwn
set_option linter.unusedVariables false
set_option linter.unusedSimpArgs false
namespace Go.Proofs.YtcigfmnkfelhjaaDoor.Am
open Go

section
variable {P : Program} {gl : Gl P} {ρ : Rho} {h : AH} {w : World} {R : Type}

/-! ## Literals -/
theorem updL_some : ∀ (l : List AV) (off : Nat) (vs l' : List AV), updL l off vs = some l' → (vs ≠ [] → off + vs.length ≤ l.length) ∧ (vs = [] → off ≤ l.length) ∧ l'.length = l.length ∧
    ∀ k, l'[k]? = if off ≤ k ∧ k < off + vs.length then vs[k - off]? else l[k]?
  | l, 0, [], l', h => by
    have : l' = l := by cases l <;> simp [updL] at h <;> first | exact h | exact h.symm
    subst this
    exact ⟨fun h => absurd rfl h, fun _ => Nat.zero_le _, rfl, fun k => by rw [if_neg (by simp only [List.length_nil]; omega)]⟩
  | [], 0, v :: vs, l', h => by simp [updL] at h
  | [], n + 1, vs, l', h => by simp [updL] at h
  | a :: r, 0, v :: vs, l', h => by
    simp only [updL] at h
    obtain ⟨r', h1, rfl⟩ := Option.map_eq_some_iff.1 h
    obtain ⟨g1, g2, g3, g4⟩ := updL_some r 0 vs r' h1
    refine ⟨fun _ => ?_, fun h => by simp at h, by simp [g3], fun k => ?_⟩
    · by_cases hv : vs = []
      · subst hv; simp
      · have := g1 hv; simp; omega
    · cases k with
      | zero => simp
      | succ k =>
        have := g4 k
        simp only [List.getElem?_cons_succ, this]
        by_cases hk : 0 ≤ k ∧ k < 0 + vs.length
        · rw [if_pos hk, if_pos (by simp; omega)]; simp
        · rw [if_neg hk, if_neg (by simp at hk ⊢; omega)]
  | a :: r, n + 1, vs, l', h => by
    simp only [updL] at h
    obtain ⟨r', h1, rfl⟩ := Option.map_eq_some_iff.1 h
    obtain ⟨g1, g2, g3, g4⟩ := updL_some r n vs r' h1
    refine ⟨fun hv => by have := g1 hv; simp; omega, fun hv => by have := g2 hv; simp; omega, by simp [g3], fun k => ?_⟩
    cases k with
    | zero => rw [if_neg (by omega)]; simp
    | succ k =>
      simp only [List.getElem?_cons_succ, g4 k]
      by_cases hk : n ≤ k ∧ k < n + vs.length
      · rw [if_pos hk, if_pos (by omega), show k + 1 - (n + 1) = k - n by omega]
      · rw [if_neg hk, if_neg (by omega)]
theorem foldl_set (off : Nat) : ∀ (l : List Value) (s : Nat) (cells : Array Value), off + s + l.length ≤ cells.size →
    ((l.zipIdx s).foldl (fun cs (x : Value × Nat) => cs.setIfInBounds (off + x.2) x.1) cells).size = cells.size ∧
    ∀ k, ((l.zipIdx s).foldl (fun cs (x : Value × Nat) => cs.setIfInBounds (off + x.2) x.1) cells)[k]? = if off + s ≤ k ∧ k < off + s + l.length then l[k - (off + s)]? else cells[k]?
  | [], s, cells, _ => ⟨rfl, fun k => by rw [if_neg (by simp only [List.length_nil]; omega)]; rfl⟩
  | v :: l, s, cells, hl => by
    simp only [List.zipIdx_cons, List.foldl_cons]
    simp at hl
    obtain ⟨h1, h2⟩ := foldl_set off l (s + 1) (cells.setIfInBounds (off + s) v) (by simp; omega)
    refine ⟨by rw [h1]; simp, fun k => ?_⟩
    rw [h2 k]
    by_cases hk : k = off + s
    · subst hk
      rw [if_neg (by omega), if_pos (by simp), Array.getElem?_setIfInBounds_self_of_lt (by omega)]
      simp
    · rw [Array.getElem?_setIfInBounds_ne (Ne.symm hk)]
      by_cases h3 : off + s ≤ k ∧ k < off + s + (v :: l).length
      · rw [if_pos h3, if_pos (by simp at h3; omega), show k - (off + s) = (k - (off + (s + 1))) + 1 by omega]
        simp
      · rw [if_neg h3, if_neg (by simp at h3 ⊢; omega)]

inductive VRP (ρ : Rho) : List (Nat × AV) → List (Nat × Value) → Prop
  | nil : VRP ρ [] []
  | cons {i : Nat} {a : AV} {v : Value} {x : List (Nat × AV)} {x' : List (Nat × Value)} (h : VR ρ a v) (h' : VRP ρ x x') : VRP ρ ((i, a) :: x) ((i, v) :: x')

theorem fillL_some {place : Nat → Option (Nat × Nat)} : ∀ {ps : List (Nat × AV)} {ps' : List (Nat × Value)} {cells : List AV} {cells' : Array Value} {cs : List AV}, VRP ρ ps ps' → VRL ρ cells cells'.toList →
    fillL place cells ps = some cs → ∃ cs', Instr.fill place cells' ps' = some cs' ∧ VRL ρ cs cs'.toList
  | [], _, cells, cells', cs, .nil, hc, h => by
    simp only [fillL] at h
    injection h with h
    subst h
    exact ⟨cells', rfl, hc⟩
  | (i, a) :: ps, (_, v) :: ps', cells, cells', cs, .cons hv hp, hc, h => by
    simp only [fillL] at h
    simp only [Instr.fill]
    cases hpl : place i with
    | none => rw [hpl] at h; cases h
    | some x =>
      obtain ⟨off, size⟩ := x
      rw [hpl] at h
      dsimp only at h ⊢
      have h1 := (cond_some h).1
      replace h := (cond_some h).2
      have h1 := Nat.eq_of_beq_eq_true h1
      rw [lenL_eq] at h1
      have hvc := hv.cells
      have hlen : v.cells.size = size := by rw [← Array.length_toList, hvc.length, h1]
      cases hu : updL cells off a.cells with
      | none => rw [hu] at h; cases h
      | some cells2 =>
        rw [hu] at h
        dsimp only at h
        obtain ⟨g1, g2, g3, g4⟩ := updL_some _ _ _ _ hu
        have hfit : off + v.cells.size ≤ cells'.size := by
          rw [hlen, ← h1, ← Array.length_toList, hc.length]
          by_cases he : a.cells = []
          · have := g2 he; rw [he]; simpa using this
          · exact g1 he
        rw [if_neg (by rw [hlen]; simp; rw [← hlen]; exact hfit)]
        have hfold : (v.cells.zipIdx.foldl (fun cs (x : Value × Nat) => cs.setIfInBounds (off + x.2) x.1) cells') = ((v.cells.toList.zipIdx 0).foldl (fun cs (x : Value × Nat) => cs.setIfInBounds (off + x.2) x.1) cells') := by
          rw [← Array.foldl_toList, Array.toList_zipIdx]
        obtain ⟨f1, f2⟩ := foldl_set off v.cells.toList 0 cells' (by rw [Array.length_toList]; omega)
        refine fillL_some hp ?_ h
        show VRL ρ cells2 (v.cells.zipIdx.foldl (fun cs (x : Value × Nat) => cs.setIfInBounds (off + x.2) x.1) cells').toList
        rw [hfold]
        refine VRL.of_get (by rw [Array.length_toList, f1, g3, ← Array.length_toList, hc.length]) fun k b hb => ?_
        rw [g4 k] at hb
        rw [Array.getElem?_toList, f2 k, hvc.length]
        by_cases h4 : off ≤ k ∧ k < off + a.cells.length
        · rw [if_pos h4] at hb
          rw [if_pos (by omega)]
          exact hvc.get hb
        · rw [if_neg h4] at hb
          rw [if_neg (by omega), ← Array.getElem?_toList]
          exact hc.get hb

theorem mapEvP_some {tm : Tr AV} {ev : Operand → Value} : ∀ {xs : List (Nat × Operand)} {ps : List (Nat × AV)}, (∀ x ∈ xs.map (·.2), ∀ a, aEval gl tm x = some a → VR ρ a (ev x)) → mapEvP gl tm xs = some ps →
    VRP ρ ps (xs.map fun (i, x) => (i, ev x))
  | [], ps, _, e => by simp [mapEvP] at e; subst e; exact .nil
  | (i, x) :: xs, ps, hev, e => by
    simp only [mapEvP] at e
    cases h1 : aEval gl tm x with
    | none => rw [h1] at e; cases e
    | some v =>
      rw [h1] at e
      cases h2 : mapEvP gl tm xs with
      | none => rw [h2] at e; cases e
      | some vs =>
        rw [h2] at e
        injection e with e
        subst e
        exact .cons (hev x (by simp) v h1) (mapEvP_some (fun y hy => hev y (by simp at hy ⊢; exact .inr hy)) h2)
theorem mapEv_some {tm : Tr AV} {ev : Operand → Value} : ∀ {xs : List Operand} {ps : List AV}, (∀ x ∈ xs, ∀ a, aEval gl tm x = some a → VR ρ a (ev x)) → mapEv gl tm xs = some ps →
    VRL ρ ps (xs.map ev)
  | [], ps, _, e => by simp [mapEv] at e; subst e; exact .nil
  | x :: xs, ps, hev, e => by
    simp only [mapEv] at e
    cases h1 : aEval gl tm x with
    | none => rw [h1] at e; cases e
    | some v =>
      rw [h1] at e
      cases h2 : mapEv gl tm xs with
      | none => rw [h2] at e; cases e
      | some vs =>
        rw [h2] at e
        injection e with e
        subst e
        exact .cons (hev x List.mem_cons_self v h1) (mapEv_some (fun y hy => hev y (List.mem_cons_of_mem _ hy)) h2)

/-! ## Rows of zeros -/
theorem repL_eq : ∀ (n : Nat) (z acc : List AV), repL n z acc = (List.replicate n z).flatten ++ acc
  | 0, z, acc => by simp [repL]
  | n + 1, z, acc => by
    simp only [repL]
    rw [repL_eq n, List.replicate_succ', List.flatten_append]
    simp
theorem madeCells_list (z : Array Value) : ∀ n, (madeCells z (n * z.size)).toList = (List.replicate n z.toList).flatten
  | 0 => by simp [madeCells]
  | n + 1 => by
    rw [List.replicate_succ', List.flatten_append, ← madeCells_list z n]
    apply List.ext_getElem?
    intro k
    have hs : (n + 1) * z.size = n * z.size + z.size := by rw [Nat.add_mul, Nat.one_mul]
    have g : ∀ m k, (madeCells z m).toList[k]? = if k < m then some (z[k % z.size]!) else none := by
      intro m k
      rw [Array.getElem?_toList]
      by_cases hk : k < m
      · rw [if_pos hk]; simp [madeCells, hk]
      · rw [if_neg hk, Array.getElem?_eq_none (by simp [madeCells]; omega)]
    by_cases hk : k < n * z.size
    · rw [List.getElem?_append_left (by rw [Array.length_toList, size_madeCells]; exact hk), g, g, if_pos hk, if_pos (by omega)]
    · rw [List.getElem?_append_right (by rw [Array.length_toList, size_madeCells]; omega), g, Array.length_toList, size_madeCells]
      simp only [List.flatten_cons, List.flatten_nil, List.append_nil]
      by_cases hk2 : k < (n + 1) * z.size
      · rw [if_pos hk2]
        have hz : 0 < z.size := by
          rcases Nat.eq_zero_or_pos z.size with h0 | h0
          · rw [h0] at hk2; simp at hk2
          · exact h0
        have hm : k % z.size = k - n * z.size := by
          rw [show k = (k - n * z.size) + n * z.size by omega, Nat.add_mul_mod_self_right, Nat.mod_eq_of_lt (by omega)]
          omega
        rw [hm, Array.getElem?_toList]
        have hlt : k - n * z.size < z.size := by omega
        simp [hlt]
      · rw [if_neg hk2, List.getElem?_eq_none (by rw [Array.length_toList]; omega)]
theorem VRL.replicate {z : List AV} {z' : List Value} (hz : VRL ρ z z') : ∀ n, VRL ρ (List.replicate n z).flatten (List.replicate n z').flatten
  | 0 => .nil
  | n + 1 => by
    rw [List.replicate_succ, List.replicate_succ, List.flatten_cons, List.flatten_cons]
    exact hz.append (VRL.replicate hz n)
theorem repL_made {z : List AV} {z' : Array Value} (hz : VRL ρ z z'.toList) (n : Nat) : VRL ρ (repL n z []) (madeCells z' (n * z'.size)).toList := by
  rw [repL_eq, List.append_nil, madeCells_list]
  exact hz.replicate n

/-! ## Parts -/
theorem dropL_eq {α : Type} : ∀ (l : List AV) (n : Nat), dropL l n = l.drop n
  | l, 0 => by cases l <;> rfl
  | [], n + 1 => rfl
  | a :: r, n + 1 => by simp [dropL, dropL_eq (α := α) r n]
theorem takeK_some : ∀ (l : List AV) (n : Nat) {k : List AV → Option R} {res : R}, takeK l n k = some res → n ≤ l.length ∧ k (l.take n) = some res
  | l, 0, k, res, h => by cases l <;> exact ⟨Nat.zero_le _, by simpa [takeK] using h⟩
  | [], n + 1, k, res, h => by cases h
  | a :: r, n + 1, k, res, h => by
    simp only [takeK] at h
    obtain ⟨h1, h2⟩ := takeK_some r n h
    exact ⟨by simp; omega, by simpa using h2⟩
theorem VRL.drop {x : List AV} {x' : List Value} (h : VRL ρ x x') : ∀ n, VRL ρ (x.drop n) (x'.drop n) := by
  intro n
  refine VRL.of_get (by rw [List.length_drop, List.length_drop, h.length]) fun i a ha => ?_
  rw [List.getElem?_drop] at ha ⊢
  exact h.get ha
theorem VRL.take {x : List AV} {x' : List Value} (h : VRL ρ x x') : ∀ n, VRL ρ (x.take n) (x'.take n) := by
  intro n
  refine VRL.of_get (by rw [List.length_take, List.length_take, h.length]) fun i a ha => ?_
  rw [List.getElem?_take] at ha ⊢
  split
  · rename_i hi
    rw [if_pos hi] at ha
    exact h.get ha
  · rename_i hi
    rw [if_neg hi] at ha
    cases ha
theorem partT_some {t : TypeId} {cs : List AV} {cs' : List Value} {off : Nat} {k : AV → Option R} {res : R} (hc : VRL ρ cs cs') (hk : partT P t cs off k = some res) :
    ∃ x x', k x = some res ∧ (∀ w, (part t ⟨cs'⟩ off).run P w = .ok x' w) ∧ VR ρ x x' := by
  unfold partT at hk
  cases hag : aggT P t with
  | none => rw [hag] at hk; cases hk
  | some b =>
    rw [hag] at hk
    cases b with
    | true =>
      dsimp only at hk
      cases hs : sizeT P t with
      | none => rw [hs] at hk; cases hk
      | some n =>
        rw [hs] at hk
        dsimp only at hk
        rw [dropL_eq (α := AV)] at hk
        obtain ⟨h1, h2⟩ := takeK_some _ _ hk
        refine ⟨_, .agg ⟨(cs'.drop off).take n⟩, h2, fun w => ?_, .agg ((hc.drop off).take n)⟩
        simp only [part, Sem.run_bind, run_aggT hag, Result.andThen_ok, if_true, run_sizeT hs, Sem.run_pure]
        congr 2
        apply Array.ext'
        simp [List.take_drop, List.extract_eq_take_drop]
    | false =>
      dsimp only at hk
      rw [dropL_eq (α := AV)] at hk
      split at hk
      · rename_i x rest hd
        have hx : cs[off]? = some x := by
          have := congrArg (·[0]?) hd
          simpa [List.getElem?_drop] using this
        obtain ⟨x', g1, g2⟩ := hc.get hx
        refine ⟨x, x', hk, fun w => ?_, g2⟩
        simp only [part, Sem.run_bind, run_aggT hag, Result.andThen_ok, Bool.false_eq_true, if_false]
        rw [arr_get, g1]
        rfl
      · cases hk
end
end Go.Proofs.YtcigfmnkfelhjaaDoor.Am
