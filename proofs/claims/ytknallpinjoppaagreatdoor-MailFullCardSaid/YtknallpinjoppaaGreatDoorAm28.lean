/- The abstract machine: strings put into a slice, by the library's contracts. -/
import Derived.Test.YtknallpinjoppaaGreatDoorAm27
import Derived.Laws.IdiomCopy
set_option linter.unusedVariables false
namespace Go.Proofs.YtknallpinjoppaaGreatDoor.Am
open Go Go.RowKit

/-- Cells of a block set one by one. -/
theorem setCells_row (b : Nat) (et : TypeId) (fz : Nat × Nat) : ∀ (vs : List Value) (o : Nat) (cur : Array Value) (w : World), w.heap[b]? = some (.cells cur et fz) → o + vs.length ≤ cur.size →
    ∃ cur', w.setCells b o vs = { w with heap := w.heap.setIfInBounds b (.cells cur' et fz) } ∧ cur'.size = cur.size ∧
      ∀ j, cur'[j]? = if o ≤ j ∧ j < o + vs.length then vs[j - o]? else cur[j]?
  | [], o, cur, w, hb, _ => by
    refine ⟨cur, ?_, rfl, fun j => by rw [if_neg (by simp only [List.length_nil]; omega)]⟩
    have e : w.heap.setIfInBounds b (.cells cur et fz) = w.heap := by
      apply Array.ext_getElem?
      intro j
      by_cases hj : j = b
      · subst hj
        obtain ⟨h1, h2⟩ := Array.getElem?_eq_some_iff.1 hb
        rw [Array.getElem?_setIfInBounds_self_of_lt h1]
        exact hb.symm
      · rw [Array.getElem?_setIfInBounds_ne (Ne.symm hj)]
    rw [World.setCells, e]
  | v :: vs, o, cur, w, hb, hl => by
    have hlt : b < w.heap.size := (Array.getElem?_eq_some_iff.1 hb).1
    have hi : o < cur.size := by simp at hl; omega
    have hset : w.setCell ⟨b, o, none⟩ v = { w with heap := w.heap.setIfInBounds b (.cells (cur.setIfInBounds o v) et fz) } := by
      unfold World.setCell
      congr
      apply Array.ext_getElem?
      intro j
      simp only [Array.getElem?_modify]
      by_cases hj : b = j
      · subst hj
        rw [if_pos rfl, hb, Array.getElem?_setIfInBounds_self_of_lt hlt]
        simp
      · rw [if_neg hj, Array.getElem?_setIfInBounds_ne hj]
    obtain ⟨cur', q1, q2, q3⟩ := setCells_row b et fz vs (o + 1) (cur.setIfInBounds o v) { w with heap := w.heap.setIfInBounds b (.cells (cur.setIfInBounds o v) et fz) }
      (by rw [Array.getElem?_setIfInBounds_self_of_lt hlt]) (by simp at hl ⊢; omega)
    refine ⟨cur', ?_, by rw [q2]; simp, fun j => ?_⟩
    · rw [World.setCells, hset, q1]
      congr 1
      apply Array.ext_getElem?
      intro j
      by_cases hj : b = j
      · subst hj; simp [hlt]
      · simp only [Array.getElem?_setIfInBounds_ne hj]
    · rw [q3 j]
      by_cases hj : j = o
      · subst hj
        rw [if_neg (by omega), if_pos (by simp), Array.getElem?_setIfInBounds_self_of_lt hi]
        simp
      · rw [Array.getElem?_setIfInBounds_ne (Ne.symm hj)]
        by_cases h2 : o ≤ j ∧ j < o + (v :: vs).length
        · rw [if_pos h2, if_pos (by simp at h2; omega), show j - o = (j - (o + 1)) + 1 by omega]
          simp
        · rw [if_neg h2, if_neg (by simp at h2 ⊢; omega)]

noncomputable def insAtK {R : Type} : List AV → Nat → List AV → (List AV → Option R) → Option R
  | old, 0, new, k => appendK.appL new old k
  | [], .succ _, _, _ => none
  | a :: r, .succ n, new, k => insAtK r n new fun l => k (a :: l)
theorem insAtK_some {R : Type} : ∀ (old : List AV) (i : Nat) (new : List AV) {k : List AV → Option R} {res : R}, insAtK old i new k = some res → i ≤ old.length ∧ k (old.take i ++ (new ++ old.drop i)) = some res
  | old, 0, new, k, res, h => by
    have h : appendK.appL new old k = some res := by cases old <;> exact h
    rw [appL_eq] at h
    exact ⟨Nat.zero_le _, by simpa using h⟩
  | [], .succ n, new, k, res, h => by cases h
  | a :: r, .succ n, new, k, res, h => by
    obtain ⟨h1, h2⟩ := insAtK_some r n new (k := fun l => k (a :: l)) h
    exact ⟨by simp; omega, by simpa using h2⟩

noncomputable def ovInsS (e : Nat) (args : List AV) (h : AH) : Option (AV × AH) := match args with
  | [s, .int .i64 (.ofNat i), .sl f2 v2 o2 m2 esz2 _] => cond (and (Nat.blt 0 m2) (Nat.beq esz2 1)) (loadK h f2 v2 o2 m2 fun new => cond (allC new) (match s with
    | .nilsl => cond (and (Nat.beq i 0) (Nat.ble (Nat.mul m2 16) 140737488355328)) (newRowK h (some e) new fun f n h' => some (.sl f n 0 n 1 none, h')) none
    | .sl f v 0 n 1 none => match h.get f, h.get f2 with
      | some (.cells c m rd false (some et)), some (.cells _ m3 _ false (some _)) => cond (and (and (Nat.beq v m) (Nat.ble n v)) (and (and (Nat.beq v2 m3) (not (Nat.beq f f2))) (and (Nat.ble i n) (Nat.ble (Nat.mul (Nat.add n m2) 16) 140737488355328))))
          (loadK h f v 0 n fun old => cond (allC old) (insAtK old i new fun all => h.putK f .dead fun h1 => newRowK h1 (keepEt (some et) e) all fun f' n' h' => some (.sl f' n' 0 n' 1 none, h')) none) none
      | _, _ => none
    | _ => none) none) none
  | _ => none

/-- The library's contracts: what 'slices.Insert' of strings (F; e: the type of strings) answers. -/
structure InsCon (P : Program) (F e : Nat) : Prop where
  shift : ∀ (b off n c i vb voff m vc : Nat) (cs vs : List Value) (w : World), i < n → 0 < m → n + m ≤ c → c ≤ 9223372036854775807 → vb ≠ b → cs.length = n → vs.length = m →
    (∀ j v, cs[j]? = some v → w.cell? ⟨b, off + j, none⟩ = some v) → (∀ j, j < n + m → (w.cell? ⟨b, off + j, none⟩).isSome = true) → (∀ j, j < n + m → w.frozen? ⟨b, off + j, none⟩ = false) →
    (∀ j v, vs[j]? = some v → w.cell? ⟨vb, voff + j, none⟩ = some v) → (∀ v ∈ cs, v.oneCell' = true) → (∀ v ∈ vs, v.oneCell' = true) →
    ∀ (tA tB : TypeId) (kA kB : Nat), w.shape? vb = some (tA, kA) → w.shape? b = some (tB, kB) → kB ≠ 0 → w.frozen? ⟨vb, voff, none⟩ = false → w.frozen? ⟨vb, kA, none⟩ = false →
    Calls P F #[.slice (some ⟨b, off, none⟩) n c, .int .i64 i, .slice (some ⟨vb, voff, none⟩) m vc] w fun e' w' =>
      e' = .returned (.slice (some ⟨b, off, none⟩) (n + m) c) ∧ w' = (w.drew.setCells b (off + (i + m)) (cs.drop i)).setCells b (off + i) vs
  room : ∀ (b off n c vb voff m vc : Nat) (vs : List Value) (w : World), 0 < m → n + m ≤ c → c ≤ 9223372036854775807 → vs.length = m →
    (∀ j, j < m → (w.cell? ⟨b, off + n + j, none⟩).isSome = true) → (∀ j, j < m → w.frozen? ⟨b, off + n + j, none⟩ = false) →
    (∀ j v, vs[j]? = some v → w.cell? ⟨vb, voff + j, none⟩ = some v) → (∀ v ∈ vs, v.oneCell' = true) →
    Calls P F #[.slice (some ⟨b, off, none⟩) n c, .int .i64 n, .slice (some ⟨vb, voff, none⟩) m vc] w fun e' w' =>
      e' = .returned (.slice (some ⟨b, off, none⟩) (n + m) c) ∧ w' = w.setCells b (off + n) vs
  egrow : ∀ (base : Option Addr) (n c vb voff m vc : Nat) (cs vs : List Value) (w : World), 0 < m → n ≤ c → c < n + m → (n + m) * 16 ≤ 140737488355328 → cs.length = n → vs.length = m → (base = none → n = 0) →
    (∀ a, base = some a → ∀ j v, cs[j]? = some v → w.cell? (a.add j) = some v) → (∀ j v, vs[j]? = some v → w.cell? ⟨vb, voff + j, none⟩ = some v) → (∀ v ∈ vs, v.oneCell' = true) →
    Calls P F #[.slice base n c, .int .i64 n, .slice (some ⟨vb, voff, none⟩) m vc] w fun e' w' =>
      e' = .returned (.slice (some ⟨w.heap.size, 0, none⟩) (n + m) (grownCap w (n + m) c e)) ∧
      w' = w.drew.alloc (.cells ((cs ++ vs).toArray ++ Builtin.zeroCells (Value.string ⟨#[]⟩).cells (grownCap w (n + m) c e - (n + m))) e)
  grow : ∀ (b off n c i vb voff m vc : Nat) (cs vs : List Value) (w : World), i < n → 0 < m → n ≤ c → c < n + m → (n + m) * 16 ≤ 140737488355328 → cs.length = n → vs.length = m →
    (∀ j v, cs[j]? = some v → w.cell? ⟨b, off + j, none⟩ = some v) → (∀ j v, vs[j]? = some v → w.cell? ⟨vb, voff + j, none⟩ = some v) → (∀ v ∈ cs, v.oneCell' = true) → (∀ v ∈ vs, v.oneCell' = true) →
    Calls P F #[.slice (some ⟨b, off, none⟩) n c, .int .i64 i, .slice (some ⟨vb, voff, none⟩) m vc] w fun e' w' =>
      e' = .returned (.slice (some ⟨w.heap.size, 0, none⟩) (n + m) (grownCap w (n + m) c e)) ∧
      w' = (((w.alloc (.cells ((cs.take i).toArray ++ Builtin.zeroCells (Value.string ⟨#[]⟩).cells (n + m - i) ++ Builtin.zeroCells (Value.string ⟨#[]⟩).cells (grownCap w (n + m) c e - (n + m))) e)).drew.setCells w.heap.size i vs).drew).setCells w.heap.size (i + m) (cs.drop i)

theorem add_lit (b o j : Nat) : ((⟨b, o, none⟩ : Addr).add j) = ⟨b, o + j, none⟩ := by unfold Addr.add; split <;> simp_all
theorem Out.ofDrawn {ρ ρ' : Rho} {h h' : AH} {w w' : World} {d : Nat} (o : Out ρ h { w with drawn := d } ρ' h' w') : Out ρ h w ρ' h' w' :=
  ⟨o.rep, ⟨o.ext.le, o.ext.new⟩, ⟨o.fr.os, o.fr.tape, o.fr.output, o.fr.size, o.fr.block⟩, o.af⟩
theorem Out.toDrawn {ρ ρ' : Rho} {h h' : AH} {w w' : World} {d : Nat} (o : Out ρ h w ρ' h' w') : Out ρ h w ρ' h' { w' with drawn := d } :=
  ⟨o.rep.world rfl, ⟨o.ext.le, o.ext.new⟩, ⟨o.fr.os, o.fr.tape, o.fr.output, o.fr.size, o.fr.block⟩, o.af⟩
theorem oneC_all {ρ : Rho} {l : List AV} {l' : List Value} (h : VRL ρ l l') (ha : allC l = true) : ∀ v ∈ l', v.oneCell' = true := by
  intro x hx
  obtain ⟨j, hj⟩ := List.mem_iff_getElem?.1 hx
  have hj' : j < l.length := by
    have := (List.getElem?_eq_some_iff.1 hj).1
    rw [h.length] at this
    exact this
  obtain ⟨y, y1, y2⟩ := h.get (List.getElem?_eq_getElem hj')
  rw [hj] at y1
  injection y1 with y1
  subst y1
  rw [← y2.oneC]
  exact (allC_iff _).1 ha _ (List.getElem_mem hj')

/-- Where a slice of elements put into another has all its cells. -/
theorem mid_get (cs vs : List Value) (i : Nat) (hi : i ≤ cs.length) (j : Nat) :
    (cs.take i ++ (vs ++ cs.drop i))[j]? = if j < i then cs[j]? else if j < i + vs.length then vs[j - i]? else cs[j - vs.length]? := by
  by_cases h1 : j < i
  · rw [if_pos h1, List.getElem?_append_left (by rw [List.length_take]; omega), List.getElem?_take, if_pos h1]
  · rw [if_neg h1, List.getElem?_append_right (by rw [List.length_take]; omega), List.length_take, Nat.min_eq_left hi]
    by_cases h2 : j < i + vs.length
    · rw [if_pos h2, List.getElem?_append_left (by omega)]
    · rw [if_neg h2, List.getElem?_append_right (by omega), List.getElem?_drop]
      congr 1
      omega

/-- Where the strings were put in place. -/
theorem ins_room {w w' : World} {B base : Nat} {arr : Array Value} {et : TypeId} {fz : Nat × Nat} {cs vs : List Value} {i : Nat} (hb : w.heap[B]? = some (.cells arr et fz)) (hi : i ≤ cs.length)
    (hr : base + (cs.length + vs.length) ≤ arr.size) (hcs : ∀ j, j < cs.length → arr[base + j]? = cs[j]?)
    (hw : w' = (w.drew.setCells B (base + (i + vs.length)) (cs.drop i)).setCells B (base + i) vs ∨ (i = cs.length ∧ w' = w.setCells B (base + cs.length) vs)) :
    ∃ arr' d, w' = { w with heap := w.heap.setIfInBounds B (.cells arr' et fz), drawn := d } ∧ arr'.size = arr.size ∧ ∀ j, j < cs.length + vs.length → arr'[base + j]? = (cs.take i ++ (vs ++ cs.drop i))[j]? := by
  rcases hw with rfl | ⟨rfl, rfl⟩
  · obtain ⟨c1, q1, q2, q3⟩ := setCells_row B et fz (cs.drop i) (base + (i + vs.length)) arr w.drew hb (by rw [List.length_drop]; omega)
    have hlt : B < w.heap.size := (Array.getElem?_eq_some_iff.1 hb).1
    rw [q1]
    obtain ⟨c2, p1, p2, p3⟩ := setCells_row B et fz vs (base + i) c1 { w.drew with heap := w.drew.heap.setIfInBounds B (.cells c1 et fz) } (by
      show (w.heap.setIfInBounds B _)[B]? = _
      rw [Array.getElem?_setIfInBounds_self_of_lt hlt]) (by rw [q2]; omega)
    refine ⟨c2, w.drawn + 1, ?_, by rw [p2, q2], fun j hj => ?_⟩
    · rw [p1]
      show World.mk _ _ _ _ _ = _
      have : (w.drew.heap.setIfInBounds B (.cells c1 et fz)).setIfInBounds B (.cells c2 et fz) = w.heap.setIfInBounds B (.cells c2 et fz) := by
        apply Array.ext_getElem?
        intro k
        show ((w.heap.setIfInBounds B _).setIfInBounds B _)[k]? = _
        by_cases hk : B = k
        · subst hk; simp [hlt]
        · simp only [Array.getElem?_setIfInBounds_ne hk]
      rw [this]
      rfl
    · rw [p3, mid_get cs vs i hi j]
      by_cases h1 : j < i
      · rw [if_neg (by omega), if_pos h1, q3, if_neg (by omega)]
        exact hcs j (by omega)
      · by_cases h2 : j < i + vs.length
        · rw [if_pos (by omega), if_neg h1, if_pos h2]
          congr 1
          omega
        · rw [if_neg (by omega), if_neg h1, if_neg h2, q3, if_pos (by rw [List.length_drop]; omega), List.getElem?_drop]
          congr 1
          omega
  · obtain ⟨c1, q1, q2, q3⟩ := setCells_row B et fz vs (base + cs.length) arr w hb (by omega)
    refine ⟨c1, w.drawn, q1, q2, fun j hj => ?_⟩
    rw [q3, mid_get cs vs _ hi j]
    by_cases h1 : j < cs.length
    · rw [if_neg (by omega), if_pos h1]
      exact hcs j h1
    · rw [if_pos (by omega), if_neg h1, if_pos (by omega)]
      congr 1
      omega

theorem push_set {α : Type} (a : Array α) (x y : α) : (a.push x).setIfInBounds a.size y = a.push y := by
  apply Array.ext_getElem?
  intro k
  by_cases hk : a.size = k
  · subst hk; simp
  · rw [Array.getElem?_setIfInBounds_ne hk, Array.getElem?_push, Array.getElem?_push]
    rw [if_neg (Ne.symm hk), if_neg (Ne.symm hk)]

/-- Where the strings were put into a new row. -/
theorem ins_grow {w w' : World} {e : TypeId} {cs vs : List Value} {i G : Nat} (hi : i ≤ cs.length) (hG : cs.length + vs.length ≤ G)
    (hw : w' = (((w.alloc (.cells ((cs.take i).toArray ++ Builtin.zeroCells (Value.string ⟨#[]⟩).cells (cs.length + vs.length - i) ++ Builtin.zeroCells (Value.string ⟨#[]⟩).cells (G - (cs.length + vs.length))) e)).drew.setCells w.heap.size i vs).drew).setCells w.heap.size (i + vs.length) (cs.drop i) ∨
      (i = cs.length ∧ w' = w.drew.alloc (.cells ((cs ++ vs).toArray ++ Builtin.zeroCells (Value.string ⟨#[]⟩).cells (G - (cs.length + vs.length))) e))) :
    ∃ arr' d, w' = { w with heap := w.heap.push (.cells arr' e (0, 0)), drawn := d } ∧ arr'.size = G ∧ ∀ j, j < cs.length + vs.length → arr'[j]? = (cs.take i ++ (vs ++ cs.drop i))[j]? := by
  have hz : ∀ n, (Builtin.zeroCells (Value.string ⟨#[]⟩).cells n).size = n := by
    intro n
    rw [zeroCells_size]
    show n * 1 = n
    omega
  rcases hw with rfl | ⟨rfl, rfl⟩
  · generalize hA : (cs.take i).toArray ++ Builtin.zeroCells (Value.string ⟨#[]⟩).cells (cs.length + vs.length - i) ++ Builtin.zeroCells (Value.string ⟨#[]⟩).cells (G - (cs.length + vs.length)) = A
    have hAs : A.size = G := by
      rw [← hA, Array.size_append, Array.size_append, hz, hz, List.size_toArray, List.length_take]
      omega
    have hAg : ∀ j, j < i → A[j]? = cs[j]? := by
      intro j hj
      rw [← hA, Array.append_assoc, Array.getElem?_append_left (by rw [List.size_toArray, List.length_take]; omega), List.getElem?_toArray, List.getElem?_take, if_pos hj]
    have h0 : ((w.alloc (.cells A e)).drew).heap[w.heap.size]? = some (.cells A e (0, 0)) := by
      show (w.heap.push (.cells A e))[w.heap.size]? = _
      simp
    obtain ⟨c1, q1, q2, q3⟩ := setCells_row w.heap.size e (0, 0) vs i A _ h0 (by omega)
    rw [q1]
    have h1 : (({ (w.alloc (.cells A e)).drew with heap := (w.alloc (.cells A e)).drew.heap.setIfInBounds w.heap.size (.cells c1 e (0, 0)) } : World).drew).heap[w.heap.size]? = some (.cells c1 e (0, 0)) := by
      show ((w.heap.push _).setIfInBounds w.heap.size _)[w.heap.size]? = _
      rw [push_set]
      simp
    obtain ⟨c2, p1, p2, p3⟩ := setCells_row w.heap.size e (0, 0) (cs.drop i) (i + vs.length) c1 _ h1 (by rw [q2, List.length_drop]; omega)
    refine ⟨c2, w.drawn + 1 + 1, ?_, by rw [p2, q2, hAs], fun j hj => ?_⟩
    · rw [p1]
      show World.mk _ _ _ _ _ = _
      have : (({ (w.alloc (.cells A e)).drew with heap := (w.alloc (.cells A e)).drew.heap.setIfInBounds w.heap.size (.cells c1 e (0, 0)) } : World).drew).heap.setIfInBounds w.heap.size (.cells c2 e (0, 0)) = w.heap.push (.cells c2 e (0, 0)) := by
        show ((w.heap.push _).setIfInBounds w.heap.size _).setIfInBounds w.heap.size _ = _
        rw [push_set, push_set]
      rw [this]
      rfl
    · rw [p3, mid_get cs vs i hi j]
      by_cases g1 : j < i
      · rw [if_neg (by omega), if_pos g1, q3, if_neg (by omega)]
        exact hAg j g1
      · by_cases g2 : j < i + vs.length
        · rw [if_neg (by omega), if_neg g1, if_pos g2, q3, if_pos (by omega)]
        · rw [if_pos (by rw [List.length_drop]; omega), if_neg g1, if_neg g2, List.getElem?_drop]
          congr 1
          omega
  · refine ⟨(cs ++ vs).toArray ++ Builtin.zeroCells (Value.string ⟨#[]⟩).cells (G - (cs.length + vs.length)), w.drawn + 1, rfl, ?_, fun j hj => ?_⟩
    · rw [Array.size_append, hz, List.size_toArray, List.length_append]; omega
    · rw [Array.getElem?_append_left (by rw [List.size_toArray, List.length_append]; omega), List.getElem?_toArray]
      rw [List.take_of_length_le (Nat.le_refl _), List.drop_eq_nil_of_le (Nat.le_refl _), List.append_nil]

theorem cell_row {w : World} {B : Nat} {arr : Array Value} {et : TypeId} {fz : Nat × Nat} (hb : w.heap[B]? = some (.cells arr et fz)) (q : Nat) : w.cell? ⟨B, q, none⟩ = arr[q]? := by simp [World.cell?, hb]
theorem frozen_row {w : World} {B : Nat} {arr : Array Value} {et : TypeId} {fz : Nat × Nat} (hb : w.heap[B]? = some (.cells arr et fz)) (hf : fz.1 = fz.2) (q : Nat) : w.frozen? ⟨B, q, none⟩ = false := by
  simp only [World.frozen?, hb, Bool.and_eq_false_iff, decide_eq_false_iff_not]
  omega

set_option maxHeartbeats 1000000 in
theorem ovInsS_ok {P : Program} {gl : Gl P} {f e : Nat} (C : InsCon P f e) (args : List AV) (h : AH) (v : AV) (h' : AH) (ev : ovInsS e args h = some (v, h')) :
    (Wf h → AF h h') ∧ ∀ ρ w args', Rep ρ h.get w → Wf h → GlobOK ρ gl → VRL ρ args args' → Fresh ρ h.next h'.next →
    Calls P f ⟨args'⟩ w (fun e w' => ∃ x ρ', e = .returned x ∧ VR ρ' v x ∧ Out ρ h w ρ' h' w') := by
  unfold ovInsS at ev
  split at ev
  · rename_i s i F2 V2 O2 m2 esz2 lim2
    obtain ⟨c0, c00⟩ := and_true (cond_some ev).1
    have hm : 0 < m2 := of_decide_eq_true ((blt_eq _ _) ▸ c0)
    have he2 := Nat.eq_of_beq_eq_true c00
    subst he2
    replace ev := (cond_some ev).2
    obtain ⟨tc2, mm2, rd2, frz2, new, q0, q1, q2, q3, q4, q5, q6⟩ := loadK_some ev
    have hallnew := (cond_some q6).1
    replace q6 := (cond_some q6).2
    split at q6
    · -- onto nothing
      have hc := and_true (cond_some q6).1
      replace q6 := (cond_some q6).2
      have hi0 := Nat.eq_of_beq_eq_true hc.1
      subst hi0
      have hbig := (ble_iff _ _).1 hc.2
      have hmul : Nat.mul m2 16 = m2 * 16 := rfl
      rw [hmul] at hbig
      constructor
      · intro wf
        obtain ⟨c, h2, _, _, af, _, _, e6⟩ := newRowK_some wf q6
        injection e6 with e6; injection e6 with _ e6; subst e6; exact af
      · intro ρ w args' r wf hgl ha fr
        cases ha with
        | @cons _ s' _ _ hs ha2 =>
        cases ha2 with
        | @cons _ i' _ _ hi2 ha3 =>
        cases ha3 with
        | @cons _ t' _ _ ht ha4 =>
        cases ha4
        cases hs
        cases hi2
        cases ht with
        | @sl _ _ _ _ _ _ L2 a2 cap2 hL2 g0 g1 g2 g3 g4 g5 g6 =>
        have ha2 : a2 = ⟨L2.blk, L2.base + O2, none⟩ := by
          rcases g5 with g5 | ⟨g5, _⟩
          · exact g5
          · omega
        subst ha2
        obtain ⟨vs, v1, v2, v3⟩ := load_at r q0 hL2 q1 q3 q4 q5
        have hone := oneC_all v3 hallnew
        obtain ⟨h2, z1, z2, z3, z4⟩ := newRow_run (w := w) (h0 := h) e (fun t ht => by injection ht) ((Builtin.zeroCells (Value.string ⟨#[]⟩).cells (grownCap w (0 + m2) 0 e - (0 + m2))).toList) r wf v3 q6
        injection z1 with z1
        injection z1 with z1 z5
        subst z1 z5
        refine (C.egrow none 0 0 L2.blk (L2.base + O2) m2 cap2 [] vs w hm (Nat.le_refl _) (by omega) (by omega) rfl v2 (fun _ => rfl) (fun a h => by cases h) (fun j x hx => by rw [← add_lit]; exact v1 j x hx) hone).mono ?_
        rintro e' w' ⟨rfl, rfl⟩
        have hgc := grownCap_ge w (0 + m2) 0 e
        have hgM : grownCap w (0 + m2) 0 e ≤ 9223372036854775807 := grownCap_le_maxLen w (0 + m2) 0 e (by show 0 + m2 ≤ 9223372036854775807; omega)
        have hzs : ∀ n, (Builtin.zeroCells (Value.string ⟨#[]⟩).cells n).size = n := by
          intro n
          rw [zeroCells_size]
          show n * 1 = n
          omega
        refine ⟨_, upd ρ h.next new.length ⟨w.heap.size, 0, (vs ++ (Builtin.zeroCells (Value.string ⟨#[]⟩).cells (grownCap w (0 + m2) 0 e - (0 + m2))).toList).length⟩, rfl, ?_, ?_⟩
        rotate_left
        · have := z4 (w.drawn + 1) fr
          have hw : w.drew.alloc (.cells (([] ++ vs).toArray ++ Builtin.zeroCells (Value.string ⟨#[]⟩).cells (grownCap w (0 + m2) 0 e - (0 + m2))) e) = { w with heap := w.heap.push (.cells ⟨vs ++ (Builtin.zeroCells (Value.string ⟨#[]⟩).cells (grownCap w (0 + m2) 0 e - (0 + m2))).toList⟩ e), drawn := w.drawn + 1 } := by
            show World.mk _ _ _ _ _ = World.mk _ _ _ _ _
            congr 1
            show w.heap.push _ = w.heap.push _
            congr 2
            apply Array.ext'
            simp
          rw [hw]
          exact this
        · rw [q4]
          rw [Nat.zero_add] at hgc hgM ⊢
          refine .sl (upd_same _ _ _ _) Nat.one_pos hgc (by omega) ?_ (by simp) (.inl (by simp)) hgM
          rw [Option.getD_none, List.length_append, v2, Array.length_toList, hzs]
          simp only
          omega
    · -- onto a slice
      rename_i F V n
      split at q6
      · rename_i c m rd et c3 m3 rd3 et3 hF hF2
        obtain ⟨d1, d2⟩ := and_true (cond_some q6).1
        replace q6 := (cond_some q6).2
        obtain ⟨d1, d3⟩ := and_true d1
        obtain ⟨d2, d4⟩ := and_true d2
        obtain ⟨d2, d5⟩ := and_true d2
        obtain ⟨d4, d6⟩ := and_true d4
        have d1 := Nat.eq_of_beq_eq_true d1
        have d3 := (ble_iff _ _).1 d3
        have d2 := Nat.eq_of_beq_eq_true d2
        have d4 := (ble_iff _ _).1 d4
        have hbig := (ble_iff _ _).1 d6
        have hmul : Nat.mul (Nat.add n m2) 16 = (n + m2) * 16 := rfl
        rw [hmul] at hbig
        have hff : F ≠ F2 := fun hh => by subst hh; simp at d5
        subst d1 d2
        obtain ⟨tc, mm, rdd, frz, old, p0, p1, p2, p3, p4, p5, p6⟩ := loadK_some q6
        have hallold := (cond_some p6).1
        replace p6 := (cond_some p6).2
        obtain ⟨hio, p6⟩ := insAtK_some _ _ _ p6
        constructor
        · intro wf
          obtain ⟨h1, y1, _, af, _, _⟩ := putK_some wf (by rw [hF]; rfl) p6
          obtain ⟨c, h2, _, _, af2, _, _, e6⟩ := newRowK_some af.wf y1
          injection e6 with e6; injection e6 with _ e6; subst e6; exact af.trans wf af2
        · intro ρ w args' r wf hgl ha fr
          cases ha with
          | @cons _ s' _ _ hs ha2 =>
          cases ha2 with
          | @cons _ i' _ _ hi2 ha3 =>
          cases ha3 with
          | @cons _ t' _ _ ht ha4 =>
          cases ha4
          cases hi2
          cases hs with
          | @sl _ _ _ _ _ _ L a cap hL b0 b1 b2 b3 b4 b5 b6 =>
          cases ht with
          | @sl _ _ _ _ _ _ L2 a2 cap2 hL2 g0 g1 g2 g3 g4 g5 g6 =>
          have ha2 : a2 = ⟨L2.blk, L2.base + O2, none⟩ := by
            rcases g5 with g5 | ⟨g5, _⟩
            · exact g5
            · omega
          subst ha2
          rw [Option.getD_none] at b3 b4
          obtain ⟨vs, v1, v2, v3⟩ := load_at r q0 hL2 q1 q3 q4 q5
          obtain ⟨cs, u1, u2, u3⟩ := load_at r p0 hL p1 p3 p4 p5
          have hone := oneC_all v3 hallnew
          have hone2 := oneC_all u3 hallold
          obtain ⟨r1, r2⟩ := r.cellsF F _ _ _ _ _ hF
          obtain ⟨arr, et', fz, k1, k2, k3, k4, k5⟩ := (r2 _ L hL).2 r1
          obtain ⟨r3, r4⟩ := r.cellsF F2 _ _ _ _ _ hF2
          obtain ⟨arr2, et2', fz2, m1, m2', m3', m4, m5⟩ := (r4 _ L2 hL2).2 r3
          have hfz := (k5 ⟨rfl, rfl⟩).resolve_right fun h => by cases h.1
          have hfz2 := (m5 ⟨rfl, rfl⟩).resolve_right fun h => by cases h.1
          have hne : L2.blk ≠ L.blk := fun hbb => hff (r.inj F F2 _ _ L L2 (by rw [hF]; rfl) (by rw [hF2]; rfl) hL hL2 hbb.symm)
          have hbase : L.base = 0 := (r.ety F _ _ _ _ _ hF _ L hL).1
          have hvs : ∀ j x, vs[j]? = some x → w.cell? ⟨L2.blk, L2.base + O2 + j, none⟩ = some x := fun j x hx => by rw [← add_lit]; exact v1 j x hx
          have hcsA : ∀ j, j < cs.length → arr[L.base + j]? = cs[j]? := by
            intro j hj
            have := u1 j _ (List.getElem?_eq_getElem hj)
            rw [add_lit, cell_row k1, Nat.add_zero] at this
            rw [this, List.getElem?_eq_getElem hj]
          have hcs : ∀ j x, cs[j]? = some x → w.cell? ⟨L.blk, L.base + j, none⟩ = some x := by
            intro j x hx
            rw [cell_row k1, hcsA j (List.getElem?_eq_some_iff.1 hx).1, hx]
          obtain ⟨h1, y1, hnx, af, ht', hget⟩ := putK_some wf (by rw [hF]; rfl) p6
          have hall : VRL ρ (old.take i ++ (new ++ old.drop i)) (cs.take i ++ (vs ++ cs.drop i)) := by
            refine VRL.append ?_ (VRL.append v3 ?_)
            · refine VRL.of_get (by rw [List.length_take, List.length_take, u3.length]) fun j a ha => ?_
              rw [List.getElem?_take] at ha
              split at ha
              · obtain ⟨x, x1, x2⟩ := u3.get ha
                exact ⟨x, by rw [List.getElem?_take, if_pos (by assumption)]; exact x1, x2⟩
              · cases ha
            · refine VRL.of_get (by rw [List.length_drop, List.length_drop, u3.length]) fun j a ha => ?_
              rw [List.getElem?_drop] at ha
              obtain ⟨x, x1, x2⟩ := u3.get ha
              exact ⟨x, by rw [List.getElem?_drop]; exact x1, x2⟩
          have hlen : (old.take i ++ (new ++ old.drop i)).length = n + m2 := by
            rw [List.length_append, List.length_append, List.length_take, List.length_drop, p4, q4]; omega
          have hallC : allC (old.take i ++ (new ++ old.drop i)) = true := by
            rw [allC_iff]
            intro x hx
            rcases List.mem_append.1 hx with hx | hx
            · exact (allC_iff _).1 hallold x (List.mem_of_mem_take hx)
            · rcases List.mem_append.1 hx with hx | hx
              · exact (allC_iff _).1 hallnew x hx
              · exact (allC_iff _).1 hallold x (List.mem_of_mem_drop hx)
          by_cases hc : n + m2 ≤ cap
          · -- in place
            have ha : a = ⟨L.blk, L.base + 0, none⟩ := by
              rcases b5 with b5 | ⟨b5, _⟩
              · exact b5
              · omega
            subst ha
            have hreach : L.base + (cs.length + vs.length) ≤ arr.size := by rw [u2, v2]; omega
            have hcall : Calls P f #[.slice (some ⟨L.blk, L.base, none⟩) n cap, .int .i64 i, .slice (some ⟨L2.blk, L2.base + O2, none⟩) m2 cap2] w fun e' w' =>
                e' = .returned (.slice (some ⟨L.blk, L.base, none⟩) (n + m2) cap) ∧ ((w' = (w.drew.setCells L.blk (L.base + (i + vs.length)) (cs.drop i)).setCells L.blk (L.base + i) vs) ∨ (i = cs.length ∧ w' = w.setCells L.blk (L.base + cs.length) vs)) := by
              rcases Nat.lt_or_ge i n with hin | hin
              · refine (C.shift L.blk L.base n cap i L2.blk (L2.base + O2) m2 cap2 cs vs w hin hm hc b6 hne u2 v2 hcs (fun j hj => ?_) (fun j hj => frozen_row k1 hfz _) hvs hone2 hone et2' et' arr2.size arr.size (by simp [World.shape?, m1]) (by simp [World.shape?, k1]) (by omega) (frozen_row m1 hfz2 _) (frozen_row m1 hfz2 _)).mono ?_
                · rw [cell_row k1, Array.getElem?_eq_getElem (by omega)]; rfl
                · rintro e' w' ⟨h1, h2⟩
                  exact ⟨h1, .inl (by rw [v2]; exact h2)⟩
              · have hin' : i = n := by omega
                subst hin'
                refine (C.room L.blk L.base i cap L2.blk (L2.base + O2) m2 cap2 vs w hm hc b6 v2 (fun j hj => ?_) (fun j hj => frozen_row k1 hfz _) hvs hone).mono ?_
                · rw [cell_row k1, Array.getElem?_eq_getElem (by omega)]; rfl
                · rintro e' w' ⟨h1, h2⟩
                  exact ⟨h1, .inr ⟨u2.symm, by rw [u2]; exact h2⟩⟩
            rw [Nat.add_zero]
            refine hcall.mono ?_
            rintro e' w' ⟨rfl, hw⟩
            obtain ⟨arr', d, rfl, s1, s2⟩ := ins_room k1 (by rw [u2]; exact d4) hreach hcsA hw
            obtain ⟨c', h2, z1, z2, z3, z4, z5, z6⟩ := newRowK_some af.wf y1
            injection z6 with z6
            injection z6 with z6 z7
            subst z6 z7
            refine ⟨_, _, rfl, ?_, Out.toDrawn (Out.cutIn (c' := c') (n := (old.take i ++ (new ++ old.drop i)).length) (o := 0) (eto' := keepEt (some et) e) r wf (fun t ht => ⟨(keepEt_some ht).1, rfl⟩) fr (af.trans wf z3) (ht'.mono1 af z3) (by omega) hF hL (fun F => ?_) k1 k2 (by rw [hlen]; omega) rfl s1 (.inl hfz) fun j hj => ?_)⟩
            · rw [hnx, hlen]
              refine .sl (upd_same _ _ _ _) Nat.one_pos hc (by omega) ?_ (by simp) (.inl (by simp)) b6
              rw [Option.getD_none]
              simp only
              omega
            · rw [z4 F, hnx]
              split
              · rfl
              · exact hget F
            · obtain ⟨y, y1', y2⟩ := hall.get (List.getElem?_eq_getElem hj)
              refine ⟨_, y, by rw [z1 j]; exact List.getElem?_eq_getElem hj, ?_, y2⟩
              rw [Nat.add_zero, s2 j (by rw [u2, v2]; omega)]
              exact y1'
          · -- a new row
            have hcall : Calls P f #[.slice (some a) n cap, .int .i64 i, .slice (some ⟨L2.blk, L2.base + O2, none⟩) m2 cap2] w fun e' w' =>
                e' = .returned (.slice (some ⟨w.heap.size, 0, none⟩) (n + m2) (grownCap w (n + m2) cap e)) ∧
                (w' = (((w.alloc (.cells ((cs.take i).toArray ++ Builtin.zeroCells (Value.string ⟨#[]⟩).cells (cs.length + vs.length - i) ++ Builtin.zeroCells (Value.string ⟨#[]⟩).cells (grownCap w (n + m2) cap e - (cs.length + vs.length))) e)).drew.setCells w.heap.size i vs).drew).setCells w.heap.size (i + vs.length) (cs.drop i) ∨
                  (i = cs.length ∧ w' = w.drew.alloc (.cells ((cs ++ vs).toArray ++ Builtin.zeroCells (Value.string ⟨#[]⟩).cells (grownCap w (n + m2) cap e - (cs.length + vs.length))) e))) := by
              rcases Nat.lt_or_ge i n with hin | hin
              · have ha : a = ⟨L.blk, L.base + 0, none⟩ := by
                  rcases b5 with b5 | ⟨b5, _⟩
                  · exact b5
                  · omega
                subst ha
                rw [Nat.add_zero]
                refine (C.grow L.blk L.base n cap i L2.blk (L2.base + O2) m2 cap2 cs vs w hin hm b1 (by omega) hbig u2 v2 hcs hvs hone2 hone).mono ?_
                rintro e' w' ⟨h1, h2⟩
                exact ⟨h1, .inl (by rw [u2, v2]; exact h2)⟩
              · have hin' : i = n := by omega
                subst hin'
                refine (C.egrow (some a) i cap L2.blk (L2.base + O2) m2 cap2 cs vs w hm b1 (by omega) hbig u2 v2 (fun h => by cases h) (fun a' ha' j x hx => ?_) hvs hone).mono ?_
                · injection ha' with ha'
                  subst ha'
                  have hj := (List.getElem?_eq_some_iff.1 hx).1
                  have ha : a = ⟨L.blk, L.base + 0, none⟩ := by
                    rcases b5 with b5 | ⟨b5, _⟩
                    · exact b5
                    · omega
                  subst ha
                  exact u1 j x hx
                · rintro e' w' ⟨h1, h2⟩
                  exact ⟨h1, .inr ⟨u2.symm, by rw [u2, v2]; exact h2⟩⟩
            refine hcall.mono ?_
            rintro e' w' ⟨rfl, hw⟩
            have hG := grownCap_ge w (n + m2) cap e
            obtain ⟨arr', d, rfl, s1, s2⟩ := ins_grow (by rw [u2]; exact d4) (by rw [u2, v2]; exact hG) hw
            have hgM : grownCap w (n + m2) cap e ≤ 9223372036854775807 := grownCap_le_maxLen w (n + m2) cap e (by show n + m2 ≤ 9223372036854775807; omega)
            have o1 : Out ρ h w ρ h1 w := Out.kill r wf af hget
            obtain ⟨c', h2, z1, z2, z3, z4, z5, z6⟩ := newRowK_some af.wf y1
            injection z6 with z6
            injection z6 with z6 z7
            subst z6 z7
            have fr1 : Fresh ρ h1.next h2.next := by rw [hnx]; exact fr
            have o2 := Out.newRow (w' := { w with heap := w.heap.push (.cells arr' e (0, 0)), drawn := d }) (arr := arr') (et := e) (fz := (0, 0)) (n := (old.take i ++ (new ++ old.drop i)).length) o1.rep o1.af.wf fr1 z3 z2 z4 (fun t ht => (keepEt_some ht).2.symm) rfl (by rw [hlen, s1]; exact hG) (.inl rfl) fun j hj => by
              obtain ⟨y, y1', y2⟩ := hall.get (List.getElem?_eq_getElem hj)
              refine ⟨_, y, by rw [z1 j]; exact List.getElem?_eq_getElem hj, ?_, y2⟩
              rw [s2 j (by rw [u2, v2]; omega)]
              exact y1'
            refine ⟨_, _, rfl, ?_, Out.trans wf (fun F v a b => by omega) o1 o2⟩
            rw [hlen]
            refine .sl (upd_same _ _ _ _) Nat.one_pos hG (by omega) ?_ (by simp) (.inl (by simp)) hgM
            rw [Option.getD_none]
            simp only
            omega
      · cases q6
    · cases q6
  · cases ev
end Go.Proofs.YtknallpinjoppaaGreatDoor.Am
