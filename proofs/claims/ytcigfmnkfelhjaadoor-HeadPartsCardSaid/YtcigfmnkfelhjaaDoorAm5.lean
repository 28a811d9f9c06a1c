/- The abstract machine: memory operations of the program. -/
import Derived.Test.YtcigfmnkfelhjaaDoorAm4
set_option linter.unusedVariables false
namespace Go.Proofs.YtcigfmnkfelhjaaDoor.Am
open Go

section
variable {P : Program} {ρ : Rho} {h h' : AH} {w : World} {R : Type}

theorem arr_get {α : Type} (l : List α) (i : Nat) : (⟨l⟩ : Array α)[i]? = l[i]? := List.getElem?_toArray
theorem cell_add {b o : Nat} {arr : Array Value} {et : TypeId} {fz : Nat × Nat} (hb : w.heap[b]? = some (.cells arr et fz)) (j : Nat) :
    w.cell? ((⟨b, o, none⟩ : Addr).add j) = arr[o + j]? := by
  unfold Addr.add
  split
  · rename_i hj; subst hj; simp [World.cell?, hb]
  · simp [World.cell?, hb]
theorem frozen_add {b o : Nat} {arr : Array Value} {et : TypeId} {fz : Nat × Nat} (hb : w.heap[b]? = some (.cells arr et fz)) (j : Nat) :
    w.frozen? ((⟨b, o, none⟩ : Addr).add j) = (decide (fz.1 ≤ o + j) && decide (o + j < fz.2)) := by
  unfold Addr.add
  split
  · rename_i hj; subst hj; simp [World.frozen?, hb]
  · simp [World.frozen?, hb]

/-- The cells that a read of the abstract machine finds lie there. -/
theorem load_at {f v o n : Nat} {L : Pl} {c : Tr AV} {m rd : Nat} {frz : Bool} {l : List AV} (r : Rep ρ h.get w) (hg : ∃ eto, h.get f = some (.cells c m rd frz eto)) (hL : ρ f v = some L)
    (hrd : rd ≤ v) (ho : o + n ≤ v) (hl : l.length = n) (hc : ∀ j, j < n → c.get (o + j) = l[j]?) :
    ∃ l' : List Value, (∀ j x, l'[j]? = some x → w.cell? ((⟨L.blk, L.base + o, none⟩ : Addr).add j) = some x) ∧ l'.length = n ∧ VRL ρ l l' := by
  obtain ⟨arr, et, fz, k1, k2, k3, k4, k5⟩ := ((r.cells _ _ _ _ _ hg).2 v L hL).2 hrd
  -- the values, one by one
  have : ∀ n', n' ≤ n → ∃ l' : List Value, l'.length = n' ∧ (∀ j, j < n' → arr[L.base + o + j]? = l'[j]?) ∧ (∀ j a, j < n' → l[j]? = some a → ∃ x, l'[j]? = some x ∧ VR ρ a x) := by
    intro n'
    induction n' with
    | zero => intro _; exact ⟨[], rfl, fun j hj => by omega, fun j a hj => by omega⟩
    | succ n' ih =>
      intro hn
      obtain ⟨l', e1, e2, e3⟩ := ih (by omega)
      obtain ⟨a, x, g1, g2, g3⟩ := k4 (o + n') (by omega)
      refine ⟨l' ++ [x], by simp [e1], fun j hj => ?_, fun j b hj hb => ?_⟩
      · rcases Nat.lt_or_ge j n' with h1 | h1
        · rw [e2 j h1, List.getElem?_append_left (by omega)]
        · have : j = n' := by omega
          subst this
          rw [List.getElem?_append_right (by omega), e1, show L.base + o + j = L.base + (o + j) by omega, g2]
          simp
      · rcases Nat.lt_or_ge j n' with h1 | h1
        · obtain ⟨y, y1, y2⟩ := e3 j b h1 hb
          exact ⟨y, by rw [List.getElem?_append_left (by omega)]; exact y1, y2⟩
        · have : j = n' := by omega
          subst this
          refine ⟨x, by rw [List.getElem?_append_right (by omega), e1]; simp, ?_⟩
          have hh := hc j (by omega)
          rw [g1, hb] at hh
          injection hh with hh
          subst hh
          exact g3
  obtain ⟨l', e1, e2, e3⟩ := this n (Nat.le_refl _)
  refine ⟨l', fun j x hx => ?_, e1, VRL.of_get (by rw [e1, hl]) fun i a ha => ?_⟩
  · have hj : j < n := by
      have := (List.getElem?_eq_some_iff.1 hx).1
      omega
    rw [cell_add k1, e2 j hj]
    exact hx
  · have hi : i < n := by
      have := (List.getElem?_eq_some_iff.1 ha).1
      omega
    exact e3 i a hi ha
theorem load_cells {f v o n : Nat} {L : Pl} {c : Tr AV} {m rd : Nat} {frz : Bool} {l : List AV} (r : Rep ρ h.get w) (hg : ∃ eto, h.get f = some (.cells c m rd frz eto)) (hL : ρ f v = some L)
    (hrd : rd ≤ v) (ho : o + n ≤ v) (hl : l.length = n) (hc : ∀ j, j < n → c.get (o + j) = l[j]?) :
    ∃ l' : List Value, (loadCells ⟨L.blk, L.base + o, none⟩ n).run P w = .ok ⟨l'⟩ w ∧ VRL ρ l l' := by
  obtain ⟨l', h1, h2, h3⟩ := load_at r hg hL hrd ho hl hc
  refine ⟨l', ?_, h3⟩
  rw [← h2]
  exact run_loadCells_list w _ l' h1

theorem run_sizeOf' {t : TypeId} {i : TypeInfo} (h : P.info? t = some i) (w : World) : (sizeOf t).run P w = .ok i.size w := by
  simp [sizeOf, typeInfo, h]
theorem run_typeInfo' {t : TypeId} {i : TypeInfo} (h : P.info? t = some i) (w : World) : (typeInfo t).run P w = .ok i w := by
  simp [typeInfo, h]
theorem run_zeroValue' {t : TypeId} {i : TypeInfo} {z : Value} (h : P.info? t = some i) (hz : i.zero = some z) (w : World) : (zeroValue t).run P w = .ok z w := by
  simp [zeroValue, typeInfo, h, hz]
theorem sizeT_some {t : TypeId} {n : Nat} (h : sizeT P t = some n) : ∃ i, P.info? t = some i ∧ i.size = n := by
  unfold sizeT at h
  split at h
  · rename_i i hi; injection h with h; exact ⟨i, hi, h⟩
  · cases h
theorem run_sizeT {t : TypeId} {n : Nat} (h : sizeT P t = some n) (w : World) : (sizeOf t).run P w = .ok n w := by
  obtain ⟨i, hi, rfl⟩ := sizeT_some h
  exact run_sizeOf' hi w
theorem zeroT_some {t : TypeId} {z : AV} (h : zeroT P t = some z) : ∃ i z', P.info? t = some i ∧ i.zero = some z' ∧ ofV 6 z' = some z := by
  unfold zeroT at h
  split at h
  · rename_i i hi
    split at h
    · rename_i z' hz; exact ⟨i, z', hi, hz, h⟩
    · cases h
  · cases h
theorem run_zeroT {t : TypeId} {z : AV} (h : zeroT P t = some z) : ∃ z', (∀ w, (zeroValue t).run P w = .ok z' w) ∧ ∀ ρ, VR ρ z z' := by
  obtain ⟨i, z', h1, h2, h3⟩ := zeroT_some h
  exact ⟨z', run_zeroValue' h1 h2, fun ρ => ofV_some 6 z' z h3⟩
theorem run_aggT {t : TypeId} {b : Bool} (h : aggT P t = some b) (w : World) : (isAgg t).run P w = .ok b w := by
  unfold aggT at h
  split at h <;> first
    | (cases h; done)
    | (rename_i hd; injection h with h; subst h; simp only [isAgg, Sem.run_bind, run_underlying hd, Result.andThen_ok]; rfl)
    | (rename_i hd _ _; injection h with h; subst h; simp only [isAgg, Sem.run_bind, run_underlying hd, Result.andThen_ok]; rename_i d h1 h2; cases d <;> first | rfl | (exfalso; simp at h1 h2))
    | (rename_i d h1 h2 hd; injection h with h; subst h; simp only [isAgg, Sem.run_bind, run_underlying hd, Result.andThen_ok]; cases d <;> first | rfl | (exfalso; simp at h1 h2))

theorem loadT_some {t : TypeId} {f v o : Nat} {a' : Value} {k : AV → Option R} {res : R} (r : Rep ρ h.get w) (ha : VR ρ (.ptr f v o) a') (hk : loadT P h t f v o k = some res) :
    ∃ x x', k x = some res ∧ (Instr.loadAt t a').run P w = .ok x' w ∧ VR ρ x x' := by
  cases ha with
  | ptr o hL =>
  rename_i L
  unfold loadT at hk
  cases hag : aggT P t with
  | none => rw [hag] at hk; cases hk
  | some b =>
    rw [hag] at hk
    cases b with
    | true =>
      dsimp only at hk
      cases hs : sizeT P t with
      | none => rw [hs] at hk; cases hk
      | some n =>
        rw [hs] at hk
        dsimp only at hk
        obtain ⟨c, m, rd, frz, l, e1, e2, e3, e4, e5, e6, e7⟩ := loadK_some hk
        obtain ⟨l', q1, q2⟩ := load_cells (P := P) r e1 hL e2 e4 e5 e6
        refine ⟨_, .agg ⟨l'⟩, e7, ?_, .agg q2⟩
        simp only [Instr.loadAt, Instr.sureAddr, Sem.run_bind, Sem.run_pure, Result.andThen_ok, loadVar, run_aggT hag, if_true, run_sizeT hs, q1]
    | false =>
      dsimp only at hk
      obtain ⟨c, m, rd, frz, l, e1, e2, e3, e4, e5, e6, e7⟩ := loadK_some hk
      match l, e5 with
      | [x], _ =>
        dsimp only at e7
        obtain ⟨arr, et, fz, k1, k2, k3, k4, k5⟩ := ((r.cells _ _ _ _ _ e1).2 v L hL).2 e2
        obtain ⟨a, x', g1, g2, g3⟩ := k4 o (by omega)
        have := e6 0 (by omega)
        rw [Nat.add_zero, g1] at this
        simp at this
        subst this
        refine ⟨a, x', e7, ?_, g3⟩
        have hcell : w.cell? ⟨L.blk, L.base + o, none⟩ = some x' := by simp [World.cell?, k1, g2]
        simp only [Instr.loadAt, Instr.sureAddr, Sem.run_bind, Sem.run_pure, Result.andThen_ok, loadVar, run_aggT hag, Bool.false_eq_true, if_false, run_load, hcell]

/-- A store of cells into a row that is not frozen. -/
theorem run_storeCells_am (b o : Nat) (et : TypeId) (fz : Nat × Nat) : ∀ (vs : List Value) (i : Nat) (cur : Array Value) (w : World), w.heap[b]? = some (.cells cur et fz) →
    (fz.1 = fz.2 ∨ cur.size ≤ fz.1) → o + i + vs.length ≤ cur.size → (∀ v ∈ vs, v.oneCell' = true) →
    ∃ cur', (storeCells ⟨b, o, none⟩ vs i).run P w = .ok () { w with heap := w.heap.setIfInBounds b (.cells cur' et fz) } ∧ cur'.size = cur.size ∧
      ∀ j, cur'[j]? = if o + i ≤ j ∧ j < o + i + vs.length then vs[j - (o + i)]? else cur[j]?
  | [], i, cur, w, hb, _, _, _ => by
    refine ⟨cur, ?_, rfl, fun j => by rw [if_neg (by simp only [List.length_nil]; omega)]⟩
    have e : w.heap.setIfInBounds b (.cells cur et fz) = w.heap := by
      apply Array.ext_getElem?
      intro j
      by_cases hj : j = b
      · subst hj
        obtain ⟨h1, h2⟩ := Array.getElem?_eq_some_iff.1 hb
        rw [Array.getElem?_setIfInBounds_self_of_lt h1]
        exact hb.symm
      · rw [Array.getElem?_setIfInBounds_ne (Ne.symm hj)]
    simp only [storeCells, Sem.run_pure, e]
  | v :: vs, i, cur, w, hb, hfz, hl, h1 => by
    have hlt : b < w.heap.size := (Array.getElem?_eq_some_iff.1 hb).1
    have hi : o + i < cur.size := by simp at hl; omega
    have hcell : w.cell? ((⟨b, o, none⟩ : Addr).add i) = some cur[o + i] := by rw [cell_add hb]; simp [hi]
    have hfro : w.frozen? ((⟨b, o, none⟩ : Addr).add i) = false := by
      rw [frozen_add hb]
      simp only [Bool.and_eq_false_iff, decide_eq_false_iff_not]
      omega
    have hadd : ((⟨b, o, none⟩ : Addr).add i) = ⟨b, o + i, none⟩ := by unfold Addr.add; split <;> simp_all
    have hset : w.setCell ((⟨b, o, none⟩ : Addr).add i) v = { w with heap := w.heap.setIfInBounds b (.cells (cur.setIfInBounds (o + i) v) et fz) } := by
      rw [hadd]
      unfold World.setCell
      congr
      apply Array.ext_getElem?
      intro j
      simp only [Array.getElem?_modify]
      by_cases hj : b = j
      · subst hj
        rw [if_pos rfl, hb, Array.getElem?_setIfInBounds_self_of_lt hlt]
        simp
      · rw [if_neg hj, Array.getElem?_setIfInBounds_ne hj]
    have hst : (store ((⟨b, o, none⟩ : Addr).add i) v).run P w = .ok () { w with heap := w.heap.setIfInBounds b (.cells (cur.setIfInBounds (o + i) v) et fz) } := by
      rw [run_store P w _ v .plain (h1 v List.mem_cons_self), hcell]
      simp only [hfro, Bool.false_eq_true, if_false, hset]
    obtain ⟨cur', q1, q2, q3⟩ := run_storeCells_am b o et fz vs (i + 1) (cur.setIfInBounds (o + i) v) { w with heap := w.heap.setIfInBounds b (.cells (cur.setIfInBounds (o + i) v) et fz) }
      (by rw [Array.getElem?_setIfInBounds_self_of_lt hlt]) (by simpa using hfz) (by simp at hl ⊢; omega) (fun x hx => h1 x (List.mem_cons_of_mem _ hx))
    refine ⟨cur', ?_, by rw [q2]; simp, fun j => ?_⟩
    · simp only [storeCells, Sem.run_bind, hst, Result.andThen_ok, q1]
      congr 2
      apply Array.ext_getElem?
      intro j
      by_cases hj : b = j
      · subst hj; simp [hlt]
      · simp only [Array.getElem?_setIfInBounds_ne hj]
    · rw [q3 j]
      by_cases hj : j = o + i
      · subst hj
        rw [if_neg (by omega), if_pos (by simp), Array.getElem?_setIfInBounds_self_of_lt hi]
        simp
      · rw [Array.getElem?_setIfInBounds_ne (Ne.symm hj)]
        by_cases h2 : o + i ≤ j ∧ j < o + i + (v :: vs).length
        · rw [if_pos h2, if_pos (by simp at h2; omega), show j - (o + i) = (j - (o + (i + 1))) + 1 by omega]
          simp
        · rw [if_neg h2, if_neg (by simp at h2 ⊢; omega)]

/-- storeK, carried out. -/
theorem storeK_run {f v o : Nat} {vs : List AV} {vs' : List Value} {L : Pl} {k : AH → Option R} {res : R} (r : Rep ρ h.get w) (wf : Wf h) (hL : ρ f v = some L) (hv : VRL ρ vs vs')
    (hk : storeK h f v o vs k = some res) :
    ∃ h' w', k h' = some res ∧ h'.next = h.next ∧ (storeCells ⟨L.blk, L.base + o, none⟩ vs' 0).run P w = .ok () w' ∧ Out ρ h w ρ h' w' := by
  obtain ⟨c, m, rd, c', h', eto, e1, e2, e3, e4, e5, e6, e7, e8, e9, e10⟩ := storeK_some wf hk
  subst e2
  obtain ⟨g1, g2⟩ := r.cellsF _ _ _ _ _ _ e1
  obtain ⟨g3, g4⟩ := g2 v L hL
  obtain ⟨arr, et, fz, k1, k2, k3, k4, k5⟩ := g4 (g1)
  have hfz := k5 ⟨rfl, rfl⟩
  have hlen := hv.length
  obtain ⟨cur', q1, q2, q3⟩ := run_storeCells_am (P := P) L.blk (L.base + o) et fz vs' 0 arr w k1 hfz.weak (by rw [hlen]; omega) (fun x hx => by
    obtain ⟨j, hj⟩ := List.mem_iff_getElem?.1 hx
    have hj' : j < vs.length := by
      have := (List.getElem?_eq_some_iff.1 hj).1; omega
    obtain ⟨y, y1, y2⟩ := hv.get (List.getElem?_eq_getElem hj')
    rw [hj] at y1
    injection y1 with y1
    subst y1
    rw [← y2.oneC]
    exact e4 _ (List.getElem_mem hj'))
  refine ⟨h', _, e10, e8, q1, ?_⟩
  refine Out.setRow r wf e6 e7 e1 hL e9 k1 k2 k3 rfl q2 (fun _ => by rw [q2]; exact hfz) fun i hi => ?_
  rw [e5 i, q3]
  by_cases h2 : o ≤ i ∧ i < o + vs.length
  · rw [if_pos h2, if_pos (by omega)]
    have hj : i - o < vs.length := by omega
    obtain ⟨y, y1, y2⟩ := hv.get (List.getElem?_eq_getElem hj)
    exact ⟨vs[i - o], y, by rw [List.getElem?_eq_getElem hj], by rw [show L.base + i - (L.base + o + 0) = i - o by omega]; exact y1, y2⟩
  · rw [if_neg h2, if_neg (by omega)]
    exact k4 i hi

theorem lenL_eq (l : List AV) : lenL l = l.length := by
  induction l with
  | nil => rfl
  | cons a r ih => simp [lenL, ih]

theorem storeT_run {t : TypeId} {f v o : Nat} {x : AV} {a' x' : Value} {k : AH → Option R} {res : R} (r : Rep ρ h.get w) (wf : Wf h) (ha : VR ρ (.ptr f v o) a') (hx : VR ρ x x')
    (hk : storeT P h t f v o x k = some res) :
    ∃ h' w', k h' = some res ∧ h'.next = h.next ∧ (Instr.storeAt t a' x').run P w = .ok () w' ∧ Out ρ h w ρ h' w' := by
  cases ha with
  | ptr o hL =>
  unfold storeT at hk
  cases hs : sizeT P t with
  | none => rw [hs] at hk; cases hk
  | some n =>
    rw [hs] at hk
    obtain ⟨h1, hk1⟩ := cond_some hk
    obtain ⟨h', w', e1, e2, e3, e4⟩ := storeK_run (P := P) r wf hL hx.cells hk1
    refine ⟨h', w', e1, e2, ?_, e4⟩
    have hsz : x'.cells.size = n := by
      have h2 := Nat.eq_of_beq_eq_true h1
      rw [lenL_eq] at h2
      have h3 := hx.cells.length
      rw [← Array.length_toList, h3, h2]
    simp only [Instr.storeAt, Instr.sureAddr, Sem.run_bind, Sem.run_pure, Result.andThen_ok, storeVar, run_sizeT hs, hsz, ne_eq, not_true_eq_false, if_false]
    exact e3

/-- A new row. -/
theorem newRow_run {vs : List AV} {vs' : List Value} {k : Nat → Nat → AH → Option R} {res : R} {h0 : AH} (et : TypeId) {eto : Option TypeId} (heto : ∀ t, eto = some t → et = t) (extra : List Value) (r : Rep ρ h.get w) (wf : Wf h) (hv : VRL ρ vs vs')
    (hk : newRowK h eto vs k = some res) :
    ∃ h', k h.next vs.length h' = some res ∧ h'.next = h.next + 1 ∧ AF h h' ∧ ∀ (d : Nat), Fresh ρ h.next h'.next →
      Out ρ h w (upd ρ h.next vs.length ⟨w.heap.size, 0, (vs' ++ extra).length⟩) h' { w with heap := w.heap.push (.cells ⟨vs' ++ extra⟩ et), drawn := d } := by
  obtain ⟨c, h', e1, e2, e3, e4, e5, e6⟩ := newRowK_some wf hk
  refine ⟨h', e6, e2, e3, fun d fr => ?_⟩
  have hlen := hv.length
  refine Out.newRow (arr := ⟨vs' ++ extra⟩) (et := et) (fz := (0, 0)) (n := vs.length) r wf fr e3 e2 e4 heto rfl (by simp [hlen]) (.inl rfl) fun i hi => ?_
  obtain ⟨y, y1, y2⟩ := hv.get (List.getElem?_eq_getElem hi)
  refine ⟨vs[i], y, by rw [e1 i, List.getElem?_eq_getElem hi], ?_, y2⟩
  rw [arr_get, List.getElem?_append_left (by omega)]
  exact y1
/-- A new row of which nothing will be looked at. -/
theorem newDead_run {vs : List AV} {vs' : List Value} {k : Nat → AH → Option R} {res : R} (et : TypeId) (extra : List Value) (r : Rep ρ h.get w) (wf : Wf h) (hv : VRL ρ vs vs')
    (hk : h.newK .dead k = some res) :
    ∃ h', k h.next h' = some res ∧ h'.next = h.next + 1 ∧ AF h h' ∧ ∀ (d : Nat), Fresh ρ h.next h'.next →
      Out ρ h w (upd ρ h.next vs.length ⟨w.heap.size, 0, (vs' ++ extra).length⟩) h' { w with heap := w.heap.push (.cells ⟨vs' ++ extra⟩ et), drawn := d } := by
  obtain ⟨h', e6, e2, e3, e4, e5⟩ := newK_some wf hk
  refine ⟨h', e6, e2, e3, fun d fr => ?_⟩
  have hnh : inRanges h.hid h.next = false := by
    cases hh : inRanges h.hid h.next with
    | false => rfl
    | true => cases h with | mk tr next mark wlog hid => simp only [AH.newK] at hk; dsimp only at hh; rw [hh] at hk; cases hk
  obtain ⟨h2, q1, q2, q3, q4⟩ : ∃ h2, newRowK h none vs (fun _ _ x => some x) = some h2 ∧ h2.next = h.next + 1 ∧ h2.wlog = h.wlog ∧ h2 = h2 := by
    cases hq : newRowK h none vs (fun _ _ x => some x) with
    | none =>
      exfalso
      cases h with
      | mk tr next mark wlog hid =>
        dsimp only at hnh
        simp only [newRowK, AH.newK, hnh, cond_false, fN_eq] at hq
        have hs : ∀ (l : List AV) (c : Tr AV) (i : Nat) (k : Tr AV → Option AH), (∀ c, k c ≠ none) → setCellsK l c i k ≠ none := by
          intro l
          induction l with
          | nil => intro c i k hk; exact hk c
          | cons a l ih =>
            intro c i k hk
            simp only [setCellsK, fN_eq, Tr.setK, Tr.setPK_eq]
            exact ih _ _ _ hk
        refine hs vs .lf 0 _ (fun c => ?_) hq
        simp [Tr.setK, Tr.setPK_eq]
    | some h2 =>
      obtain ⟨c, h'', _, a2, _, _, a5, a6⟩ := newRowK_some wf hq
      injection a6 with a6
      subst a6
      exact ⟨_, rfl, a2, a5, rfl⟩
  obtain ⟨h3, z1, z2, z3, z4⟩ := newRow_run (w := w) (h0 := h) et (fun t ht => by cases ht) extra r wf hv q1
  injection z1 with z1
  subst z1
  have out := z4 d (by rw [q2]; rwa [e2] at fr)
  obtain ⟨c, h'', _, _, _, a4, _, a6⟩ := newRowK_some wf q1
  injection a6 with a6
  subst a6
  have hsub : ∀ F o, h'.get F = some o → o = .dead ∨ h''.get F = some o := by
    intro F o ho
    rw [e4 F] at ho
    rw [a4 F]
    by_cases e : F = h.next
    · rw [if_pos e] at ho; injection ho with ho; exact .inl ho.symm
    · rw [if_neg e] at ho ⊢; exact .inr ho
  have hlive : ∀ F, isLive (h'.get F) = true → isLive (h''.get F) = true := by
    intro F hl
    cases hg : h'.get F with
    | none => rw [hg] at hl; cases hl
    | some o =>
      rcases hsub F o hg with rfl | h1
      · rw [hg] at hl; cases hl
      · rw [h1]; rw [hg] at hl; exact hl
  have htch : ∀ F, Touch h h'' F ↔ Touch h h' F := by
    intro F
    unfold Touch
    rw [q2, q3, e2, e5]
  refine ⟨⟨fun F c n rd frz eto hF => ?_, fun F es ck hF => ?_, fun F F' v v' L L' l1 l2 => out.rep.inj F F' v v' L L' (hlive _ l1) (hlive _ l2), fun F v v' L L' l1 => out.rep.one F v v' L L' (hlive _ l1), out.rep.bnd, fun F c n rd frz t hF => ?_⟩, ⟨out.ext.le, fun F v L hL => ?_⟩, ⟨out.fr.os, out.fr.tape, out.fr.output, out.fr.size, fun b hb hn => out.fr.block b hb fun F v L hL hB ht => hn F v L hL hB ((htch F).1 ht)⟩, e3⟩
  · rcases hsub F _ hF with h1 | h1
    · cases h1
    · exact out.rep.cellsF F c n rd frz eto h1
  · rcases hsub F _ hF with h1 | h1
    · cases h1
    · exact out.rep.mp F es ck h1
  · rcases hsub F _ hF with h1 | h1
    · cases h1
    · exact out.rep.ety F c n rd frz t h1
  · rcases out.ext.new F v L hL with h1 | ⟨t, h1 | ⟨F0, v0, L0, g1, g2, g3, g4⟩⟩
    · exact .inl h1
    · exact .inr ⟨(htch F).1 t, .inl h1⟩
    · exact .inr ⟨(htch F).1 t, .inr ⟨F0, v0, L0, g1, g2, (htch F0).1 g3, g4⟩⟩
end
end Go.Proofs.YtcigfmnkfelhjaaDoor.Am
