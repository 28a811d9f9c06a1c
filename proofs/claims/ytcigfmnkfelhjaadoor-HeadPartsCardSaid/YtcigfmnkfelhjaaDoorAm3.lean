/- The abstract machine: slices that grow; what the text's constants stand for. -/
import Derived.Test.YtcigfmnkfelhjaaDoorAm2
set_option linter.unusedVariables false
namespace Go.Proofs.YtcigfmnkfelhjaaDoor.Am
open Go

/-- A family grows in its place: behind its last cell of the newest version. -/
theorem Out.growIn {ρ : Rho} {h h' : AH} {w w' : World} {f : Nat} {L : Pl} {c c' : Tr AV} {m m' rd : Nat} {arr arr' : Array Value} {et : TypeId} {eto eto' : Option TypeId} {fz : Nat × Nat} (r : Rep ρ h.get w) (wf : Wf h)
    (af : AF h h') (ht : Touch h h' f) (hg : h.get f = some (.cells c m rd false eto)) (heto : ∀ t, eto' = some t → eto = some t) (hL : ρ f m = some L) (hget : ∀ F, h'.get F = if F = f then some (.cells c' m' rd false eto') else h.get F)
    (hb : w.heap[L.blk]? = some (.cells arr et fz)) (hsz : L.base + L.cap ≤ arr.size) (hmm : m < m') (hm : m' ≤ L.cap)
    (hw : w' = { w with heap := w.heap.setIfInBounds L.blk (.cells arr' et fz) }) (hsz' : arr'.size = arr.size) (hfz : FzOK eto fz arr.size)
    (hold' : ∀ i, i < m → c'.get i = c.get i) (hold2 : ∀ j, j < L.base + m → arr'[j]? = arr[j]?)
    (hc : ∀ i, i < m' → ∃ a x, c'.get i = some a ∧ arr'[L.base + i]? = some x ∧ VR ρ a x) :
    Out ρ h w (upd ρ f m' L) h' w' := by
  have hlt : L.blk < w.heap.size := r.bnd _ _ _ hL
  have hheap : w'.heap = w.heap.setIfInBounds L.blk (.cells arr' et fz) := by rw [hw]
  have hold : ∀ k, k ≠ L.blk → w'.heap[k]? = w.heap[k]? := fun k hk => by rw [hheap, Array.getElem?_setIfInBounds_ne (Ne.symm hk)]
  have hnewb : w'.heap[L.blk]? = some (.cells arr' et fz) := by rw [hheap, Array.getElem?_setIfInBounds_self_of_lt hlt]
  have hlive : isLive (h.get f) = true := by rw [hg]; rfl
  have hno : ρ f m' = none := by
    cases hh : ρ f m' with
    | none => rfl
    | some M => have := ((r.cellsF _ _ _ _ _ _ hg).2 m' M hh).1; omega
  have le : Le ρ (upd ρ f m' L) := upd_le hno
  have hup : ∀ F v M, upd ρ f m' L F v = some M → ρ F v = some M ∨ (F = f ∧ v = m' ∧ M = L) := by
    intro F v M hM
    simp only [upd] at hM
    split at hM
    · rename_i e
      injection hM with hM
      exact .inr ⟨e.1, e.2, hM.symm⟩
    · exact .inl hM
  have hlv : ∀ F, isLive (h'.get F) = true → isLive (h.get F) = true := by
    intro F hF
    rw [hget F] at hF
    by_cases e : F = f
    · rw [e]; exact hlive
    · rwa [if_neg e] at hF
  have hne : ∀ F v M, F ≠ f → isLive (h.get F) = true → ρ F v = some M → M.blk ≠ L.blk := by
    intro F v M hF hl hM e
    exact hF (r.inj F f v m M L hl hlive hM hL e)
  refine ⟨⟨?_, ?_, ?_, ?_, ?_, ?_⟩, ⟨le, ?_⟩, ⟨by rw [hw], by rw [hw], by rw [hw], by rw [hheap]; simp, fun b hb hp => hold b fun e => hp f m L hL e.symm ht⟩, af⟩
  · intro F c2 n rd2 frz2 eto2 hF
    rw [hget F] at hF
    by_cases e : F = f
    · rw [if_pos e] at hF
      injection hF with hF
      injection hF with e1 e2 e3 e4 e5
      subst e1 e2 e3 e4 e5 e
      obtain ⟨g1, g2⟩ := r.cellsF _ _ _ _ _ _ hg
      refine ⟨by omega, fun v M hM => ?_⟩
      rcases hup _ v M hM with hM | ⟨_, rfl, rfl⟩
      · obtain ⟨g3, g4⟩ := g2 v M hM
        refine ⟨by omega, fun hrd => ?_⟩
        obtain ⟨arr2, et2, fz2, k1, k2, k3, k4, k5⟩ := g4 hrd
        by_cases hbk : M.blk = L.blk
        · have hbase := r.one _ v m M L hlive hM hL hbk
          rw [hbk, hb] at k1
          injection k1 with k1
          injection k1 with e1 e2 e3
          subst e1 e2 e3
          refine ⟨arr', et, fz, by rw [hbk]; exact hnewb, by omega, k3, fun i hi => ?_, fun hh => by omega⟩
          obtain ⟨a, x, m1, m2, m3⟩ := k4 i hi
          exact ⟨a, x, by rw [hold' i (by omega)]; exact m1, by rw [hold2 _ (by omega)]; exact m2, m3.mono le⟩
        · refine ⟨arr2, et2, fz2, by rw [hold _ hbk]; exact k1, k2, k3, fun i hi => ?_, fun hh => by omega⟩
          obtain ⟨a, x, m1, m2, m3⟩ := k4 i hi
          exact ⟨a, x, by rw [hold' i (by omega)]; exact m1, m2, m3.mono le⟩
      · refine ⟨Nat.le_refl _, fun _ => ⟨arr', et, fz, hnewb, by omega, hm, fun i hi => ?_, fun _ => by rw [hsz']; exact hfz.sub heto⟩⟩
        obtain ⟨a, x, m1, m2, m3⟩ := hc i hi
        exact ⟨a, x, m1, m2, m3.mono le⟩
    · rw [if_neg e] at hF
      obtain ⟨h1, h2⟩ := r.cellsF F c2 n rd2 frz2 eto2 hF
      refine ⟨h1, fun v M hM => ?_⟩
      have hM : ρ F v = some M := by
        rcases hup F v M hM with h | ⟨h, _⟩
        · exact h
        · exact absurd h e
      refine ⟨(h2 v M hM).1, fun hrd => ?_⟩
      obtain ⟨arr2, et2, fz2, k1, k2, k3, k4, k5⟩ := (h2 v M hM).2 hrd
      refine ⟨arr2, et2, fz2, by rw [hold _ (hne F v M e (by rw [hF]; rfl) hM)]; exact k1, k2, k3, fun i hi => ?_, k5⟩
      obtain ⟨a, x, m1, m2, m3⟩ := k4 i hi
      exact ⟨a, x, m1, m2, m3.mono le⟩
  · intro F es ck hF v M hM
    rw [hget F] at hF
    by_cases e : F = f
    · rw [if_pos e] at hF; injection hF with hF; cases hF
    · rw [if_neg e] at hF
      have hM : ρ F v = some M := by
        rcases hup F v M hM with h | ⟨h, _⟩
        · exact h
        · exact absurd h e
      obtain ⟨es', k1, k2⟩ := r.mp F es ck hF v M hM
      exact ⟨es', by rw [hold _ (hne F v M e (by rw [hF]; rfl) hM)]; exact k1, k2.mono le⟩
  · intro F F' v v' M M' l1 l2 hM hM' hbk
    have l1 := hlv F l1
    have l2 := hlv F' l2
    rcases hup F v M hM with hA | ⟨rfl, rfl, rfl⟩ <;> rcases hup F' v' M' hM' with hB | ⟨rfl, rfl, rfl⟩
    · exact r.inj F F' v v' M M' l1 l2 hA hB hbk
    · exact r.inj F F' v m M M' l1 l2 hA hL hbk
    · exact r.inj F F' m v' M M' l1 l2 hL hB hbk
    · rfl
  · intro F v v' M M' l1 hM hM' hbk
    have l1 := hlv F l1
    rcases hup F v M hM with hA | ⟨rfl, rfl, rfl⟩ <;> rcases hup F v' M' hM' with hB | ⟨e1, e2, e3⟩
    · exact r.one F v v' M M' l1 hA hB hbk
    · subst e1 e2 e3; exact r.one _ v m M M' l1 hA hL hbk
    · exact r.one _ m v' M M' l1 hL hB hbk
    · rw [e3]
  · intro F v M hM
    rw [hheap, Array.size_setIfInBounds]
    rcases hup F v M hM with hM | ⟨rfl, rfl, rfl⟩
    · exact r.bnd F v M hM
    · exact hlt
  · intro F c2 n rd2 frz2 t hF v M hM
    rw [hget F] at hF
    by_cases e : F = f
    · rw [if_pos e] at hF
      injection hF with hF
      injection hF with e1 e2 e3 e4 e5
      subst e
      have hety := r.ety _ _ _ _ _ t (by rw [hg, heto t e5])
      have main : ∀ M : Pl, (M.base = 0 ∧ ∃ a1 f1, w.heap[M.blk]? = some (.cells a1 t f1)) → M.base = 0 ∧ ∃ a1 f1, w'.heap[M.blk]? = some (.cells a1 t f1) := by
        rintro M ⟨k0, a1, f1, k1⟩
        by_cases hbk : M.blk = L.blk
        · rw [hbk] at k1 ⊢
          rw [hb] at k1
          injection k1 with k1
          injection k1 with _ k2 _
          exact ⟨k0, arr', fz, by rw [← k2]; exact hnewb⟩
        · exact ⟨k0, a1, f1, by rw [hold _ hbk]; exact k1⟩
      rcases hup _ v M hM with hM | ⟨_, rfl, rfl⟩
      · exact main M (hety v M hM)
      · exact main _ (hety m _ hL)
    · rw [if_neg e] at hF
      have hM : ρ F v = some M := by
        rcases hup F v M hM with h | ⟨h, _⟩
        · exact h
        · exact absurd h e
      obtain ⟨k0, a1, f1, k1⟩ := r.ety F c2 n rd2 frz2 t hF v M hM
      exact ⟨k0, a1, f1, by rw [hold _ (hne F v M e (by rw [hF]; rfl) hM)]; exact k1⟩
  · intro F v M hM
    rcases hup F v M hM with hM | ⟨rfl, rfl, rfl⟩
    · exact .inl hM
    · exact .inr ⟨ht, .inr ⟨F, m, M, hL, rfl, ht, hlive⟩⟩

/-- A family grows into a new block. -/
theorem Out.growMove {ρ : Rho} {h h' : AH} {w w' : World} {f : Nat} {c c' : Tr AV} {m m' rd : Nat} {arr' : Array Value} {et : TypeId} {eto eto' : Option TypeId} (r : Rep ρ h.get w) (wf : Wf h)
    (af : AF h h') (ht : Touch h h' f) (hg : h.get f = some (.cells c m rd false eto)) (heto : ∀ t, eto' = some t → eto = some t ∧ et = t) (hget : ∀ F, h'.get F = if F = f then some (.cells c' m' rd false eto') else h.get F)
    (hmm : m < m') (hw : w' = { w with heap := w.heap.push (.cells arr' et (0, 0)), drawn := w'.drawn }) (hm : m' ≤ arr'.size)
    (hold' : ∀ i, i < m → c'.get i = c.get i) (hc : ∀ i, i < m' → ∃ a x, c'.get i = some a ∧ arr'[i]? = some x ∧ VR ρ a x) :
    Out ρ h w (upd ρ f m' ⟨w.heap.size, 0, arr'.size⟩) h' w' := by
  have hheap : w'.heap = w.heap.push (.cells arr' et (0, 0)) := by rw [hw]
  have hold : ∀ k, k < w.heap.size → w'.heap[k]? = w.heap[k]? := fun k hk => by rw [hheap]; exact heap_push_lt _ _ _ hk
  have hnewb : w'.heap[w.heap.size]? = some (.cells arr' et (0, 0)) := by rw [hheap]; simp
  have hlive : isLive (h.get f) = true := by rw [hg]; rfl
  have hno : ρ f m' = none := by
    cases hh : ρ f m' with
    | none => rfl
    | some M => have := ((r.cellsF _ _ _ _ _ _ hg).2 m' M hh).1; omega
  have le : Le ρ (upd ρ f m' ⟨w.heap.size, 0, arr'.size⟩) := upd_le hno
  have hup : ∀ F v M, upd ρ f m' ⟨w.heap.size, 0, arr'.size⟩ F v = some M → ρ F v = some M ∨ (F = f ∧ v = m' ∧ M = ⟨w.heap.size, 0, arr'.size⟩) := by
    intro F v M hM
    simp only [upd] at hM
    split at hM
    · rename_i e
      injection hM with hM
      exact .inr ⟨e.1, e.2, hM.symm⟩
    · exact .inl hM
  have hlv : ∀ F, isLive (h'.get F) = true → isLive (h.get F) = true := by
    intro F hF
    rw [hget F] at hF
    by_cases e : F = f
    · rw [e]; exact hlive
    · rwa [if_neg e] at hF
  refine ⟨⟨?_, ?_, ?_, ?_, ?_, ?_⟩, ⟨le, ?_⟩, ⟨by rw [hw], by rw [hw], by rw [hw], by rw [hheap]; simp, fun b hb hp => hold b hb⟩, af⟩
  · intro F c2 n rd2 frz2 eto2 hF
    rw [hget F] at hF
    by_cases e : F = f
    · rw [if_pos e] at hF
      injection hF with hF
      injection hF with e1 e2 e3 e4 e5
      subst e1 e2 e3 e4 e
      obtain ⟨g1, g2⟩ := r.cellsF _ _ _ _ _ _ hg
      refine ⟨by omega, fun v M hM => ?_⟩
      rcases hup _ v M hM with hM | ⟨_, rfl, rfl⟩
      · obtain ⟨g3, g4⟩ := g2 v M hM
        refine ⟨by omega, fun hrd => ?_⟩
        obtain ⟨arr2, et2, fz2, k1, k2, k3, k4, k5⟩ := g4 hrd
        refine ⟨arr2, et2, fz2, by rw [hold _ (r.bnd _ _ _ hM)]; exact k1, k2, k3, fun i hi => ?_, fun hh => by omega⟩
        obtain ⟨a, x, m1, m2, m3⟩ := k4 i hi
        exact ⟨a, x, by rw [hold' i (by omega)]; exact m1, m2, m3.mono le⟩
      · refine ⟨Nat.le_refl _, fun _ => ⟨arr', et, (0, 0), hnewb, by simp, hm, fun i hi => ?_, fun _ => .inl rfl⟩⟩
        obtain ⟨a, x, m1, m2, m3⟩ := hc i hi
        exact ⟨a, x, m1, by simpa using m2, m3.mono le⟩
    · rw [if_neg e] at hF
      obtain ⟨h1, h2⟩ := r.cellsF F c2 n rd2 frz2 eto2 hF
      refine ⟨h1, fun v M hM => ?_⟩
      have hM : ρ F v = some M := by
        rcases hup F v M hM with h | ⟨h, _⟩
        · exact h
        · exact absurd h e
      refine ⟨(h2 v M hM).1, fun hrd => ?_⟩
      obtain ⟨arr2, et2, fz2, k1, k2, k3, k4, k5⟩ := (h2 v M hM).2 hrd
      refine ⟨arr2, et2, fz2, by rw [hold _ (r.bnd _ _ _ hM)]; exact k1, k2, k3, fun i hi => ?_, k5⟩
      obtain ⟨a, x, m1, m2, m3⟩ := k4 i hi
      exact ⟨a, x, m1, m2, m3.mono le⟩
  · intro F es ck hF v M hM
    rw [hget F] at hF
    by_cases e : F = f
    · rw [if_pos e] at hF; injection hF with hF; cases hF
    · rw [if_neg e] at hF
      have hM : ρ F v = some M := by
        rcases hup F v M hM with h | ⟨h, _⟩
        · exact h
        · exact absurd h e
      obtain ⟨es', k1, k2⟩ := r.mp F es ck hF v M hM
      exact ⟨es', by rw [hold _ (r.bnd _ _ _ hM)]; exact k1, k2.mono le⟩
  · intro F F' v v' M M' l1 l2 hM hM' hbk
    have l1 := hlv F l1
    have l2 := hlv F' l2
    rcases hup F v M hM with hA | ⟨rfl, rfl, rfl⟩ <;> rcases hup F' v' M' hM' with hB | ⟨rfl, rfl, rfl⟩
    · exact r.inj F F' v v' M M' l1 l2 hA hB hbk
    · have := r.bnd F v M hA; simp only at hbk; omega
    · have := r.bnd F' v' M' hB; simp only at hbk; omega
    · rfl
  · intro F v v' M M' l1 hM hM' hbk
    have l1 := hlv F l1
    rcases hup F v M hM with hM | ⟨_, _, e3⟩ <;> rcases hup F v' M' hM' with hM' | ⟨_, _, e3'⟩
    · exact r.one F v v' M M' l1 hM hM' hbk
    · have := r.bnd F v M hM; subst e3'; simp only at hbk; omega
    · have := r.bnd F v' M' hM'; subst e3; simp only at hbk; omega
    · rw [e3, e3']
  · intro F v M hM
    rw [hheap, Array.size_push]
    rcases hup F v M hM with hM | ⟨rfl, rfl, rfl⟩
    · exact Nat.lt_succ_of_lt (r.bnd F v M hM)
    · simp
  · intro F c2 n rd2 frz2 t hF v M hM
    rw [hget F] at hF
    by_cases e : F = f
    · rw [if_pos e] at hF
      injection hF with hF
      injection hF with e1 e2 e3 e4 e5
      subst e
      obtain ⟨h1, h2⟩ := heto t e5
      rcases hup _ v M hM with hM | ⟨_, rfl, rfl⟩
      · obtain ⟨k0, a1, f1, k1⟩ := r.ety _ _ _ _ _ t (by rw [hg, h1]) v M hM
        exact ⟨k0, a1, f1, by rw [hold _ (r.bnd _ _ _ hM)]; exact k1⟩
      · exact ⟨rfl, arr', (0, 0), by rw [← h2]; exact hnewb⟩
    · rw [if_neg e] at hF
      have hM : ρ F v = some M := by
        rcases hup F v M hM with h | ⟨h, _⟩
        · exact h
        · exact absurd h e
      obtain ⟨k0, a1, f1, k1⟩ := r.ety F c2 n rd2 frz2 t hF v M hM
      exact ⟨k0, a1, f1, by rw [hold _ (r.bnd _ _ _ hM)]; exact k1⟩
  · intro F v M hM
    rcases hup F v M hM with hM | ⟨rfl, rfl, rfl⟩
    · exact .inl hM
    · exact .inr ⟨ht, .inl (Nat.le_refl _)⟩

/-- A family is given up; nothing is written. -/
theorem Out.kill {ρ : Rho} {h h' : AH} {w : World} {f : Nat} (r : Rep ρ h.get w) (wf : Wf h)
    (af : AF h h') (hget : ∀ F, h'.get F = if F = f then some .dead else h.get F) : Out ρ h w ρ h' w := by
  refine ⟨?_, ⟨Le.refl _, fun _ _ _ h => .inl h⟩, ⟨rfl, rfl, rfl, Nat.le_refl _, fun _ _ _ => rfl⟩, af⟩
  have hlv : ∀ F, isLive (h'.get F) = true → h'.get F = h.get F := by
    intro F hF
    rw [hget F] at hF ⊢
    by_cases e : F = f
    · rw [if_pos e] at hF; cases hF
    · rw [if_neg e]
  refine ⟨fun F c n rd frz eto hF => ?_, fun F es ck hF => ?_, fun F F' v v' L L' l1 l2 => ?_, fun F v v' L L' l1 => ?_, r.bnd, fun F c n rd frz t hF => ?_⟩
  · have := hlv F (by rw [hF]; rfl)
    exact r.cellsF F c n rd frz eto (this ▸ hF)
  · have := hlv F (by rw [hF]; rfl)
    exact r.mp F es ck (this ▸ hF)
  · exact r.inj F F' v v' L L' (hlv F l1 ▸ l1) (hlv F' l2 ▸ l2)
  · exact r.one F v v' L L' (hlv F l1 ▸ l1)
  · have := hlv F (by rw [hF]; rfl)
    exact r.ety F c n rd frz t (this ▸ hF)

/-- A family is given up, its block written, and a new family lies there, from some cell of it on. -/
theorem Out.cutIn {ρ : Rho} {h h' : AH} {w w' : World} {f o : Nat} {L : Pl} {c c' : Tr AV} {m n rd : Nat} {arr arr' : Array Value} {et : TypeId} {eto eto' : Option TypeId} {fz : Nat × Nat} (r : Rep ρ h.get w) (wf : Wf h)
    (heto : ∀ t, eto' = some t → eto = some t ∧ o = 0) (fresh : Fresh ρ h.next h'.next) (af : AF h h') (ht : Touch h h' f) (hn : h'.next = h.next + 1) (hg : h.get f = some (.cells c m rd false eto)) (hL : ρ f m = some L)
    (hget : ∀ F, h'.get F = if F = h.next then some (.cells c' n n false eto') else if F = f then some .dead else h.get F)
    (hb : w.heap[L.blk]? = some (.cells arr et fz)) (hsz : L.base + L.cap ≤ arr.size) (ho : o + n ≤ L.cap)
    (hw : w' = { w with heap := w.heap.setIfInBounds L.blk (.cells arr' et fz) }) (hsz' : arr'.size = arr.size) (hfz : FzOK eto fz arr.size)
    (hc : ∀ i, i < n → ∃ a x, c'.get i = some a ∧ arr'[L.base + o + i]? = some x ∧ VR ρ a x) :
    Out ρ h w (upd ρ h.next n ⟨L.blk, L.base + o, L.cap - o⟩) h' w' := by
  have hlt : L.blk < w.heap.size := r.bnd _ _ _ hL
  have hheap : w'.heap = w.heap.setIfInBounds L.blk (.cells arr' et fz) := by rw [hw]
  have hold : ∀ k, k ≠ L.blk → w'.heap[k]? = w.heap[k]? := fun k hk => by rw [hheap, Array.getElem?_setIfInBounds_ne (Ne.symm hk)]
  have hnewb : w'.heap[L.blk]? = some (.cells arr' et fz) := by rw [hheap, Array.getElem?_setIfInBounds_self_of_lt hlt]
  have hlive : isLive (h.get f) = true := by rw [hg]; rfl
  have hfn : f < h.next := by
    rcases Nat.lt_or_ge f h.next with hh | hh
    · exact hh
    · rw [wf.get f hh] at hg; cases hg
  have hno : ρ h.next n = none := fresh h.next n (Nat.le_refl _) (by omega)
  have le : Le ρ (upd ρ h.next n ⟨L.blk, L.base + o, L.cap - o⟩) := upd_le hno
  have hup : ∀ F v M, upd ρ h.next n ⟨L.blk, L.base + o, L.cap - o⟩ F v = some M → (ρ F v = some M ∧ F ≠ h.next) ∨ (F = h.next ∧ v = n ∧ M = ⟨L.blk, L.base + o, L.cap - o⟩) := by
    intro F v M hM
    simp only [upd] at hM
    split at hM
    · rename_i e
      injection hM with hM
      exact .inr ⟨e.1, e.2, hM.symm⟩
    · refine .inl ⟨hM, ?_⟩
      rintro rfl
      rw [fresh h.next v (Nat.le_refl _) (by omega)] at hM; cases hM
  have ht' : Touch h h' h.next := .inl ⟨wf.mark, by omega⟩
  -- the families that were there and live still
  have hlv : ∀ F, F ≠ h.next → isLive (h'.get F) = true → F ≠ f ∧ h'.get F = h.get F := by
    intro F hF hl
    rw [hget F, if_neg hF] at hl ⊢
    by_cases e : F = f
    · rw [if_pos e] at hl; cases hl
    · exact ⟨e, by rw [if_neg e]⟩
  have hne : ∀ F v M, F ≠ f → isLive (h.get F) = true → ρ F v = some M → M.blk ≠ L.blk := by
    intro F v M hF hl hM e
    exact hF (r.inj F f v m M L hl hlive hM hL e)
  refine ⟨⟨?_, ?_, ?_, ?_, ?_, ?_⟩, ⟨le, ?_⟩, ⟨by rw [hw], by rw [hw], by rw [hw], by rw [hheap]; simp, fun b hb hp => hold b fun e => hp f m L hL e.symm ht⟩, af⟩
  · intro F c2 n2 rd2 frz2 eto2 hF
    by_cases e : F = h.next
    · rw [hget F, if_pos e] at hF
      injection hF with hF
      injection hF with e1 e2 e3 e4 e5
      subst e1 e2 e3 e4 e5
      refine ⟨Nat.le_refl _, fun v M hM => ?_⟩
      rcases hup F v M hM with ⟨_, hh⟩ | ⟨_, rfl, rfl⟩
      · exact absurd e hh
      · refine ⟨Nat.le_refl _, fun _ => ⟨arr', et, fz, hnewb, by simp only; omega, by simp only; omega, fun i hi => ?_, fun _ => by rw [hsz']; exact hfz.sub fun t ht => (heto t ht).1⟩⟩
        obtain ⟨a, x, m1, m2, m3⟩ := hc i hi
        exact ⟨a, x, m1, m2, m3.mono le⟩
    · obtain ⟨e1, e2⟩ := hlv F e (by rw [hF]; rfl)
      rw [e2] at hF
      obtain ⟨h1, h2⟩ := r.cellsF F c2 n2 rd2 frz2 eto2 hF
      refine ⟨h1, fun v M hM => ?_⟩
      have hM : ρ F v = some M := by
        rcases hup F v M hM with ⟨h, _⟩ | ⟨h, _⟩
        · exact h
        · exact absurd h e
      refine ⟨(h2 v M hM).1, fun hrd => ?_⟩
      obtain ⟨arr2, et2, fz2, k1, k2, k3, k4, k5⟩ := (h2 v M hM).2 hrd
      refine ⟨arr2, et2, fz2, by rw [hold _ (hne F v M e1 (by rw [hF]; rfl) hM)]; exact k1, k2, k3, fun i hi => ?_, k5⟩
      obtain ⟨a, x, m1, m2, m3⟩ := k4 i hi
      exact ⟨a, x, m1, m2, m3.mono le⟩
  · intro F es ck hF v M hM
    by_cases e : F = h.next
    · rw [hget F, if_pos e] at hF; injection hF with hF; cases hF
    · obtain ⟨e1, e2⟩ := hlv F e (by rw [hF]; rfl)
      rw [e2] at hF
      have hM : ρ F v = some M := by
        rcases hup F v M hM with ⟨h, _⟩ | ⟨h, _⟩
        · exact h
        · exact absurd h e
      obtain ⟨es', k1, k2⟩ := r.mp F es ck hF v M hM
      exact ⟨es', by rw [hold _ (hne F v M e1 (by rw [hF]; rfl) hM)]; exact k1, k2.mono le⟩
  · intro F F' v v' M M' l1 l2 hM hM' hbk
    rcases hup F v M hM with ⟨hA, hn1⟩ | ⟨rfl, rfl, rfl⟩ <;> rcases hup F' v' M' hM' with ⟨hB, hn2⟩ | ⟨rfl, rfl, rfl⟩
    · obtain ⟨_, e1⟩ := hlv F hn1 l1
      obtain ⟨_, e2⟩ := hlv F' hn2 l2
      exact r.inj F F' v v' M M' (e1 ▸ l1) (e2 ▸ l2) hA hB hbk
    · obtain ⟨e0, e1⟩ := hlv F hn1 l1
      exact absurd hbk (hne F v M e0 (e1 ▸ l1) hA)
    · obtain ⟨e0, e1⟩ := hlv F' hn2 l2
      exact absurd hbk.symm (hne F' v' M' e0 (e1 ▸ l2) hB)
    · rfl
  · intro F v v' M M' l1 hM hM' hbk
    rcases hup F v M hM with ⟨hM, hn1⟩ | ⟨e1, _, e3⟩ <;> rcases hup F v' M' hM' with ⟨hM', hn2⟩ | ⟨e1', _, e3'⟩
    · obtain ⟨_, e1⟩ := hlv F hn1 l1
      exact r.one F v v' M M' (e1 ▸ l1) hM hM' hbk
    · exact absurd e1' hn1
    · exact absurd e1 hn2
    · rw [e3, e3']
  · intro F v M hM
    rw [hheap, Array.size_setIfInBounds]
    rcases hup F v M hM with ⟨hM, _⟩ | ⟨rfl, rfl, rfl⟩
    · exact r.bnd F v M hM
    · exact hlt
  · intro F c2 n2 rd2 frz2 t hF v M hM
    by_cases e : F = h.next
    · rw [hget F, if_pos e] at hF
      injection hF with hF
      injection hF with e1 e2 e3 e4 e5
      subst e5
      obtain ⟨ho1, ho2⟩ := heto t rfl
      rcases hup F v M hM with ⟨_, hh⟩ | ⟨_, rfl, rfl⟩
      · exact absurd e hh
      · obtain ⟨k0, a1, f1, k1⟩ := r.ety f c m rd false t (by rw [hg, ho1]) m L hL
        rw [hb] at k1
        injection k1 with k1
        injection k1 with _ k2 _
        subst k2
        exact ⟨by simp only; omega, _, _, hnewb⟩
    · obtain ⟨e1, e2⟩ := hlv F e (by rw [hF]; rfl)
      rw [e2] at hF
      have hM : ρ F v = some M := by
        rcases hup F v M hM with ⟨h, _⟩ | ⟨h, _⟩
        · exact h
        · exact absurd h e
      obtain ⟨k0, a1, f1, k1⟩ := r.ety F c2 n2 rd2 frz2 t hF v M hM
      exact ⟨k0, a1, f1, by rw [hold _ (hne F v M e1 (by rw [hF]; rfl) hM)]; exact k1⟩
  · intro F v M hM
    rcases hup F v M hM with ⟨hM, _⟩ | ⟨rfl, rfl, rfl⟩
    · exact .inl hM
    · exact .inr ⟨ht', .inr ⟨f, m, L, hL, rfl, ht, hlive⟩⟩

/-! ## Maps and ranges over strings -/
/-- A new block that is no row of cells, laid for a new family. -/
theorem Out.newOb {ρ : Rho} {h h' : AH} {w w' : World} {es : MB} {ck : Nat} {o : Obj} (r : Rep ρ h.get w) (wf : Wf h)
    (fresh : Fresh ρ h.next h'.next) (af : AF h h') (hn : h'.next = h.next + 1) (hget : ∀ F, h'.get F = if F = h.next then some (.mp es ck) else h.get F)
    (hw : w' = { w with heap := w.heap.push o, drawn := w'.drawn }) (ho : MpR ρ 0 0 es ck o) :
    Out ρ h w (upd ρ h.next 0 ⟨w.heap.size, 0, 0⟩) h' w' := by
  have hno : ρ h.next 0 = none := fresh h.next 0 (Nat.le_refl _) (by omega)
  have le : Le ρ (upd ρ h.next 0 ⟨w.heap.size, 0, 0⟩) := upd_le hno
  have hheap : w'.heap = w.heap.push o := by rw [hw]
  have hold : ∀ k, k < w.heap.size → w'.heap[k]? = w.heap[k]? := fun k hk => by rw [hheap]; exact heap_push_lt _ _ _ hk
  have hnewb : w'.heap[w.heap.size]? = some o := by rw [hheap]; simp
  have hsame : ∀ F v L, F ≠ h.next → upd ρ h.next 0 ⟨w.heap.size, 0, 0⟩ F v = some L → ρ F v = some L := by
    intro F v L hF hL
    simpa [upd, hF] using hL
  have hnew : ∀ v L, upd ρ h.next 0 ⟨w.heap.size, 0, 0⟩ h.next v = some L → v = 0 ∧ L = ⟨w.heap.size, 0, 0⟩ := by
    intro v L hL
    simp only [upd] at hL
    split at hL
    · rename_i e
      injection hL with hL
      exact ⟨e.2, hL.symm⟩
    · rw [fresh h.next v (Nat.le_refl _) (by omega)] at hL; cases hL
  have ht : Touch h h' h.next := .inl ⟨wf.mark, by omega⟩
  refine ⟨⟨?_, ?_, ?_, ?_, ?_, ?_⟩, ⟨le, ?_⟩, ⟨by rw [hw], by rw [hw], by rw [hw], by rw [hheap]; simp, fun b hb _ => hold b hb⟩, af⟩
  · intro F c' n' rd frz eto' hF
    rw [hget F] at hF
    by_cases e : F = h.next
    · rw [if_pos e] at hF; injection hF with hF; cases hF
    · rw [if_neg e] at hF
      obtain ⟨h1, h2⟩ := r.cellsF F c' n' rd frz eto' hF
      refine ⟨h1, fun v L hL => ?_⟩
      have hL' := hsame F v L e hL
      obtain ⟨h3, h4⟩ := h2 v L hL'
      refine ⟨h3, fun hrd => ?_⟩
      obtain ⟨arr', et', fz', k1, k2, k3, k4, k5⟩ := h4 hrd
      refine ⟨arr', et', fz', by rw [hold _ (r.bnd F v L hL')]; exact k1, k2, k3, fun i hi => ?_, k5⟩
      obtain ⟨a, x, m1, m2, m3⟩ := k4 i hi
      exact ⟨a, x, m1, m2, m3.mono le⟩
  · intro F es2 ck2 hF v L hL
    rw [hget F] at hF
    by_cases e : F = h.next
    · rw [if_pos e] at hF
      injection hF with hF
      injection hF with e1 e2
      subst e1 e2
      subst e
      obtain ⟨rfl, rfl⟩ := hnew v L hL
      exact ⟨o, hnewb, ho.mono le⟩
    · rw [if_neg e] at hF
      have hL' := hsame F v L e hL
      obtain ⟨es', k1, k2⟩ := r.mp F es2 ck2 hF v L hL'
      exact ⟨es', by rw [hold _ (r.bnd F v L hL')]; exact k1, k2.mono le⟩
  · intro F F' v v' L L' l1 l2 hL hL' hb
    rw [hget F] at l1
    rw [hget F'] at l2
    by_cases e : F = h.next
    · by_cases e' : F' = h.next
      · rw [e, e']
      · have hL2 := hsame F' v' L' e' hL'
        have := r.bnd F' v' L' hL2
        subst e
        obtain ⟨_, rfl⟩ := hnew v L hL
        simp only at hb; omega
    · rw [if_neg e] at l1
      have hL1 := hsame F v L e hL
      by_cases e' : F' = h.next
      · have := r.bnd F v L hL1
        subst e'
        obtain ⟨_, rfl⟩ := hnew v' L' hL'
        simp only at hb; omega
      · rw [if_neg e'] at l2
        exact r.inj F F' v v' L L' l1 l2 hL1 (hsame F' v' L' e' hL') hb
  · intro F v v' L L' l1 hL hL' hb
    rw [hget F] at l1
    by_cases e : F = h.next
    · subst e
      rw [(hnew v L hL).2, (hnew v' L' hL').2]
    · rw [if_neg e] at l1
      exact r.one F v v' L L' l1 (hsame F v L e hL) (hsame F v' L' e hL') hb
  · intro F v L hL
    rw [hheap, Array.size_push]
    simp only [upd] at hL
    split at hL
    · injection hL with hL; subst hL; simp
    · exact Nat.lt_succ_of_lt (r.bnd F v L hL)
  · intro F c' n' rd frz t hF v L hL
    rw [hget F] at hF
    by_cases e : F = h.next
    · rw [if_pos e] at hF; injection hF with hF; cases hF
    · rw [if_neg e] at hF
      have hL' := hsame F v L e hL
      obtain ⟨k0, a1, f1, k1⟩ := r.ety F c' n' rd frz t hF v L hL'
      exact ⟨k0, a1, f1, by rw [hold _ (r.bnd F v L hL')]; exact k1⟩
  · intro F v L hL
    simp only [upd] at hL
    split at hL
    · rename_i e
      injection hL with hL
      subst hL
      rw [e.1]
      exact .inr ⟨ht, .inl (Nat.le_refl _)⟩
    · exact .inl hL

/-- Such a block is written anew. -/
theorem Out.setOb {ρ : Rho} {h h' : AH} {w w' : World} {f : Nat} {L : Pl} {es es' : MB} {ck ck' : Nat} {o : Obj} (r : Rep ρ h.get w) (wf : Wf h)
    (af : AF h h') (ht : Touch h h' f) (hg : h.get f = some (.mp es ck)) (hL : ρ f 0 = some L) (hget : ∀ F, h'.get F = if F = f then some (.mp es' ck') else h.get F)
    (hw : w' = { w with heap := w.heap.setIfInBounds L.blk o }) (ho : MpR ρ 0 L.base es' ck' o) : Out ρ h w ρ h' w' := by
  have hlt : L.blk < w.heap.size := r.bnd _ _ _ hL
  have hheap : w'.heap = w.heap.setIfInBounds L.blk o := by rw [hw]
  have hold : ∀ k, k ≠ L.blk → w'.heap[k]? = w.heap[k]? := fun k hk => by rw [hheap, Array.getElem?_setIfInBounds_ne (Ne.symm hk)]
  have hnewb : w'.heap[L.blk]? = some o := by rw [hheap, Array.getElem?_setIfInBounds_self_of_lt hlt]
  have hlive : isLive (h.get f) = true := by rw [hg]; rfl
  have hlv : ∀ F, isLive (h'.get F) = true → isLive (h.get F) = true := by
    intro F hF
    rw [hget F] at hF
    by_cases e : F = f
    · rw [e]; exact hlive
    · rwa [if_neg e] at hF
  have hne : ∀ F v M, F ≠ f → isLive (h.get F) = true → ρ F v = some M → M.blk ≠ L.blk := by
    intro F v M hF hl hM e
    exact hF (r.inj F f v 0 M L hl hlive hM hL e)
  refine ⟨⟨?_, ?_, ?_, ?_, ?_, ?_⟩, ⟨Le.refl _, fun _ _ _ h => .inl h⟩, ⟨by rw [hw], by rw [hw], by rw [hw], by rw [hheap]; simp, fun b hb hp => hold b fun e => hp f 0 L hL e.symm ht⟩, af⟩
  · intro F c2 n rd2 frz2 eto2 hF
    rw [hget F] at hF
    by_cases e : F = f
    · rw [if_pos e] at hF; injection hF with hF; cases hF
    · rw [if_neg e] at hF
      obtain ⟨h1, h2⟩ := r.cellsF F c2 n rd2 frz2 eto2 hF
      refine ⟨h1, fun v M hM => ⟨(h2 v M hM).1, fun hrd => ?_⟩⟩
      obtain ⟨arr2, et2, fz2, k1, k2⟩ := (h2 v M hM).2 hrd
      exact ⟨arr2, et2, fz2, by rw [hold _ (hne F v M e (by rw [hF]; rfl) hM)]; exact k1, k2⟩
  · intro F es2 ck2 hF v M hM
    rw [hget F] at hF
    by_cases e : F = f
    · rw [if_pos e] at hF
      injection hF with hF
      injection hF with e1 e2
      subst e1 e2
      subst e
      obtain ⟨o1, k1, k2⟩ := r.mp _ _ _ hg v M hM
      have := k2.zero
      subst this
      rw [hL] at hM
      injection hM with hM
      subst hM
      exact ⟨o, hnewb, ho⟩
    · rw [if_neg e] at hF
      obtain ⟨es', k1, k2⟩ := r.mp F es2 ck2 hF v M hM
      exact ⟨es', by rw [hold _ (hne F v M e (by rw [hF]; rfl) hM)]; exact k1, k2⟩
  · intro F F' v v' M M' l1 l2
    exact r.inj F F' v v' M M' (hlv F l1) (hlv F' l2)
  · intro F v v' M M' l1
    exact r.one F v v' M M' (hlv F l1)
  · intro F v M hM
    rw [hheap, Array.size_setIfInBounds]
    exact r.bnd F v M hM
  · intro F c2 n rd2 frz2 t hF v M hM
    rw [hget F] at hF
    by_cases e : F = f
    · rw [if_pos e] at hF; injection hF with hF; cases hF
    · rw [if_neg e] at hF
      obtain ⟨k0, a1, f1, k1⟩ := r.ety F c2 n rd2 frz2 t hF v M hM
      exact ⟨k0, a1, f1, by rw [hold _ (hne F v M e (by rw [hF]; rfl) hM)]; exact k1⟩

/-! ## Constants -/
theorem ofVs_some {f : Value → Option AV} {ρ : Rho} (hf : ∀ v a, f v = some a → VR ρ a v) : ∀ (l : List Value) (as : List AV), ofVs f l = some as → VRL ρ as l
  | [], as, h => by simp [ofVs] at h; subst h; exact .nil
  | v :: r, as, h => by
    simp only [ofVs] at h
    cases h1 : f v with
    | none => rw [h1] at h; cases h
    | some a =>
      rw [h1] at h
      cases h2 : ofVs f r with
      | none => rw [h2] at h; cases h
      | some as' =>
        rw [h2] at h
        simp at h; subst h
        exact .cons (hf _ _ h1) (ofVs_some hf r as' h2)
theorem ofV_some {ρ : Rho} : ∀ (fuel : Nat) (v : Value) (a : AV), ofV fuel v = some a → VR ρ a v
  | 0, v, a, h => by cases h
  | fuel + 1, v, a, h => by
    have ih := fun v a => ofV_some (ρ := ρ) fuel v a
    change ofVF (ofV fuel) v = some a at h
    unfold ofVF at h
    split at h
    · injection h with h; subst h; exact .bool _
    · rw [fI_eq] at h; injection h with h; subst h; exact .int _ _
    · injection h with h; subst h; exact .str _
    · injection h with h; subst h; exact .nilptr
    · injection h with h; subst h; exact .nilsl
    · injection h with h; subst h; exact .nilmap
    · injection h with h; subst h; exact .nilfunc
    · injection h with h; subst h; exact .niliface
    · injection h with h; subst h; exact .func _ .nil .nil
    · rename_i cs
      obtain ⟨as, h1, rfl⟩ := Option.map_eq_some_iff.1 h
      exact .agg (x' := cs.toList) (ofVs_some ih _ _ h1)
    · rename_i cs
      obtain ⟨as, h1, rfl⟩ := Option.map_eq_some_iff.1 h
      exact .tuple (x' := cs.toList) (ofVs_some ih _ _ h1)
    · obtain ⟨as, h1, rfl⟩ := Option.map_eq_some_iff.1 h
      exact .iface _ (ih _ _ h1)
    · cases h
end Go.Proofs.YtcigfmnkfelhjaaDoor.Am
