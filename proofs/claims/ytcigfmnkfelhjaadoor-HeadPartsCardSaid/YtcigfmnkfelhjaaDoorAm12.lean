/- The abstract machine: what its steps leave of its own memory; one operation of a region. -/
import Derived.Test.YtcigfmnkfelhjaaDoorAm11
import Derived.Orders
set_option linter.unusedVariables false
set_option linter.unusedSimpArgs false
namespace Go.Proofs.YtcigfmnkfelhjaaDoor.Am
open Go

section
variable {P : Program} {gl : Gl P} {ρ : Rho} {h : AH} {w : World} {R : Type}

theorem loadT_k {t : TypeId} {f v o : Nat} {k : AV → Option R} {res : R} (hk : loadT P h t f v o k = some res) : ∃ x, k x = some res := by
  unfold loadT at hk
  split at hk
  · cases hk
  · split at hk
    · cases hk
    · obtain ⟨_, _, _, _, l, _, _, _, _, _, _, e⟩ := loadK_some hk
      exact ⟨_, e⟩
  · obtain ⟨_, _, _, _, l, _, _, _, _, _, _, e⟩ := loadK_some hk
    split at e
    · exact ⟨_, e⟩
    · cases e
theorem partT_k {t : TypeId} {cs : List AV} {off : Nat} {k : AV → Option R} {res : R} (hk : partT P t cs off k = some res) : ∃ x, k x = some res := by
  unfold partT at hk
  split at hk
  · cases hk
  · split at hk
    · cases hk
    · obtain ⟨_, e⟩ := takeK_some _ _ hk
      exact ⟨_, e⟩
  · split at hk
    · exact ⟨_, hk⟩
    · cases hk
theorem bytesK_k : ∀ (l : List Nat) (n : Nat) {k : List AV → Option R} {res : R}, firstK.bytesK l n k = some res → ∃ r, k r = some res
  | l, 0, k, res, h => ⟨[], by cases l <;> exact h⟩
  | [], n + 1, k, res, h => ⟨[], h⟩
  | b :: l, n + 1, k, res, h => by
    simp only [firstK.bytesK] at h
    obtain ⟨r, e⟩ := bytesK_k l n h
    exact ⟨_, e⟩
theorem firstK_k {size n : Nat} {x : AV} {k : List AV → Option R} {res : R} (hk : firstK h size n x k = some res) : ∃ r, k r = some res := by
  unfold firstK at hk
  split at hk
  · exact ⟨_, hk⟩
  · obtain ⟨_, _, _, _, l, _, _, _, _, _, _, e⟩ := loadK_some (cond_some hk).2
    exact ⟨_, e⟩
  · exact bytesK_k _ _ (cond_some hk).2
  · cases hk
theorem aSlice_k {t : TypeId} {x : AV} {lo hi mx : Option AV} {k : AV → Option R} {res : R} (hk : aSlice P h t x lo hi mx k = some res) : ∃ v, k v = some res := by
  unfold aSlice at hk
  split at hk
  · split at hk
    · exact ⟨_, cutK_some _ _ _ (cond_some hk).2⟩
    · cases hk
  · split at hk
    · exact ⟨_, hk⟩
    · cases hk
  · split at hk
    · replace hk := (cond_some hk).2
      rw [fN_eq, fN_eq] at hk
      exact ⟨_, hk⟩
    · split at hk
      · replace hk := (cond_some hk).2
        rw [fN_eq, fN_eq, fN_eq] at hk
        exact ⟨_, hk⟩
      · cases hk
    · cases hk
  · split at hk
    · split at hk
      · replace hk := (cond_some hk).2
        rw [fN_eq, fN_eq, fN_eq] at hk
        exact ⟨_, hk⟩
      · cases hk
    · cases hk
  · cases hk
theorem appendK_AF {e : TypeId} {size bytes n : Nat} {s : AV} {new : List AV} {k : AV → AH → Option R} {res : R} (wf : Wf h) (hk : appendK h e size bytes s n new k = some res) : ∃ v h', k v h' = some res ∧ AF h h' := by
  unfold appendK at hk
  split at hk
  · split at hk
    · exact ⟨_, _, hk, .refl wf⟩
    · exact ⟨_, _, hk, .refl wf⟩
    · cases hk
  · replace hk := (cond_some hk).2
    split at hk
    · obtain ⟨c, h', _, _, af, _, _, e⟩ := newRowK_some wf (cond_some hk).2
      exact ⟨_, _, e, af⟩
    · replace hk := (cond_some hk).2
      rw [fN_eq] at hk
      split at hk
      · rename_i L
        cases hb : Nat.ble _ L with
        | true =>
          rw [hb] at hk
          simp only [cond_true] at hk
          split at hk
          · rename_i hg
            replace hk := (cond_some hk).2
            obtain ⟨c', hk, _⟩ := setCellsK_some _ hk
            rw [fN_eq] at hk
            obtain ⟨h', e, _, af, _, _⟩ := putK_some wf (by rw [hg]; rfl) hk
            exact ⟨_, _, e, af⟩
          · cases hk
        | false =>
          rw [hb] at hk
          simp only [cond_false] at hk
          obtain ⟨_, _, _, _, l, _, _, _, _, _, _, e⟩ := loadK_some hk
          rw [appL_eq] at e
          obtain ⟨c, h', _, _, af, _, _, e⟩ := newRowK_some wf e
          exact ⟨_, _, e, af⟩
      · split at hk
        · rename_i c m rd frz eto hg
          cases hfr : and (Nat.beq _ 0) (and (Nat.beq _ m) (Nat.beq _ m)) with
          | true =>
            rw [hfr] at hk
            simp only [cond_true] at hk
            cases frz with
            | true => cases hk
            | false =>
            simp only [cond_false] at hk
            obtain ⟨c', hk, _⟩ := setCellsK_some _ hk
            rw [fN_eq] at hk
            obtain ⟨h', e, _, af, _, _⟩ := putK_some wf (by rw [hg]; rfl) hk
            exact ⟨_, _, e, af⟩
          | false =>
            rw [hfr] at hk
            simp only [cond_false] at hk
            replace hk := (cond_some hk).2
            obtain ⟨_, _, _, _, l, _, _, _, _, _, _, e⟩ := loadK_some hk
            rw [appL_eq] at e
            obtain ⟨h1, e, _, af, _, _⟩ := putK_some wf (by rw [hg]; rfl) e
            obtain ⟨c, h', _, _, af2, _, _, e⟩ := newRowK_some af.wf e
            exact ⟨_, _, e, af.trans wf af2⟩
        · cases hk
    · cases hk
theorem storeT_AF {t : TypeId} {f v o : Nat} {x : AV} {k : AH → Option R} {res : R} (wf : Wf h) (hk : storeT P h t f v o x k = some res) : ∃ h', k h' = some res ∧ AF h h' := by
  unfold storeT at hk
  split at hk
  · cases hk
  · obtain ⟨_, _, _, _, h', _, _, _, _, _, _, af, _, _, _, e⟩ := storeK_some wf (cond_some hk).2
    exact ⟨h', e, af⟩
theorem aBuiltin_AF {b : Builtin} {ts : List TypeId} {args : List AV} {x : AN × AH} (wf : Wf h) (hx : aBuiltin P h b ts args (fun v h' => some (.val v, h')) = some x) : AF h x.2 ∧ ∃ v, x.1 = .val v := by
  have same : ∀ {v : AV}, (some (AN.val v, h) : Option (AN × AH)) = some x → AF h x.2 ∧ ∃ v, x.1 = .val v := fun e => by
    injection e with e; subst e; exact ⟨.refl wf, _, rfl⟩
  unfold aBuiltin at hx
  split at hx
  · split at hx
    · rw [fN_eq] at hx; exact same hx
    · exact same hx
    · exact same hx
    · exact same hx
    · exact same hx
    · split at hx
      · rw [fN_eq] at hx; exact same hx
      · cases hx
    · cases hx
  · split at hx
    · split at hx
      · split at hx
        · replace hx := (cond_some hx).2
          split at hx
          · obtain ⟨v, h', e, af⟩ := appendK_AF wf hx
            injection e with e; subst e; exact ⟨af, _, rfl⟩
          · cases hx
        · cases hx
      · cases hx
    · split at hx
      · split at hx
        · obtain ⟨_, e⟩ := firstK_k (cond_some hx).2
          obtain ⟨v, h', e, af⟩ := appendK_AF wf e
          injection e with e; subst e; exact ⟨af, _, rfl⟩
        · cases hx
      · cases hx
    · cases hx
  · split at hx
    · split at hx
      · obtain ⟨_, e⟩ := firstK_k hx; exact same e
      · cases hx
    · split at hx
      · replace hx := (cond_some hx).2
        rw [fN_eq] at hx
        obtain ⟨_, e⟩ := firstK_k hx
        split at e
        · exact same e
        · obtain ⟨_, _, _, _, h', _, _, _, _, _, _, af, _, _, _, e⟩ := storeK_some wf e
          injection e with e; subst e; exact ⟨af, _, rfl⟩
      · cases hx
    · cases hx
  · split at hx
    · exact same hx
    · cases hx
  · exact same hx
  · exact same (cond_some hx).2
  · split at hx
    · split at hx
      · exact same hx
      · exact same hx
      · cases hx
    · split at hx
      · split at hx
        · rename_i hg
          obtain ⟨_, _, _, _, l, _, _, _, _, _, _, e⟩ := loadK_some (cond_some hx).2
          obtain ⟨_, _, _, e⟩ := toNumsK_some _ e
          obtain ⟨h', e, _, af, _, _⟩ := putK_some wf (by rw [hg]; rfl) e
          injection e with e; subst e; exact ⟨af, _, rfl⟩
        · cases hx
      · cases hx
  · split at hx
    · rename_i hg
      obtain ⟨h', e, _, af, _, _⟩ := putK_some wf (by rw [hg]; rfl) hx
      injection e with e; subst e; exact ⟨af, _, rfl⟩
    · cases hx
  · split at hx
    · exact same hx
    · cases hx
  · split at hx
    · exact same hx
    · split at hx
      · split at hx
        · split at hx
          · obtain ⟨_, _, _, _, h', _, _, _, _, _, _, af, _, _, _, e⟩ := storeK_some wf (cond_some hx).2
            injection e with e; subst e; exact ⟨af, _, rfl⟩
          · cases hx
        · cases hx
      · cases hx
    · cases hx
  · split at hx
    · split at hx
      · rename_i hg
        replace hx := (cond_some hx).2
        split at hx
        · obtain ⟨h', e, _, af, _, _⟩ := putK_some wf (by rw [hg]; rfl) hx
          injection e with e; subst e; exact ⟨af, _, rfl⟩
        · cases hx
      · cases hx
    · cases hx
  · exact same hx
  · exact same hx
  · cases hx

theorem bytesA_k {R : Type} {x : AV} {k : List Nat → Option R} {res : R} (hk : bytesA h x k = some res) : ∃ l, k l = some res := by
  unfold bytesA at hk
  split at hk
  · exact ⟨_, hk⟩
  · exact ⟨_, hk⟩
  · obtain ⟨_, _, _, _, l, _, _, _, _, _, _, e⟩ := loadK_some (cond_some hk).2
    obtain ⟨_, _, e⟩ := toBytesK_some _ e
    exact ⟨_, e⟩
  · cases hk
theorem xtFun_AF {kd : Nat} {e : TypeId} {args : List AV} {x : AN × AH} (wf : Wf h) (hx : xtFun kd e args h (fun v h' => some (.val v, h')) = some x) : AF h x.2 ∧ ∃ v, x.1 = .val v := by
  unfold xtFun at hx
  split at hx
  · injection hx with hx; subst hx; exact ⟨.refl wf, _, rfl⟩
  · obtain ⟨l, e⟩ := bytesA_k hx
    rw [fI_eq] at e
    injection e with e; subst e; exact ⟨.refl wf, _, rfl⟩
  · obtain ⟨l, e⟩ := bytesA_k hx
    rw [fN_eq] at e
    injection e with e; subst e; exact ⟨.refl wf, _, rfl⟩
  · obtain ⟨l, e⟩ := bytesA_k hx
    obtain ⟨m, e⟩ := bytesA_k e
    rw [fI_eq] at e
    injection e with e; subst e; exact ⟨.refl wf, _, rfl⟩
  · obtain ⟨c, h', _, _, af, _, _, e⟩ := newRowK_some wf (cond_some hx).2
    injection e with e; subst e; exact ⟨af, _, rfl⟩
  · cases hx

theorem aOp_AF {tm : Tr AV} {o : Oper} {x : AN × AH} (wf : Wf h) (hx : aOp P gl tm h o = some x) : AF h x.2 := by
  have same : ∀ {v : AN}, (some (v, h) : Option (AN × AH)) = some x → AF h x.2 := fun e => by
    injection e with e; subst e; exact .refl wf
  have other : ∀ {v : AN} {h' : AH}, (some (v, h') : Option (AN × AH)) = some x → AF h h' → AF h x.2 := fun e af => by
    injection e with e; subst e; exact af
  cases ho : o.op <;> simp only [aOp, ho, opSel, oMove, oPick, oAlloc, oBox, oBuild, oBuildSlice, oLoad, oStore, oNilCheck, oBinOp, oUnOp, oConvert, oMakeInterface, oMakeFunc, oMakeSlice, oSlice, oFieldAddr, oField, oIndexAddr, oIndex, oMakeMap, oLookup, oMapUpdate, oRange, oNext, oExtract, oCall] at hx
  case load => split at hx <;> first | (obtain ⟨_, e⟩ := loadT_k hx; exact same e) | cases hx
  case alloc =>
    split at hx
    · obtain ⟨c, h', _, _, af, _, _, e⟩ := newRowK_some wf hx
      exact other e af
    · cases hx
  case box =>
    split at hx
    · obtain ⟨c, h', _, _, af, _, _, e⟩ := newRowK_some wf hx
      exact other e af
    · cases hx
  case buildSlice =>
    split at hx
    · split at hx
      · split at hx
        · split at hx
          · replace hx := (cond_some hx).2
            split at hx
            · obtain ⟨c, h', _, _, af, _, _, e⟩ := newRowK_some wf hx
              exact other e af
            · cases hx
          · cases hx
        · cases hx
      · cases hx
    · cases hx
  case store =>
    split at hx
    · obtain ⟨h', e, af⟩ := storeT_AF wf hx
      exact other e af
    · cases hx
  case convert =>
    split at hx
    · split at hx
      · replace hx := (cond_some hx).2
        split at hx
        · rename_i hg
          replace hx := (cond_some hx).2
          obtain ⟨h', e, _, af, _, _⟩ := putK_some wf (by rw [hg]; rfl) hx
          exact other e af
        · cases hx
      · cases hx
    · split at hx
      · exact same hx
      · split at hx
        · exact same (cond_some hx).2
        · cases hx
      · cases hx
    · split at hx
      · exact same hx
      · split at hx
        · exact same (cond_some hx).2
        · cases hx
      · cases hx
    · split at hx
      · exact same hx
      · cases hx
    · exact same hx
    · split at hx
      · obtain ⟨_, e⟩ := firstK_k (cond_some hx).2
        obtain ⟨c, h', _, _, af, _, _, e⟩ := newRowK_some wf e
        exact other e af
      · cases hx
    · split at hx
      · exact same hx
      · cases hx
    · split at hx
      · obtain ⟨_, _, _, _, l, _, _, _, _, _, _, e⟩ := loadK_some (cond_some hx).2
        obtain ⟨_, _, e⟩ := toBytesK_some _ e
        exact same e
      · cases hx
    · cases hx
  case makeFunc fn _ _ =>
    cases fn <;> simp only [aOp, ho, opSel, oMove, oPick, oAlloc, oBox, oBuild, oBuildSlice, oLoad, oStore, oNilCheck, oBinOp, oUnOp, oConvert, oMakeInterface, oMakeFunc, oMakeSlice, oSlice, oFieldAddr, oField, oIndexAddr, oIndex, oMakeMap, oLookup, oMapUpdate, oRange, oNext, oExtract, oCall] at hx
    case func =>
      split at hx
      · exact same hx
      · cases hx
    all_goals cases hx
  case makeSlice =>
    split at hx
    · split at hx
      · split at hx
        · split at hx
          · rename_i za hza
            have hx := (cond_some hx).2
            generalize Nat.ble _ 30000 = b30 at hx
            cases b30 with
            | true =>
              obtain ⟨c, h', _, _, af, _, _, e⟩ := newRowK_some wf hx
              rw [fN_eq] at e
              exact other e af
            | false =>
              simp only [cond_false] at hx
              obtain ⟨h', e, _, af, _, _⟩ := newK_some wf hx
              rw [fN_eq, fN_eq] at e
              exact other e af
          · cases hx
        · cases hx
      · cases hx
    · cases hx
  case slice =>
    split at hx
    · obtain ⟨_, e⟩ := aSlice_k hx
      exact same e
    · cases hx
  case fieldAddr =>
    split at hx
    · split at hx
      · split at hx
        · replace hx := (cond_some hx).2
          rw [fN_eq] at hx
          exact same hx
        · cases hx
      · cases hx
    · cases hx
  case field =>
    split at hx
    · split at hx
      · obtain ⟨_, e⟩ := partT_k hx
        exact same e
      · cases hx
    · cases hx
  case indexAddr =>
    split at hx
    · split at hx
      · replace hx := (cond_some hx).2
        rw [fN_eq] at hx
        exact same hx
      · cases hx
    · split at hx
      · replace hx := (cond_some hx).2
        rw [fN_eq] at hx
        exact same hx
      · cases hx
    · cases hx
  case index =>
    split at hx
    · split at hx
      · exact same hx
      · cases hx
    · split at hx
      · obtain ⟨_, e⟩ := partT_k (cond_some hx).2
        exact same e
      · cases hx
    · cases hx
  case call =>
    split at hx
    · cases hx
    · split at hx
      · exact (aBuiltin_AF wf hx).1
      · split at hx
        · split at hx
          · rw [appL_eq, appL_eq] at hx
            exact (xtFun_AF wf hx).1
          · replace hx := (cond_some hx).2
            rw [appL_eq, appL_eq] at hx
            exact same hx
        · cases hx
      · cases hx
  case pick =>
    split at hx
    · split at hx
      · exact same hx
      · cases hx
    · split at hx
      · exact same hx
      · cases hx
    · cases hx
  case build =>
    split at hx
    · split at hx
      · split at hx
        · split at hx
          · exact same hx
          · cases hx
        · cases hx
      · cases hx
    · split at hx
      · split at hx
        · split at hx
          · exact same hx
          · cases hx
        · cases hx
      · cases hx
    · cases hx
  case makeInterface =>
    split at hx
    · cases hx
    · exact same hx
    · cases hx
  case binOp =>
    split at hx
    · split at hx
      · split at hx
        · split at hx
          · exact same hx
          · exact same hx
          · cases hx
        · cases hx
      · replace hx := (cond_some hx).2
        split at hx
        · split at hx
          · exact same hx
          · exact same hx
          · cases hx
        · cases hx
      · cases hx
    · split at hx
      · split at hx
        · split at hx
          · exact same hx
          · cases hx
        · cases hx
      · split at hx
        · split at hx
          · exact same hx
          · cases hx
        · cases hx
      · cases hx
    · split at hx
      · exact same hx
      · cases hx
    · cases hx
  case unOp =>
    split at hx
    · split at hx
      · exact same hx
      · cases hx
    · cases hx
  case makeMap =>
    split at hx
    · obtain ⟨h', e, _, af, _, _⟩ := newK_some wf hx
      exact other e af
    · split at hx
      · obtain ⟨h', e, _, af, _, _⟩ := newK_some wf hx
        exact other e af
      · cases hx
  case lookup =>
    split at hx
    · split at hx
      · replace hx := (cond_some hx).2
        split at hx
        · split at hx
          · exact same hx
          · split at hx
            · exact same hx
            · cases hx
          · cases hx
        · cases hx
      · cases hx
    · cases hx
  case mapUpdate =>
    split at hx
    · split at hx
      · rename_i hg
        replace hx := (cond_some hx).2
        split at hx
        · rw [fN_eq] at hx
          obtain ⟨h', e, _, af, _, _⟩ := putK_some wf (by rw [hg]; rfl) hx
          exact other e af
        · cases hx
      · cases hx
    · cases hx
  case insert =>
    split at hx
    · split at hx
      · rename_i hg
        replace hx := (cond_some hx).2
        split at hx
        · rw [fN_eq] at hx
          obtain ⟨h', e, _, af, _, _⟩ := putK_some wf (by rw [hg]; rfl) hx
          exact other e af
        · cases hx
      · cases hx
    · cases hx
  case range =>
    split at hx
    · obtain ⟨h', e, _, af, _, _⟩ := newK_some wf hx
      exact other e af
    · cases hx
  case next y b =>
    cases b <;> simp only [aOp, ho, opSel, oMove, oPick, oAlloc, oBox, oBuild, oBuildSlice, oLoad, oStore, oNilCheck, oBinOp, oUnOp, oConvert, oMakeInterface, oMakeFunc, oMakeSlice, oSlice, oFieldAddr, oField, oIndexAddr, oIndex, oMakeMap, oLookup, oMapUpdate, oRange, oNext, oExtract, oCall] at hx
    case true =>
      split at hx
      · split at hx
        · rename_i hg
          rcases decA_k hx with e | ⟨c, p, e⟩
          · exact same e
          · obtain ⟨h', e, _, af, _, _⟩ := putK_some wf (by rw [hg]; rfl) e
            exact other e af
        · cases hx
      · cases hx
    all_goals cases hx
  case extract =>
    split at hx
    · split at hx
      · exact same hx
      · cases hx
    · cases hx
  case nilCheck =>
    split at hx
    · exact same hx
    · exact same hx
    · cases hx
  case move =>
    split at hx
    · exact same hx
    · cases hx
  case assign =>
    split at hx
    · exact same hx
    · cases hx
  all_goals cases hx

/-! ## Slots -/
/-- What a slot holds. -/
def TV (ρ : Rho) (a : Option AV) (x : Value) : Prop :=
  match a with
  | some v => VR ρ v x
  | none => True
theorem TV.mono {ρ ρ' : Rho} (le : Le ρ ρ') {a : Option AV} {x : Value} (h : TV ρ a x) : TV ρ' a x := by
  cases a with
  | none => exact h
  | some v => exact VR.mono le h
def GlobOK {P : Program} (ρ : Rho) (gl : Gl P) : Prop := ∀ g n, gl.gl g = some n → ∃ C, ρ g n = some ⟨g, 0, C⟩
theorem GlobOK.mono {ρ ρ' : Rho} (le : Le ρ ρ') (h : GlobOK ρ gl) : GlobOK ρ' gl := fun g n e => let ⟨C, hC⟩ := h g n e; ⟨C, le _ _ _ hC⟩

theorem aEval_sound {tm : Tr AV} {a : Act} {x : Operand} {v : AV} (hg : GlobOK ρ gl) (ht : ∀ t, x = .tmp t → TV ρ (tm.get t) (a.tmps.getD t undef)) (e : aEval gl tm x = some v) : VR ρ v (a.eval x) := by
  cases x with
  | tmp t =>
    have := ht t rfl
    simp only [aEval] at e
    rw [e] at this
    exact this
  | const c => exact ofV_some 6 c v e
  | global g =>
    simp only [aEval] at e
    cases hh : gl.gl g with
    | none => rw [hh] at e; cases e
    | some n =>
      rw [hh] at e
      injection e with e
      subst e
      obtain ⟨C, hC⟩ := hg g n hh
      have := VR.ptr (ρ := ρ) 0 hC
      exact this
  | func f =>
    simp only [aEval] at e
    injection e with e
    subst e
    exact .func f .nil .nil

theorem putT_some {tm : Tr AV} {nt : Nat} {dst : Option Tmp} {v : AV} {k : Tr AV → Option R} {res : R} (hk : putT tm nt h dst v k = some res) :
    ∃ tm', k tm' = some res ∧ (∀ t, tm'.get t = if dst = some t then some v else tm.get t) ∧ ∀ t, dst = some t → t < nt := by
  unfold putT at hk
  cases dst with
  | none => exact ⟨tm, hk, fun t => by simp, fun t e => by cases e⟩
  | some d =>
    dsimp only at hk
    have hc := (cond_some hk).1
    replace hk := (cond_some hk).2
    rw [blt_eq] at hc
    have hc := of_decide_eq_true hc
    obtain ⟨tm', e, hg⟩ := Tr.setK_some hk
    refine ⟨tm', e, fun t => ?_, fun t e => by injection e with e; exact e ▸ hc⟩
    rw [hg t]
    by_cases h1 : t = d
    · subst h1; simp
    · rw [if_neg h1, if_neg]
      intro h2
      injection h2 with h2
      exact h1 h2.symm

theorem aWanted_eq {ops : Array Oper} {tm : Tr AV} {nt : Nat} {o : Oper} {a : Act} (hk : aKnown ops tm o = true) (hs : a.tmps.size = nt) (ht : ∀ t ∈ o.looksAt ops, TV ρ (tm.get t) (a.tmps.getD t undef)) :
    aWanted ops tm nt o = Region.wanted o (yielded ops a.tmps) := by
  unfold aWanted Region.wanted
  unfold aKnown at hk
  cases hg : o.guard with
  | none => rfl
  | some gw =>
    rw [hg] at hk
    obtain ⟨j, want⟩ := gw
    dsimp only at hk ⊢
    cases hj : ops[j]? with
    | none => simp [yielded, hj]
    | some oj =>
      rw [hj] at hk
      dsimp only at hk ⊢
      cases hd : oj.dst with
      | none => simp [yielded, hj, hd]
      | some d =>
        rw [hd] at hk
        dsimp only at hk ⊢
        have hin : d ∈ o.looksAt ops := by simp [Oper.looksAt, hg, hj, hd]
        have := ht d hin
        have hy : yielded ops a.tmps j = match a.tmps[d]? with
            | some (.bool b) => some b
            | _ => none := by simp only [yielded, hj, hd, Option.bind_some]; rfl
        rw [hy]
        by_cases hlt : d < a.tmps.size
        · have hget : a.tmps[d]? = some (a.tmps.getD d undef) := by simp [Array.getD, hlt]
          rw [hget]
          generalize a.tmps.getD d undef = x at this
          cases hv : tm.get d with
          | none => rw [hv] at hk; cases hk
          | some v =>
            rw [hv] at this
            have this : VR ρ v x := this
            cases this <;> try rfl
            rename_i b
            have : Nat.blt d nt = true := by rw [blt_eq]; exact decide_eq_true (hs ▸ hlt)
            dsimp only
            rw [this]
            cases b <;> cases want <;> rfl
        · have hget : a.tmps[d]? = none := Array.getElem?_eq_none (Nat.le_of_not_lt hlt)
          rw [hget]
          cases hv : tm.get d with
          | none => rfl
          | some v =>
            have : Nat.blt d nt = false := by rw [blt_eq]; exact decide_eq_false (fun hh => hlt (hs ▸ hh))
            cases v <;> try rfl
            dsimp only
            rw [this]
            rfl

/-! ## One operation -/
def RecAF (rec : Rec) : Prop := ∀ f args h v h', rec f args h = some (v, h') → Wf h → AF h h'
def RecOK (P : Program) (gl : Gl P) (rec : Rec) : Prop := ∀ f args h v h', rec f args h = some (v, h') → ∀ ρ w args', Rep ρ h.get w → Wf h → GlobOK ρ gl → VRL ρ args args' → Fresh ρ h.next h'.next →
  Calls P f ⟨args'⟩ w (fun e w' => ∃ x ρ', e = .returned x ∧ VR ρ' v x ∧ Out ρ h w ρ' h' w')

theorem aOne_AF {rec : Rec} {ops : Array Oper} {i : Nat} {tm tm' : Tr AV} {nt nt' : Nat} {h' : AH} (ra : RecAF rec) (wf : Wf h) (hx : aOne P gl rec ops i ⟨tm, nt, h⟩ = some ⟨tm', nt', h'⟩) : AF h h' := by
  unfold aOne at hx
  split at hx
  · rename_i e1 e2
    injection hx with hx
    injection hx with _ _ hx
    subst hx
    exact .refl wf
  · rename_i o tm1 nt1 h1 e1 e2
    injection e2 with a1 a2 a3
    subst a1 a2 a3
    have hkn := (cond_some hx).1
    replace hx := (cond_some hx).2
    cases hw : aWanted ops tm nt o with
    | true =>
      rw [hw] at hx
      simp only [cond_true] at hx
      split at hx
      · rename_i v h2 hop
        have af := aOp_AF wf hop
        obtain ⟨tm2, e, _, _⟩ := putT_some hx
        injection e with e
        injection e with _ _ e
        subst e
        exact af
      · rename_i f args h2 hop
        have af := aOp_AF wf hop
        split at hx
        · rename_i v h3 hr
          obtain ⟨tm2, e, _, _⟩ := putT_some hx
          injection e with e
          injection e with _ _ e
          subst e
          exact af.trans wf (ra _ _ _ _ _ hr af.wf)
        · cases hx
      · cases hx
    | false =>
      rw [hw] at hx
      simp only [cond_false] at hx
      obtain ⟨tm2, e, _, _⟩ := putT_some hx
      injection e with e
      injection e with _ _ e
      subst e
      exact .refl wf

theorem aOne_wp {rec : Rec} {ops : Array Oper} {i : Nat} {tm tm' : Tr AV} {nt nt' : Nat} {h' : AH} {a : Act} (ra : RecAF rec) (rok : RecOK P gl rec) (hg : GlobOK ρ gl) (r : Rep ρ h.get w) (wf : Wf h) (hs : a.tmps.size = nt)
    (ht : ∀ o, ops[i]? = some o → ∀ t ∈ o.looksAt ops, TV ρ (tm.get t) (a.tmps.getD t undef)) (fr : Fresh ρ h.next h'.next) (hx : aOne P gl rec ops i ⟨tm, nt, h⟩ = some ⟨tm', nt', h'⟩) :
    ∃ v : AV, nt' = nt ∧ (∀ t, tm'.get t = if (ops[i]?).bind (·.dst) = some t then some v else tm.get t) ∧ (∀ t, (ops[i]?).bind (·.dst) = some t → t < nt) ∧
      ∀ (K : Act → World → Prop) (Q : Exit → Act → World → Prop), (∀ x w' ρ', VR ρ' v x → Out ρ h w ρ' h' w' → K (a.put ((ops[i]?).bind (·.dst)) x) w') → wpOp P ops Q i K a w := by
  unfold aOne at hx
  split at hx
  · rename_i e1
    injection hx with hx
    injection hx with h1 h2 h3
    subst h1 h2 h3
    refine ⟨.tuple [], rfl, fun t => by simp [e1], fun t e => by simp [e1] at e, fun K Q hK => ?_⟩
    unfold wpOp
    simp only [e1]
    have := hK undef w ρ (.tuple .nil) (.refl r wf)
    simpa [e1, Act.put] using this
  · rename_i o tm1 nt1 h1 e1 e2
    injection e2 with a1 a2 a3
    subst a1 a2 a3
    have hkn := (cond_some hx).1
    replace hx := (cond_some hx).2
    have ht' := ht o e1
    have hwant := aWanted_eq (ρ := ρ) (ops := ops) (tm := tm) (o := o) hkn hs ht'
    have hdst : (ops[i]?).bind (·.dst) = o.dst := by rw [e1]; rfl
    rw [hdst]
    cases hw : aWanted ops tm nt o with
    | true =>
      rw [hw] at hx hwant
      simp only [cond_true] at hx
      have hev : ∀ y ∈ o.op.operands, ∀ b, aEval gl tm y = some b → VR ρ b (a.eval y) := fun y hy b e => aEval_sound hg (fun t et => by
        subst et
        exact ht' t (List.mem_append_left _ (List.mem_filterMap.2 ⟨.tmp t, by simpa using hy, rfl⟩))) e
      split at hx
      · rename_i v h2 hop
        obtain ⟨tm2, e, hg2, hd2⟩ := putT_some hx
        injection e with e
        injection e with i1 i2 i3
        subst i1 i2 i3
        obtain ⟨hn, hout⟩ := aOp_sound r wf hev hop
        obtain ⟨nx, v', w', ρ', g1, g2, g3, g4⟩ := hout fr
        refine ⟨v, rfl, hg2, hd2, fun K Q hK => ?_⟩
        unfold wpOp
        simp only [e1, ← hwant, if_true]
        refine .inl ?_
        unfold Oper.wp
        rw [g1]
        rcases g2 with rfl | ⟨rfl, rfl⟩
        · exact hK v' w' ρ' g3 g4
        · exact hK undef w' ρ' g3 g4
      · rename_i f args h2 hop
        obtain ⟨hh, args', g1, g2⟩ := aOp_sound r wf hev hop
        subst hh
        split at hx
        · rename_i v h3 hr
          obtain ⟨tm2, e, hg2, hd2⟩ := putT_some hx
          injection e with e
          injection e with i1 i2 i3
          subst i1 i2 i3
          have hc := rok _ _ _ _ _ hr ρ w args' r wf hg g2 fr
          refine ⟨v, rfl, hg2, hd2, fun K Q hK => ?_⟩
          unfold wpOp
          simp only [e1, ← hwant, if_true]
          refine .inl ?_
          unfold Oper.wp
          rw [g1]
          refine Calls.mono hc fun e w' he => ?_
          obtain ⟨x, ρ', rfl, k1, k2⟩ := he
          exact hK x w' ρ' k1 k2
        · cases hx
      · cases hx
    | false =>
      rw [hw] at hx hwant
      simp only [cond_false] at hx
      obtain ⟨tm2, e, hg2, hd2⟩ := putT_some hx
      injection e with e
      injection e with i1 i2 i3
      subst i1 i2 i3
      refine ⟨.tuple [], rfl, hg2, hd2, fun K Q hK => ?_⟩
      unfold wpOp
      simp only [e1, ← hwant, Bool.false_eq_true, if_false]
      exact hK undef w ρ (.tuple .nil) (.refl r wf)
end
end Go.Proofs.YtcigfmnkfelhjaaDoor.Am
