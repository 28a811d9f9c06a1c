/- The abstract machine: code and calls: what it computes, the program does. -/
import Derived.Scope
import Derived.Test.YtcigfmnkfelhjaaDoorAm17
import Derived.LoopN
set_option linter.unusedVariables false
set_option linter.unusedSimpArgs false
namespace Go.Proofs.YtcigfmnkfelhjaaDoor.Am
open Go

def AX.toExit : AX → Exit
  | .normal => .normal
  | .exit id => .exit id
  | .ret => .ret

section
variable {P : Program} {gl : Gl P} {rec : Rec}

theorem aCode_succ (n : Nat) (c : Code) (st : St) : aCode P gl rec (n + 1) c st = aCodeF P gl rec (aCode P gl rec n) c st := rfl
theorem aCode_zero (c : Code) (st : St) : aCode P gl rec 0 c st = none := rfl

theorem aCode_AF (ra : RecAF rec) : ∀ (n : Nat) {c : Code} {tm tm' : Tr AV} {nt nt' : Nat} {h h' : AH} {x : AX}, Wf h → aCode P gl rec n c ⟨tm, nt, h⟩ = some (x, ⟨tm', nt', h'⟩) → AF h h' ∧ nt' = nt
  | 0, c, tm, tm', nt, nt', h, h', x, wf, hx => by cases hx
  | n + 1, c, tm, tm', nt, nt', h, h', x, wf, hx => by
    have ih := fun {c : Code} {tm tm' : Tr AV} {nt nt' : Nat} {h h' : AH} {x : AX} => aCode_AF ra n (c := c) (tm := tm) (tm' := tm') (nt := nt) (nt' := nt') (h := h) (h' := h') (x := x)
    rw [aCode_succ] at hx
    have same : ∀ {x' : AX}, (some (x', (⟨tm, nt, h⟩ : St)) : Option (AX × St)) = some (x, ⟨tm', nt', h'⟩) → AF h h' ∧ nt' = nt := fun e => by
      injection e with e
      injection e with _ e
      injection e with _ e1 e2
      subst e1 e2
      exact ⟨.refl wf, rfl⟩
    cases c with
    | skip => exact same hx
    | label l => exact same hx
    | exit id => exact same hx
    | ret => exact same hx
    | region id ops draw =>
      simp only [aCodeF, cSel, cRegion, cSeq, cCond, cBlock, cLoop] at hx
      cases draw with
      | true =>
        simp only [cond_true] at hx
        cases hd : aDraw P gl rec ops ⟨tm, nt, h⟩ with
        | none => rw [hd] at hx; cases hx
        | some st =>
          obtain ⟨tm1, nt1, h1⟩ := st
          rw [hd] at hx
          injection hx with hx
          injection hx with _ hx
          injection hx with _ e1 e2
          subst e1 e2
          exact aDraw_AF ra wf hd
      | false =>
        simp only [cond_false] at hx
        cases hd : aOps P gl rec ops ops.size 0 ⟨tm, nt, h⟩ with
        | none => rw [hd] at hx; cases hx
        | some st =>
          obtain ⟨tm1, nt1, h1⟩ := st
          rw [hd] at hx
          injection hx with hx
          injection hx with _ hx
          injection hx with _ e1 e2
          subst e1 e2
          exact aOps_AF ra _ _ wf hd
    | seq a b =>
      simp only [aCodeF, cSel, cRegion, cSeq, cCond, cBlock, cLoop] at hx
      cases h1 : aCode P gl rec n a ⟨tm, nt, h⟩ with
      | none => rw [h1] at hx; cases hx
      | some r =>
        obtain ⟨y, tm1, nt1, h1'⟩ := r
        rw [h1] at hx
        obtain ⟨af, e⟩ := ih wf h1
        subst e
        cases y with
        | normal =>
          obtain ⟨af2, e2⟩ := ih af.wf hx
          exact ⟨af.trans wf af2, e2⟩
        | exit id =>
          injection hx with hx
          injection hx with _ hx
          injection hx with _ e1 e2
          subst e1 e2
          exact ⟨af, rfl⟩
        | ret =>
          injection hx with hx
          injection hx with _ hx
          injection hx with _ e1 e2
          subst e1 e2
          exact ⟨af, rfl⟩
    | cond c a b =>
      simp only [aCodeF, cSel, cRegion, cSeq, cCond, cBlock, cLoop] at hx
      split at hx
      · exact ih wf hx
      · exact ih wf hx
      · cases hx
    | block id b =>
      simp only [aCodeF, cSel, cRegion, cSeq, cCond, cBlock, cLoop] at hx
      cases h1 : aCode P gl rec n b ⟨tm, nt, h⟩ with
      | none => rw [h1] at hx; cases hx
      | some r =>
        obtain ⟨y, tm1, nt1, h1'⟩ := r
        rw [h1] at hx
        obtain ⟨af, e⟩ := ih wf h1
        subst e
        have : ∀ {x' : AX}, (some (x', (⟨tm1, nt1, h1'⟩ : St)) : Option (AX × St)) = some (x, ⟨tm', nt', h'⟩) → AF h h' ∧ nt' = nt1 := fun e => by
          injection e with e
          injection e with _ e
          injection e with _ e1 e2
          subst e1 e2
          exact ⟨af, rfl⟩
        cases y with
        | exit j =>
          dsimp only at hx
          rw [cond_beq] at hx
          split at hx
          · exact this hx
          · exact this hx
        | normal => exact this hx
        | ret => exact this hx
    | loop b =>
      simp only [aCodeF, cSel, cRegion, cSeq, cCond, cBlock, cLoop] at hx
      cases h1 : aCode P gl rec n b ⟨tm, nt, h⟩ with
      | none => rw [h1] at hx; cases hx
      | some r =>
        obtain ⟨y, tm1, nt1, h1'⟩ := r
        rw [h1] at hx
        obtain ⟨af, e⟩ := ih wf h1
        subst e
        cases y with
        | normal =>
          obtain ⟨af2, e2⟩ := ih af.wf hx
          exact ⟨af.trans wf af2, e2⟩
        | exit id =>
          injection hx with hx
          injection hx with _ hx
          injection hx with _ e1 e2
          subst e1 e2
          exact ⟨af, rfl⟩
        | ret =>
          injection hx with hx
          injection hx with _ hx
          injection hx with _ e1 e2
          subst e1 e2
          exact ⟨af, rfl⟩
    | scope b =>
      simp only [aCodeF, cSel, cRegion, cSeq, cCond, cBlock, cLoop] at hx
      exact ih wf hx
    | _ => cases hx

/-- The post of a piece of code. -/
def CQ (ρ : Rho) (h : AH) (w : World) (x : AX) (tm' : Tr AV) (nt : Nat) (h' : AH) (Q : Exit → Act → World → Prop) : Prop :=
  ∀ a' w' ρ', TmR ρ' tm' nt a' → Out ρ h w ρ' h' w' → Q x.toExit a' w'

theorem aCode_wp (hm : P.follows .mixedOrders = true) (ra : RecAF rec) (rok : RecOK P gl rec) : ∀ (n : Nat),
    (∀ {c : Code} {tm tm' : Tr AV} {nt nt' : Nat} {h h' : AH} {x : AX} {ρ : Rho} {w : World} {a : Act} {Q : Exit → Act → World → Prop}, aCode P gl rec n c ⟨tm, nt, h⟩ = some (x, ⟨tm', nt', h'⟩) → GlobOK ρ gl → Rep ρ h.get w → Wf h → TmR ρ tm nt a → Fresh ρ h.next h'.next →
      CQ ρ h w x tm' nt h' Q → c.wp P Q a w) ∧
    (∀ {c : Code} {tm tm' : Tr AV} {nt nt' : Nat} {h h' : AH} {x : AX} {ρ : Rho} {w : World} {a : Act} {Q : Exit → Act → World → Prop}, aCode P gl rec n (.loop c) ⟨tm, nt, h⟩ = some (x, ⟨tm', nt', h'⟩) → GlobOK ρ gl → Rep ρ h.get w → Wf h → TmR ρ tm nt a → Fresh ρ h.next h'.next →
      CQ ρ h w x tm' nt h' Q → Code.rounds P c Q n a w)
  | 0 => by
    constructor
    · intro c tm tm' nt nt' h h' x ρ w a Q hx; cases hx
    · intro c tm tm' nt nt' h h' x ρ w a Q hx; cases hx
  | n + 1 => by
    obtain ⟨ih1, ih2⟩ := aCode_wp hm ra rok n
    have loop : ∀ {c : Code} {tm tm' : Tr AV} {nt nt' : Nat} {h h' : AH} {x : AX} {ρ : Rho} {w : World} {a : Act} {Q : Exit → Act → World → Prop}, aCode P gl rec (n + 1) (.loop c) ⟨tm, nt, h⟩ = some (x, ⟨tm', nt', h'⟩) → GlobOK ρ gl → Rep ρ h.get w → Wf h → TmR ρ tm nt a → Fresh ρ h.next h'.next →
        CQ ρ h w x tm' nt h' Q → Code.rounds P c Q (n + 1) a w := by
      intro c tm tm' nt nt' h h' x ρ w a Q hx hg r wf ht fr hQ
      rw [aCode_succ] at hx
      simp only [aCodeF, cSel, cRegion, cSeq, cCond, cBlock, cLoop] at hx
      cases h1 : aCode P gl rec n c ⟨tm, nt, h⟩ with
      | none => rw [h1] at hx; cases hx
      | some res =>
        obtain ⟨y, tm1, nt1, h1'⟩ := res
        rw [h1] at hx
        obtain ⟨af, e⟩ := aCode_AF ra n wf h1
        subst e
        rw [rounds_succ]
        cases y with
        | normal =>
          obtain ⟨af2, e2⟩ := aCode_AF ra n af.wf hx
          refine ih1 h1 hg r wf ht (fr.mono (Nat.le_refl _) af2.next) fun a' w' ρ' ht' ho => ?_
          refine ih2 hx (hg.mono ho.ext.le) ho.rep af.wf ht' (fr.step wf ho) fun a2 w2 ρ2 ht2 ho2 => ?_
          exact hQ a2 w2 ρ2 ht2 (ho.trans wf (fr.mono (Nat.le_refl _) af2.next) ho2)
        | exit id =>
          injection hx with hx
          injection hx with e0 hx
          injection hx with e1 e2 e3
          subst e0 e1 e2 e3
          exact ih1 h1 hg r wf ht fr fun a' w' ρ' ht' ho => hQ a' w' ρ' ht' ho
        | ret =>
          injection hx with hx
          injection hx with e0 hx
          injection hx with e1 e2 e3
          subst e0 e1 e2 e3
          exact ih1 h1 hg r wf ht fr fun a' w' ρ' ht' ho => hQ a' w' ρ' ht' ho
    refine ⟨?_, loop⟩
    intro c tm tm' nt nt' h h' x ρ w a Q hx hg r wf ht fr hQ
    have hx0 := hx
    rw [aCode_succ] at hx
    have same : ∀ {x' : AX}, (some (x', (⟨tm, nt, h⟩ : St)) : Option (AX × St)) = some (x, ⟨tm', nt', h'⟩) → Q x'.toExit a w := fun e => by
      injection e with e
      injection e with e0 e
      injection e with e1 e2 e3
      subst e0 e1 e2 e3
      exact hQ a w ρ ht (.refl r wf)
    cases c with
    | skip => exact wp_skip (same hx)
    | label l => exact wp_label (same hx)
    | exit id => exact wp_exit (same hx)
    | ret => exact wp_ret (same hx)
    | region id ops draw =>
      simp only [aCodeF, cSel, cRegion, cSeq, cCond, cBlock, cLoop] at hx
      cases draw with
      | true =>
        simp only [cond_true] at hx
        cases hd : aDraw P gl rec ops ⟨tm, nt, h⟩ with
        | none => rw [hd] at hx; cases hx
        | some st =>
          obtain ⟨tm1, nt1, h1⟩ := st
          rw [hd] at hx
          injection hx with hx
          injection hx with e0 hx
          injection hx with e1 e2 e3
          subst e0 e1 e2 e3
          have hn := (aDraw_AF ra wf hd).2
          subst hn
          exact aDraw_wp hm ra rok hg r wf ht fr hd hQ
      | false =>
        simp only [cond_false] at hx
        cases hd : aOps P gl rec ops ops.size 0 ⟨tm, nt, h⟩ with
        | none => rw [hd] at hx; cases hx
        | some st =>
          obtain ⟨tm1, nt1, h1⟩ := st
          rw [hd] at hx
          injection hx with hx
          injection hx with e0 hx
          injection hx with e1 e2 e3
          subst e0 e1 e2 e3
          have hn := (aOps_AF ra _ _ wf hd).2
          subst hn
          refine wp_region ?_
          rw [List.range_eq_range']
          exact aOps_wp ra rok _ _ hg r wf ht fr hd hQ
    | seq p q =>
      simp only [aCodeF, cSel, cRegion, cSeq, cCond, cBlock, cLoop] at hx
      cases h1 : aCode P gl rec n p ⟨tm, nt, h⟩ with
      | none => rw [h1] at hx; cases hx
      | some res =>
        obtain ⟨y, tm1, nt1, h1'⟩ := res
        rw [h1] at hx
        obtain ⟨af, e⟩ := aCode_AF ra n wf h1
        subst e
        refine wp_seq ?_
        cases y with
        | normal =>
          obtain ⟨af2, e2⟩ := aCode_AF ra n af.wf hx
          refine ih1 h1 hg r wf ht (fr.mono (Nat.le_refl _) af2.next) fun a' w' ρ' ht' ho => ?_
          refine ih1 hx (hg.mono ho.ext.le) ho.rep af.wf ht' (fr.step wf ho) fun a2 w2 ρ2 ht2 ho2 => ?_
          exact hQ a2 w2 ρ2 ht2 (ho.trans wf (fr.mono (Nat.le_refl _) af2.next) ho2)
        | exit id =>
          injection hx with hx
          injection hx with e0 hx
          injection hx with e1 e2 e3
          subst e0 e1 e2 e3
          exact ih1 h1 hg r wf ht fr fun a' w' ρ' ht' ho => hQ a' w' ρ' ht' ho
        | ret =>
          injection hx with hx
          injection hx with e0 hx
          injection hx with e1 e2 e3
          subst e0 e1 e2 e3
          exact ih1 h1 hg r wf ht fr fun a' w' ρ' ht' ho => hQ a' w' ρ' ht' ho
    | cond c p q =>
      simp only [aCodeF, cSel, cRegion, cSeq, cCond, cBlock, cLoop] at hx
      cases he : aEval gl tm c with
      | none => rw [he] at hx; cases hx
      | some v =>
        rw [he] at hx
        have hv := aEval_sound (a := a) hg (fun t _ => ht.val t) he
        cases v with
        | bool b =>
          generalize hz : a.eval c = z at hv
          cases hv
          cases b with
          | true => exact wp_cond_true hz (ih1 hx hg r wf ht fr hQ)
          | false => exact wp_cond_false hz (ih1 hx hg r wf ht fr hQ)
        | _ => cases hx
    | block id p =>
      simp only [aCodeF, cSel, cRegion, cSeq, cCond, cBlock, cLoop] at hx
      cases h1 : aCode P gl rec n p ⟨tm, nt, h⟩ with
      | none => rw [h1] at hx; cases hx
      | some res =>
        obtain ⟨y, tm1, nt1, h1'⟩ := res
        rw [h1] at hx
        obtain ⟨af, e⟩ := aCode_AF ra n wf h1
        subst e
        refine wp_block ?_
        cases y with
        | exit j =>
          dsimp only at hx
          rw [cond_beq] at hx
          split at hx
          · rename_i hj
            injection hx with hx
            injection hx with e0 hx
            injection hx with e1 e2 e3
            subst e0 e1 e2 e3 hj
            refine ih1 h1 hg r wf ht fr fun a' w' ρ' ht' ho => ?_
            simp only [AX.toExit, Exit.inBlock, if_true]
            exact hQ a' w' ρ' ht' ho
          · rename_i hj
            injection hx with hx
            injection hx with e0 hx
            injection hx with e1 e2 e3
            subst e0 e1 e2 e3
            refine ih1 h1 hg r wf ht fr fun a' w' ρ' ht' ho => ?_
            simp only [AX.toExit, Exit.inBlock, hj, if_false]
            exact hQ a' w' ρ' ht' ho
        | normal =>
          injection hx with hx
          injection hx with e0 hx
          injection hx with e1 e2 e3
          subst e0 e1 e2 e3
          exact ih1 h1 hg r wf ht fr fun a' w' ρ' ht' ho => hQ a' w' ρ' ht' ho
        | ret =>
          injection hx with hx
          injection hx with e0 hx
          injection hx with e1 e2 e3
          subst e0 e1 e2 e3
          exact ih1 h1 hg r wf ht fr fun a' w' ρ' ht' ho => hQ a' w' ρ' ht' ho
    | loop p => exact wp_loop_rounds (n + 1) (loop hx0 hg r wf ht fr hQ)
    | scope p =>
      simp only [aCodeF, cSel, cRegion, cSeq, cCond, cBlock, cLoop] at hx
      refine wp_scope_straight (ih1 hx hg r wf ht fr fun a' w' ρ' ht' ho => ?_)
      have hq := hQ a' w' ρ' ht' ho
      cases x <;> exact hq
    | _ => cases hx

/-! ## Calls -/
theorem argTm_some : ∀ {l : List AV} {i : Nat} {t : Tr AV} {k : Tr AV → Option (AV × AH)} {res : AV × AH}, argTm l i t k = some res → ∃ t', k t' = some res ∧ ∀ m, t'.get m = if i ≤ m ∧ m < i + l.length then l[m - i]? else t.get m
  | [], i, t, k, res, h => ⟨t, h, fun m => by rw [if_neg (by simp only [List.length_nil]; omega)]⟩
  | a :: r, i, t, k, res, h => by
    simp only [argTm] at h
    obtain ⟨t1, h1, g1⟩ := Tr.setK_some h
    obtain ⟨t', hk, g⟩ := argTm_some h1
    refine ⟨t', hk, fun m => ?_⟩
    rw [g m, g1 m]
    by_cases hm : m = i
    · subst hm
      rw [if_neg (by omega), if_pos rfl, if_pos (by simp)]
      simp
    · by_cases h2 : i ≤ m ∧ m < i + (a :: r).length
      · rw [if_pos (by simp at h2; omega), if_pos h2, show m - i = (m - Nat.succ i) + 1 by omega]
        simp
      · rw [if_neg (by simp at h2 ⊢; omega), if_neg h2, if_neg hm]

theorem aRes_some {tm : Tr AV} {nt : Nat} {h : AH} {ρ : Rho} {w : World} {a : Act} {fr : ResultVar → Sem Value} (hf1 : ∀ t, fr (.tmp t) = pure (a.tmps.getD t undef)) (hf2 : ∀ b t, fr (.cell b t) = (do loadVar t (← asAddr (a.tmps.getD b undef)))) (hg : GlobOK ρ gl) (r : Rep ρ h.get w) (ht : TmR ρ tm nt a) : ∀ {l : List ResultVar} {vs : List AV}, aRes P gl tm h l = some vs →
    ∃ vs' : List Value, (l.mapM fr).run P w = .ok vs' w ∧ VRL ρ vs vs'
  | [], vs, e => by
    simp only [aRes] at e
    injection e with e
    subst e
    exact ⟨[], by simp, .nil⟩
  | .tmp t :: l, vs, e => by
    simp only [aRes] at e
    cases h1 : aEval gl tm (.tmp t) with
    | none => rw [h1] at e; cases e
    | some v =>
      cases h2 : aRes P gl tm h l with
      | none => rw [h1, h2] at e; cases e
      | some vs2 =>
        rw [h1, h2] at e
        injection e with e
        subst e
        obtain ⟨vs', g1, g2⟩ := aRes_some hf1 hf2 hg r ht h2
        have hv := aEval_sound (a := a) hg (fun t _ => ht.val t) h1
        refine ⟨a.tmps.getD t undef :: vs', ?_, .cons hv g2⟩
        simp only [List.mapM_cons, Sem.run_bind, hf1, Sem.run_pure, Result.andThen_ok, g1]
  | .cell b t :: l, vs, e => by
    simp only [aRes] at e
    cases h1 : aEval gl tm (.tmp b) with
    | none => rw [h1] at e; cases e
    | some v =>
      rw [h1] at e
      cases v with
      | ptr f u o =>
        dsimp only at e
        have hv := aEval_sound (a := a) hg (fun t _ => ht.val t) h1
        obtain ⟨x, x', q1, q2, q3⟩ := loadT_some (P := P) r hv e
        cases h2 : aRes P gl tm h l with
        | none => rw [h2] at q1; cases q1
        | some vs2 =>
          rw [h2] at q1
          injection q1 with q1
          subst q1
          obtain ⟨vs', g1, g2⟩ := aRes_some hf1 hf2 hg r ht h2
          refine ⟨x' :: vs', ?_, .cons q3 g2⟩
          have hp : a.eval (.tmp b) = a.tmps.getD b undef := rfl
          rw [hp] at hv q2
          generalize hz : a.tmps.getD b undef = z at hv q2
          cases hv with
          | ptr _ hL =>
          have q4 : ∀ (A : Addr), (Instr.loadAt t (.pointer (some A))).run P w = (loadVar t A).run P w := fun A => by
            simp only [Instr.loadAt, Instr.sureAddr, Sem.run_bind, Sem.run_pure, Result.andThen_ok]
          rw [q4] at q2
          have hA : ∀ (A : Addr) (w : World), (asAddr (.pointer (some A))).run P w = .ok A w := fun _ _ => rfl
          simp only [List.mapM_cons, Sem.run_bind, hf2, hz, hA, Sem.run_pure, Result.andThen_ok, q2, g1]
      | _ => cases e

def OverOK (P : Program) (gl : Gl P) (over : FuncId → Option (List AV → AH → Option (AV × AH))) : Prop := ∀ f g, over f = some g → ∀ args h v h', g args h = some (v, h') →
  (Wf h → AF h h') ∧ ∀ ρ w args', Rep ρ h.get w → Wf h → GlobOK ρ gl → VRL ρ args args' → Fresh ρ h.next h'.next →
    Calls P f ⟨args'⟩ w (fun e w' => ∃ x ρ', e = .returned x ∧ VR ρ' v x ∧ Out ρ h w ρ' h' w')

/-- The calls, as far as n deep. -/
noncomputable def aRec (P : Program) (gl : Gl P) (over : FuncId → Option (List AV → AH → Option (AV × AH))) (fuel n : Nat) : Rec :=
  Nat.rec (motive := fun _ => Rec) (fun _ _ _ => none) (fun _ ih => aCallF P gl over fuel ih) n
theorem aCall_ok {over : FuncId → Option (List AV → AH → Option (AV × AH))} (hm : P.follows .mixedOrders = true) (ho : OverOK P gl over) (fuel : Nat) : ∀ n, RecAF (aRec P gl over fuel n) ∧
    RecOK P gl (aRec P gl over fuel n)
  | 0 => by
    constructor
    · intro f args h v h' e; cases e
    · intro f args h v h' e; cases e
  | n + 1 => by
    obtain ⟨ra, rok⟩ := aCall_ok hm ho fuel n
    constructor
    · intro f args h v h' e wf
      change aCallF P gl over fuel (aRec P gl over fuel n) f args h = some (v, h') at e
      generalize aRec P gl over fuel n = R at ra rok e
      unfold aCallF at e
      cases hov : over f with
      | some g => rw [hov] at e; exact (ho f g hov args h v h' e).1 wf
      | none =>
        rw [hov] at e
        dsimp only at e
        cases hf : P.funcs[f]? with
        | none => rw [hf] at e; cases e
        | some fn =>
          rw [hf] at e
          dsimp only at e
          cases hb : fn.body with
          | none => rw [hb] at e; cases e
          | some c =>
            rw [hb] at e
            dsimp only at e
            obtain ⟨t', e, _⟩ := argTm_some e
            rw [fN_eq] at e
            cases hc : aCode P gl R fuel c ⟨t', max fn.ntmps args.length, h⟩ with
            | none => rw [hc] at e; cases e
            | some res =>
              obtain ⟨x, tm', nt', h2⟩ := res
              rw [hc] at e
              have af := (aCode_AF ra fuel wf hc).1
              have : h' = h2 := by
                cases x with
                | exit _ => cases e
                | normal =>
                  dsimp only at e
                  split at e
                  · injection e with e; injection e with _ e; exact e.symm
                  · injection e with e; injection e with _ e; exact e.symm
                  · cases e
                | ret =>
                  dsimp only at e
                  split at e
                  · injection e with e; injection e with _ e; exact e.symm
                  · injection e with e; injection e with _ e; exact e.symm
                  · cases e
              subst this
              exact af
    · intro f args h v h' e ρ w args' r wf hg hv fr
      change aCallF P gl over fuel (aRec P gl over fuel n) f args h = some (v, h') at e
      generalize aRec P gl over fuel n = R at ra rok e
      unfold aCallF at e
      cases hov : over f with
      | some g => rw [hov] at e; exact (ho f g hov args h v h' e).2 ρ w args' r wf hg hv fr
      | none =>
        rw [hov] at e
        dsimp only at e
        cases hf : P.funcs[f]? with
        | none => rw [hf] at e; cases e
        | some fn =>
          rw [hf] at e
          dsimp only at e
          cases hb : fn.body with
          | none => rw [hb] at e; cases e
          | some c =>
            rw [hb] at e
            dsimp only at e
            obtain ⟨t', e, hget⟩ := argTm_some e
            rw [fN_eq] at e
            cases hc : aCode P gl R fuel c ⟨t', max fn.ntmps args.length, h⟩ with
            | none => rw [hc] at e; cases e
            | some res =>
              obtain ⟨x, tm', nt', h2⟩ := res
              rw [hc] at e
              obtain ⟨af, hnt⟩ := aCode_AF ra fuel wf hc
              subst hnt
              -- how it ends
              have hend : (x = .normal ∨ x = .ret) ∧ ∃ vs, aRes P gl tm' h2 fn.results.toList = some vs ∧ h' = h2 ∧ v = (match vs with | [u] => u | vs => .tuple vs) := by
                cases x with
                | exit _ => cases e
                | normal =>
                  refine ⟨.inl rfl, ?_⟩
                  dsimp only at e
                  split at e
                  · rename_i u hr; injection e with e; injection e with e1 e2; exact ⟨_, hr, e2.symm, e1.symm⟩
                  · rename_i vs hne hr
                    injection e with e; injection e with e1 e2
                    refine ⟨_, hr, e2.symm, ?_⟩
                    rw [← e1]
                    split
                    · exact absurd rfl (hne _)
                    · rfl
                  · cases e
                | ret =>
                  refine ⟨.inr rfl, ?_⟩
                  dsimp only at e
                  split at e
                  · rename_i u hr; injection e with e; injection e with e1 e2; exact ⟨_, hr, e2.symm, e1.symm⟩
                  · rename_i vs hne hr
                    injection e with e; injection e with e1 e2
                    refine ⟨_, hr, e2.symm, ?_⟩
                    rw [← e1]
                    split
                    · exact absurd rfl (hne _)
                    · rfl
                  · cases e
              obtain ⟨hxx, vs, hr, rfl, hvv⟩ := hend
              have hal := hv.length
              have hsz : (⟨args'⟩ : Array Value).size = args.length := hal
              refine calls_of_wp hf hb ?_
              refine (aCode_wp hm ra rok fuel).1 hc hg r wf ⟨?_, rfl, fun t => ?_⟩ fr fun a' w' ρ' ht' hout => ?_
              · simp only [Array.size_append, Array.size_replicate, hsz]
                omega
              · rw [hget t]
                show TV ρ _ (((⟨args'⟩ : Array Value) ++ Array.replicate (fn.ntmps - (⟨args'⟩ : Array Value).size) undef).getD t undef)
                rw [Array.getD_eq_getD_getElem?]
                by_cases hlt : t < args.length
                · rw [if_pos ⟨Nat.zero_le _, by omega⟩, Nat.sub_zero, List.getElem?_eq_getElem hlt, Array.getElem?_append_left (by omega)]
                  obtain ⟨y, y1, y2⟩ := hv.get (List.getElem?_eq_getElem hlt)
                  rw [arr_get, y1]
                  exact y2
                · rw [if_neg (by omega), Tr.get_lf]
                  trivial
              · -- the results
                obtain ⟨vs', g1, g2⟩ := aRes_some (P := P) (a := a') (fr := fun | .tmp t => pure (a'.tmps.getD t undef) | .cell a t => do loadVar t (← asAddr (a'.tmps.getD a undef))) (fun _ => rfl) (fun _ _ => rfl) (hg.mono hout.ext.le) hout.rep ht' hr
                have hres : (results fn a'.tmps).run P w' = .ok (if h : vs'.length = 1 then vs'[0] else .tuple ⟨vs'⟩) w' := by
                  unfold results
                  rw [Sem.run_bind, Array.mapM_eq_mapM_toList, Sem.run_map]
                  erw [g1]
                  simp only [Result.andThen_ok, Sem.run_pure]
                  congr 1
                have hVR : VR ρ' v (if h : vs'.length = 1 then vs'[0] else .tuple ⟨vs'⟩) := by
                  rw [hvv]
                  cases g2 with
                  | nil => exact .tuple .nil
                  | cons k1 k2 =>
                    cases k2 with
                    | nil => exact k1
                    | cons k3 k4 =>
                      rw [dif_neg (by simp)]
                      exact .tuple (.cons k1 (.cons k3 k4))
                rcases hxx with rfl | rfl
                · exact ⟨ht'.defers, _, hres, _, ρ', rfl, hVR, hout⟩
                · exact ⟨ht'.defers, _, hres, _, ρ', rfl, hVR, hout⟩

/-- WHAT THE ABSTRACT MACHINE COMPUTES, THE PROGRAM DOES: whatever the memory, whatever the tape. -/
theorem aCall_sound {over : FuncId → Option (List AV → AH → Option (AV × AH))} (hm : P.follows .mixedOrders = true) (ho : OverOK P gl over) {fuel : Nat} {f : FuncId} {args : List AV} {h h' : AH} {v : AV} (e : aCall P gl over fuel f args h = some (v, h'))
    {ρ : Rho} {w : World} {args' : List Value} (r : Rep ρ h.get w) (wf : Wf h) (hg : GlobOK ρ gl) (hv : VRL ρ args args') (fr : Fresh ρ h.next h'.next) :
    Calls P f ⟨args'⟩ w (fun e w' => ∃ x ρ', e = .returned x ∧ VR ρ' v x ∧ Out ρ h w ρ' h' w') :=
  (aCall_ok hm ho fuel fuel).2 f args h v h' e ρ w args' r wf hg hv fr
end
end Go.Proofs.YtcigfmnkfelhjaaDoor.Am
