/- The abstract machine: a region, in the order of the text. -/
import Derived.Test.YtcigfmnkfelhjaaDoorAm12
set_option linter.unusedVariables false
set_option linter.unusedSimpArgs false
namespace Go.Proofs.YtcigfmnkfelhjaaDoor.Am
open Go

section
variable {P : Program} {gl : Gl P} {ρ : Rho} {h : AH} {w : World} {R : Type}

structure TmR (ρ : Rho) (tm : Tr AV) (nt : Nat) (a : Act) : Prop where
  size : a.tmps.size = nt
  defers : a.defers = []
  val : ∀ t, TV ρ (tm.get t) (a.tmps.getD t undef)

theorem put_size (a : Act) (d : Option Tmp) (x : Value) : (a.put d x).tmps.size = a.tmps.size := by cases d <;> simp [Act.put]
theorem put_defers (a : Act) (d : Option Tmp) (x : Value) : (a.put d x).defers = a.defers := by cases d <;> rfl
theorem put_get (a : Act) (d : Option Tmp) (x : Value) (hd : ∀ t, d = some t → t < a.tmps.size) (t : Tmp) : (a.put d x).tmps.getD t undef = if d = some t then x else a.tmps.getD t undef := by
  cases d with
  | none => simp [Act.put]
  | some d =>
    have hlt := hd d rfl
    by_cases h : d = t
    · subst h
      rw [if_pos rfl]
      simp [Act.put, Array.getD, hlt]
    · rw [if_neg (fun e => h (by injection e))]
      simp only [Act.put, Array.getD_eq_getD_getElem?, Array.getElem?_setIfInBounds_ne h]

theorem TmR.put {ρ' : Rho} {tm tm' : Tr AV} {nt : Nat} {a : Act} {d : Option Tmp} {v : AV} {x : Value} (r : TmR ρ tm nt a) (le : Le ρ ρ') (hd : ∀ t, d = some t → t < nt) (hg : ∀ t, tm'.get t = if d = some t then some v else tm.get t) (hv : VR ρ' v x) :
    TmR ρ' tm' nt (a.put d x) := {
  size := by rw [put_size, r.size]
  defers := by rw [put_defers, r.defers]
  val t := by
    rw [hg t, put_get a d x (by rw [r.size]; exact hd) t]
    split
    · exact hv
    · exact (r.val t).mono le }

/-- Names that are still free behind a step. -/
theorem Fresh.step {ρ1 : Rho} {h1 : AH} {w1 : World} {b : Nat} (wf : Wf h) (o : Out ρ h w ρ1 h1 w1) (f : Fresh ρ h.next b) : Fresh ρ1 h1.next b := by
  intro F v a c
  cases e : ρ1 F v with
  | none => rfl
  | some L =>
    rcases o.ext.new F v L e with e' | ⟨t, _⟩
    · rw [f F v (Nat.le_trans o.af.next a) c] at e'; cases e'
    · rcases t with ⟨_, t⟩ | t
      · omega
      · rcases o.af.wn F t with t | ⟨t, _⟩
        · have := wf.wl F t; have := wf.mark; have := o.af.next; omega
        · have := wf.mark; have := o.af.next; omega

theorem aOne_nt {rec : Rec} {ops : Array Oper} {i : Nat} {tm tm' : Tr AV} {nt nt' : Nat} {h' : AH} (hx : aOne P gl rec ops i ⟨tm, nt, h⟩ = some ⟨tm', nt', h'⟩) : nt' = nt := by
  unfold aOne at hx
  split at hx
  · injection hx with hx; injection hx with _ e _; exact e.symm
  · rename_i o tm1 nt1 h1 e1 e2
    injection e2 with a1 a2 a3
    subst a1 a2 a3
    replace hx := (cond_some hx).2
    cases hw : aWanted ops tm nt o with
    | true =>
      rw [hw] at hx
      simp only [cond_true] at hx
      split at hx
      · obtain ⟨tm2, e, _, _⟩ := putT_some hx
        injection e with e; injection e with _ e _; exact e.symm
      · split at hx
        · obtain ⟨tm2, e, _, _⟩ := putT_some hx
          injection e with e; injection e with _ e _; exact e.symm
        · cases hx
      · cases hx
    | false =>
      rw [hw] at hx
      simp only [cond_false] at hx
      obtain ⟨tm2, e, _, _⟩ := putT_some hx
      injection e with e; injection e with _ e _; exact e.symm

theorem aOps_AF {rec : Rec} {ops : Array Oper} (ra : RecAF rec) : ∀ (n i : Nat) {tm tm' : Tr AV} {nt nt' : Nat} {h h' : AH}, Wf h → aOps P gl rec ops n i ⟨tm, nt, h⟩ = some ⟨tm', nt', h'⟩ → AF h h' ∧ nt' = nt
  | 0, i, tm, tm', nt, nt', h, h', wf, hx => by
    simp only [aOps] at hx
    injection hx with hx
    injection hx with _ e hx
    subst hx
    exact ⟨.refl wf, e.symm⟩
  | n + 1, i, tm, tm', nt, nt', h, h', wf, hx => by
    simp only [aOps] at hx
    cases h1 : aOne P gl rec ops i ⟨tm, nt, h⟩ with
    | none => rw [h1] at hx; cases hx
    | some st =>
      obtain ⟨tm1, nt1, h1'⟩ := st
      rw [h1] at hx
      have af := aOne_AF ra wf h1
      have hn := aOne_nt h1
      obtain ⟨af2, hn2⟩ := aOps_AF ra n (i + 1) af.wf hx
      exact ⟨af.trans wf af2, hn2.trans hn⟩

theorem aOps_wp {rec : Rec} {ops : Array Oper} (ra : RecAF rec) (rok : RecOK P gl rec) : ∀ (n i : Nat) {tm tm' : Tr AV} {nt nt' : Nat} {h h' : AH} {ρ : Rho} {w : World} {a : Act} {Q : Exit → Act → World → Prop}, GlobOK ρ gl → Rep ρ h.get w → Wf h → TmR ρ tm nt a →
    Fresh ρ h.next h'.next → aOps P gl rec ops n i ⟨tm, nt, h⟩ = some ⟨tm', nt', h'⟩ → (∀ a' w' ρ', TmR ρ' tm' nt' a' → Out ρ h w ρ' h' w' → Q .normal a' w') → wpOps P ops Q (List.range' i n) a w
  | 0, i, tm, tm', nt, nt', h, h', ρ, w, a, Q, hg, r, wf, ht, fr, hx, hQ => by
    simp only [aOps] at hx
    injection hx with hx
    injection hx with e1 e2 e3
    subst e1 e2 e3
    exact hQ a w ρ ht (.refl r wf)
  | n + 1, i, tm, tm', nt, nt', h, h', ρ, w, a, Q, hg, r, wf, ht, fr, hx, hQ => by
    simp only [aOps] at hx
    cases h1 : aOne P gl rec ops i ⟨tm, nt, h⟩ with
    | none => rw [h1] at hx; cases hx
    | some st =>
      obtain ⟨tm1, nt1, h1'⟩ := st
      rw [h1] at hx
      have af := aOne_AF ra wf h1
      obtain ⟨af2, _⟩ := aOps_AF ra n (i + 1) af.wf hx
      rw [List.range'_succ, wpOps_cons]
      obtain ⟨v, e1, e2, e3, e4⟩ := aOne_wp ra rok hg r wf ht.size (fun o _ t _ => ht.val t) (fr.mono (Nat.le_refl _) af2.next) h1
      subst e1
      refine e4 _ Q fun x w' ρ' hv ho => ?_
      refine aOps_wp ra rok n (i + 1) (hg.mono ho.ext.le) ho.rep af.wf (ht.put ho.ext.le e3 e2 hv) (fr.step wf ho) hx fun a' w2 ρ2 ht2 ho2 => ?_
      exact hQ a' w2 ρ2 ht2 (ho.trans wf (fr.mono (Nat.le_refl _) af2.next) ho2)
end
end Go.Proofs.YtcigfmnkfelhjaaDoor.Am
