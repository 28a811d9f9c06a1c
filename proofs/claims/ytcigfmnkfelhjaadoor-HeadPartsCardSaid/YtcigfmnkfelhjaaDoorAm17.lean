/- The abstract machine: regions, code, calls. -/
import Derived.Test.YtcigfmnkfelhjaaDoorAm16
set_option linter.unusedVariables false
set_option linter.unusedSimpArgs false
namespace Go.Proofs.YtcigfmnkfelhjaaDoor.Am
open Go

section
variable {P : Program} {gl : Gl P} {rec : Rec} {ops : Array Oper} {ancs : List Nat} {ex : List Tc}

theorem drawF_run : ∀ (n j : Nat) {ts0 tsN : List Tc} {tm0 tmN : Tr AV} {nt ntN : Nat} {h0 hN : AH}, aDrawF P gl rec ops ancs ex n j ts0 ⟨tm0, nt, h0⟩ = some (tsN, ⟨tmN, ntN, hN⟩) →
    ∃ (ts : Nat → List Tc) (tm : Nat → Tr AV) (H H' : Nat → AH), ts j = ts0 ∧ tm j = tm0 ∧ H j = h0 ∧ tm (j + n) = tmN ∧ H (j + n) = hN ∧ ntN = nt ∧
      ∀ i, j ≤ i → i < j + n → aOne P gl rec ops i ⟨tm i, nt, (H i).hide (hidFor (nthD ancs i) (ts i) (extraFor ancs i ex []))⟩ = some ⟨tm (i + 1), nt, H' i⟩ ∧ H (i + 1) = (H i).show (H' i) ∧
        ((ts (i + 1) = ts i ∧ (H' i).wlog = [] ∧ (H' i).next = (H i).next) ∨
          (ts (i + 1) = ⟨i, (H' i).wlog, (H i).next, (H' i).next⟩ :: ts i ∧ ∀ k, k < i → offB (nthD ancs i) k = true → ∀ F ∈ (H' i).wlog, inRanges (extraFor ancs k ex []) F = true))
  | 0, j, ts0, tsN, tm0, tmN, nt, ntN, h0, hN, hx => by
    simp only [aDrawF] at hx
    injection hx with hx
    injection hx with e1 e2
    injection e2 with e2 e3 e4
    subst e1 e2 e3 e4
    exact ⟨fun _ => ts0, fun _ => tm0, fun _ => h0, fun _ => h0, rfl, rfl, rfl, rfl, rfl, rfl, fun i h1 h2 => by omega⟩
  | n + 1, j, ts0, tsN, tm0, tmN, nt, ntN, h0, hN, hx => by
    simp only [aDrawF] at hx
    cases h1 : aOne P gl rec ops j ⟨tm0, nt, h0.hide (hidFor (nthD ancs j) ts0 (extraFor ancs j ex []))⟩ with
    | none => rw [h1] at hx; cases hx
    | some st =>
      obtain ⟨tm1, nt1, h'⟩ := st
      rw [h1] at hx
      dsimp only at hx
      have hnt := aOne_nt h1
      subst hnt
      have key : ∀ (ts1 : List Tc), aDrawF P gl rec ops ancs ex n (j + 1) ts1 ⟨tm1, nt1, h0.show h'⟩ = some (tsN, ⟨tmN, ntN, hN⟩) →
          ((ts1 = ts0 ∧ h'.wlog = [] ∧ h'.next = h0.next) ∨ (ts1 = ⟨j, h'.wlog, h0.next, h'.next⟩ :: ts0 ∧ ∀ k, k < j → offB (nthD ancs j) k = true → ∀ F ∈ h'.wlog, inRanges (extraFor ancs k ex []) F = true)) →
          ∃ (ts : Nat → List Tc) (tm : Nat → Tr AV) (H H' : Nat → AH), ts j = ts0 ∧ tm j = tm0 ∧ H j = h0 ∧ tm (j + (n + 1)) = tmN ∧ H (j + (n + 1)) = hN ∧ ntN = nt1 ∧
            ∀ i, j ≤ i → i < j + (n + 1) → aOne P gl rec ops i ⟨tm i, nt1, (H i).hide (hidFor (nthD ancs i) (ts i) (extraFor ancs i ex []))⟩ = some ⟨tm (i + 1), nt1, H' i⟩ ∧ H (i + 1) = (H i).show (H' i) ∧
              ((ts (i + 1) = ts i ∧ (H' i).wlog = [] ∧ (H' i).next = (H i).next) ∨
                (ts (i + 1) = ⟨i, (H' i).wlog, (H i).next, (H' i).next⟩ :: ts i ∧ ∀ k, k < i → offB (nthD ancs i) k = true → ∀ F ∈ (H' i).wlog, inRanges (extraFor ancs k ex []) F = true)) := by
        intro ts1 hx hs
        obtain ⟨ts, tm, H, H', g1, g2, g3, g4, g5, g6, g7⟩ := drawF_run n (j + 1) hx
        refine ⟨fun i => if i = j then ts0 else ts i, fun i => if i = j then tm0 else tm i, fun i => if i = j then h0 else H i, fun i => if i = j then h' else H' i, by simp, by simp, by simp, ?_, ?_, g6, ?_⟩
        · show (if j + (n + 1) = j then tm0 else tm (j + (n + 1))) = tmN
          rw [if_neg (by omega), ← g4]
          congr 1
          omega
        · show (if j + (n + 1) = j then h0 else H (j + (n + 1))) = hN
          rw [if_neg (by omega), ← g5]
          congr 1
          omega
        · intro i h2 h3
          by_cases e : i = j
          · subst e
            have e1 : ¬ i + 1 = i := by omega
            simp only [e1, if_true, if_false]
            rw [g2, g3, g1]
            exact ⟨h1, rfl, hs⟩
          · have e1 : ¬ i + 1 = j := by omega
            simp only [e, e1, if_false]
            exact g7 i (by omega) (by omega)
      cases hc : and (isNil h'.wlog) (Nat.beq h'.next h0.next) with
      | true =>
        rw [hc] at hx
        simp only [cond_true] at hx
        obtain ⟨c1, c2⟩ := and_true hc
        have c1 : h'.wlog = [] := by
          cases hw : h'.wlog with
          | nil => rfl
          | cons _ _ => rw [hw] at c1; cases c1
        exact key ts0 hx (.inl ⟨rfl, c1, Nat.eq_of_beq_eq_true c2⟩)
      | false =>
        rw [hc] at hx
        simp only [cond_false] at hx
        obtain ⟨d1, hx⟩ := cond_some hx
        refine key _ hx (.inr ⟨rfl, fun k hk ho F hF => ?_⟩)
        rw [Bool.or_eq_true] at d1
        rcases d1 with d1 | d1
        · have : h'.wlog = [] := by
            cases hw : h'.wlog with
            | nil => rfl
            | cons _ _ => rw [hw] at d1; cases d1
          rw [this] at hF; cases hF
        · exact wlOk_some d1 k hk ho F hF

theorem ancOf_lt {j : Nat} : ∀ {es : List Edge} {m : Nat}, ancOf j ancs es = some m → ∀ e ∈ es, Region.binds .any e = true → e.on < j
  | [], m, h, e, he, _ => by cases he
  | e' :: r, m, h, e, he, hb => by
    simp only [ancOf] at h
    cases h1 : ancOf j ancs r with
    | none => rw [h1] at h; cases h
    | some m1 =>
      rw [h1] at h
      dsimp only at h
      rcases List.mem_cons.1 he with rfl | he
      · rw [hb] at h
        simp only [cond_true] at h
        have := (cond_some h).1
        rw [blt_eq] at this
        exact of_decide_eq_true this
      · exact ancOf_lt h1 e he hb
theorem ancsOf_lt : ∀ {l : List Oper} {j : Nat} {as res : List Nat}, ancsOf l j as = some res → ∀ k o, l[k]? = some o → ∀ e ∈ o.after.toList, Region.binds .any e = true → e.on < j + k
  | [], j, as, res, h, k, o, e, _, _, _ => by simp at e
  | o' :: r, j, as, res, h, k, o, e, ed, he, hb => by
    simp only [ancsOf] at h
    cases h1 : ancOf j as o'.after.toList with
    | none => rw [h1] at h; cases h
    | some m =>
      rw [h1] at h
      simp only [fN_eq] at h
      cases k with
      | zero => simp at e; subst e; exact ancOf_lt h1 ed he hb
      | succ k =>
        have := ancsOf_lt h k o (by simpa using e) ed he hb
        omega

variable {ρ0 : Rho} {w0 : World} {nt : Nat} {ts : Nat → List Tc} {tm : Nat → Tr AV} {H H' : Nat → AH}

theorem Inv.final (r : Run P gl rec ops ancs ex ops.size nt ts tm H H') (ra : RecAF rec) (wf0 : Wf (H 0)) {D : Nat → Bool} (hD : ∀ k, k < ops.size → D k = true) {ρ : Rho} {a : Act} {w : World} (inv : Inv ops ops.size nt tm H H' ρ0 w0 D ρ a w) :
    TmR ρ (tm ops.size) nt a ∧ Out ρ0 (H 0) w0 ρ (H ops.size) w := by
  have h1 : (fun F => sel D (fun k => Tch (H k) (H' k) F) (fun k => (H k).get F) ops.size) = (H ops.size).get := by
    funext F
    exact sel_all (W := fun k => Tch (H k) (H' k) F) (X := fun k => (H k).get F) _ (fun k hk _ => hD k hk) (fun k hk hw => Run.keep r ra wf0 hk hw)
  refine ⟨⟨inv.size, inv.defers, fun t => ?_⟩, ⟨h1 ▸ inv.rep, ⟨inv.le, inv.new⟩, inv.fr, Run.mono r ra wf0 (Nat.le_refl _) (Nat.zero_le _)⟩⟩
  have := inv.val t
  rwa [sel_all (W := fun k => (ops[k]?).bind (·.dst) = some t) (X := fun k => (tm k).get t) _ (fun k hk _ => hD k hk) (fun k hk hw => by
    obtain ⟨v, e2⟩ := aOne_tm (r.step k hk)
    show (tm (k + 1)).get t = (tm k).get t
    rw [e2 t, if_neg hw])] at this

theorem any_of_inv (r : Run P gl rec ops ancs ex ops.size nt ts tm H H') (ra : RecAF rec) (rok : RecOK P gl rec) (wf0 : Wf (H 0)) (hg : GlobOK ρ0 gl) (hfresh : Fresh ρ0 (H 0).next (H ops.size).next) (ha : ancsOf ops.toList 0 [] = some ancs) (htk : tmpOk ancs ops ops.toList 0 = true)
    {Q : Exit → Act → World → Prop} (hQ : ∀ a' w' ρ', TmR ρ' (tm ops.size) nt a' → Out ρ0 (H 0) w0 ρ' (H ops.size) w' → Q .normal a' w') :
    ∀ (fuel : Nat) (listed : Array Bool) (a : Act) (w : World) (ρ : Rho), listed.size = ops.size → (∀ j, listed.getD j false = true → Closed ops (fun i => listed.getD i false) j) → ops.size ≤ fuel + cnt (fun i => listed.getD i false) ops.size →
      Inv ops ops.size nt tm H H' ρ0 w0 (fun i => listed.getD i false) ρ a w → wpAny P .any ops Q fuel listed a w := by
  intro fuel
  -- if none is ready, all are done
  have hall : ∀ (listed : Array Bool), listed.size = ops.size → Region.ready .any ops listed = [] → ∀ k, k < ops.size → listed.getD k false = true := by
    intro listed hs hr k
    induction k using Nat.strongRecOn with
    | _ k ih =>
      intro hk
      cases hl : listed.getD k false with
      | true => rfl
      | false =>
        have : k ∈ Region.ready .any ops listed := mem_ready.2 ⟨by
          have hk2 : k < listed.size := by omega
          simp only [Array.getD, hk2, dite_true] at hl ⊢
          exact hl, ops[k], Array.getElem?_eq_getElem hk, fun e he hb => ?_⟩
        · rw [hr] at this; cases this
        · have hlt := ancsOf_lt ha k ops[k] (by rw [Array.getElem?_toList]; exact Array.getElem?_eq_getElem hk) e (by simpa using he) hb
          rw [Nat.zero_add] at hlt
          exact ih e.on hlt (by omega)
  induction fuel with
  | zero =>
    intro listed a w ρ hs hcl hcnt inv
    have hd : ∀ k, k < ops.size → listed.getD k false = true := cnt_all (D := fun i => listed.getD i false) (n := ops.size) (by rw [Nat.zero_add] at hcnt; exact hcnt)
    refine ⟨?_, ?_⟩
    · cases hr : Region.ready .any ops listed with
      | nil => rfl
      | cons j rest =>
        have : j ∈ Region.ready .any ops listed := by rw [hr]; exact List.mem_cons_self
        obtain ⟨h1, o, h2, _⟩ := mem_ready.1 this
        have hj : j < ops.size := (Array.getElem?_eq_some_iff.1 h2).1
        have h3 := hd j hj
        have hj2 : j < listed.size := by omega
        simp only [Array.getD, hj2, dite_true] at h1 h3
        rw [h1] at h3; cases h3
    · obtain ⟨q1, q2⟩ := Inv.final r ra wf0 hd inv
      exact hQ a w ρ q1 q2
  | succ fuel ih =>
    intro listed a w ρ hs hcl hcnt inv
    refine ⟨fun hr => ?_, fun j hj => ?_⟩
    · obtain ⟨q1, q2⟩ := Inv.final r ra wf0 (hall listed hs hr) inv
      exact hQ a w ρ q1 q2
    · obtain ⟨h1, o, h2, h3⟩ := mem_ready.1 hj
      have hjs : j < ops.size := (Array.getElem?_eq_some_iff.1 h2).1
      have hj2 : j < listed.size := by omega
      have hDj : ¬ (fun i => listed.getD i false) j = true := by
        simp only [Array.getD, hj2, dite_true] at h1 ⊢
        rw [h1]; simp
      have hset : ∀ k, ((listed.setIfInBounds j true).getD k false = true ↔ listed.getD k false = true ∨ k = j) := by
        intro k
        by_cases e : k = j
        · subst e
          simp [Array.getD, hj2]
        · simp only [Array.getD_eq_getD_getElem?, Array.getElem?_setIfInBounds_ne (Ne.symm e)]
          simp [e]
      have hc : Closed ops (fun i => listed.getD i false) j := by
        intro o' ho' e he hb
        rw [h2] at ho'
        injection ho' with ho'
        subst ho'
        exact h3 e he hb
      refine Inv.step r ra rok wf0 hg hfresh ha htk hcl hjs hDj hc inv (D' := fun k => (listed.setIfInBounds j true).getD k false) hset fun a' w' ρ' inv' => ?_
      refine ih (listed.setIfInBounds j true) a' w' ρ' (by simpa using hs) (fun k hk o' ho' e he hb => ?_) ?_ inv'
      · refine (hset e.on).2 (.inl ?_)
        rcases (hset k).1 hk with hk | rfl
        · exact hcl k hk o' ho' e he hb
        · exact hc o' ho' e he hb
      · have := (cnt_add (D := fun i => listed.getD i false) (D' := fun k => (listed.setIfInBounds j true).getD k false) hset hDj ops.size).2 hjs
        rw [this]
        omega

theorem aDraw_run {tm0 tm' : Tr AV} {nt nt' : Nat} {h h' : AH} (hx : aDraw P gl rec ops ⟨tm0, nt, h⟩ = some ⟨tm', nt', h'⟩) :
    ∃ ancs ex ts tm H H', ancsOf ops.toList 0 [] = some ancs ∧ tmpOk ancs ops ops.toList 0 = true ∧ Run P gl rec ops ancs ex ops.size nt ts tm H H' ∧ tm 0 = tm0 ∧ H 0 = h ∧ tm ops.size = tm' ∧ H ops.size = h' ∧ nt' = nt := by
  unfold aDraw at hx
  cases ha : ancsOf ops.toList 0 [] with
  | none => rw [ha] at hx; cases hx
  | some ancs =>
    rw [ha] at hx
    dsimp only at hx
    obtain ⟨htk, hx⟩ := cond_some hx
    have key : ∀ (ex tsN : List Tc), aDrawF P gl rec ops ancs ex ops.size 0 [] ⟨tm0, nt, h⟩ = some (tsN, ⟨tm', nt', h'⟩) →
        ∃ ancs ex ts tm H H', some ancs = some ancs ∧ tmpOk ancs ops ops.toList 0 = true ∧ Run P gl rec ops ancs ex ops.size nt ts tm H H' ∧ tm 0 = tm0 ∧ H 0 = h ∧ tm ops.size = tm' ∧ H ops.size = h' ∧ nt' = nt ∧ ancsOf ops.toList 0 [] = some ancs := by
      intro ex tsN hd
      obtain ⟨ts, tm, H, H', g1, g2, g3, g4, g5, g6, g7⟩ := drawF_run _ _ hd
      rw [Nat.zero_add] at g4 g5
      exact ⟨ancs, ex, ts, tm, H, H', rfl, htk, ⟨fun j hj => (g7 j (Nat.zero_le _) (by omega)).1, fun j hj => (g7 j (Nat.zero_le _) (by omega)).2.1, g1, fun j hj => (g7 j (Nat.zero_le _) (by omega)).2.2⟩, g2, g3, g4, g5, g6, ha⟩
    have key2 : ∃ ex tsN, aDrawF P gl rec ops ancs ex ops.size 0 [] ⟨tm0, nt, h⟩ = some (tsN, ⟨tm', nt', h'⟩) := by
      split at hx
      · rename_i x hd
        injection hx with hx
        subst hx
        exact ⟨_, _, hd⟩
      · split at hx
        · rename_i x hd
          injection hx with hx
          subst hx
          exact ⟨_, _, hd⟩
        · cases hx
    obtain ⟨ex, tsN, hd⟩ := key2
    obtain ⟨a1, a2, a3, a4, a5, a6, a7, a8, a9, a10, a11, a12, a13, a14, a15⟩ := key ex tsN hd
    exact ⟨a1, a2, a3, a4, a5, a6, by rw [← ha]; exact a15, a8, a9, a10, a11, a12, a13, a14⟩

theorem aDraw_AF {tm0 tm' : Tr AV} {nt nt' : Nat} {h h' : AH} (ra : RecAF rec) (wf : Wf h) (hx : aDraw P gl rec ops ⟨tm0, nt, h⟩ = some ⟨tm', nt', h'⟩) : AF h h' ∧ nt' = nt := by
  obtain ⟨ancs, ex, ts, tm, H, H', ha, htk, r, e1, e2, e3, e4, e5⟩ := aDraw_run hx
  have := Run.mono r ra (by rw [e2]; exact wf) (Nat.le_refl _) (Nat.zero_le ops.size)
  rw [e2, e4] at this
  exact ⟨this, e5⟩

theorem aDraw_wp {tm0 tm' : Tr AV} {nt nt' : Nat} {h h' : AH} {ρ : Rho} {w : World} {a : Act} {id : Nat} {Q : Exit → Act → World → Prop} (hm : P.follows .mixedOrders = true) (ra : RecAF rec) (rok : RecOK P gl rec) (hg : GlobOK ρ gl) (rp : Rep ρ h.get w) (wf : Wf h) (ht : TmR ρ tm0 nt a)
    (fr : Fresh ρ h.next h'.next) (hx : aDraw P gl rec ops ⟨tm0, nt, h⟩ = some ⟨tm', nt', h'⟩) (hQ : ∀ a' w' ρ', TmR ρ' tm' nt' a' → Out ρ h w ρ' h' w' → Q .normal a' w') : (Code.region id ops true).wp P Q a w := by
  obtain ⟨ancs, ex, ts, tm, H, H', ha, htk, r, e1, e2, e3, e4, e5⟩ := aDraw_run hx
  subst e5
  have wf0 : Wf (H 0) := by rw [e2]; exact wf
  refine wp_region_any hm ?_
  have o0 : Out ρ h w ρ h { w with drawn := w.drawn + 1 } := Out.drew rp wf rfl
  refine any_of_inv (w0 := { w with drawn := w.drawn + 1 }) (ρ0 := ρ) r ra rok wf0 hg (by rw [e2, e4]; exact fr) ha htk (fun a' w' ρ' h1 h2 => ?_) ops.size (Array.replicate ops.size false) a _ ρ (by simp) (fun j hj => ?_) (by omega) ?_
  · rw [e3] at h1
    rw [e2, e4] at h2
    exact hQ a' w' ρ' h1 (o0.trans wf (fun F v a b => by omega) h2)
  · simp [Array.getD_eq_getD_getElem?, Array.getElem?_replicate] at hj
    split at hj <;> simp at hj
  · have hnone : ∀ k, ¬ (Array.replicate ops.size false).getD k false = true := by
      intro k hk
      simp [Array.getD_eq_getD_getElem?, Array.getElem?_replicate] at hk
      split at hk <;> simp at hk
    refine ⟨ht.size, ht.defers, fun t => ?_, ?_, Le.refl _, fun F v L hL => .inl hL, ⟨rfl, rfl, rfl, Nat.le_refl _, fun _ _ _ => rfl⟩, fun i hi _ F v h1 h2 => ?_⟩
    · rw [sel_none _ (fun k _ hh => hnone k hh.1), e1]
      exact ht.val t
    · have : (fun F => sel (fun i => (Array.replicate ops.size false).getD i false) (fun k => Tch (H k) (H' k) F) (fun k => (H k).get F) ops.size) = h.get := by
        funext F
        rw [sel_none _ (fun k _ hh => hnone k hh.1), e2]
      rw [this]
      exact o0.rep
    · have m1 := (Run.mono r ra wf0 (Nat.le_of_lt hi) (Nat.zero_le _)).next
      have m2 := (Run.mono r ra wf0 (Nat.le_refl ops.size) (show i + 1 ≤ ops.size from hi)).next
      rw [e2] at m1
      rw [e4] at m2
      exact fr F v (by omega) (by omega)
end
end Go.Proofs.YtcigfmnkfelhjaaDoor.Am
