/- The abstract machine: pieces within conditions, blocks, loops and calls. -/
import Derived.Test.YtcigfmnkfelhjaaDoorAm25
set_option linter.unusedVariables false
set_option linter.unusedSimpArgs false
namespace Go.Proofs.YtcigfmnkfelhjaaDoor.Am
open Go Go.RowKit

section
variable {P : Program} {gl : Gl P} {nt m n0 : Nat}

theorem Pc.cond {ck ck' : Ck} {C : Code} {c : Operand} {a b : Code} {t : Bool} {x : AX} (hC : C = .cond c a b) (he : aEval gl (listT ck.live) c = some (.bool t)) (p : Pc gl nt m n0 ck (match t with
    | true => a
    | false => b) x ck') : Pc gl nt m n0 ck C x ck' := by
  subst hC
  intro A w ρ Q s hQ
  have hv := aEval_sound (a := A) s.gl (fun t _ => s.tm.val t) he
  generalize hz : A.eval c = z at hv
  cases hv
  cases t with
  | true => exact wp_cond_true hz (p A w ρ Q s hQ)
  | false => exact wp_cond_false hz (p A w ρ Q s hQ)
theorem Pc.seqX {ck ck1 : Ck} {c a b : Code} {x : AX} (hc : c = .seq a b) (hx : x ≠ .normal) (p : Pc gl nt m n0 ck a x ck1) : Pc gl nt m n0 ck c x ck1 := by
  subst hc
  intro A w ρ Q s hQ
  refine wp_seq (p A w ρ _ s fun a' w' ρ' s' b' l' => ?_)
  have h := hQ a' w' ρ' s' b' l'
  cases x with
  | normal => exact absurd rfl hx
  | ret => exact h
  | exit j => exact h
def AX.inB (id : Nat) : AX → AX
  | .exit j => match Nat.beq j id with
    | true => .normal
    | false => .exit j
  | x => x
theorem Pc.block {ck ck' : Ck} {C : Code} {id : Nat} {b : Code} {x y : AX} (hC : C = .block id b) (hy : x.inB id = y) (p : Pc gl nt m n0 ck b x ck') : Pc gl nt m n0 ck C y ck' := by
  subst hC hy
  intro A w ρ Q s hQ
  refine wp_block (p A w ρ _ s fun a' w' ρ' s' b' l' => ?_)
  have h := hQ a' w' ρ' s' b' l'
  cases x with
  | normal => exact h
  | ret => exact h
  | exit j =>
    simp only [AX.toExit, Exit.inBlock]
    simp only [AX.inB] at h
    cases hb : Nat.beq j id with
    | true =>
      have := Nat.eq_of_beq_eq_true hb
      subst this
      rw [if_pos rfl]
      rw [hb] at h
      exact h
    | false =>
      rw [if_neg (Nat.ne_of_beq_eq_false hb)]
      rw [hb] at h
      exact h
theorem Pc.scope {ck ck' : Ck} {C : Code} {b : Code} {x : AX} (hC : C = .scope b) (p : Pc gl nt m n0 ck b x ck') : Pc gl nt m n0 ck C x ck' := by
  subst hC
  intro A w ρ Q s hQ
  refine wp_scope_straight (p A w ρ _ s fun a' w' ρ' s' b' l' => ?_)
  have hq := hQ a' w' ρ' s' b' l'
  cases x <;> exact hq

/-! ## Loops, round by round -/
def Pr (gl : Gl P) (nt m n0 : Nat) (ck : Ck) (c : Code) (n : Nat) (x : AX) (ck' : Ck) : Prop := ∀ a w ρ Q, SR gl nt m n0 ck ρ a w → (∀ a' w' ρ', SR gl nt m n0 ck' ρ' a' w' → Below n0 w w' → Le ρ ρ' → Q x.toExit a' w') → Code.rounds P c Q n a w
theorem Pr.last {ck ck' : Ck} {c : Code} {x : AX} (hx : x ≠ .normal) (p : Pc gl nt m n0 ck c x ck') : Pr gl nt m n0 ck c 1 x ck' := by
  intro a w ρ Q s hQ
  refine p a w ρ _ s fun a' w' ρ' s' b' l' => ?_
  have h := hQ a' w' ρ' s' b' l'
  cases x with
  | normal => exact absurd rfl hx
  | ret => exact h
  | exit j => exact h
theorem Pr.more {ck ck1 ck' : Ck} {c : Code} {n : Nat} {x : AX} (p : Pc gl nt m n0 ck c .normal ck1) (q : Pr gl nt m n0 ck1 c n x ck') : Pr gl nt m n0 ck c (n + 1) x ck' := by
  intro a w ρ Q s hQ
  refine p a w ρ _ s fun a' w' ρ' s' b' l' => ?_
  exact q a' w' ρ' Q s' fun a2 w2 ρ2 s2 b2 l2 => hQ a2 w2 ρ2 s2 (b'.trans b2) (l'.trans l2)
theorem Pc.loop {ck ck' : Ck} {C c : Code} {n : Nat} {x : AX} (hC : C = .loop c) (p : Pr gl nt m n0 ck c n x ck') : Pc gl nt m n0 ck C x ck' := by
  subst hC
  intro a w ρ Q s hQ
  exact wp_loop_rounds n (p a w ρ Q s hQ)
/-- k rounds that go on. -/
noncomputable def aRnd (P : Program) (gl : Gl P) (rec : Rec) (fuel : Nat) (c : Code) : Nat → St → Option St
  | 0, st => some st
  | .succ k, st => match aCode P gl rec fuel c st with
    | some (.normal, st') => aRnd P gl rec fuel c k st'
    | _ => none
theorem aRnd_AF {rec : Rec} (ra : RecAF rec) {fuel : Nat} {c : Code} : ∀ (k : Nat) {tm tm' : Tr AV} {nt nt' : Nat} {h h' : AH}, Wf h → aRnd P gl rec fuel c k ⟨tm, nt, h⟩ = some ⟨tm', nt', h'⟩ → AF h h' ∧ nt' = nt
  | 0, tm, tm', nt, nt', h, h', wf, hx => by
    injection hx with hx
    injection hx with e1 e2 e3
    subst e1 e2 e3
    exact ⟨.refl wf, rfl⟩
  | k + 1, tm, tm', nt, nt', h, h', wf, hx => by
    simp only [aRnd] at hx
    split at hx
    · rename_i st' h1
      obtain ⟨tm1, nt1, h1'⟩ := st'
      obtain ⟨af, e⟩ := aCode_AF ra fuel wf h1
      obtain ⟨af2, e2⟩ := aRnd_AF ra k af.wf hx
      exact ⟨af.trans wf af2, e2.trans e⟩
    · cases hx
theorem aRnd_wp {rec : Rec} (hm : P.follows .mixedOrders = true) (ra : RecAF rec) (rok : RecOK P gl rec) {fuel : Nat} {c : Code} {n : Nat} : ∀ (k : Nat) {tm tm' : Tr AV} {nt nt' : Nat} {h h' : AH} {ρ : Rho} {w : World} {a : Act} {Q : Exit → Act → World → Prop}, GlobOK ρ gl → Rep ρ h.get w → Wf h → TmR ρ tm nt a →
    Fresh ρ h.next h'.next → aRnd P gl rec fuel c k ⟨tm, nt, h⟩ = some ⟨tm', nt', h'⟩ → (∀ a' w' ρ', TmR ρ' tm' nt' a' → Out ρ h w ρ' h' w' → Code.rounds P c Q n a' w') → Code.rounds P c Q (n + k) a w
  | 0, tm, tm', nt, nt', h, h', ρ, w, a, Q, hg, r, wf, ht, fr, hx, hQ => by
    injection hx with hx
    injection hx with e1 e2 e3
    subst e1 e2 e3
    exact hQ a w ρ ht (.refl r wf)
  | k + 1, tm, tm', nt, nt', h, h', ρ, w, a, Q, hg, r, wf, ht, fr, hx, hQ => by
    simp only [aRnd] at hx
    split at hx
    · rename_i st' h1
      obtain ⟨tm1, nt1, h1'⟩ := st'
      obtain ⟨af, e⟩ := aCode_AF ra fuel wf h1
      subst e
      obtain ⟨af2, e2⟩ := aRnd_AF ra k af.wf hx
      show c.wp P (Exit.then (Code.rounds P c Q (n + k)) Q) a w
      refine (aCode_wp hm ra rok fuel).1 h1 hg r wf ht (fr.mono (Nat.le_refl _) af2.next) fun a' w' ρ' ht' ho => ?_
      refine aRnd_wp hm ra rok k (hg.mono ho.ext.le) ho.rep af.wf ht' (fr.step wf ho) hx fun a2 w2 ρ2 ht2 ho2 => ?_
      exact hQ a2 w2 ρ2 ht2 (ho.trans wf (fr.mono (Nat.le_refl _) af2.next) ho2)
    · cases hx
theorem Pr.run {rec : Rec} (hm : P.follows .mixedOrders = true) (ra : RecAF rec) (rok : RecOK P gl rec) {fuel : Nat} {lv fm : List Nat} {ck ck1 ck' : Ck} {c : Code} {k n : Nat} {x : AX} (e : prS lv fm (aRnd P gl rec fuel c k (ck.st nt m)) = some ck1) (q : Pr gl nt m n0 ck1 c n x ck') : Pr gl nt m n0 ck c (n + k) x ck' := by
  intro a w ρ Q s hQ
  unfold prS at e
  cases h1 : aRnd P gl rec fuel c k (ck.st nt m) with
  | none => rw [h1] at e; cases e
  | some st =>
    obtain ⟨tm', nt', h'⟩ := st
    rw [h1] at e
    dsimp only at e
    have hn : nt' = nt := (aRnd_AF ra k s.wf h1).2
    subst hn
    refine aRnd_wp hm ra rok k s.gl s.rep s.wf s.tm (fun F v hF _ => s.fresh F v hF) h1 fun a' w' ρ' ht' ho => ?_
    obtain ⟨s', b⟩ := s.step ht' ho e
    exact q a' w' ρ' Q s' fun a2 w2 ρ2 s2 b2 l2 => hQ a2 w2 ρ2 s2 (b.trans b2) (ho.ext.le.trans l2)

/-! ## Calls -/
structure HR (gl : Gl P) (m n0 : Nat) (fams : List (Nat × CF)) (next : Nat) (ρ : Rho) (w : World) : Prop where
  rep : Rep ρ (Ck.h m ⟨[], fams, next⟩).get w
  wf : Wf (Ck.h m ⟨[], fams, next⟩)
  gl : GlobOK ρ gl
  fresh : ∀ F v, next ≤ F → ρ F v = none
  own : ∀ F v L, m ≤ F → ρ F v = some L → n0 ≤ L.blk
  size : n0 ≤ w.heap.size
def PCall (gl : Gl P) (m n0 : Nat) (f : FuncId) (args : List AV) (fams : List (Nat × CF)) (next : Nat) (v : AV) (fams' : List (Nat × CF)) (next' : Nat) : Prop :=
  ∀ w ρ args', HR gl m n0 fams next ρ w → VRL ρ args args' → Calls P f ⟨args'⟩ w (fun e w' => ∃ x ρ', e = .returned x ∧ VR ρ' v x ∧ Le ρ ρ' ∧ HR gl m n0 fams' next' ρ' w' ∧ Below n0 w w')
def argL : List AV → Nat → List (Nat × AV)
  | [], _ => []
  | a :: r, i => (i, a) :: argL r (i + 1)
theorem argL_look : ∀ (l : List AV) (i t : Nat) (u : AV), aLook (argL l i) t = some u → i ≤ t ∧ l[t - i]? = some u
  | [], i, t, u, h => by cases h
  | a :: r, i, t, u, h => by
    simp only [argL, aLook] at h
    cases hb : Nat.beq i t with
    | true =>
      rw [hb] at h
      have := Nat.eq_of_beq_eq_true hb
      subst this
      exact ⟨Nat.le_refl _, by simpa using h⟩
    | false =>
      rw [hb] at h
      obtain ⟨h1, h2⟩ := argL_look r (i + 1) t u h
      refine ⟨by omega, ?_⟩
      rw [show t - i = (t - (i + 1)) + 1 by omega]
      simpa using h2
def oneOf : List AV → AV
  | [u] => u
  | vs => .tuple vs
theorem PCall.of {f : FuncId} {fn : Func} {c : Code} {args : List AV} {fams : List (Nat × CF)} {next : Nat} {x : AX} {ck : Ck} {vs : List AV} {v : AV} (hf : P.funcs[f]? = some fn) (hb : fn.body = some c) (hnt : max fn.ntmps args.length = nt)
    (p : Pc gl nt m n0 ⟨argL args 0, fams, next⟩ c x ck) (hx : x = .normal ∨ x = .ret) (hr : aRes P gl (listT ck.live) (ck.h m) fn.results.toList = some vs) (hv : oneOf vs = v) : PCall gl m n0 f args fams next v ck.fams ck.next := by
  intro w ρ args' s hav
  subst hnt hv
  have hal := hav.length
  have hsz : (⟨args'⟩ : Array Value).size = args.length := hal
  refine calls_of_wp hf hb ?_
  refine p _ w ρ _ ⟨s.rep, s.wf, ⟨?_, rfl, fun t => ?_⟩, s.gl, s.fresh, s.own, s.size⟩ fun a' w' ρ' s' b' l' => ?_
  · simp only [Array.size_append, Array.size_replicate, hsz]
    omega
  · cases hg : (listT (argL args 0)).get t with
    | none => trivial
    | some u =>
      obtain ⟨_, h2⟩ := argL_look args 0 t u (listT_get hg)
      rw [Nat.sub_zero] at h2
      obtain ⟨y, y1, y2⟩ := hav.get h2
      have hlt : t < args.length := (List.getElem?_eq_some_iff.1 h2).1
      show VR ρ u (((⟨args'⟩ : Array Value) ++ Array.replicate (fn.ntmps - (⟨args'⟩ : Array Value).size) undef).getD t undef)
      rw [Array.getD_eq_getD_getElem?, Array.getElem?_append_left (by omega), arr_get, y1]
      exact y2
  · obtain ⟨vs', g1, g2⟩ := aRes_some (P := P) (a := a') (fr := fun | .tmp t => pure (a'.tmps.getD t undef) | .cell a t => do loadVar t (← asAddr (a'.tmps.getD a undef))) (fun _ => rfl) (fun _ _ => rfl) s'.gl s'.rep s'.tm hr
    have hres : (results fn a'.tmps).run P w' = .ok (if h : vs'.length = 1 then vs'[0] else .tuple ⟨vs'⟩) w' := by
      unfold results
      rw [Sem.run_bind, Array.mapM_eq_mapM_toList, Sem.run_map]
      erw [g1]
      simp only [Result.andThen_ok, Sem.run_pure]
      congr 1
    have hVR : VR ρ' (oneOf vs) (if h : vs'.length = 1 then vs'[0] else .tuple ⟨vs'⟩) := by
      cases g2 with
      | nil => exact .tuple .nil
      | cons k1 k2 =>
        cases k2 with
        | nil => exact k1
        | cons k3 k4 =>
          rw [dif_neg (by simp)]
          exact .tuple (.cons k1 (.cons k3 k4))
    have hfin : HR gl m n0 ck.fams ck.next ρ' w' := ⟨s'.rep, s'.wf, s'.gl, s'.fresh, s'.own, s'.size⟩
    rcases hx with rfl | rfl
    · exact ⟨s'.tm.defers, _, hres, _, ρ', rfl, hVR, l', hfin, b'⟩
    · exact ⟨s'.tm.defers, _, hres, _, ρ', rfl, hVR, l', hfin, b'⟩

noncomputable def repick (l : List (Nat × AV)) : List Nat → Option (List (Nat × AV))
  | [] => some []
  | t :: r => match aLook l t with
    | none => none
    | some v => match repick l r with
      | none => none
      | some l' => some ((t, v) :: l')
theorem repick_some {l : List (Nat × AV)} : ∀ {lv : List Nat} {l' : List (Nat × AV)}, repick l lv = some l' → ∀ t v, aLook l' t = some v → aLook l t = some v
  | [], l', h, t, v, e => by simp only [repick] at h; injection h with h; subst h; cases e
  | u :: r, l', h, t, v, e => by
    simp only [repick] at h
    cases hu : aLook l u with
    | none => rw [hu] at h; cases h
    | some x =>
      rw [hu] at h
      dsimp only at h
      cases hr : repick l r with
      | none => rw [hr] at h; cases h
      | some l2 =>
        rw [hr] at h
        injection h with h
        subst h
        simp only [aLook] at e
        cases hb : Nat.beq u t with
        | true =>
          rw [hb] at e
          have e2 : x = v := Option.some.inj e
          have hb := Nat.eq_of_beq_eq_true hb
          subst hb
          subst e2
          exact hu
        | false => rw [hb] at e; exact repick_some hr t v e

/-- One operation of a region that calls a function: its run is known by itself. -/
theorem Ps.call {ck ck1 ck' : Ck} {ops : Array Oper} {i k : Nat} {o : Oper} {f : FuncId} {args : List AV} {v : AV} {d : Tmp} {lv : List Nat} {fams' : List (Nat × CF)} {next' : Nat} {live' : List (Nat × AV)} (e1 : ops[i]? = some o)
    (hkn : aKnown ops (listT ck.live) o = true) (hw : aWanted ops (listT ck.live) nt o = true) (hop : aOp P gl (listT ck.live) (ck.h m) o = some (.enter f args, ck.h m)) (hd : o.dst = some d) (hdn : Nat.blt d nt = true)
    (pc : PCall gl m n0 f args ck.fams ck.next v fams' next') (hl : repick ((d, v) :: ck.live) lv = some live') (h1 : ck1 = ⟨live', fams', next'⟩) (q : Ps gl nt m n0 ck1 ops (i + 1) k ck') : Ps gl nt m n0 ck ops i (k + 1) ck' := by
  subst h1
  intro a w ρ Q s hQ
  have hwant := aWanted_eq (ρ := ρ) (ops := ops) (tm := listT ck.live) (o := o) hkn s.tm.size (fun t _ => s.tm.val t)
  have hev : ∀ y ∈ o.op.operands, ∀ b, aEval gl (listT ck.live) y = some b → VR ρ b (a.eval y) := fun y hy b e => aEval_sound s.gl (fun t _ => s.tm.val t) e
  obtain ⟨_, args', g1, g2⟩ := aOp_sound s.rep s.wf hev hop
  rw [List.range'_succ, wpOps_cons]
  unfold wpOp
  simp only [e1, ← hwant, hw, if_true]
  refine .inl ?_
  unfold Oper.wp
  rw [g1]
  refine Calls.mono (pc w ρ args' ⟨s.rep, s.wf, s.gl, s.fresh, s.own, s.size⟩ g2) fun e w' he => ?_
  obtain ⟨x, ρ', rfl, k1, k2, k3, k4⟩ := he
  have hdn : d < nt := of_decide_eq_true ((blt_eq _ _) ▸ hdn)
  refine q (a.put o.dst x) w' ρ' Q ⟨k3.rep, k3.wf, ⟨by rw [put_size]; exact s.tm.size, by rw [put_defers]; exact s.tm.defers, fun t => ?_⟩, k3.gl, k3.fresh, k3.own, k3.size⟩ fun a2 w2 ρ2 s2 b2 l2 => hQ a2 w2 ρ2 s2 (k4.trans b2) (k2.trans l2)
  cases hg : (listT live').get t with
  | none => trivial
  | some u =>
    have hlook := repick_some hl t u (listT_get hg)
    show VR ρ' u _
    rw [put_get a o.dst x (by rw [s.tm.size, hd]; intro t ht; injection ht with ht; exact ht ▸ hdn) t, hd]
    simp only [aLook] at hlook
    cases hb : Nat.beq d t with
    | true =>
      rw [hb] at hlook
      have := Nat.eq_of_beq_eq_true hb
      subst this
      have hu : v = u := Option.some.inj hlook
      subst hu
      rw [if_pos rfl]
      exact k1
    | false =>
      rw [hb] at hlook
      have hne : ¬ (some d = some t) := fun h => Nat.ne_of_beq_eq_false hb (Option.some.inj h)
      rw [if_neg hne]
      have hlook : aLook ck.live t = some u := hlook
      have := s.tm.val t
      rw [listT_eq, hlook] at this
      exact VR.mono k2 this
end

/-! ## The parts of a piece of code -/
def opC (ops : Array Oper) (i : Nat) : Oper := ops[i]!
def thenC : Code → Code
  | .cond _ a _ => a
  | c => c
def elseC : Code → Code
  | .cond _ _ b => b
  | c => c
def condC : Code → Operand
  | .cond c _ _ => c
  | _ => .func 0
def innerC : Code → Code
  | .block _ b => b
  | .loop b => b
  | .scope b => b
  | c => c
def blockC : Code → Nat
  | .block id _ => id
  | _ => 0
end Go.Proofs.YtcigfmnkfelhjaaDoor.Am
