/- The abstract machine: every operation. -/
import Derived.Test.YtcegbcjcmcpjgaaDoorAm8
set_option linter.unusedVariables false
set_option linter.unusedSimpArgs false
namespace Go.Proofs.YtcegbcjcmcpjgaaDoor.Am
open Go

section
variable {P : Program} {gl : Gl P} {ρ : Rho} {h : AH} {w : World} {tm : Tr AV} {ev : Operand → Value} {o : Oper}

/-- What a step of the abstract machine says of the operation. -/
def OpOut (P : Program) (ρ : Rho) (h : AH) (w : World) (ev : Operand → Value) (o : Oper) : AN × AH → Prop
  | (.val v, h') => h.next ≤ h'.next ∧ (Fresh ρ h.next h'.next → ∃ nx v' w' ρ', (execOp ev o).run P w = .ok nx w' ∧ (nx = .value v' ∨ (nx = .skip ∧ v' = undef)) ∧ VR ρ' v v' ∧ Out ρ h w ρ' h' w')
  | (.enter f args, h') => h' = h ∧ ∃ args', (execOp ev o).run P w = .ok (.enter f ⟨args'⟩) w ∧ VRL ρ args args'

theorem OpOut.pure {v : AV} {v' : Value} (r : Rep ρ h.get w) (wf : Wf h) (e : (execOp ev o).run P w = .ok (.value v') w) (hv : VR ρ v v') : OpOut P ρ h w ev o (.val v, h) :=
  ⟨Nat.le_refl _, fun _ => ⟨_, v', w, ρ, e, .inl rfl, hv, .refl r wf⟩⟩

theorem aEval_ok (hev : ∀ x ∈ o.op.operands, ∀ a, aEval gl tm x = some a → VR ρ a (ev x)) {x : Operand} {a : AV} (hx : x ∈ o.op.operands) (e : aEval gl tm x = some a) : VR ρ a (ev x) := hev x hx a e

theorem evO_some {x : Option Operand} {a : Option AV} (hev : ∀ y ∈ x.toArray, ∀ a, aEval gl tm y = some a → VR ρ a (ev y)) (e : evO gl tm x = some a) : OV ρ a (x.map ev) := by
  cases x with
  | none => simp only [evO] at e; injection e with e; subst e; trivial
  | some y =>
    simp only [evO] at e
    cases h1 : aEval gl tm y with
    | none => rw [h1] at e; cases e
    | some v => rw [h1] at e; injection e with e; subst e; exact hev y (by simp) v h1

theorem run_enter {f : FuncId} (h : enterB P f = true) (args : Array Value) (w : World) : (callFunc f args).run P w = .ok (.enter f args) w := by
  unfold enterB at h
  cases hf : P.funcs[f]? with
  | none => rw [hf] at h; cases h
  | some fn =>
    rw [hf] at h
    dsimp only at h
    cases hb : fn.body.isNone with
    | true => rw [hb] at h; cases h
    | false =>
      rw [hb] at h
      simp only [cond_false, Bool.not_eq_true'] at h
      simp only [callFunc, Sem.run_bind, run_program, Result.andThen_ok, hf, h, Bool.false_eq_true, if_false, hb, Sem.run_pure]

theorem toBytesK_some {R : Type} : ∀ (cs : List AV) {k : List Nat → Option R} {res : R}, toBytesK cs k = some res → ∃ ns : List Int, cs = ns.map (AV.int .u8) ∧ k (ns.map fun n => n.toNat % 256) = some res
  | [], k, res, h => ⟨[], rfl, h⟩
  | .int .u8 n :: r, k, res, h => by
    simp only [toBytesK, fN_eq] at h
    obtain ⟨ns, e1, e2⟩ := toBytesK_some r h
    exact ⟨n :: ns, by rw [e1]; rfl, e2⟩
  | .bool _ :: _, k, res, h => by cases h
  | .int .i8 _ :: _, k, res, h => by cases h
  | .int .i16 _ :: _, k, res, h => by cases h
  | .int .i32 _ :: _, k, res, h => by cases h
  | .int .i64 _ :: _, k, res, h => by cases h
  | .int .u16 _ :: _, k, res, h => by cases h
  | .int .u32 _ :: _, k, res, h => by cases h
  | .int .u64 _ :: _, k, res, h => by cases h
  | .str _ :: _, k, res, h => by cases h
  | .unk _ :: _, k, res, h => by cases h
  | .nilptr :: _, k, res, h => by cases h
  | .ptr .. :: _, k, res, h => by cases h
  | .nilsl :: _, k, res, h => by cases h
  | .sl .. :: _, k, res, h => by cases h
  | .nilmap :: _, k, res, h => by cases h
  | .map _ :: _, k, res, h => by cases h
  | .func .. :: _, k, res, h => by cases h
  | .nilfunc :: _, k, res, h => by cases h
  | .iface .. :: _, k, res, h => by cases h
  | .niliface :: _, k, res, h => by cases h
  | .agg _ :: _, k, res, h => by cases h
  | .tuple _ :: _, k, res, h => by cases h
theorem VRL.ints : ∀ {ns : List Int} {l' : List Value}, VRL ρ (ns.map (AV.int .u8)) l' → l' = ns.map (Value.int .u8)
  | [], _, .nil => rfl
  | n :: ns, _, .cons h h' => by
    cases h
    rw [VRL.ints h']
    rfl

theorem aBin_run {d : TypeDesc} {op : BinOp} {t : TypeId} {x y : AV} {x' y' : Value} {v : AV} {xo yo : Operand} (hd : ∀ d, P.underlying t = d → True) (hx : VR ρ x x') (hy : VR ρ y y') (hb : aBin (fun _ => P.underlying t) op x y = some v) (w : World) :
    ∃ v', (do eqGuard op t xo yo x' y'; binOp op t x' y' : Sem Value).run P w = .ok v' w ∧ VR ρ v v' := by
  -- the guard says nothing of these
  have key : ∀ (x' y' : Value), (¬ (x' = .nilIface ∧ y' = .nilIface)) → (∀ c, x' ≠ .agg c) → (eqGuard op t xo yo x' y').run P w = .ok () w := by
    intro x' y' h1 h2
    unfold eqGuard
    split <;> simp only [Bool.not_true, Bool.not_false, Bool.false_eq_true, if_false, if_true, Sem.run_pure]
    all_goals (split <;> first | rfl | exact absurd ⟨rfl, rfl⟩ h1 | exact absurd rfl (h2 _))
  have eqs : ∀ (b : Bool), aEq (P.underlying t) x y = some b → (op = .eql → ∃ v', (do eqGuard op t xo yo x' y'; binOp op t x' y' : Sem Value).run P w = .ok v' w ∧ v' = .bool b) ∧ (op = .neq → ∃ v', (do eqGuard op t xo yo x' y'; binOp op t x' y' : Sem Value).run P w = .ok v' w ∧ v' = .bool (!b)) := by
    intro b hb
    obtain ⟨e1, e2, e3, e4, e5, e6, e7⟩ := aEq_run (w := w) hx hy hb
    have e8 := key x' y' e4 e5
    constructor
    · rintro rfl
      refine ⟨_, ?_, rfl⟩
      simp only [Sem.run_bind, e8, Result.andThen_ok]
      unfold binOp
      split <;> first
        | (simp only [Sem.run_bind, e1, Result.andThen_ok, Sem.run_pure]; done)
        | (exfalso; first | exact e2 _ _ rfl | exact e3 _ rfl | exact e6 _ _ rfl | exact e7 _ _ _ rfl | simp_all)
        | skip
      all_goals first
        | rfl
        | (rename_i h; exact absurd rfl h)
        | (simp_all; done)
    · rintro rfl
      refine ⟨_, ?_, rfl⟩
      simp only [Sem.run_bind, e8, Result.andThen_ok]
      unfold binOp
      split <;> first
        | (simp only [Sem.run_bind, e1, Result.andThen_ok, Sem.run_pure]; done)
        | (exfalso; first | exact e2 _ _ rfl | exact e3 _ rfl | exact e6 _ _ rfl | exact e7 _ _ _ rfl | simp_all)
        | skip
      all_goals first
        | rfl
        | (rename_i h; exact absurd rfl h)
        | (simp_all; done)
  unfold aBin at hb
  split at hb
  · rename_i k a k' b
    cases hx; cases hy
    have e8 := key (.int k a) (.int k' b) (by simp) (by simp)
    split at hb
    · have h1 := hb
      cases hl : ltI b 0 with
      | true => rw [hl] at hb; cases hb
      | false =>
        rw [hl] at hb
        simp only [cond_false] at hb
        rw [ltI_eq] at hl
        have hl := of_decide_eq_false hl
        rw [wrapI_eq] at hb
        rw [intK_some hb]
        refine ⟨.int k (k.wrap (a * 2 ^ (min b.toNat k.bits))), ?_, ?_⟩
        · simp only [Sem.run_bind, e8, Result.andThen_ok, binOp, Op.shift, hl, if_false]
          rfl
        · rw [show (Int.ofNat (Nat.pow 2 (min b.toNat k.bits))) = (2 : Int) ^ (min b.toNat k.bits) by
            show ((2 ^ (min b.toNat k.bits) : Nat) : Int) = _
            simp]
          exact .int _ _
    · cases hl : ltI b 0 with
      | true => rw [hl] at hb; cases hb
      | false =>
        rw [hl] at hb
        simp only [cond_false] at hb
        rw [ltI_eq] at hl
        have hl := of_decide_eq_false hl
        rw [intK_some hb]
        refine ⟨.int k (a.fdiv (2 ^ (min b.toNat k.bits))), ?_, ?_⟩
        · simp only [Sem.run_bind, e8, Result.andThen_ok, binOp, Op.shift, hl, if_false]
          rfl
        · rw [show (Int.ofNat (Nat.pow 2 (min b.toNat k.bits))) = (2 : Int) ^ (min b.toNat k.bits) by
            show ((2 ^ (min b.toNat k.bits) : Nat) : Int) = _
            simp]
          exact .int _ _
    · rename_i hs1 hs2
      have hk := (cond_some hb).1
      replace hb := (cond_some hb).2
      obtain rfl := (eqK_iff _ _).1 hk
      obtain ⟨v', q1, q2⟩ := aInt_run (P := P) (w := w) (ρ := ρ) t (fun e => hs1 e) (fun e => hs2 e) hb
      refine ⟨v', ?_, q2⟩
      simp only [Sem.run_bind, e8, Result.andThen_ok, q1]
  · rename_i a b
    cases hx; cases hy
    rename_i s1 s2
    obtain ⟨v', q1, q2⟩ := aStr_run (P := P) (w := w) (ρ := ρ) t hb
    refine ⟨v', ?_, q2⟩
    have e8 := key (.string s1) (.string s2) (by simp) (by simp)
    simp only [Sem.run_bind, e8, Result.andThen_ok, q1]
  · split at hb
    · cases he : aEq (P.underlying t) x y with
      | none => rw [he] at hb; cases hb
      | some b =>
        rw [he] at hb; injection hb with hb; subst hb
        obtain ⟨v', q1, rfl⟩ := (eqs b he).1 rfl
        exact ⟨_, q1, .bool _⟩
    · cases he : aEq (P.underlying t) x y with
      | none => rw [he] at hb; cases hb
      | some b =>
        rw [he] at hb; injection hb with hb; subst hb
        obtain ⟨v', q1, rfl⟩ := (eqs b he).2 rfl
        exact ⟨_, q1, .bool _⟩
    · cases hb
theorem aUn_run {op : UnOp} {x : AV} {x' : Value} {v : AV} (hx : VR ρ x x') (hb : aUn op x = some v) (w : World) : ∃ v', (Op.unary op x').run P w = .ok v' w ∧ VR ρ v v' := by
  unfold aUn at hb
  split at hb
  · cases hx
    rw [wrapI_eq] at hb
    rw [intK_some hb]
    exact ⟨_, by simp only [Op.unary, Op.intArith, Sem.run_pure], .int _ _⟩
  · cases hx
    rw [intK_some hb]
    exact ⟨_, by simp only [Op.unary, Op.intBits, Sem.run_pure], .int _ _⟩
  · cases hx
    injection hb with hb; subst hb
    exact ⟨_, by simp only [Op.unary, Sem.run_pure], .bool _⟩
  · cases hb
end
end Go.Proofs.YtcegbcjcmcpjgaaDoor.Am
