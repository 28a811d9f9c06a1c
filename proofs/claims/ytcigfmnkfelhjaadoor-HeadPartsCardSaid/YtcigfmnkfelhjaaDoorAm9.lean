/- The abstract machine: every operation. -/
import Derived.Test.YtcigfmnkfelhjaaDoorAm8
import Derived.Laws.RangeString
set_option linter.unusedVariables false
set_option linter.unusedSimpArgs false
namespace Go.Proofs.YtcigfmnkfelhjaaDoor.Am
open Go

section
variable {P : Program} {gl : Gl P} {ρ : Rho} {h : AH} {w : World} {tm : Tr AV} {ev : Operand → Value} {o : Oper}

/-- What a step of the abstract machine says of the operation. -/
def OpOut (P : Program) (ρ : Rho) (h : AH) (w : World) (ev : Operand → Value) (o : Oper) : AN × AH → Prop
  | (.val v, h') => h.next ≤ h'.next ∧ (Fresh ρ h.next h'.next → ∃ nx v' w' ρ', (execOp ev o).run P w = .ok nx w' ∧ (nx = .value v' ∨ (nx = .skip ∧ v' = undef)) ∧ VR ρ' v v' ∧ Out ρ h w ρ' h' w')
  | (.enter f args, h') => h' = h ∧ ∃ args', (execOp ev o).run P w = .ok (.enter f ⟨args'⟩) w ∧ VRL ρ args args'

theorem OpOut.pure {v : AV} {v' : Value} (r : Rep ρ h.get w) (wf : Wf h) (e : (execOp ev o).run P w = .ok (.value v') w) (hv : VR ρ v v') : OpOut P ρ h w ev o (.val v, h) :=
  ⟨Nat.le_refl _, fun _ => ⟨_, v', w, ρ, e, .inl rfl, hv, .refl r wf⟩⟩

theorem aEval_ok (hev : ∀ x ∈ o.op.operands, ∀ a, aEval gl tm x = some a → VR ρ a (ev x)) {x : Operand} {a : AV} (hx : x ∈ o.op.operands) (e : aEval gl tm x = some a) : VR ρ a (ev x) := hev x hx a e

theorem evO_some {x : Option Operand} {a : Option AV} (hev : ∀ y ∈ x.toArray, ∀ a, aEval gl tm y = some a → VR ρ a (ev y)) (e : evO gl tm x = some a) : OV ρ a (x.map ev) := by
  cases x with
  | none => simp only [evO] at e; injection e with e; subst e; trivial
  | some y =>
    simp only [evO] at e
    cases h1 : aEval gl tm y with
    | none => rw [h1] at e; cases e
    | some v => rw [h1] at e; injection e with e; subst e; exact hev y (by simp) v h1

theorem run_enter {f : FuncId} (h : enterB P f = true) (args : Array Value) (w : World) : (callFunc f args).run P w = .ok (.enter f args) w := by
  unfold enterB at h
  cases hf : P.funcs[f]? with
  | none => rw [hf] at h; cases h
  | some fn =>
    rw [hf] at h
    dsimp only at h
    cases hb : fn.body.isNone with
    | true => rw [hb] at h; cases h
    | false =>
      rw [hb] at h
      simp only [cond_false, Bool.not_eq_true'] at h
      simp only [callFunc, Sem.run_bind, run_program, Result.andThen_ok, hf, h, Bool.false_eq_true, if_false, hb, Sem.run_pure]

theorem toBytesK_some {R : Type} : ∀ (cs : List AV) {k : List Nat → Option R} {res : R}, toBytesK cs k = some res → ∃ ns : List Int, cs = ns.map (AV.int .u8) ∧ k (ns.map fun n => n.toNat % 256) = some res
  | [], k, res, h => ⟨[], rfl, h⟩
  | .int .u8 n :: r, k, res, h => by
    simp only [toBytesK, fN_eq] at h
    obtain ⟨ns, e1, e2⟩ := toBytesK_some r h
    exact ⟨n :: ns, by rw [e1]; rfl, e2⟩
  | .bool _ :: _, k, res, h => by cases h
  | .int .i8 _ :: _, k, res, h => by cases h
  | .int .i16 _ :: _, k, res, h => by cases h
  | .int .i32 _ :: _, k, res, h => by cases h
  | .int .i64 _ :: _, k, res, h => by cases h
  | .int .u16 _ :: _, k, res, h => by cases h
  | .int .u32 _ :: _, k, res, h => by cases h
  | .int .u64 _ :: _, k, res, h => by cases h
  | .str _ :: _, k, res, h => by cases h
  | .unk _ :: _, k, res, h => by cases h
  | .nilptr :: _, k, res, h => by cases h
  | .ptr .. :: _, k, res, h => by cases h
  | .nilsl :: _, k, res, h => by cases h
  | .sl .. :: _, k, res, h => by cases h
  | .nilmap :: _, k, res, h => by cases h
  | .map _ :: _, k, res, h => by cases h
  | .func .. :: _, k, res, h => by cases h
  | .nilfunc :: _, k, res, h => by cases h
  | .iface .. :: _, k, res, h => by cases h
  | .niliface :: _, k, res, h => by cases h
  | .agg _ :: _, k, res, h => by cases h
  | .tuple _ :: _, k, res, h => by cases h
theorem toNumsK_some {R : Type} : ∀ (cs : List AV) {k : List Nat → Option R} {res : R}, toNumsK cs k = some res → ∃ l : List Nat, cs = l.map (fun n => AV.int .u8 (.ofNat n)) ∧ (∀ x ∈ l, x < 256) ∧ k l = some res
  | [], k, res, h => ⟨[], rfl, fun x hx => (by cases hx), h⟩
  | .int .u8 (.ofNat n) :: r, k, res, h => by
    have hlt := of_decide_eq_true ((blt_eq _ _) ▸ (cond_some h).1)
    obtain ⟨l, g1, g2, g3⟩ := toNumsK_some r (cond_some h).2
    exact ⟨n :: l, by rw [g1]; rfl, fun x hx => by
      rcases List.mem_cons.1 hx with rfl | hx
      · exact hlt
      · exact g2 x hx, g3⟩
  | .int .u8 (.negSucc _) :: _, k, res, h => by cases h
  | .bool _ :: _, k, res, h => by cases h
  | .int .i8 _ :: _, k, res, h => by cases h
  | .int .i16 _ :: _, k, res, h => by cases h
  | .int .i32 _ :: _, k, res, h => by cases h
  | .int .i64 _ :: _, k, res, h => by cases h
  | .int .u16 _ :: _, k, res, h => by cases h
  | .int .u32 _ :: _, k, res, h => by cases h
  | .int .u64 _ :: _, k, res, h => by cases h
  | .str _ :: _, k, res, h => by cases h
  | .unk _ :: _, k, res, h => by cases h
  | .nilptr :: _, k, res, h => by cases h
  | .ptr .. :: _, k, res, h => by cases h
  | .nilsl :: _, k, res, h => by cases h
  | .sl .. :: _, k, res, h => by cases h
  | .nilmap :: _, k, res, h => by cases h
  | .map _ :: _, k, res, h => by cases h
  | .func .. :: _, k, res, h => by cases h
  | .nilfunc :: _, k, res, h => by cases h
  | .iface .. :: _, k, res, h => by cases h
  | .niliface :: _, k, res, h => by cases h
  | .agg _ :: _, k, res, h => by cases h
  | .tuple _ :: _, k, res, h => by cases h
theorem VRL.ints : ∀ {ns : List Int} {l' : List Value}, VRL ρ (ns.map (AV.int .u8)) l' → l' = ns.map (Value.int .u8)
  | [], _, .nil => rfl
  | n :: ns, _, .cons h h' => by
    cases h
    rw [VRL.ints h']
    rfl

theorem aBin_run {d : TypeDesc} {op : BinOp} {t : TypeId} {x y : AV} {x' y' : Value} {v : AV} {xo yo : Operand} (hd : ∀ d, P.underlying t = d → True) (hx : VR ρ x x') (hy : VR ρ y y') (hb : aBin (fun _ => P.underlying t) op x y = some v) (w : World) :
    ∃ v', (do eqGuard op t xo yo x' y'; binOp op t x' y' : Sem Value).run P w = .ok v' w ∧ VR ρ v v' := by
  -- the guard says nothing of these
  have key : ∀ (x' y' : Value), (¬ (x' = .nilIface ∧ y' = .nilIface)) → (∀ c, x' ≠ .agg c) → (eqGuard op t xo yo x' y').run P w = .ok () w := by
    intro x' y' h1 h2
    unfold eqGuard
    split <;> simp only [Bool.not_true, Bool.not_false, Bool.false_eq_true, if_false, if_true, Sem.run_pure]
    all_goals (split <;> first | rfl | exact absurd ⟨rfl, rfl⟩ h1 | exact absurd rfl (h2 _))
  have eqs : ∀ (b : Bool), aEq (P.underlying t) x y = some b → (op = .eql → ∃ v', (do eqGuard op t xo yo x' y'; binOp op t x' y' : Sem Value).run P w = .ok v' w ∧ v' = .bool b) ∧ (op = .neq → ∃ v', (do eqGuard op t xo yo x' y'; binOp op t x' y' : Sem Value).run P w = .ok v' w ∧ v' = .bool (!b)) := by
    intro b hb
    obtain ⟨e1, e2, e3, e4, e5, e6, e7⟩ := aEq_run (w := w) hx hy hb
    have e8 := key x' y' e4 e5
    constructor
    · rintro rfl
      refine ⟨_, ?_, rfl⟩
      simp only [Sem.run_bind, e8, Result.andThen_ok]
      unfold binOp
      split <;> first
        | (simp only [Sem.run_bind, e1, Result.andThen_ok, Sem.run_pure]; done)
        | (exfalso; first | exact e2 _ _ rfl | exact e3 _ rfl | exact e6 _ _ rfl | exact e7 _ _ _ rfl | simp_all)
        | skip
      all_goals first
        | rfl
        | (rename_i h; exact absurd rfl h)
        | (simp_all; done)
    · rintro rfl
      refine ⟨_, ?_, rfl⟩
      simp only [Sem.run_bind, e8, Result.andThen_ok]
      unfold binOp
      split <;> first
        | (simp only [Sem.run_bind, e1, Result.andThen_ok, Sem.run_pure]; done)
        | (exfalso; first | exact e2 _ _ rfl | exact e3 _ rfl | exact e6 _ _ rfl | exact e7 _ _ _ rfl | simp_all)
        | skip
      all_goals first
        | rfl
        | (rename_i h; exact absurd rfl h)
        | (simp_all; done)
  unfold aBin at hb
  split at hb
  · rename_i k a k' b
    cases hx; cases hy
    have e8 := key (.int k a) (.int k' b) (by simp) (by simp)
    split at hb
    · have h1 := hb
      cases hl : ltI b 0 with
      | true => rw [hl] at hb; cases hb
      | false =>
        rw [hl] at hb
        simp only [cond_false] at hb
        rw [ltI_eq] at hl
        have hl := of_decide_eq_false hl
        rw [wrapI_eq] at hb
        rw [intK_some hb]
        refine ⟨.int k (k.wrap (a * 2 ^ (min b.toNat k.bits))), ?_, ?_⟩
        · simp only [Sem.run_bind, e8, Result.andThen_ok, binOp, Op.shift, hl, if_false]
          rfl
        · rw [show (Int.ofNat (Nat.pow 2 (min b.toNat k.bits))) = (2 : Int) ^ (min b.toNat k.bits) by
            show ((2 ^ (min b.toNat k.bits) : Nat) : Int) = _
            simp]
          exact .int _ _
    · cases hl : ltI b 0 with
      | true => rw [hl] at hb; cases hb
      | false =>
        rw [hl] at hb
        simp only [cond_false] at hb
        rw [ltI_eq] at hl
        have hl := of_decide_eq_false hl
        rw [intK_some hb]
        refine ⟨.int k (a.fdiv (2 ^ (min b.toNat k.bits))), ?_, ?_⟩
        · simp only [Sem.run_bind, e8, Result.andThen_ok, binOp, Op.shift, hl, if_false]
          rfl
        · rw [show (Int.ofNat (Nat.pow 2 (min b.toNat k.bits))) = (2 : Int) ^ (min b.toNat k.bits) by
            show ((2 ^ (min b.toNat k.bits) : Nat) : Int) = _
            simp]
          exact .int _ _
    · rename_i hs1 hs2
      have hk := (cond_some hb).1
      replace hb := (cond_some hb).2
      obtain rfl := (eqK_iff _ _).1 hk
      obtain ⟨v', q1, q2⟩ := aInt_run (P := P) (w := w) (ρ := ρ) t (fun e => hs1 e) (fun e => hs2 e) hb
      refine ⟨v', ?_, q2⟩
      simp only [Sem.run_bind, e8, Result.andThen_ok, q1]
  · rename_i a b
    cases hx; cases hy
    rename_i s1 s2
    obtain ⟨v', q1, q2⟩ := aStr_run (P := P) (w := w) (ρ := ρ) t hb
    refine ⟨v', ?_, q2⟩
    have e8 := key (.string s1) (.string s2) (by simp) (by simp)
    simp only [Sem.run_bind, e8, Result.andThen_ok, q1]
  · split at hb
    · cases he : aEq (P.underlying t) x y with
      | none => rw [he] at hb; cases hb
      | some b =>
        rw [he] at hb; injection hb with hb; subst hb
        obtain ⟨v', q1, rfl⟩ := (eqs b he).1 rfl
        exact ⟨_, q1, .bool _⟩
    · cases he : aEq (P.underlying t) x y with
      | none => rw [he] at hb; cases hb
      | some b =>
        rw [he] at hb; injection hb with hb; subst hb
        obtain ⟨v', q1, rfl⟩ := (eqs b he).2 rfl
        exact ⟨_, q1, .bool _⟩
    · cases hb
theorem aUn_run {op : UnOp} {x : AV} {x' : Value} {v : AV} (hx : VR ρ x x') (hb : aUn op x = some v) (w : World) : ∃ v', (Op.unary op x').run P w = .ok v' w ∧ VR ρ v v' := by
  unfold aUn at hb
  split at hb
  · cases hx
    rw [wrapI_eq] at hb
    rw [intK_some hb]
    exact ⟨_, by simp only [Op.unary, Op.intArith, Sem.run_pure], .int _ _⟩
  · cases hx
    rw [intK_some hb]
    exact ⟨_, by simp only [Op.unary, Op.intBits, Sem.run_pure], .int _ _⟩
  · cases hx
    injection hb with hb; subst hb
    exact ⟨_, by simp only [Op.unary, Sem.run_pure], .bool _⟩
  · cases hb
/-! ## Bytes and numbers -/
theorem toU_length : ∀ l : List Nat, (toU l).length = l.length
  | [] => rfl
  | b :: r => by simp [toU, toU_length r]
theorem toU_get : ∀ (l : List Nat) (j : Nat), (toU l)[j]? = (l[j]?).map UInt8.ofNat
  | [], j => rfl
  | b :: r, 0 => rfl
  | b :: r, j + 1 => by simpa [toU] using toU_get r j
theorem ofBytes_toU : ∀ l : List Nat, (∀ x ∈ l, x < 256) → ofBytes (toU l) = l
  | [], _ => rfl
  | b :: r, h => by
    have hb : (UInt8.ofNat b).toNat = b := by
      rw [UInt8.toNat_ofNat']
      exact Nat.mod_eq_of_lt (h b List.mem_cons_self)
    simp only [toU, ofBytes, hb, ofBytes_toU r fun x hx => h x (List.mem_cons_of_mem _ hx)]
theorem toU_ofBytes : ∀ l : List UInt8, toU (ofBytes l) = l
  | [] => rfl
  | b :: r => by simp [toU, ofBytes, toU_ofBytes r]

/-! ## Maps -/
theorem sameKey_run {d : TypeDesc} {k k2 : AV} {k' k2' : Value} {b : Bool} (hb : keyB d k = true) (hk : VR ρ k k') (hk2 : VR ρ k2 k2') (h : sameKeyA k k2 = some b) :
    Instr.sameNow d k' k2' = some b ∧ (b = true → ∀ n, Instr.sameBits n k2' k' = true) := by
  unfold sameKeyA at h
  split at h
  · rename_i j a j' a'
    obtain ⟨h1, h2⟩ := cond_some h
    have := (eqK_iff _ _).1 h1
    subst this
    injection h2 with h2
    subst h2
    cases hk; cases hk2
    cases d <;> simp only [keyB] at hb <;> first | (cases hb; done) | skip
    rw [eqI_eq]
    refine ⟨by simp [Instr.sameNow], fun e n => ?_⟩
    have : a = a' := by simpa using e
    subst this
    cases n <;> simp [Instr.sameBits]
  · rename_i a a'
    injection h with h
    cases hk with
    | str s =>
    cases hk2 with
    | str s2 =>
    rw [eqL_eq] at h
    cases d <;> simp only [keyB] at hb <;> first | (cases hb; done) | skip
    have e0 : (s == s2) = (s.data == s2.data) := rfl
    have e : (s == s2) = (s.data.toList == s2.data.toList) := by
      rw [e0]
      by_cases hs : s = s2
      · subst hs; simp
      · have h1 : s.data ≠ s2.data := fun e => hs (ByteArray.ext e)
        have h2 : s.data.toList ≠ s2.data.toList := fun e => h1 (Array.ext' e)
        rw [beq_eq_false_iff_ne.2 h1, beq_eq_false_iff_ne.2 h2]
    refine ⟨by simp only [Instr.sameNow]; rw [e, h], fun e2 n => ?_⟩
    subst e2
    have : s = s2 := by
      have : s.data.toList = s2.data.toList := by simpa using h
      exact ByteArray.ext (Array.ext' this)
    subst this
    have hss : (s == s) = true := by rw [e]; simp
    cases n <;> simp only [Instr.sameBits, hss]
  · cases h

theorem findA_run {d : TypeDesc} {k : AV} {k' : Value} (hb : keyB d k = true) (hk : VR ρ k k') : ∀ {es : List (AV × AV × Nat)} {es' : List MapEntry}, EntR ρ es es' → ∀ {r : Option AV}, findA k es = some r → ∀ i : Nat,
    (r = none ∧ Instr.findNow d k' es' i = some none) ∨ ∃ v j v', r = some v ∧ Instr.findNow d k' es' i = some (some (j, v')) ∧ VR ρ v v'
  | _, _, .nil, r, h, i => by
    simp only [findA] at h
    injection h with h
    exact .inl ⟨h.symm, rfl⟩
  | _, _, .cons (k := k2) (v := v2) (e := e) hk2 hv he0 he, r, h, i => by
    simp only [findA] at h
    cases hs : sameKeyA k k2 with
    | none => rw [hs] at h; cases h
    | some b =>
      rw [hs] at h
      have h1 := (sameKey_run hb hk hk2 hs).1
      cases b with
      | true =>
        injection h with h
        exact .inr ⟨v2, i, e.val, h.symm, by simp only [Instr.findNow, h1], hv⟩
      | false =>
        rcases findA_run hb hk he h (i + 1) with ⟨g1, g2⟩ | ⟨v, j, v', g1, g2, g3⟩
        · exact .inl ⟨g1, by simp only [Instr.findNow, h1, g2]⟩
        · exact .inr ⟨v, j, v', g1, by simp only [Instr.findNow, h1, g2], g3⟩

theorem updA_run {d : TypeDesc} {k v : AV} {k' v' : Value} {ck : Nat} (hb : keyB d k = true) (hk : VR ρ k k') (hv' : VR ρ v v') : ∀ {es : List (AV × AV × Nat)} {es' : List MapEntry}, EntR ρ es es' → ∀ {r : List (AV × AV × Nat)} {fd : Bool}, updA k v ck es = some (r, fd) → ∀ i : Nat,
    (fd = true ∧ ∃ j x e, Instr.findNow d k' es' i = some (some (i + j, x)) ∧ es'[j]? = some e ∧ (∀ n, Instr.sameBits n e.key k' = true) ∧ EntR ρ r (es'.modify j fun e => { e with key := k', val := v' })) ∨
    (fd = false ∧ Instr.findNow d k' es' i = some none ∧ EntR ρ r (es' ++ [{ key := k', val := v', born := ck }]))
  | _, _, .nil, r, fd, h, i => by
    simp only [updA] at h
    injection h with h
    injection h with h1 h2
    subst h1 h2
    exact .inr ⟨rfl, rfl, .cons hk hv' rfl .nil⟩
  | _, _, .cons (k := k2) (v := v2) (e := e) hk2 hv he0 he, r, fd, h, i => by
    simp only [updA] at h
    cases hs : sameKeyA k k2 with
    | none => rw [hs] at h; cases h
    | some b =>
      rw [hs] at h
      obtain ⟨h1, hsb⟩ := sameKey_run hb hk hk2 hs
      cases b with
      | true =>
        injection h with h
        injection h with e1 e2
        subst e1 e2
        exact .inl ⟨rfl, 0, e.val, e, by simp only [Instr.findNow, h1]; rfl, rfl, hsb rfl, .cons hk hv' he0 he⟩
      | false =>
        dsimp only at h
        cases hu : updA k v ck _ with
        | none => rw [hu] at h; cases h
        | some r2 =>
          obtain ⟨r2, fd2⟩ := r2
          rw [hu] at h
          injection h with h
          injection h with e1 e2
          subst e1 e2
          rcases updA_run hb hk hv' he hu (i + 1) with ⟨g0, j, x, e2, g1, g2, g3, g4⟩ | ⟨g0, g1, g2⟩
          · exact .inl ⟨g0, j + 1, x, e2, by simp only [Instr.findNow, h1, g1]; congr 3; omega, by simpa using g2, g3, .cons hk2 hv he0 g4⟩
          · exact .inr ⟨g0, by simp only [Instr.findNow, h1, g1], .cons hk2 hv he0 g2⟩

theorem delA_run {d : TypeDesc} {k : AV} {k' : Value} (hb : keyB d k = true) (hk : VR ρ k k') : ∀ {es : List (AV × AV × Nat)} {es' : List MapEntry}, EntR ρ es es' → ∀ {r : List (AV × AV × Nat)}, delA k es = some r → ∀ i : Nat,
    (∃ j x, Instr.findNow d k' es' i = some (some (i + j, x)) ∧ EntR ρ r (es'.eraseIdx j)) ∨ (Instr.findNow d k' es' i = some none ∧ EntR ρ r es')
  | _, _, .nil, r, h, i => by
    simp only [delA] at h
    injection h with h
    subst h
    exact .inr ⟨rfl, .nil⟩
  | _, _, .cons (k := k2) (v := v2) (e := e) hk2 hv he0 he, r, h, i => by
    simp only [delA] at h
    cases hs : sameKeyA k k2 with
    | none => rw [hs] at h; cases h
    | some b =>
      rw [hs] at h
      have h1 := (sameKey_run hb hk hk2 hs).1
      cases b with
      | true =>
        injection h with h
        subst h
        exact .inl ⟨0, e.val, by simp only [Instr.findNow, h1]; rfl, he⟩
      | false =>
        dsimp only at h
        cases hu : delA k _ with
        | none => rw [hu] at h; cases h
        | some r2 =>
          rw [hu] at h
          injection h with h
          subst h
          rcases delA_run hb hk he hu (i + 1) with ⟨j, x, g1, g2⟩ | ⟨g1, g2⟩
          · exact .inl ⟨j + 1, x, by simp only [Instr.findNow, h1, g1]; congr 3; omega, .cons hk2 hv he0 g2⟩
          · exact .inr ⟨by simp only [Instr.findNow, h1, g1], .cons hk2 hv he0 g2⟩

theorem checkKey_succ {d : TypeDesc} {k : AV} {k' : Value} {kt : TypeId} (hb : keyB d k = true) (hk : VR ρ k k') (hu : P.underlying kt = some d) (b : Bool) (w : World) (n : Nat) : (Instr.checkKey b (n + 1) kt k').run P w = .ok () w := by
  simp only [Instr.checkKey, Sem.run_bind, run_underlying hu, Result.andThen_ok]
  cases d <;> simp only [keyB] at hb <;> first | (cases hb; done) | rfl
theorem checkKey_run {d : TypeDesc} {k : AV} {k' : Value} {kt : TypeId} (hb : keyB d k = true) (hk : VR ρ k k') (hu : P.underlying kt = some d) (b : Bool) (w : World) : (Instr.checkKey b 10000 kt k').run P w = .ok () w :=
  checkKey_succ hb hk hu b w 9999
theorem findKey_run {d : TypeDesc} {k' : Value} {kt : TypeId} {es : List MapEntry} {r : Option (Nat × Value)} (hu : P.underlying kt = some d) (h : Instr.findNow d k' es 0 = some r) (w : World) : (Instr.findKey kt k' es).run P w = .ok r w := by
  simp only [Instr.findKey, Sem.run_bind, run_underlying hu, Result.andThen_ok, h, Sem.run_pure]
theorem run_getOb {r : Nat} {es : Array MapEntry} {ck : Nat} {w : World} (h : w.heap[r]? = some (.map es ck)) : (getObj r).run P w = .ok (.map es ck) w := by simp [getObj, Sem.run, h]
theorem run_setOb {r : Nat} {es : Array MapEntry} {ck : Nat} {o' : Obj} {w : World} (h : w.heap[r]? = some (.map es ck)) : (setObj r o').run P w = .ok () { w with heap := w.heap.setIfInBounds r o' } := by simp [setObj, Sem.run, h]
theorem run_getIt {r : Nat} {s : ByteArray} {pos : Nat} {w : World} (h : w.heap[r]? = some (.stringIter s pos)) : (getObj r).run P w = .ok (.stringIter s pos) w := by simp [getObj, Sem.run, h]
theorem run_setIt {r : Nat} {s : ByteArray} {pos : Nat} {o' : Obj} {w : World} (h : w.heap[r]? = some (.stringIter s pos)) : (setObj r o').run P w = .ok () { w with heap := w.heap.setIfInBounds r o' } := by simp [setObj, Sem.run, h]

theorem ents_run {m : AV} {m' : Value} {es : List (AV × AV × Nat)} {w : World} (r : Rep ρ h.get w) (hv : VR ρ m m') (e : entsA h m = some es) : ∃ (mo : Option Nat) (es' : List MapEntry), m' = .map mo ∧ (match mo with
      | none => es' = []
      | some B => ∃ ck, w.heap[B]? = some (.map ⟨es'⟩ ck)) ∧ EntR ρ es es' := by
  unfold entsA at e
  split at e
  · cases hv
    injection e with e
    subst e
    exact ⟨none, [], rfl, rfl, .nil⟩
  · split at e
    · rename_i es0 ck hg
      injection e with e
      subst e
      cases hv with
      | @map _ L hL =>
      obtain ⟨o', k1, k2⟩ := r.mp _ _ _ hg _ _ hL
      obtain ⟨es', rfl, k3⟩ := k2.ents
      exact ⟨some L.blk, es', rfl, ⟨_, k1⟩, k3⟩
    · cases e
  · cases e
theorem lookup_run {d : TypeDesc} {k : AV} {k' : Value} {t kt e : TypeId} {es : List (AV × AV × Nat)} {es' : List MapEntry} {r : Option AV} {ok : Bool} {m : Option Nat} {w : World} {z' : Value} (hb : keyB d k = true) (hk : VR ρ k k') (ht : P.underlying t = some (.map kt e)) (hu : P.underlying kt = some d)
    (hm : match m with
      | none => es' = []
      | some B => ∃ ck, w.heap[B]? = some (.map ⟨es'⟩ ck)) (he : EntR ρ es es') (hf : findA k es = some r) :
    (r = none ∧ ∀ z', (zeroValue e).run P w = .ok z' w → (Instr.lookup t (.map m) k' ok).run P w = .ok (if ok then .tuple #[z', .bool false] else z') w) ∨
    ∃ v v', r = some v ∧ VR ρ v v' ∧ (Instr.lookup t (.map m) k' ok).run P w = .ok (if ok then .tuple #[v', .bool true] else v') w := by
  have hck := fun b => checkKey_run (P := P) hb hk hu b w
  rcases findA_run hb hk he hf 0 with ⟨g1, g2⟩ | ⟨v, j, v', g1, g2, g3⟩
  · refine .inl ⟨g1, fun z' hz => ?_⟩
    have hfk := findKey_run hu g2 w
    cases m with
    | none =>
      dsimp only at hm
      subst hm
      simp only [Instr.lookup, Sem.run_bind, run_underlying ht, Result.andThen_ok, Sem.run_pure, hck, hfk, hz]
    | some B =>
      obtain ⟨ck, hm⟩ := hm
      simp only [Instr.lookup, Sem.run_bind, run_underlying ht, Result.andThen_ok, run_getOb hm, Sem.run_pure, hck, hfk, hz]
  · refine .inr ⟨v, v', g1, g3, ?_⟩
    have hfk := findKey_run hu g2 w
    cases m with
    | none =>
      dsimp only at hm
      subst hm
      simp only [Instr.lookup, Sem.run_bind, run_underlying ht, Result.andThen_ok, Sem.run_pure, hck, hfk]
    | some B =>
      obtain ⟨ck, hm⟩ := hm
      simp only [Instr.lookup, Sem.run_bind, run_underlying ht, Result.andThen_ok, run_getOb hm, Sem.run_pure, hck, hfk]

theorem mapUpdate_run {d : TypeDesc} {k v : AV} {k' v' : Value} {t kt e : TypeId} {es r : List (AV × AV × Nat)} {es' : List MapEntry} {fd : Bool} {ck B : Nat} {w : World} (hb : keyB d k = true) (hk : VR ρ k k') (hv : VR ρ v v') (ht : P.underlying t = some (.map kt e)) (hu : P.underlying kt = some d)
    (hm : w.heap[B]? = some (.map ⟨es'⟩ ck)) (he : EntR ρ es es') (hf : updA k v ck es = some (r, fd)) :
    ∃ es2, (Instr.mapUpdate t (.map (some B)) k' v').run P w = .ok () { w with heap := w.heap.setIfInBounds B (.map ⟨es2⟩ (cond fd ck (Nat.succ ck))) } ∧ EntR ρ r es2 := by
  have hck := fun b => checkKey_run (P := P) hb hk hu b w
  rcases updA_run hb hk hv he hf 0 with ⟨g0, j, x, e2, g1, g2, g3, g4⟩ | ⟨g0, g1, g2⟩
  · subst g0
    rw [Nat.zero_add] at g1
    have hfk := findKey_run hu g1 w
    refine ⟨_, ?_, g4⟩
    have h0 : (⟨es'⟩ : Array MapEntry)[j]? = some e2 := by rw [← Array.getElem?_toList]; exact g2
    simp only [Instr.mapUpdate, Sem.run_bind, run_underlying ht, Result.andThen_ok, run_getOb hm, hck, hfk, h0, Option.map_some, Option.getD_some, Instr.keyThatStays, g3, if_true, Sem.run_pure, run_setOb hm]
    congr 4
    apply Array.ext'
    simp
  · subst g0
    have hfk := findKey_run hu g1 w
    refine ⟨_, ?_, g2⟩
    simp only [Instr.mapUpdate, Sem.run_bind, run_underlying ht, Result.andThen_ok, run_getOb hm, hck, hfk, run_setOb hm]
    congr 4
    apply Array.ext'
    simp

theorem delete_run {d : TypeDesc} {k : AV} {k' : Value} {t kt e ty : TypeId} {ts : Array TypeId} {es r : List (AV × AV × Nat)} {es' : List MapEntry} {ck B : Nat} {w : World} (hb : keyB d k = true) (hk : VR ρ k k') (ht0 : ts[0]? = some t) (ht : P.underlying t = some (.map kt e)) (hu : P.underlying kt = some d)
    (hm : w.heap[B]? = some (.map ⟨es'⟩ ck)) (he : EntR ρ es es') (hf : delA k es = some r) :
    ∃ es2, (Builtin.delete_ ts ty #[.map (some B), k']).run P w = .ok (.tuple #[]) { w with heap := w.heap.setIfInBounds B (.map ⟨es2⟩ ck) } ∧ EntR ρ r es2 := by
  have hck := fun b => checkKey_run (P := P) hb hk hu b w
  have h1 : (#[Value.map (some B), k'] : Array Value)[0]? = some (.map (some B)) := rfl
  have h2 : (#[Value.map (some B), k'] : Array Value)[1]? = some k' := rfl
  rcases delA_run hb hk he hf 0 with ⟨j, x, g1, g2⟩ | ⟨g1, g2⟩
  · rw [Nat.zero_add] at g1
    have hfk := findKey_run hu g1 w
    refine ⟨_, ?_, g2⟩
    simp only [Builtin.delete_, ht0, h1, h2, Sem.run_bind, run_underlying ht, Result.andThen_ok, run_getOb hm, hck, hfk, run_setOb hm, Sem.run_pure]
    congr 4
    apply Array.ext'
    simp
  · have hfk := findKey_run hu g1 w
    refine ⟨_, ?_, g2⟩
    simp only [Builtin.delete_, ht0, h1, h2, Sem.run_bind, run_underlying ht, Result.andThen_ok, run_getOb hm, hck, hfk, run_setOb hm, Sem.run_pure]

/-! ## A range over a string -/
theorem nthN_none : ∀ (l : List Nat) (n : Nat), nthN l n = none → l.length ≤ n
  | [], n, _ => Nat.zero_le _
  | a :: l, 0, h => by cases h
  | a :: l, n + 1, h => Nat.succ_le_succ (nthN_none l n h)
theorem nthN_get : ∀ (l : List Nat) (n b : Nat), nthN l n = some b → l[n]? = some b
  | [], n, b, h => by cases h
  | a :: l, 0, b, h => by simpa [nthN] using h
  | a :: l, n + 1, b, h => by simpa using nthN_get l n b h
theorem decA_k {R : Type} {s : List Nat} {pos : Nat} {fin : Option R} {k : Nat → Nat → Option R} {res : R} (h : decA s pos fin k = some res) : fin = some res ∨ ∃ c p, k c p = some res := by
  unfold decA at h
  split at h
  · exact .inl h
  · rename_i b hb
    cases hlt : Nat.blt b 128 with
    | true => rw [hlt] at h; simp only [cond_true, fN_eq] at h; exact .inr ⟨_, _, h⟩
    | false => rw [hlt] at h; simp only [cond_false, fN_eq] at h; exact .inr ⟨_, _, h⟩
theorem decA_run {R : Type} {S : ByteArray} {pos : Nat} {fin : Option R} {k : Nat → Nat → Option R} {res : R} (h : decA (ofBytes S.data.toList) pos fin k = some res) :
    (¬ pos < S.size ∧ fin = some res) ∨ (pos < S.size ∧ ∃ c wd, Utf8.decode S pos = (c, wd) ∧ k c (pos + wd) = some res) := by
  have hsz : S.data.toList.length = S.size := rfl
  have hS : (⟨⟨toU (ofBytes S.data.toList)⟩⟩ : ByteArray) = S := by
    rw [toU_ofBytes]
  unfold decA at h
  split at h
  · rename_i hn
    have := nthN_none _ _ hn
    rw [ofBytes_length] at this
    exact .inl ⟨by omega, h⟩
  · rename_i b hb
    have hg := nthN_get _ _ _ hb
    have hlt := (List.getElem?_eq_some_iff.1 hg).1
    rw [ofBytes_length] at hlt
    have hlt' : pos < S.size := by omega
    refine .inr ⟨hlt', ?_⟩
    have hbv : b = (S[pos]'hlt').toNat := by
      rw [ofBytes_map, List.getElem?_map, List.getElem?_eq_getElem hlt] at hg
      simp at hg
      rw [← hg]
      rfl
    rw [hS] at h
    cases hlt2 : Nat.blt b 128 with
    | true =>
      rw [hlt2] at h
      simp only [cond_true, fN_eq] at h
      have h128 : b < 128 := of_decide_eq_true ((blt_eq _ _) ▸ hlt2)
      exact ⟨b, 1, by rw [decode_ascii S pos hlt' (hbv ▸ h128), ← hbv], h⟩
    | false =>
      rw [hlt2] at h
      simp only [cond_false, fN_eq] at h
      exact ⟨_, _, rfl, h⟩
end
end Go.Proofs.YtcigfmnkfelhjaaDoor.Am
