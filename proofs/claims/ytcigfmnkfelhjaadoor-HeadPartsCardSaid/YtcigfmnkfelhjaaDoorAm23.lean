/- The abstract machine: a long run in pieces: between two of them only what is looked at behind is known. -/
import Derived.Test.YtcigfmnkfelhjaaDoorAm22
set_option linter.unusedVariables false
set_option linter.unusedSimpArgs false
namespace Go.Proofs.YtcigfmnkfelhjaaDoor.Am
open Go Go.RowKit

/-! ## What is known between two pieces -/
inductive CF where
  | row (cs : List AV) (rd : Nat) (frz : Bool) (et : Option TypeId)
  | ob (es : MB) (ck : Nat)
structure Ck where
  live : List (Nat × AV)
  fams : List (Nat × CF)
  next : Nat
def bs : List Nat → List AV
  | [] => []
  | b :: r => .int .u8 (.ofNat b) :: bs r

def aLook {α : Type} : List (Nat × α) → Nat → Option α
  | [], _ => none
  | (g, x) :: r, f => cond (Nat.beq g f) (some x) (aLook r f)
noncomputable def listT {α : Type} : List (Nat × α) → Tr α
  | [] => .lf
  | (g, x) :: r => match (listT r).setK 40 g x some with
    | some t => t
    | none => .lf
theorem listT_get {α : Type} : ∀ {l : List (Nat × α)} {F : Nat} {o : α}, (listT l).get F = some o → aLook l F = some o
  | [], F, o, h => by rw [show (listT ([] : List (Nat × α))) = .lf from rfl, Tr.get_lf] at h; cases h
  | (g, x) :: r, F, o, h => by
    simp only [listT] at h
    cases h2 : (listT r).setK 40 g x some with
    | none => rw [h2] at h; dsimp only at h; rw [Tr.get_lf] at h; cases h
    | some t =>
      rw [h2] at h
      dsimp only at h
      obtain ⟨t', e3, e4⟩ := Tr.setK_some h2
      injection e3 with e3
      subst e3
      rw [e4 F] at h
      simp only [aLook]
      by_cases hF : F = g
      · rw [if_pos hF] at h
        subst hF
        rw [Nat.beq_refl]
        exact h
      · rw [if_neg hF] at h
        have hb : Nat.beq g F = false := by
          cases hh : Nat.beq g F with
          | false => rfl
          | true => exact absurd (Nat.eq_of_beq_eq_true hh).symm hF
        rw [hb]
        exact listT_get h
theorem listT_eq {α : Type} : ∀ (l : List (Nat × α)) (F : Nat), (listT l).get F = aLook l F
  | [], F => Tr.get_lf F
  | (g, x) :: r, F => by
    have h2 : (listT r).setK 40 g x some = some (Tr.setP x (path g) (listT r)) := by
      unfold Tr.setK
      rw [Tr.setPK_eq]
    simp only [listT, h2, aLook]
    obtain ⟨t', e3, e4⟩ := Tr.setK_some h2
    injection e3 with e3
    rw [← e3, e4 F]
    by_cases hF : F = g
    · subst hF
      rw [if_pos rfl, Nat.beq_refl]
      rfl
    · have hb : Nat.beq g F = false := by
        cases hh : Nat.beq g F with
        | false => rfl
        | true => exact absurd (Nat.eq_of_beq_eq_true hh).symm hF
      rw [if_neg hF, hb]
      exact listT_eq r F
noncomputable def rowT (cs : List AV) : Tr AV := match setCellsK cs .lf 0 some with
  | some c => c
  | none => .lf
theorem rowT_get (cs : List AV) (i : Nat) (a : AV) (h : (rowT cs).get i = some a) : cs[i]? = some a := by
  unfold rowT at h
  cases h1 : setCellsK cs .lf 0 some with
  | none => rw [h1] at h; dsimp only at h; rw [Tr.get_lf] at h; cases h
  | some c =>
    rw [h1] at h
    dsimp only at h
    obtain ⟨c', e1, e2⟩ := setCellsK_some cs h1
    injection e1 with e1
    subst e1
    rw [e2 i] at h
    by_cases hi : i < cs.length
    · rw [if_pos (by omega)] at h; simpa using h
    · rw [if_neg (by omega), Tr.get_lf] at h; cases h
theorem rowT_all (cs : List AV) (c : Tr AV) (h : setCellsK cs .lf 0 some = some c) (i : Nat) : (rowT cs).get i = cs[i]? := by
  unfold rowT
  rw [h]
  obtain ⟨c', e1, e2⟩ := setCellsK_some cs h
  injection e1 with e1
  subst e1
  dsimp only
  rw [e2 i]
  by_cases hi : i < cs.length
  · rw [if_pos (by omega)]; simp
  · rw [if_neg (by omega), Tr.get_lf, List.getElem?_eq_none (by omega)]
noncomputable def CF.toAO : CF → AO
  | .row cs rd frz et => .cells (rowT cs) cs.length rd frz et
  | .ob es ck => .mp es ck
noncomputable def famT : List (Nat × CF) → List (Nat × AO)
  | [] => []
  | (F, c) :: r => (F, c.toAO) :: famT r
theorem famT_look : ∀ {l : List (Nat × CF)} {F : Nat} {o : AO}, aLook (famT l) F = some o → ∃ c, aLook l F = some c ∧ o = c.toAO
  | [], F, o, h => by cases h
  | (g, c) :: r, F, o, h => by
    simp only [famT, aLook] at h ⊢
    cases hb : Nat.beq g F with
    | true => rw [hb] at h; injection h with h; exact ⟨c, rfl, h.symm⟩
    | false => rw [hb] at h; exact famT_look h
noncomputable def Ck.h (m : Nat) (ck : Ck) : AH := ⟨listT (famT ck.fams), ck.next, m, [], []⟩
noncomputable def Ck.st (nt m : Nat) (ck : Ck) : St := ⟨listT ck.live, nt, ck.h m⟩

/-! ## What is kept of a run -/
noncomputable def pickT (tm : Tr AV) : List Nat → Option (List (Nat × AV))
  | [] => some []
  | t :: r => match tm.get t with
    | none => none
    | some v => match pickT tm r with
      | none => none
      | some l => some ((t, v) :: l)
noncomputable def pickF (tr : Tr AO) : List Nat → Option (List (Nat × CF))
  | [] => some []
  | F :: r => match tr.get F with
    | some (.cells c n rd frz et) => readK c n 0 fun cs => match setCellsK cs .lf 0 some with
      | none => none
      | some _ => match pickF tr r with
        | none => none
        | some l => some ((F, .row cs rd frz et) :: l)
    | some (.mp es ck) => match pickF tr r with
      | none => none
      | some l => some ((F, .ob es ck) :: l)
    | _ => none
noncomputable def prune (lv fm : List Nat) (st : St) : Option Ck :=
  match st with
  | ⟨tm, _, ⟨tr, next, _, wlog, _⟩⟩ => cond (isNil wlog) (match pickT tm lv with
    | none => none
    | some l => match pickF tr fm with
      | none => none
      | some f => some ⟨l, f, next⟩) none

theorem pickT_some {tm : Tr AV} : ∀ {lv : List Nat} {l : List (Nat × AV)}, pickT tm lv = some l → ∀ t v, aLook l t = some v → tm.get t = some v
  | [], l, h, t, v, e => by simp only [pickT] at h; injection h with h; subst h; cases e
  | u :: r, l, h, t, v, e => by
    simp only [pickT] at h
    cases hu : tm.get u with
    | none => rw [hu] at h; cases h
    | some x =>
      rw [hu] at h
      dsimp only at h
      cases hr : pickT tm r with
      | none => rw [hr] at h; cases h
      | some l' =>
        rw [hr] at h
        injection h with h
        subst h
        simp only [aLook] at e
        cases hb : Nat.beq u t with
        | true =>
          rw [hb] at e
          have e2 : x = v := Option.some.inj e
          have hb := Nat.eq_of_beq_eq_true hb
          subst hb
          subst e2
          exact hu
        | false => rw [hb] at e; exact pickT_some hr t v e

/-- The same block, as far as the memory is concerned. -/
inductive SameO : AO → AO → Prop
  | cells {c c' : Tr AV} {n rd : Nat} {frz : Bool} {et : Option TypeId} (h : ∀ i, i < n → c'.get i = c.get i) : SameO (.cells c n rd frz et) (.cells c' n rd frz et)
  | mp (es : MB) (ck : Nat) : SameO (.mp es ck) (.mp es ck)
theorem pickF_some {tr : Tr AO} : ∀ {fm : List Nat} {l : List (Nat × CF)}, pickF tr fm = some l → ∀ F c, aLook l F = some c → ∃ o, tr.get F = some o ∧ SameO o c.toAO
  | [], l, h, F, c, e => by simp only [pickF] at h; injection h with h; subst h; cases e
  | G :: r, l, h, F, c, e => by
    simp only [pickF] at h
    cases hG : tr.get G with
    | none => rw [hG] at h; cases h
    | some o =>
      rw [hG] at h
      have fin : ∀ {l' : List (Nat × CF)} {d : CF}, SameO o d.toAO → pickF tr r = some l' → aLook ((G, d) :: l') F = some c → ∃ o, tr.get F = some o ∧ SameO o c.toAO := by
        intro l' d hs hr e
        simp only [aLook] at e
        cases hb : Nat.beq G F with
        | true =>
          rw [hb] at e
          have e2 : d = c := Option.some.inj e
          have hb := Nat.eq_of_beq_eq_true hb
          subst hb
          subst e2
          exact ⟨o, hG, hs⟩
        | false => rw [hb] at e; exact pickF_some hr F c e
      cases o with
      | dead => cases h
      | mp es ck =>
        dsimp only at h
        cases hr : pickF tr r with
        | none => rw [hr] at h; cases h
        | some l' =>
          rw [hr] at h
          injection h with h
          subst h
          exact fin (d := .ob es ck) (.mp es ck) hr e
      | cells c0 n rd frz et =>
        dsimp only at h
        obtain ⟨cs, h, hl, hg⟩ := readK_some n h
        cases hset : setCellsK cs .lf 0 some with
        | none => rw [hset] at h; cases h
        | some c1 =>
          rw [hset] at h
          dsimp only at h
          cases hr : pickF tr r with
          | none => rw [hr] at h; cases h
          | some l' =>
            rw [hr] at h
            injection h with h
            subst h
            refine fin (d := .row cs rd frz et) ?_ hr e
            subst hl
            refine .cells fun i hi => ?_
            rw [rowT_all cs c1 hset i, ← hg i hi, Nat.zero_add]

theorem SameO.live {o o' : AO} (h : SameO o o') : isLive (some o) = true := by cases h <;> rfl
theorem Rep.weak {ρ : Rho} {g g' : Nat → Option AO} {w : World} (r : Rep ρ g w) (h : ∀ F o, g' F = some o → ∃ o0, g F = some o0 ∧ SameO o0 o) : Rep ρ g' w := by
  have hlv : ∀ F, isLive (g' F) = true → isLive (g F) = true ∨ g' F = none := by
    intro F hl
    cases hg : g' F with
    | none => exact .inr rfl
    | some o =>
      obtain ⟨o0, h1, h2⟩ := h F o hg
      rw [h1]
      exact .inl h2.live
  have hlv : ∀ F, isLive (g' F) = true → isLive (g F) = true := by
    intro F hl
    rcases hlv F hl with h | h
    · exact h
    · rw [h] at hl; cases hl
  refine ⟨fun F c n rd frz eto hF => ?_, fun F es ck hF => ?_, fun F F' v v' L L' l1 l2 => r.inj F F' v v' L L' (hlv F l1) (hlv F' l2), fun F v v' L L' l1 => r.one F v v' L L' (hlv F l1), r.bnd, fun F c n rd frz t hF => ?_⟩
  · obtain ⟨o0, h1, h2⟩ := h F _ hF
    cases h2 with
    | @cells c0 _ _ _ _ _ hc =>
      obtain ⟨g1, g2⟩ := r.cellsF F c0 n rd frz eto h1
      refine ⟨g1, fun v L hL => ?_⟩
      obtain ⟨g3, g4⟩ := g2 v L hL
      refine ⟨g3, fun hrd => ?_⟩
      obtain ⟨arr, et, fz, k1, k2, k3, k4, k5⟩ := g4 hrd
      exact ⟨arr, et, fz, k1, k2, k3, fun i hi => by rw [hc i (by omega)]; exact k4 i hi, k5⟩
  · obtain ⟨o0, h1, h2⟩ := h F _ hF
    cases h2
    exact r.mp F es ck h1
  · obtain ⟨o0, h1, h2⟩ := h F _ hF
    cases h2 with
    | @cells c0 _ _ _ _ _ hc => exact r.ety F c0 n rd frz t h1

/-! ## States -/
structure SR {P : Program} (gl : Gl P) (nt m n0 : Nat) (ck : Ck) (ρ : Rho) (a : Act) (w : World) : Prop where
  rep : Rep ρ (ck.h m).get w
  wf : Wf (ck.h m)
  tm : TmR ρ (listT ck.live) nt a
  gl : GlobOK ρ gl
  fresh : ∀ F v, ck.next ≤ F → ρ F v = none
  own : ∀ F v L, m ≤ F → ρ F v = some L → n0 ≤ L.blk
  size : n0 ≤ w.heap.size

theorem Ck.get (ck : Ck) (m F : Nat) : (ck.h m).get F = (listT (famT ck.fams)).get F := rfl
theorem SR.step {P : Program} {gl : Gl P} {nt m n0 : Nat} {ck ck' : Ck} {ρ ρ' : Rho} {a a' : Act} {w w' : World} {tm' : Tr AV} {nt' : Nat} {h' : AH} {lv fm : List Nat} (s : SR gl nt m n0 ck ρ a w)
    (ht : TmR ρ' tm' nt a') (o : Out ρ (ck.h m) w ρ' h' w') (e : prune lv fm ⟨tm', nt', h'⟩ = some ck') : SR gl nt m n0 ck' ρ' a' w' ∧ Below n0 w w' := by
  obtain ⟨tr, next, mark, wlog, hid⟩ := h'
  unfold prune at e
  obtain ⟨e0, e⟩ := cond_some e
  have hnil : wlog = [] := by
    cases wlog with
    | nil => rfl
    | cons a r => cases e0
  subst hnil
  have hmark : mark = m := o.af.mark
  have hhid : hid = [] := o.af.hid
  subst hmark hhid
  dsimp only at e
  cases h1 : pickT tm' lv with
  | none => rw [h1] at e; cases e
  | some l =>
    rw [h1] at e
    dsimp only at e
    cases h2 : pickF tr fm with
    | none => rw [h2] at e; cases e
    | some f =>
      rw [h2] at e
      injection e with e
      subst e
      have htr : ∀ F, (⟨tr, next, mark, [], []⟩ : AH).get F = tr.get F := fun F => rfl
      have hfam : ∀ F o, (Ck.h mark ⟨l, f, next⟩).get F = some o → ∃ o0, tr.get F = some o0 ∧ SameO o0 o := by
        intro F o hF
        rw [Ck.get] at hF
        obtain ⟨c, c1, rfl⟩ := famT_look (listT_get hF)
        exact pickF_some h2 F c c1
      have htouch : ∀ F, Touch (ck.h mark) ⟨tr, next, mark, [], []⟩ F → mark ≤ F ∧ F < next := by
        rintro F (⟨t1, t2⟩ | t)
        · exact ⟨t1, t2⟩
        · cases t
      refine ⟨⟨o.rep.weak hfam, ⟨o.af.wf.mark, fun _ h => (by cases h), fun F hF => ?_⟩, ⟨ht.size, ht.defers, fun t => ?_⟩, s.gl.mono o.ext.le, fun F v hF => ?_, fun F v L hF hL => ?_, Nat.le_trans s.size o.fr.size⟩, ⟨o.fr.os, o.fr.tape, o.fr.output, o.fr.size, fun k hk => o.fr.block k (Nat.lt_of_lt_of_le hk s.size) fun F v L hL hb t => ?_⟩⟩
      · cases hg : (listT (famT f)).get F with
        | none => exact hg
        | some x =>
          obtain ⟨o0, g1, _⟩ := hfam F x hg
          have := o.af.wf.raw F hF
          rw [show (⟨tr, next, mark, [], []⟩ : AH).tr.get F = tr.get F from rfl, g1] at this
          cases this
      · cases hg : (listT l).get t with
        | none => trivial
        | some x =>
          have := ht.val t
          rw [pickT_some h1 t x (listT_get hg)] at this
          exact this
      · cases hh : ρ' F v with
        | none => rfl
        | some L =>
          have hF : next ≤ F := hF
          have hn : ck.next ≤ next := o.af.next
          rcases o.ext.new F v L hh with h | ⟨t, _⟩
          · rw [s.fresh F v (Nat.le_trans hn hF)] at h; cases h
          · have := (htouch F t).2; omega
      · rcases o.ext.new F v L hL with h | ⟨t, h | ⟨F0, v0, L0, k1, k2, k3, k4⟩⟩
        · exact s.own F v L hF h
        · exact Nat.le_trans s.size h
        · rw [← k2]
          exact s.own F0 v0 L0 (htouch F0 k3).1 k1
      · have := s.own F v L (htouch F t).1 hL
        omega

/-! ## Pieces of code -/
section
variable {P : Program} {gl : Gl P} {nt m n0 : Nat}
def Pc (gl : Gl P) (nt m n0 : Nat) (ck : Ck) (c : Code) (x : AX) (ck' : Ck) : Prop := ∀ a w ρ Q, SR gl nt m n0 ck ρ a w → (∀ a' w' ρ', SR gl nt m n0 ck' ρ' a' w' → Below n0 w w' → Le ρ ρ' → Q x.toExit a' w') → c.wp P Q a w
def Ps (gl : Gl P) (nt m n0 : Nat) (ck : Ck) (ops : Array Oper) (i k : Nat) (ck' : Ck) : Prop := ∀ a w ρ Q, SR gl nt m n0 ck ρ a w → (∀ a' w' ρ', SR gl nt m n0 ck' ρ' a' w' → Below n0 w w' → Le ρ ρ' → Q .normal a' w') → wpOps P ops Q (List.range' i k) a w
noncomputable def prC (lv fm : List Nat) (r : Option (AX × St)) : Option (AX × Ck) := match r with
  | some (x, st) => match prune lv fm st with
    | some ck => some (x, ck)
    | none => none
  | none => none
noncomputable def prS (lv fm : List Nat) (r : Option St) : Option Ck := match r with
  | some st => prune lv fm st
  | none => none

theorem Pc.run {rec : Rec} (hm : P.follows .mixedOrders = true) (ra : RecAF rec) (rok : RecOK P gl rec) {fuel : Nat} {lv fm : List Nat} {ck ck' : Ck} {c : Code} {x : AX} (e : prC lv fm (aCode P gl rec fuel c (ck.st nt m)) = some (x, ck')) : Pc gl nt m n0 ck c x ck' := by
  intro a w ρ Q s hQ
  unfold prC at e
  cases h1 : aCode P gl rec fuel c (ck.st nt m) with
  | none => rw [h1] at e; cases e
  | some r =>
    obtain ⟨y, tm', nt', h'⟩ := r
    rw [h1] at e
    dsimp only at e
    cases h2 : prune lv fm ⟨tm', nt', h'⟩ with
    | none => rw [h2] at e; cases e
    | some ck1 =>
      rw [h2] at e
      injection e with e
      injection e with e1 e2
      subst e1 e2
      have hn : nt' = nt := (aCode_AF ra fuel s.wf h1).2
      subst hn
      refine (aCode_wp hm ra rok fuel).1 h1 s.gl s.rep s.wf s.tm (fun F v hF _ => s.fresh F v hF) fun a' w' ρ' ht' ho => ?_
      obtain ⟨s', b⟩ := s.step ht' ho h2
      exact hQ a' w' ρ' s' b ho.ext.le
theorem Pc.seq {ck ck1 ck2 : Ck} {c a b : Code} {x : AX} (hc : c = .seq a b) (p : Pc gl nt m n0 ck a .normal ck1) (q : Pc gl nt m n0 ck1 b x ck2) : Pc gl nt m n0 ck c x ck2 := by
  subst hc
  intro A w ρ Q s hQ
  refine wp_seq (p A w ρ _ s fun a' w' ρ' s' b' l' => ?_)
  exact q a' w' ρ' Q s' fun a2 w2 ρ2 s2 b2 l2 => hQ a2 w2 ρ2 s2 (b'.trans b2) (l'.trans l2)
theorem Ps.nil {ck : Ck} {ops : Array Oper} {i : Nat} : Ps gl nt m n0 ck ops i 0 ck := by
  intro a w ρ Q s hQ
  exact hQ a w ρ s (.refl _ _) (Le.refl _)
theorem aOps_wpK {rec : Rec} {ops : Array Oper} (ra : RecAF rec) (rok : RecOK P gl rec) (rest : List Nat) : ∀ (n i : Nat) {tm tm' : Tr AV} {nt nt' : Nat} {h h' : AH} {ρ : Rho} {w : World} {a : Act} {Q : Exit → Act → World → Prop}, GlobOK ρ gl → Rep ρ h.get w → Wf h → TmR ρ tm nt a →
    Fresh ρ h.next h'.next → aOps P gl rec ops n i ⟨tm, nt, h⟩ = some ⟨tm', nt', h'⟩ → (∀ a' w' ρ', TmR ρ' tm' nt' a' → Out ρ h w ρ' h' w' → wpOps P ops Q rest a' w') → wpOps P ops Q (List.range' i n ++ rest) a w
  | 0, i, tm, tm', nt, nt', h, h', ρ, w, a, Q, hg, r, wf, ht, fr, hx, hQ => by
    simp only [aOps] at hx
    injection hx with hx
    injection hx with e1 e2 e3
    subst e1 e2 e3
    exact hQ a w ρ ht (.refl r wf)
  | n + 1, i, tm, tm', nt, nt', h, h', ρ, w, a, Q, hg, r, wf, ht, fr, hx, hQ => by
    simp only [aOps] at hx
    cases h1 : aOne P gl rec ops i ⟨tm, nt, h⟩ with
    | none => rw [h1] at hx; cases hx
    | some st =>
      obtain ⟨tm1, nt1, h1'⟩ := st
      rw [h1] at hx
      have af := aOne_AF ra wf h1
      obtain ⟨af2, _⟩ := aOps_AF ra n (i + 1) af.wf hx
      rw [List.range'_succ, List.cons_append, wpOps_cons]
      obtain ⟨v, e1, e2, e3, e4⟩ := aOne_wp ra rok hg r wf ht.size (fun o _ t _ => ht.val t) (fr.mono (Nat.le_refl _) af2.next) h1
      subst e1
      refine e4 _ Q fun x w' ρ' hv ho => ?_
      refine aOps_wpK ra rok rest n (i + 1) (hg.mono ho.ext.le) ho.rep af.wf (ht.put ho.ext.le e3 e2 hv) (fr.step wf ho) hx fun a' w2 ρ2 ht2 ho2 => ?_
      exact hQ a' w2 ρ2 ht2 (ho.trans wf (fr.mono (Nat.le_refl _) af2.next) ho2)
theorem Ps.cons {rec : Rec} (ra : RecAF rec) (rok : RecOK P gl rec) {lv fm : List Nat} {ck ck1 ck' : Ck} {ops : Array Oper} {i n k : Nat} (e : prS lv fm (aOps P gl rec ops n i (ck.st nt m)) = some ck1) (q : Ps gl nt m n0 ck1 ops (i + n) k ck') : Ps gl nt m n0 ck ops i (n + k) ck' := by
  intro a w ρ Q s hQ
  unfold prS at e
  cases h1 : aOps P gl rec ops n i (ck.st nt m) with
  | none => rw [h1] at e; cases e
  | some st =>
    obtain ⟨tm', nt', h'⟩ := st
    rw [h1] at e
    dsimp only at e
    have hn : nt' = nt := (aOps_AF ra n i s.wf h1).2
    subst hn
    have hr : List.range' i (n + k) = List.range' i n ++ List.range' (i + n) k := by
      rw [List.range'_append_1]
    rw [hr]
    refine aOps_wpK ra rok _ n i s.gl s.rep s.wf s.tm (fun F v hF _ => s.fresh F v hF) h1 fun a' w' ρ' ht' ho => ?_
    obtain ⟨s', b⟩ := s.step ht' ho e
    exact q a' w' ρ' Q s' fun a2 w2 ρ2 s2 b2 l2 => hQ a2 w2 ρ2 s2 (b.trans b2) (ho.ext.le.trans l2)
theorem Pc.region {ck ck' : Ck} {c : Code} {id : Nat} {ops : Array Oper} {n : Nat} (hc : c = .region id ops false) (hn : ops.size = n) (p : Ps gl nt m n0 ck ops 0 n ck') : Pc gl nt m n0 ck c .normal ck' := by
  subst hc hn
  intro a w ρ Q s hQ
  refine wp_region ?_
  rw [List.range_eq_range']
  exact p a w ρ Q s hQ
end

/-! ## A call without arguments -/
def headC : Code → Code
  | .seq a _ => a
  | c => c
def tailC : Code → Code
  | .seq _ b => b
  | c => c
def opsC : Code → Array Oper
  | .region _ ops _ => ops
  | _ => #[]
def idC : Code → Nat
  | .region id _ _ => id
  | _ => 0
def bodyC (P : Program) (f : FuncId) : Code := match P.funcs[f]? with
  | some fn => match fn.body with
    | some c => c
    | none => .skip
  | none => .skip
def gCk (gs : List (Nat × List AV)) : List (Nat × CF)  := gs.map fun p => (p.1, .row p.2 p.2.length true none)
def okR (gs : List (Nat × List AV)) (P : Program) (f : FuncId) (nt : Nat) (ck : Ck) : Prop := True
end Go.Proofs.YtcigfmnkfelhjaaDoor.Am
