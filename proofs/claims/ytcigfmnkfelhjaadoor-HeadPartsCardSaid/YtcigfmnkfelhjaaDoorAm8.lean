/- The abstract machine: slices of slices, places, conversions, built-in functions. -/
import Derived.Test.YtcigfmnkfelhjaaDoorAm7
import Derived.Laws.BytesString
import Derived.Lib.ConvBytes
import Derived.Laws.BytesArg
set_option linter.unusedVariables false
set_option linter.unusedSimpArgs false
namespace Go.Proofs.YtcigfmnkfelhjaaDoor.Am
open Go

section
variable {P : Program} {ρ : Rho} {h : AH} {w : World} {R : Type}

/-! ## Slice expressions -/
theorem natOf_some {v : AV} {v' : Value} {n : Nat} (hv : VR ρ v v') (e : natOf v = some n) : ∃ k, v' = .int k (n : Int) := by
  cases hv <;> simp only [natOf] at e
  case int k m =>
    cases m with
    | ofNat m => injection e with e; subst e; exact ⟨k, rfl⟩
    | negSucc m => cases e
  all_goals cases e
/-- An operand that may be missing. -/
def OV (ρ : Rho) : Option AV → Option Value → Prop
  | none, none => True
  | some a, some v => VR ρ a v
  | _, _ => False
theorem run_bound {k : IntKind} {n y : Nat} (code : BoundsCode) (hn : n ≤ y) (w : World) : (Instr.sliceBound (.int k (n : Int)) y code).run P w = .ok n w := by
  have : (0 : Int) ≤ (n : Int) ∧ (n : Int) ≤ (y : Int) := by omega
  simp [Instr.sliceBound, asIntOf, this]
theorem run_bounds {lo hi : Option AV} {lo' hi' : Option Value} {len cap a b : Nat} (isS : Bool) (h1 : OV ρ lo lo') (h2 : OV ρ hi hi') (ha : optNat 0 lo = some a) (hb : optNat len hi = some b) (hab : a ≤ b) (hbc : b ≤ cap) (w : World) :
    (Instr.sliceBounds isS len cap lo' hi' none).run P w = .ok (a, b, cap) w := by
  cases hi with
  | none =>
    cases hi' with
    | some _ => exact h2.elim
    | none =>
    simp only [optNat] at hb; injection hb with hb; subst hb
    cases lo with
    | none =>
      cases lo' with
      | some _ => exact h1.elim
      | none =>
      simp only [optNat] at ha; injection ha with ha; subst ha
      simp only [Instr.sliceBounds, Sem.run_bind, Sem.run_pure, Result.andThen_ok]
    | some u =>
      cases lo' with
      | none => exact h1.elim
      | some u' =>
      obtain ⟨k, rfl⟩ := natOf_some h1 ha
      simp only [Instr.sliceBounds, Sem.run_bind, Sem.run_pure, Result.andThen_ok, run_bound _ hab]
  | some v =>
    cases hi' with
    | none => exact h2.elim
    | some v' =>
    obtain ⟨k2, rfl⟩ := natOf_some h2 hb
    cases lo with
    | none =>
      cases lo' with
      | some _ => exact h1.elim
      | none =>
      simp only [optNat] at ha; injection ha with ha; subst ha
      simp only [Instr.sliceBounds, Sem.run_bind, Sem.run_pure, Result.andThen_ok, run_bound _ hbc]
    | some u =>
      cases lo' with
      | none => exact h1.elim
      | some u' =>
      obtain ⟨k, rfl⟩ := natOf_some h1 ha
      simp only [Instr.sliceBounds, Sem.run_bind, Sem.run_pure, Result.andThen_ok, run_bound _ hab, run_bound _ hbc]
theorem run_bounds3 {lo hi : Option AV} {lo' hi' : Option Value} {m' : Value} {m : AV} {len cap a b c : Nat} (h1 : OV ρ lo lo') (h2 : OV ρ hi hi') (h3 : VR ρ m m') (ha : optNat 0 lo = some a) (hb : optNat len hi = some b) (hhi : hi.isSome = true) (hc : natOf m = some c)
    (hab : a ≤ b) (hbc : b ≤ c) (hcc : c ≤ cap) (w : World) : (Instr.sliceBounds true len cap lo' hi' (some m')).run P w = .ok (a, b, c) w := by
  obtain ⟨k, rfl⟩ := natOf_some h3 hc
  cases hi with
  | none => cases hhi
  | some v =>
    cases hi' with
    | none => exact h2.elim
    | some v' =>
      obtain ⟨k2, rfl⟩ := natOf_some h2 hb
      cases lo with
      | none =>
        cases lo' with
        | some _ => exact h1.elim
        | none =>
          simp only [optNat] at ha; injection ha with ha; subst ha
          unfold Instr.sliceBounds
          simp only [Sem.run_bind, run_bound _ hcc, run_bound _ hbc, Sem.run_pure, Result.andThen_ok]
      | some u =>
        cases lo' with
        | none => exact h1.elim
        | some u' =>
          obtain ⟨k3, rfl⟩ := natOf_some h1 ha
          unfold Instr.sliceBounds
          simp only [Sem.run_bind, run_bound _ hcc, run_bound _ hbc, run_bound _ hab, Sem.run_pure, Result.andThen_ok]

theorem tk_some : ∀ (l : List Nat) (n : Nat) {k : List Nat → Option R} {res : R}, aSlice.tk l n k = some res → k (l.take n) = some res
  | l, 0, k, res, h => by cases l <;> simpa [aSlice.tk] using h
  | [], n + 1, k, res, h => by cases h
  | a :: r, n + 1, k, res, h => by
    simp only [aSlice.tk] at h
    have := tk_some r n h
    simpa using this
theorem cutK_some : ∀ (l : List Nat) (a n : Nat) {k : List Nat → Option R} {res : R}, aSlice.cutK l a n k = some res → k ((l.drop a).take n) = some res
  | l, 0, n, k, res, h => by
    have := tk_some l n (show aSlice.tk l n k = some res by cases l <;> exact h)
    simpa using this
  | [], a + 1, n, k, res, h => by
    have := tk_some [] n h
    simpa using this
  | x :: r, a + 1, n, k, res, h => by
    have := cutK_some r a n h
    simpa using this

theorem aSlice_run {t : TypeId} {x : AV} {x' : Value} {lo hi mx : Option AV} {lo' hi' mx' : Option Value} {k : AV → Option R} {res : R} (r : Rep ρ h.get w) (hx : VR ρ x x') (h1 : OV ρ lo lo') (h2 : OV ρ hi hi') (h3 : OV ρ mx mx')
    (hk : aSlice P h t x lo hi mx k = some res) : ∃ v v', k v = some res ∧ (Instr.sliceAt t x' lo' hi' mx').run P w = .ok v' w ∧ VR ρ v v' := by
  unfold aSlice at hk
  have hmul : ∀ a b : Nat, Nat.mul a b = a * b := fun _ _ => rfl
  have hadd : ∀ a b : Nat, Nat.add a b = a + b := fun _ _ => rfl
  have hsub : ∀ a b : Nat, Nat.sub a b = a - b := fun _ _ => rfl
  split at hk
  · -- a string
    rename_i l hd
    split at hk
    · rename_i a b ha hb
      have hc := (cond_some hk).1
      replace hk := (cond_some hk).2
      obtain ⟨c1, c2⟩ := and_true hc
      have c1 := (ble_iff _ _).1 c1
      have c2 := (ble_iff _ _).1 c2
      cases mx' with
      | some _ => exact h3.elim
      | none =>
      cases hx with
      | str s =>
      have := cutK_some _ _ _ hk
      rw [ofBytes_length] at c2 hb
      refine ⟨_, .string (s.extract a b), this, ?_, ?_⟩
      · have hb' := run_bounds (P := P) (len := s.size) (cap := s.size) (isS := false) h1 h2 ha hb c1 c2 w
        simp only [Instr.sliceAt, Instr.slice, Sem.run_bind, run_underlying hd, Result.andThen_ok, Option.isSome_none, Bool.false_eq_true, if_false, hb', Sem.run_pure]
      · have e : ((ofBytes s.data.toList).drop a).take (Nat.sub b a) = ofBytes (s.extract a b).data.toList := by
          simp only [ofBytes_map, hsub]
          rw [ByteArray.data_extract, Array.toList_extract, List.extract_eq_take_drop, ← List.map_drop, ← List.map_take]
        rw [e]
        exact .str _
    · cases hk
  · -- a nil slice
    rename_i e hd
    split at hk
    · rename_i size hs ha hb
      cases mx' with
      | some _ => exact h3.elim
      | none =>
      cases hx with
      | nilsl =>
      refine ⟨_, .slice none 0 0, hk, ?_, .nilsl⟩
      have hb' := run_bounds (P := P) (len := 0) (cap := 0) (isS := true) h1 h2 ha hb (Nat.le_refl _) (Nat.le_refl _) w
      simp only [Instr.sliceAt, Instr.slice, Sem.run_bind, run_underlying hd, Result.andThen_ok, hb', run_sizeT hs, Sem.run_pure, if_true, Nat.sub_self]
    · cases hk
  · -- a slice
    rename_i e f v o len esz lim hd
    split at hk
    · rename_i size a b hs ha hb
      have hc := (cond_some hk).1
      replace hk := (cond_some hk).2
      obtain ⟨c0, c9⟩ := and_true hc
      have c0 := Nat.eq_of_beq_eq_true c0
      subst c0
      obtain ⟨c8, c2⟩ := and_true c9
      have c1 := (ble_iff _ _).1 c8
      rw [fN_eq, fN_eq] at hk
      simp only [hmul, hadd, hsub] at hk
      cases mx' with
      | some _ => exact h3.elim
      | none =>
      cases hx with
      | @sl _ _ _ _ _ _ L ad cap hL g0 g1 g2 g3 g4 g5 g6 =>
      have c3 : b ≤ cap ∧ o + b * size ≤ v := by
        cases hbl : Nat.ble b len with
        | true =>
          have c2 := (ble_iff _ _).1 hbl
          have d3 : b * size ≤ len * size := Nat.mul_le_mul_right _ c2
          exact ⟨by omega, by omega⟩
        | false =>
          rw [hbl] at c2
          have c2 : reachB h f v lim (Nat.add o (Nat.mul b size)) = true := c2
          unfold reachB at c2
          split at c2
          · split at c2
            · rename_i c m rd frz eto hg
              obtain ⟨e1, e2⟩ := and_true c2
              have e1 := (ble_iff _ _).1 e1
              have e2 := (ble_iff _ _).1 e2
              simp only [hmul, hadd] at e2
              obtain ⟨_, _, _, _, _, hvc, _⟩ := ((r.cellsF _ _ _ _ _ _ hg).2 v L hL).2 e1
              rw [Option.getD_none] at g3
              refine ⟨?_, e2⟩
              have : b * size ≤ cap * size := by omega
              exact Nat.le_of_mul_le_mul_right this g0
            · cases c2
          · cases c2
      obtain ⟨c2, c4⟩ := c3
      have hb' := run_bounds (P := P) (len := len) (cap := cap) (isS := true) h1 h2 ha hb c1 (by omega) w
      refine ⟨_, .slice (some (if cap = a then ad else ad.add (a * size))) (b - a) (cap - a), hk, ?_, ?_⟩
      · simp only [Instr.sliceAt, Instr.slice, Sem.run_bind, run_underlying hd, Result.andThen_ok, hb', run_sizeT hs, Sem.run_pure]
        split <;> rfl
      · have d1 : (cap - a) * size + a * size = cap * size := by rw [← Nat.add_mul]; congr 1; omega
        have d2 : (b - a) * size + a * size = b * size := by rw [← Nat.add_mul]; congr 1; omega
        refine .sl hL g0 (by omega) (by omega) (by omega) g4 ?_ (by omega)
        by_cases hca : cap = a
        · right
          rw [if_pos hca]
          refine ⟨by omega, ?_⟩
          rcases g5 with rfl | g5
          · rfl
          · exact g5.2
        · rw [if_neg hca]
          rcases g5 with rfl | g5
          · left
            unfold Addr.add
            split
            · rename_i h0; rw [h0]; simp
            · simp [Nat.add_assoc]
          · omega
    · rename_i size a b m hs ha hb
      split at hk
      · rename_i c u hm
        have hhi : (some u).isSome = true := rfl
        have hc := (cond_some hk).1
        replace hk := (cond_some hk).2
        obtain ⟨c0, c1⟩ := and_true hc
        obtain ⟨c1, c3⟩ := and_true c1
        obtain ⟨c1, c2⟩ := and_true c1
        obtain ⟨c3, c4⟩ := and_true c3
        have c0 := Nat.eq_of_beq_eq_true c0
        have c1 := (ble_iff _ _).1 c1
        have c2 := (ble_iff _ _).1 c2
        have c3 := (ble_iff _ _).1 c3
        have c4 := (ble_iff _ _).1 c4
        subst c0
        rw [fN_eq, fN_eq, fN_eq] at hk
        simp only [hmul, hadd, hsub] at hk
        cases mx' with
        | none => exact h3.elim
        | some m' =>
        cases hx with
        | @sl _ _ _ _ _ _ L ad cap hL g0 g1 g2 g3 g4 g5 g6 =>
        have hb' := run_bounds3 (P := P) (len := len) (cap := cap) h1 h2 h3 ha hb hhi hm c1 c3 (by omega) w
        refine ⟨_, .slice (some (if c = a then ad else ad.add (a * size))) (b - a) (c - a), hk, ?_, ?_⟩
        · simp only [Instr.sliceAt, Instr.slice, Sem.run_bind, run_underlying hd, Result.andThen_ok, hb', run_sizeT hs, Sem.run_pure]
          split <;> rfl
        · have d1 : (c - a) * size + a * size = c * size := by rw [← Nat.add_mul]; congr 1; omega
          have d2 : (b - a) * size + a * size = b * size := by rw [← Nat.add_mul]; congr 1; omega
          have d3 : b * size ≤ len * size := Nat.mul_le_mul_right _ c2
          have d4 : c * size ≤ cap * size := Nat.mul_le_mul_right _ (by omega)
          refine .sl hL g0 (by omega) (by omega) (by rw [Option.getD_some]; omega) (by rw [Option.getD_some]; omega) ?_ (by omega)
          by_cases hca : c = a
          · right
            rw [if_pos hca]
            refine ⟨by omega, ?_⟩
            rcases g5 with rfl | g5
            · rfl
            · exact g5.2
          · rw [if_neg hca]
            rcases g5 with rfl | g5
            · left
              unfold Addr.add
              split
              · rename_i h0; rw [h0]; simp
              · simp [Nat.add_assoc]
            · omega
      · cases hk
    · cases hk
  · -- an array
    rename_i n e f v o hd
    split at hk
    · rename_i size a b hs ha hb
      split at hk
      · rename_i c m rd frz eto hg
        have hc := (cond_some hk).1
        replace hk := (cond_some hk).2
        obtain ⟨c0, c1⟩ := and_true hc
        obtain ⟨c0, c5⟩ := and_true c0
        obtain ⟨c5, c6⟩ := and_true c5
        obtain ⟨c1, c2⟩ := and_true c1
        obtain ⟨c2, c3⟩ := and_true c2
        obtain ⟨c3, c7⟩ := and_true c3
        have c7 := (ble_iff _ _).1 c7
        have c0 := (ble_iff _ _).1 c0
        have c1 := (ble_iff _ _).1 c1
        have c2 := (ble_iff _ _).1 c2
        have c6 := (ble_iff _ _).1 c6
        rw [blt_eq] at c3
        have c3 := of_decide_eq_true c3
        rw [fN_eq, fN_eq, fN_eq] at hk
        simp only [hmul, hadd, hsub] at hk c6
        cases mx' with
        | some _ => exact h3.elim
        | none =>
        cases hx with
        | @ptr _ _ _ L hL =>
        obtain ⟨_, _, _, _, _, hvc, _⟩ := ((r.cellsF _ _ _ _ _ _ hg).2 v L hL).2 c0
        have hb' := run_bounds (P := P) (len := n) (cap := n) (isS := false) h1 h2 ha hb c1 c2 w
        refine ⟨_, .slice (some (if n = a then ⟨L.blk, L.base + o, none⟩ else (⟨L.blk, L.base + o, none⟩ : Addr).add (a * size))) (b - a) (n - a), hk, ?_, ?_⟩
        · simp only [Instr.sliceAt, Instr.sureAddr, Sem.run_bind, run_underlying hd, Result.andThen_ok, hb', run_sizeT hs, Sem.run_pure]
        · have d1 : (n - a) * size + a * size = n * size := by rw [← Nat.add_mul]; congr 1; omega
          have d2 : (b - a) * size + a * size = b * size := by rw [← Nat.add_mul]; congr 1; omega
          have d3 : b * size ≤ n * size := Nat.mul_le_mul_right _ c2
          refine .sl hL c3 (by omega) (by omega) (by rw [Option.getD_some]; omega) (by rw [Option.getD_some]; omega) ?_ (by omega)
          by_cases hca : n = a
          · right
            rw [if_pos hca]
            exact ⟨by omega, rfl⟩
          · rw [if_neg hca]
            left
            unfold Addr.add
            split
            · rename_i h0; rw [h0]; simp
            · simp [Nat.add_assoc]
      · cases hk
    · cases hk
  · cases hk
end
end Go.Proofs.YtcigfmnkfelhjaaDoor.Am
