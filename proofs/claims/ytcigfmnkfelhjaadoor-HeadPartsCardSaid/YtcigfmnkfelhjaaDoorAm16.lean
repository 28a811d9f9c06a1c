/- The abstract machine: a region that draws its order: the invariant. -/
import Derived.Test.YtcigfmnkfelhjaaDoorAm15
set_option linter.unusedVariables false
set_option linter.unusedSimpArgs false
namespace Go.Proofs.YtcigfmnkfelhjaaDoor.Am
open Go

/-- The text's run, laid out. -/
structure Run (P : Program) (gl : Gl P) (rec : Rec) (ops : Array Oper) (ancs : List Nat) (ex : List Tc) (N nt : Nat) (ts : Nat → List Tc) (tm : Nat → Tr AV) (H H' : Nat → AH) : Prop where
  step : ∀ j, j < N → aOne P gl rec ops j ⟨tm j, nt, (H j).hide (hidFor (nthD ancs j) (ts j) (extraFor ancs j ex []))⟩ = some ⟨tm (j + 1), nt, H' j⟩
  next : ∀ j, j < N → H (j + 1) = (H j).show (H' j)
  ts0 : ts 0 = []
  tsS : ∀ j, j < N → (ts (j + 1) = ts j ∧ (H' j).wlog = [] ∧ (H' j).next = (H j).next) ∨
    (ts (j + 1) = ⟨j, (H' j).wlog, (H j).next, (H' j).next⟩ :: ts j ∧ ∀ i, i < j → offB (nthD ancs j) i = true → ∀ F ∈ (H' j).wlog, inRanges (extraFor ancs i ex []) F = true)

section
variable {P : Program} {gl : Gl P} {rec : Rec} {ops : Array Oper} {ancs : List Nat} {ex : List Tc} {N nt : Nat} {ts : Nat → List Tc} {tm : Nat → Tr AV} {H H' : Nat → AH}

/-- What is hidden from operation j. -/
def Run.U (ancs : List Nat) (ex : List Tc) (ts : Nat → List Tc) (j : Nat) : List (Nat × Nat) := hidFor (nthD ancs j) (ts j) (extraFor ancs j ex [])

variable (r : Run P gl rec ops ancs ex N nt ts tm H H') (ra : RecAF rec) (wf0 : Wf (H 0))
include r ra wf0

theorem Run.wf : ∀ j, j ≤ N → Wf (H j)
  | 0, _ => wf0
  | j + 1, h => by
    have w := Run.wf j (by omega)
    have af := aOne_AF ra (hide_wf w _) (r.step j (by omega))
    rw [r.next j (by omega)]
    exact (show_AF w af).wf
theorem Run.afh {j : Nat} (h : j < N) : AF ((H j).hide (Run.U ancs ex ts j)) (H' j) := aOne_AF ra (hide_wf (Run.wf r ra wf0 j (by omega)) _) (r.step j h)
theorem Run.af {j : Nat} (h : j < N) : AF (H j) (H (j + 1)) := by
  rw [r.next j h]
  exact show_AF (Run.wf r ra wf0 j (by omega)) (Run.afh r ra wf0 h)
theorem Run.nextS {j : Nat} (h : j < N) : (H (j + 1)).next = (H' j).next := by
  have _ := ra; have _ := wf0
  rw [r.next j h, show_next]
theorem Run.mono {i j : Nat} (h : j ≤ N) (hij : i ≤ j) : AF (H i) (H j) := by
  induction j with
  | zero =>
    obtain rfl : i = 0 := by omega
    exact .refl wf0
  | succ j ih =>
    rcases Nat.lt_or_ge i (j + 1) with h1 | h1
    · exact (ih (by omega) (by omega)).trans (Run.wf r ra wf0 i (by omega)) (Run.af r ra wf0 (by omega))
    · obtain rfl : i = j + 1 := by omega
      exact .refl (Run.wf r ra wf0 _ h)
/-- What has been touched is on the list. -/
theorem Run.listed {j i : Nat} (hj : j ≤ N) (hi : i < j) {F : Nat} (ht : Tch (H i) (H' i) F) : ⟨i, (H' i).wlog, (H i).next, (H' i).next⟩ ∈ ts j := by
  have _ := ra; have _ := wf0
  induction j with
  | zero => omega
  | succ j ih =>
    rcases r.tsS j (by omega) with ⟨e1, e2, e3⟩ | ⟨e1, _⟩
    · rw [e1]
      rcases Nat.lt_or_ge i j with h | h
      · exact ih (by omega) h
      · obtain rfl : i = j := by omega
        rcases ht with t | ⟨t1, t2⟩
        · rw [e2] at t; cases t
        · omega
    · rw [e1]
      rcases Nat.lt_or_ge i j with h | h
      · exact List.mem_cons_of_mem _ (ih (by omega) h)
      · obtain rfl : i = j := by omega
        exact List.mem_cons_self
/-- Hidden from j: what an unordered one ahead of it has touched. -/
theorem Run.hidA {j i : Nat} (hj : j < N) (hi : i < j) (ho : offB (nthD ancs j) i = true) {F : Nat} (ht : Tch (H i) (H' i) F) : inRanges (Run.U ancs ex ts j) F = true := by
  refine (hidFor_iff _ _ _ _).2 (.inr ⟨_, Run.listed r ra wf0 (by omega) hi ht, ho, ?_⟩)
  rcases ht with t | t
  · exact .inr t
  · exact .inl t
/-- Hidden from i: what an unordered one behind it will write. -/
theorem Run.hidB {j i : Nat} (hj : j < N) (hi : i < j) (ho : offB (nthD ancs j) i = true) {F : Nat} (ht : F ∈ (H' j).wlog) : inRanges (Run.U ancs ex ts i) F = true := by
  have _ := ra; have _ := wf0
  rcases r.tsS j hj with ⟨_, e2, _⟩ | ⟨_, e2⟩
  · rw [e2] at ht; cases ht
  · exact (hidFor_iff _ _ _ _).2 (.inl (e2 i hi ho F ht))

/-- A family that j can see: whoever touches it is ordered. -/
theorem Run.visA {j k : Nat} (hj : j < N) (hk : k < j) {F : Nat} (hv : ((H j).hide (Run.U ancs ex ts j)).get F ≠ none) (ht : Tch (H k) (H' k) F) : offB (nthD ancs j) k = false := by
  cases h : offB (nthD ancs j) k with
  | false => rfl
  | true =>
    rw [hide_get, Run.hidA r ra wf0 hj hk h ht] at hv
    exact absurd rfl hv
theorem Run.visB {j k : Nat} (hj : j < N) (hk : k < N) (hjk : j < k) {F : Nat} (hv : ((H j).hide (Run.U ancs ex ts j)).get F ≠ none) (ht : Tch (H k) (H' k) F) : offB (nthD ancs k) j = false := by
  cases h : offB (nthD ancs k) j with
  | false => rfl
  | true =>
    rcases ht with t | ⟨t1, t2⟩
    · rw [hide_get, Run.hidB r ra wf0 hk hjk h t] at hv
      exact absurd rfl hv
    · have h1 := (Run.mono r ra wf0 (Nat.le_of_lt hk) (Nat.le_of_lt hjk)).next
      have := hide_get (H j) (Run.U ancs ex ts j) F
      rw [(Run.wf r ra wf0 j (by omega)).get F (by omega)] at this
      rw [this] at hv
      simp at hv
/-- A family that j has touched: whoever touches it later is ordered behind j. -/
theorem Run.tchB {j k : Nat} (hj : j < N) (hk : k < N) (hjk : j < k) {F : Nat} (hj' : Tch (H j) (H' j) F) (ht : Tch (H k) (H' k) F) : offB (nthD ancs k) j = false := by
  rcases hj' with t | ⟨t1, t2⟩
  · have hv := (tch_vis (Run.afh r ra wf0 hj) t).2.2.2
    refine Run.visB r ra wf0 hj hk hjk (fun e => ?_) ht
    rw [e] at hv; cases hv
  · cases h : offB (nthD ancs k) j with
    | false => rfl
    | true =>
      have hu := Run.hidA r ra wf0 hk hjk h (.inr ⟨t1, t2⟩)
      rcases ht with t | ⟨t3, t4⟩
      · rw [(tch_vis (Run.afh r ra wf0 hk) t).1] at hu; cases hu
      · rw [tch_new (Run.afh r ra wf0 hk) t3 t4] at hu; cases hu

/-- What is touched on the way. -/
theorem Run.touch {j : Nat} (hj : j < N) {F : Nat} (ht : Tch (H j) (H' j) F) : Touch (H 0) (H N) F := by
  have m1 := Run.mono r ra wf0 (Nat.le_of_lt hj) (Nat.zero_le _)
  have m2 := Run.mono r ra wf0 (Nat.le_refl N) (show j + 1 ≤ N from hj)
  have hn := (Run.wf r ra wf0 j (by omega)).mark
  rw [m1.mark] at hn
  have h3 : F < (H (j + 1)).next := by
    rw [Run.nextS r ra wf0 hj]
    rcases ht with t | ⟨_, t⟩
    · have := (tch_vis (Run.afh r ra wf0 hj) t).2.1
      have h4 := (Run.afh r ra wf0 hj).next
      rw [hide_next] at h4
      omega
    · exact t
  by_cases hm : F < (H 0).mark
  · rcases ht with t | ⟨t, _⟩
    · refine .inr (m2.wl F ?_)
      rw [r.next j hj, show_wlog]
      exact (mergeL_iff _ _ _ _).2 (.inr ⟨t, by rw [m1.mark]; exact hm⟩)
    · omega
  · exact .inl ⟨by omega, by have := m2.next; omega⟩

/-- Untouched: as it was. -/
theorem Run.keep {j : Nat} (hj : j < N) {F : Nat} (ht : ¬ Tch (H j) (H' j) F) : (H (j + 1)).get F = (H j).get F := by
  rw [r.next j hj]
  rcases Nat.lt_or_ge F (H j).next with h | h
  · exact show_get_keep (Run.afh r ra wf0 hj) h ht
  · rw [(Run.wf r ra wf0 j (by omega)).get F h]
    have h2 : ¬ F < (H' j).next := fun h2 => ht (.inr ⟨h, h2⟩)
    have := (Run.wf r ra wf0 (j + 1) hj).get F (by rw [Run.nextS r ra wf0 hj]; omega)
    rwa [r.next j hj] at this
end

theorem anc_lt {ops : Array Oper} {ancs : List Nat} (ha : ancsOf ops.toList 0 [] = some ancs) : ∀ k, k < ops.size → ∀ j, offB (nthD ancs k) j = false → j < k := by
  obtain ⟨_, g⟩ := ancsOf_some (ancs := []) (j := 0) rfl ha
  intro k
  induction k using Nat.strongRecOn with
  | _ k ih =>
    intro hk j hb
    obtain ⟨e, _, _, k3, k4⟩ := g k ops[k] (by rw [Array.getElem?_toList]; exact Array.getElem?_eq_getElem hk) j (by rw [Nat.zero_add]; exact (offB_iff _ _).1 hb)
    rw [Nat.zero_add] at k3
    rcases k4 with rfl | k4
    · exact k3
    · have := ih e.on k3 (by omega) j ((offB_iff _ _).2 k4); omega
theorem aOne_tm {P : Program} {gl : Gl P} {rec : Rec} {ops : Array Oper} {i : Nat} {tm tm' : Tr AV} {nt nt' : Nat} {h h' : AH} (hx : aOne P gl rec ops i ⟨tm, nt, h⟩ = some ⟨tm', nt', h'⟩) :
    ∃ v : AV, ∀ t, tm'.get t = if (ops[i]?).bind (·.dst) = some t then some v else tm.get t := by
  unfold aOne at hx
  split at hx
  · rename_i e1
    injection hx with hx
    injection hx with h1 _ _
    subst h1
    exact ⟨.tuple [], fun t => by simp [e1]⟩
  · rename_i o tm1 nt1 h1 e1 e2
    injection e2 with a1 a2 a3
    subst a1 a2 a3
    have hdst : (ops[i]?).bind (·.dst) = o.dst := by rw [e1]; rfl
    rw [hdst]
    replace hx := (cond_some hx).2
    cases hw : aWanted ops tm nt o with
    | true =>
      rw [hw] at hx
      simp only [cond_true] at hx
      split at hx
      · obtain ⟨tm2, e, hg2, _⟩ := putT_some hx
        injection e with e; injection e with e _ _; subst e
        exact ⟨_, hg2⟩
      · split at hx
        · obtain ⟨tm2, e, hg2, _⟩ := putT_some hx
          injection e with e; injection e with e _ _; subst e
          exact ⟨_, hg2⟩
        · cases hx
      · cases hx
    | false =>
      rw [hw] at hx
      simp only [cond_false] at hx
      obtain ⟨tm2, e, hg2, _⟩ := putT_some hx
      injection e with e; injection e with e _ _; subst e
      exact ⟨_, hg2⟩
/-- What holds when a set D of the operations has been carried out, in whatever order. -/
structure Inv (ops : Array Oper) (N nt : Nat) (tm : Nat → Tr AV) (H H' : Nat → AH) (ρ0 : Rho) (w0 : World) (D : Nat → Bool) (ρ : Rho) (a : Act) (w : World) : Prop where
  size : a.tmps.size = nt
  defers : a.defers = []
  val : ∀ t, TV ρ (sel D (fun k => (ops[k]?).bind (·.dst) = some t) (fun k => (tm k).get t) N) (a.tmps.getD t undef)
  rep : Rep ρ (fun F => sel D (fun k => Tch (H k) (H' k) F) (fun k => (H k).get F) N) w
  le : Le ρ0 ρ
  new : ∀ F v L, ρ F v = some L → ρ0 F v = some L ∨ (Touch (H 0) (H N) F ∧ (w0.heap.size ≤ L.blk ∨ ∃ F0 v0 L0, ρ0 F0 v0 = some L0 ∧ L0.blk = L.blk ∧ Touch (H 0) (H N) F0 ∧ isLive ((H 0).get F0) = true))
  fr : Fr ρ0 (H 0) (H N) w0 w
  free : ∀ i, i < N → D i = false → ∀ F v, (H i).next ≤ F → F < (H (i + 1)).next → ρ F v = none

section
variable {P : Program} {gl : Gl P} {rec : Rec} {ops : Array Oper} {ancs : List Nat} {ex : List Tc} {nt : Nat} {ts : Nat → List Tc} {tm : Nat → Tr AV} {H H' : Nat → AH} {ρ0 : Rho} {w0 : World}

theorem Inv.step (r : Run P gl rec ops ancs ex ops.size nt ts tm H H') (ra : RecAF rec) (rok : RecOK P gl rec) (wf0 : Wf (H 0)) (hg : GlobOK ρ0 gl) (hfresh : Fresh ρ0 (H 0).next (H ops.size).next) (ha : ancsOf ops.toList 0 [] = some ancs) (htk : tmpOk ancs ops ops.toList 0 = true)
    {D : Nat → Bool} (hD : ∀ j, D j = true → Closed ops D j) {j : Nat} (hj : j < ops.size) (hDj : ¬ D j = true) (hc : Closed ops D j) {ρ : Rho} {a : Act} {w : World} (inv : Inv ops ops.size nt tm H H' ρ0 w0 D ρ a w)
    {D' : Nat → Bool} (hD' : ∀ k, D' k = true ↔ D k = true ∨ k = j) {K : Act → World → Prop} {Q : Exit → Act → World → Prop} (hK : ∀ a' w' ρ', Inv ops ops.size nt tm H H' ρ0 w0 D' ρ' a' w' → K a' w') : wpOp P ops Q j K a w := by
  have hin := fun i h => anc_in ha hD j hj hc i h
  have wfj := Run.wf r ra wf0 j (by omega)
  have afj := Run.afh r ra wf0 hj
  -- whoever is behind j has not been
  have hbehind : ∀ k, k < ops.size → offB (nthD ancs k) j = false → ¬ D k = true := by
    intro k hk ho hd
    exact hDj (anc_in ha hD k hk (hD k hd) j ho)
  -- j's own view: the families
  have hview : ∀ F, ((H j).hide (Run.U ancs ex ts j)).get F ≠ none → sel D (fun k => Tch (H k) (H' k) F) (fun k => (H k).get F) ops.size = (H j).get F ∧ ((H j).hide (Run.U ancs ex ts j)).get F = (H j).get F := by
    intro F hv
    constructor
    · refine sel_at (W := fun k => Tch (H k) (H' k) F) (X := fun k => (H k).get F) (fun k hk hw => hin k (Run.visA r ra wf0 hj hk hv hw)) (fun k hk hw => Run.keep r ra wf0 (by omega) hw) _ (by omega) fun k h1 h2 hw => ?_
      rcases Nat.lt_or_ge j k with h3 | h3
      · exact hbehind k h2 (Run.visB r ra wf0 hj h2 h3 hv hw)
      · obtain rfl : k = j := by omega
        exact hDj
    · rw [hide_get] at hv ⊢
      split
      · rename_i hh; rw [if_pos hh] at hv; exact absurd rfl hv
      · rfl
  have hrep : Rep ρ ((H j).hide (Run.U ancs ex ts j)).get w := inv.rep.sub fun F o hF => by
    obtain ⟨h1, h2⟩ := hview F (by rw [hF]; simp)
    show sel D _ _ _ = some o
    rw [h1, ← h2, hF]
  have hfr : Fresh ρ ((H j).hide (Run.U ancs ex ts j)).next (H' j).next := by
    rw [hide_next, ← Run.nextS r ra wf0 hj]
    intro F v h1 h2
    exact inv.free j hj (by simpa using hDj) F v h1 h2
  -- j's own view: the slots
  have hslot : ∀ o, ops[j]? = some o → ∀ t ∈ o.looksAt ops, TV ρ ((tm j).get t) (a.tmps.getD t undef) := by
    intro o ho t ht
    have hts : t ∈ o.dst.toList ++ o.looksAt ops := List.mem_append_right _ ht
    have h1 := tmpOk_some htk j o (by rw [Array.getElem?_toList]; exact ho)
    rw [Nat.zero_add] at h1
    have hord : ∀ k, (ops[k]?).bind (·.dst) = some t → k = j ∨ ordB ancs k j = true := by
      intro k hk
      obtain ⟨ok, e1, e2⟩ := Option.bind_eq_some_iff.1 hk
      have := tmpOk1_some h1 k ok (by rw [Array.getElem?_toList]; exact e1) t e2 hts
      rwa [Nat.zero_add] at this
    have := inv.val t
    rw [sel_at (j := j) (W := fun k => (ops[k]?).bind (·.dst) = some t) (X := fun k => (tm k).get t) (fun k hk hw => ?_) (fun k hk hw => ?_) _ (by omega) (fun k h1 h2 hw => ?_)] at this
    · exact this
    · rcases hord k hw with h | h
      · omega
      · unfold ordB at h
        rw [Bool.or_eq_true] at h
        rcases h with h | h
        · -- j ahead of k < j: no
          have h' : offB (nthD ancs k) j = false := by simpa using h
          have := anc_lt ha k (by omega) j h'
          omega
        · exact hin k (by simpa using h)
    · obtain ⟨v, e2⟩ := aOne_tm (r.step k (by omega))
      show (tm (k + 1)).get t = (tm k).get t
      rw [e2 t, if_neg hw]
    · rcases hord k hw with h | h
      · subst h; exact hDj
      · rcases Nat.lt_or_ge j k with h3 | h3
        · unfold ordB at h
          rw [Bool.or_eq_true] at h
          rcases h with h | h
          · exact hbehind k h2 (by simpa using h)
          · -- k ahead of j < k: no
            have h' : offB (nthD ancs j) k = false := by simpa using h
            have := anc_lt ha j hj k h'
            omega
        · obtain rfl : k = j := by omega
          exact hDj
  obtain ⟨v, _, e2, e3, e4⟩ := aOne_wp ra rok (hg.mono inv.le) hrep (hide_wf wfj _) inv.size hslot hfr (r.step j hj)
  refine e4 K Q fun x w' ρ' hv ho => hK _ w' ρ' ?_
  have hle := ho.ext.le
  have htch := fun F => tch_iff (h := H j) (h' := H' j) (U := Run.U ancs ex ts j) F
  -- the families behind it
  have hselF : ∀ F, (Tch (H j) (H' j) F → sel D' (fun k => Tch (H k) (H' k) F) (fun k => (H k).get F) ops.size = (H (j + 1)).get F) ∧ (¬ Tch (H j) (H' j) F → sel D' (fun k => Tch (H k) (H' k) F) (fun k => (H k).get F) ops.size = sel D (fun k => Tch (H k) (H' k) F) (fun k => (H k).get F) ops.size) := by
    intro F
    exact sel_upd (W := fun k => Tch (H k) (H' k) F) (X := fun k => (H k).get F) hD' (fun hw k h1 h2 hw2 hd => hbehind k h2 (Run.tchB r ra wf0 hj h2 h1 hw hw2) hd) hj
  -- what j's own run says of them
  have hknown : ∀ F, (((H j).hide (Run.U ancs ex ts j)).get F ≠ none ∨ ((H j).next ≤ F ∧ F < (H' j).next)) → sel D' (fun k => Tch (H k) (H' k) F) (fun k => (H k).get F) ops.size = (H' j).get F := by
    rintro F (hv | ⟨h1, h2⟩)
    · have hU : inRanges (Run.U ancs ex ts j) F = false := by
        cases hh : inRanges (Run.U ancs ex ts j) F with
        | false => rfl
        | true => rw [hide_get, hh] at hv; exact absurd rfl hv
      by_cases ht : Tch (H j) (H' j) F
      · rw [(hselF F).1 ht, r.next j hj, show_get_vis afj hU]
      · obtain ⟨q1, q2⟩ := hview F hv
        have hlt : F < (H j).next := by
          rcases Nat.lt_or_ge F (H j).next with h | h
          · exact h
          · rw [q2, wfj.get F h] at hv; exact absurd rfl hv
        rw [(hselF F).2 ht, q1, ← q2]
        exact (afj.keepGet (by rw [hide_next]; exact hlt) (fun t => ht ((htch F).1 t))).symm
    · rw [(hselF F).1 (.inr ⟨h1, h2⟩), r.next j hj, show_get_vis afj (tch_new afj h1 h2)]
  have hunk : ∀ F, ¬ (((H j).hide (Run.U ancs ex ts j)).get F ≠ none ∨ ((H j).next ≤ F ∧ F < (H' j).next)) → ¬ Tch (H j) (H' j) F ∧ sel D' (fun k => Tch (H k) (H' k) F) (fun k => (H k).get F) ops.size = sel D (fun k => Tch (H k) (H' k) F) (fun k => (H k).get F) ops.size := by
    intro F hn
    have : ¬ Tch (H j) (H' j) F := by
      rintro (t | t)
      · have := (tch_vis afj t).2.2.2
        exact hn (.inl fun e => by rw [e] at this; cases this)
      · exact hn (.inr t)
    exact ⟨this, (hselF F).2 this⟩
  have hold : ∀ F v L, ¬ (((H j).hide (Run.U ancs ex ts j)).get F ≠ none ∨ ((H j).next ≤ F ∧ F < (H' j).next)) → ρ' F v = some L → ρ F v = some L := by
    intro F v L hn hL
    rcases ho.ext.new F v L hL with h | ⟨t, _⟩
    · exact h
    · exact absurd ((htch F).1 t) (hunk F hn).1
  have hblk : ∀ F v L, ¬ (((H j).hide (Run.U ancs ex ts j)).get F ≠ none ∨ ((H j).next ≤ F ∧ F < (H' j).next)) → isLive (sel D (fun k => Tch (H k) (H' k) F) (fun k => (H k).get F) ops.size) = true → ρ F v = some L → w'.heap[L.blk]? = w.heap[L.blk]? := by
    intro F v L hn hl hL
    refine ho.fr.block _ (inv.rep.bnd F v L hL) fun F2 v2 L2 hL2 hb t => ?_
    rcases (htch F2).1 t with t | ⟨t1, t2⟩
    · have h1 := (tch_vis afj t).2.2
      have hv2 : ((H j).hide (Run.U ancs ex ts j)).get F2 ≠ none := fun e => by have := h1.2; rw [e] at this; cases this
      obtain ⟨q1, q2⟩ := hview F2 hv2
      have := inv.rep.inj F2 F v2 v L2 L (by rw [q1]; exact h1.1) hl hL2 hL hb
      subst this
      exact hn (.inl hv2)
    · rw [inv.free j hj (by simpa using hDj) F2 v2 t1 (by rw [Run.nextS r ra wf0 hj]; exact t2)] at hL2
      cases hL2
  refine ⟨?_, ?_, ?_, ⟨?_, ?_, ?_, ?_, ho.rep.bnd, ?_⟩, inv.le.trans hle, ?_, ?_, ?_⟩
  · rw [put_size]; exact inv.size
  · rw [put_defers]; exact inv.defers
  · -- the slots
    intro t
    have hord : (ops[j]?).bind (·.dst) = some t → ∀ k, j < k → k < ops.size → (ops[k]?).bind (·.dst) = some t → ¬ D k = true := by
      intro hw k h1 h2 hk
      obtain ⟨oj, f1, f2⟩ := Option.bind_eq_some_iff.1 hw
      obtain ⟨ok, f3, f4⟩ := Option.bind_eq_some_iff.1 hk
      have q := tmpOk_some htk j oj (by rw [Array.getElem?_toList]; exact f1)
      rw [Nat.zero_add] at q
      have q := tmpOk1_some q k ok (by rw [Array.getElem?_toList]; exact f3) t f4 (List.mem_append_left _ (by rw [f2]; simp))
      rw [Nat.zero_add] at q
      rcases q with q | q
      · omega
      · unfold ordB at q
        rw [Bool.or_eq_true] at q
        rcases q with q | q
        · exact hbehind k h2 (by simpa using q)
        · have := anc_lt ha j hj k (by simpa using q)
          omega
    obtain ⟨s1, s2⟩ := sel_upd (W := fun k => (ops[k]?).bind (·.dst) = some t) (X := fun k => (tm k).get t) hD' hord hj
    rw [put_get a _ x (by rw [inv.size]; exact e3) t]
    by_cases hw : (ops[j]?).bind (·.dst) = some t
    · rw [s1 hw, if_pos hw, e2 t, if_pos hw]
      exact hv
    · rw [s2 hw, if_neg hw]
      exact (inv.val t).mono hle
  · intro F c n rd frz eto hF
    by_cases hn : (((H j).hide (Run.U ancs ex ts j)).get F ≠ none ∨ ((H j).next ≤ F ∧ F < (H' j).next))
    · exact ho.rep.cellsF F c n rd frz eto ((hknown F hn).symm.trans hF)
    · have hF2 := (hunk F hn).2.symm.trans hF
      obtain ⟨h1, h2⟩ := inv.rep.cellsF F c n rd frz eto hF2
      refine ⟨h1, fun v L hL => ?_⟩
      have hL2 := hold F v L hn hL
      obtain ⟨h3, h4⟩ := h2 v L hL2
      refine ⟨h3, fun hrd => ?_⟩
      obtain ⟨arr, et, fz, k1, k2, k3, k4, k5⟩ := h4 hrd
      refine ⟨arr, et, fz, by rw [hblk F v L hn (by rw [hF2]; rfl) hL2]; exact k1, k2, k3, fun i hi => ?_, k5⟩
      obtain ⟨b, y, m1, m2, m3⟩ := k4 i hi
      exact ⟨b, y, m1, m2, m3.mono hle⟩
  · intro F es ck hF v L hL
    by_cases hn : (((H j).hide (Run.U ancs ex ts j)).get F ≠ none ∨ ((H j).next ≤ F ∧ F < (H' j).next))
    · exact ho.rep.mp F es ck ((hknown F hn).symm.trans hF) v L hL
    · have hF2 := (hunk F hn).2.symm.trans hF
      have hL2 := hold F v L hn hL
      obtain ⟨es', k1, k2⟩ := inv.rep.mp F es ck hF2 v L hL2
      exact ⟨es', by rw [hblk F v L hn (by rw [hF2]; rfl) hL2]; exact k1, k2.mono hle⟩
  · -- apart
    have one : ∀ F F' v v' L L', (((H j).hide (Run.U ancs ex ts j)).get F ≠ none ∨ ((H j).next ≤ F ∧ F < (H' j).next)) → ¬ (((H j).hide (Run.U ancs ex ts j)).get F' ≠ none ∨ ((H j).next ≤ F' ∧ F' < (H' j).next)) →
        isLive (sel D' (fun k => Tch (H k) (H' k) F) (fun k => (H k).get F) ops.size) = true → isLive (sel D' (fun k => Tch (H k) (H' k) F') (fun k => (H k).get F') ops.size) = true → ρ' F v = some L → ρ' F' v' = some L' → L.blk = L'.blk → False := by
      intro F F' v v' L L' hn hn' l1 l2 hL hL' hb
      have hL2 := hold F' v' L' hn' hL'
      rw [(hunk F' hn').2] at l2
      rcases ho.ext.new F v L hL with h | ⟨t, h | ⟨F0, v0, L0, g1, g2, g3, g4⟩⟩
      · -- an elder place
        rcases hn with hv | ⟨h1, h2⟩
        · obtain ⟨q1, q2⟩ := hview F hv
          have hlt : F < (H j).next := by
            rcases Nat.lt_or_ge F (H j).next with h | h
            · exact h
            · rw [q2, wfj.get F h] at hv; exact absurd rfl hv
          rw [hknown F (.inl hv)] at l1
          have l1 := afj.live F (by rw [hide_next]; exact hlt) l1
          rw [q2] at l1
          have := inv.rep.inj F F' v v' L L' (by rw [q1]; exact l1) l2 h hL2 hb
          subst this
          exact hn' (.inl hv)
        · rw [inv.free j hj (by simpa using hDj) F v h1 (by rw [Run.nextS r ra wf0 hj]; exact h2)] at h
          cases h
      · have := inv.rep.bnd F' v' L' hL2; omega
      · have hv0 : ((H j).hide (Run.U ancs ex ts j)).get F0 ≠ none := fun e => by rw [e] at g4; cases g4
        obtain ⟨q1, q2⟩ := hview F0 hv0
        rw [q2] at g4
        have := inv.rep.inj F0 F' v0 v' L0 L' (by rw [q1]; exact g4) l2 g1 hL2 (g2.trans hb)
        subst this
        exact hn' (.inl hv0)
    intro F F' v v' L L' l1 l2 hL hL' hb
    by_cases hn : (((H j).hide (Run.U ancs ex ts j)).get F ≠ none ∨ ((H j).next ≤ F ∧ F < (H' j).next))
    · by_cases hn' : (((H j).hide (Run.U ancs ex ts j)).get F' ≠ none ∨ ((H j).next ≤ F' ∧ F' < (H' j).next))
      · exact ho.rep.inj F F' v v' L L' ((hknown F hn).symm ▸ l1 : isLive ((H' j).get F) = true) ((hknown F' hn').symm ▸ l2 : isLive ((H' j).get F') = true) hL hL' hb
      · exact (one F F' v v' L L' hn hn' l1 l2 hL hL' hb).elim
    · by_cases hn' : (((H j).hide (Run.U ancs ex ts j)).get F' ≠ none ∨ ((H j).next ≤ F' ∧ F' < (H' j).next))
      · exact (one F' F v' v L' L hn' hn l2 l1 hL' hL hb.symm).elim
      · have e1 := (hunk F hn).2
        have e2 := (hunk F' hn').2
        exact inv.rep.inj F F' v v' L L' (e1 ▸ l1) (e2 ▸ l2) (hold F v L hn hL) (hold F' v' L' hn' hL') hb
  · intro F v v' L L' l1 hL hL' hb
    by_cases hn : (((H j).hide (Run.U ancs ex ts j)).get F ≠ none ∨ ((H j).next ≤ F ∧ F < (H' j).next))
    · exact ho.rep.one F v v' L L' ((hknown F hn).symm ▸ l1 : isLive ((H' j).get F) = true) hL hL' hb
    · have e1 := (hunk F hn).2
      exact inv.rep.one F v v' L L' (e1 ▸ l1) (hold F v L hn hL) (hold F v' L' hn hL') hb
  · intro F c n rd frz t hF v L hL
    by_cases hn : (((H j).hide (Run.U ancs ex ts j)).get F ≠ none ∨ ((H j).next ≤ F ∧ F < (H' j).next))
    · exact ho.rep.ety F c n rd frz t ((hknown F hn).symm.trans hF) v L hL
    · have hF2 := (hunk F hn).2.symm.trans hF
      have hL2 := hold F v L hn hL
      obtain ⟨k0, a1, f1, k1⟩ := inv.rep.ety F c n rd frz t hF2 v L hL2
      exact ⟨k0, a1, f1, by rw [hblk F v L hn (by rw [hF2]; rfl) hL2]; exact k1⟩
  · -- new places
    intro F v L hL
    have m0 := Run.mono r ra wf0 (show j ≤ ops.size by omega) (Nat.zero_le _)
    rcases ho.ext.new F v L hL with h | ⟨t, h | ⟨F0, v0, L0, g1, g2, g3, g4⟩⟩
    · exact inv.new F v L h
    · exact .inr ⟨Run.touch r ra wf0 hj ((htch F).1 t), .inl (Nat.le_trans inv.fr.size h)⟩
    · refine .inr ⟨Run.touch r ra wf0 hj ((htch F).1 t), ?_⟩
      have hv0 : ((H j).hide (Run.U ancs ex ts j)).get F0 ≠ none := fun e => by rw [e] at g4; cases g4
      obtain ⟨q1, q2⟩ := hview F0 hv0
      rw [q2] at g4
      rcases inv.new F0 v0 L0 g1 with h' | ⟨t', h' | ⟨G, u, M, k1, k2, k3, k4⟩⟩
      · refine .inr ⟨F0, v0, L0, h', g2, Run.touch r ra wf0 hj ((htch F0).1 g3), ?_⟩
        refine m0.live F0 ?_ g4
        rcases Nat.lt_or_ge F0 (H 0).next with hh | hh
        · exact hh
        · have hlt : F0 < (H j).next := by
            rcases Nat.lt_or_ge F0 (H j).next with h | h
            · exact h
            · rw [wfj.get F0 h] at g4; cases g4
          have := (Run.mono r ra wf0 (Nat.le_refl ops.size) (show j ≤ ops.size by omega)).next
          rw [hfresh F0 v0 hh (by omega)] at h'; cases h'
      · exact .inl (g2 ▸ h')
      · exact .inr ⟨G, u, M, k1, k2.trans g2, k3, k4⟩
  · refine ⟨ho.fr.os.trans inv.fr.os, ho.fr.tape.trans inv.fr.tape, ho.fr.output.trans inv.fr.output, Nat.le_trans inv.fr.size ho.fr.size, fun b hb hp => ?_⟩
    rw [← inv.fr.block b hb hp]
    refine ho.fr.block b (Nat.lt_of_lt_of_le hb inv.fr.size) fun F v L hL e t => ?_
    have t := Run.touch r ra wf0 hj ((htch F).1 t)
    rcases inv.new F v L hL with h | ⟨_, h | ⟨F0, v0, L0, g1, g2, g3, g4⟩⟩
    · exact hp F v L h e t
    · omega
    · exact hp F0 v0 L0 g1 (g2.trans e) g3
  · intro i hi hDi F v h1 h2
    have hDi' : D i = false := by
      cases hh : D i with
      | false => rfl
      | true => rw [(hD' i).2 (.inl hh)] at hDi; cases hDi
    have hij : i ≠ j := by
      rintro rfl
      rw [(hD' i).2 (.inr rfl)] at hDi; cases hDi
    cases hL : ρ' F v with
    | none => rfl
    | some L =>
      exfalso
      rcases ho.ext.new F v L hL with h | ⟨t, _⟩
      · rw [inv.free i hi hDi' F v h1 h2] at h; cases h
      · rcases (htch F).1 t with t | ⟨t1, t2⟩
        · have h3 := (tch_vis afj t)
          rcases Nat.lt_or_ge i j with h | h
          · have hv : ((H j).hide (Run.U ancs ex ts j)).get F ≠ none := fun e => by have := h3.2.2.2; rw [e] at this; cases this
            have := hin i (Run.visA r ra wf0 hj h hv (.inr ⟨h1, by rw [← Run.nextS r ra wf0 hi]; exact h2⟩))
            rw [hDi'] at this; cases this
          · have := (Run.mono r ra wf0 (Nat.le_of_lt hi) h).next
            have := h3.2.1
            omega
        · rw [← Run.nextS r ra wf0 hj] at t2
          rcases Nat.lt_or_ge i j with h | h
          · have := (Run.mono r ra wf0 (Nat.le_of_lt hj) (show i + 1 ≤ j from h)).next
            omega
          · have := (Run.mono r ra wf0 (Nat.le_of_lt hi) (show j + 1 ≤ i by omega)).next
            omega
end
end Go.Proofs.YtcigfmnkfelhjaaDoor.Am
