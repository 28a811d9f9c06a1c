/- The abstract machine: a closed statement whose run is cut into pieces. -/
import Derived.Test.YtcigfmnkfelhjaaDoorAm23
set_option linter.unusedVariables false
set_option linter.unusedSimpArgs false
namespace Go.Proofs.YtcigfmnkfelhjaaDoor.Am
open Go Go.RowKit

def ck0 (gs : List (Nat × List AV)) (m : Nat) : Ck := ⟨[], gCk gs, m⟩
theorem gCk_look : ∀ {gs : List (Nat × List AV)} {F : Nat} {c : CF}, aLook (gCk gs) F = some c → ∃ cs, gLook gs F = some cs ∧ c = .row cs cs.length true none
  | [], F, c, h => by cases h
  | (g, cs) :: r, F, c, h => by
    simp only [gCk, List.map_cons, aLook, gLook] at h ⊢
    cases hb : Nat.beq g F with
    | true => rw [hb] at h; exact ⟨cs, rfl, (Option.some.inj h).symm⟩
    | false => rw [hb] at h; exact gCk_look h
theorem rep_ck0 {gs : List (Nat × List AV)} {m : Nat} {w : World} (ha : GAll w gs) : Rep (gRho w gs) ((ck0 gs m).h m).get w := {
  cellsF F c n rd frz eto h := by
    rw [Ck.get] at h
    obtain ⟨x, h1, h2⟩ := famT_look (listT_get h)
    obtain ⟨cs, k1, rfl⟩ := gCk_look h1
    injection h2 with e1 e2 e3 e4 e5
    subst e1 e2 e3 e4 e5
    refine ⟨Nat.le_refl _, fun v L hL => ?_⟩
    obtain ⟨cs2, l1, l2, l3⟩ := gRho_some hL
    rw [k1] at l1
    injection l1 with l1
    subst l1 l2 l3
    refine ⟨Nat.le_refl _, fun _ => ?_⟩
    obtain ⟨arr, et, fz, g1, g2⟩ := ha _ _ k1
    have hsz : blkSize w F = arr.size := by simp only [blkSize, g1]
    refine ⟨arr, et, fz, g1, by simp only [hsz]; omega, ?_, fun i hi => ?_, fun h => by cases h.2⟩
    · simp only [hsz]
      rcases Nat.eq_zero_or_pos cs.length with h0 | h0
      · omega
      · obtain ⟨x, x1, _⟩ := g2 (cs.length - 1) _ (List.getElem?_eq_getElem (by omega))
        have := (Array.getElem?_eq_some_iff.1 x1).1
        omega
    · obtain ⟨x, x1, x2⟩ := g2 i _ (List.getElem?_eq_getElem hi)
      have hset : ∃ c, setCellsK cs .lf 0 some = some c := by
        have : ∀ (l : List AV) (c : Tr AV) (i : Nat), ∃ c', setCellsK l c i some = some c' := by
          intro l
          induction l with
          | nil => exact fun c i => ⟨c, rfl⟩
          | cons a r ih =>
            intro c i
            simp only [setCellsK, fN_eq, Tr.setK, Tr.setPK_eq]
            exact ih _ _
        exact this _ _ _
      obtain ⟨c, hc⟩ := hset
      exact ⟨_, x, by rw [rowT_all cs c hc i]; exact List.getElem?_eq_getElem hi, by simpa using x1, x2.mono (fun _ _ _ h => by cases h)⟩
  mp F es ck h := by
    rw [Ck.get] at h
    obtain ⟨x, h1, h2⟩ := famT_look (listT_get h)
    obtain ⟨cs, k1, rfl⟩ := gCk_look h1
    cases h2
  inj F F' v v' L L' h1 h2 h3 h4 h5 := by
    obtain ⟨cs, k1, k2, k3⟩ := gRho_some h3
    obtain ⟨cs', l1, l2, l3⟩ := gRho_some h4
    rw [k3, l3] at h5
    exact h5
  one F v v' L L' h1 h2 h3 h4 := by
    obtain ⟨cs, k1, k2, k3⟩ := gRho_some h2
    obtain ⟨cs', l1, l2, l3⟩ := gRho_some h3
    rw [k3, l3]
  bnd F v L h := by
    obtain ⟨cs, k1, k2, k3⟩ := gRho_some h
    obtain ⟨arr, et, fz, g1, g2⟩ := ha _ _ k1
    rw [k3]
    exact (Array.getElem?_eq_some_iff.1 g1).1
  ety F c n rd frz t h := by
    rw [Ck.get] at h
    obtain ⟨x, h1, h2⟩ := famT_look (listT_get h)
    obtain ⟨cs, k1, rfl⟩ := gCk_look h1
    injection h2 with e1 e2 e3 e4 e5
    cases e5 }
theorem wf_ck0 {gs : List (Nat × List AV)} {m : Nat} (hb : gBelow m gs = true) : Wf ((ck0 gs m).h m) := by
  refine ⟨Nat.le_refl _, fun _ h => (by cases h), fun F hF => ?_⟩
  cases h : ((ck0 gs m).h m).tr.get F with
  | none => rfl
  | some o =>
    have h : (listT (famT (ck0 gs m).fams)).get F = some o := h
    obtain ⟨x, h1, h2⟩ := famT_look (listT_get h)
    obtain ⟨cs, k1, _⟩ := gCk_look h1
    have := gBelow_look hb k1
    have hF : m ≤ F := hF
    omega

/-- A closed statement, run in pieces, that ends with true. -/
theorem known_pieces {P : Program} {gs : List (Nat × List AV)} {m : Nat} {xs : List (Nat × Nat × Nat)} {hxs : xtAll P xs} {f : FuncId} {fn : Func} {c : Code} {x : AX} {ck : Ck} (hf : P.funcs[f]? = some fn) (hb : fn.body = some c) (hm : gBelow m gs = true)
    (p : ∀ n0, Pc (Gl.mkG P gs xs hxs) fn.ntmps m n0 (ck0 gs m) c x ck) (hx : x = .normal ∨ x = .ret) (hr : aRes P (Gl.mkG P gs xs hxs) (listT ck.live) (ck.h m) fn.results.toList = some [.bool true]) (w : World) (ha : GAll w gs) :
    Calls P f #[] w fun e w' => e = .returned (.bool true) ∧ Below w.heap.size w w' := by
  have hgl : GlobOK (gRho w gs) (Gl.mkG P gs xs hxs) := by
    intro g n h
    have h : glOf gs g = some n := h
    unfold glOf at h
    cases hg : gLook gs g with
    | none => rw [hg] at h; cases h
    | some cs =>
      rw [hg] at h
      injection h with h
      subst h
      exact ⟨blkSize w g, by simp only [gRho, hg, if_true]⟩
  refine calls_of_wp hf hb ?_
  refine p w.heap.size _ w (gRho w gs) _ ⟨rep_ck0 ha, wf_ck0 hm, ⟨by simp, rfl, fun t => ?_⟩, hgl, fun F v hF => ?_, fun F v L hF hL => ?_, Nat.le_refl _⟩ fun a' w' ρ' s' b' _ => ?_
  · show TV _ ((Tr.lf : Tr AV).get t) _
    rw [Tr.get_lf]
    trivial
  · cases hh : gRho w gs F v with
    | none => rfl
    | some L =>
      obtain ⟨cs, k1, k2, k3⟩ := gRho_some hh
      have := gBelow_look hm k1
      have hF : m ≤ F := hF
      omega
  · obtain ⟨cs, k1, k2, k3⟩ := gRho_some hL
    have := gBelow_look hm k1
    omega
  · obtain ⟨vs', g1, g2⟩ := aRes_some (P := P) (a := a') (fr := fun | .tmp t => pure (a'.tmps.getD t undef) | .cell a t => do loadVar t (← asAddr (a'.tmps.getD a undef))) (fun _ => rfl) (fun _ _ => rfl) s'.gl s'.rep s'.tm hr
    have hres : (results fn a'.tmps).run P w' = .ok (if h : vs'.length = 1 then vs'[0] else .tuple ⟨vs'⟩) w' := by
      unfold results
      rw [Sem.run_bind, Array.mapM_eq_mapM_toList, Sem.run_map]
      erw [g1]
      simp only [Result.andThen_ok, Sem.run_pure]
      congr 1
    cases g2 with
    | cons k1 k2 =>
      cases k2
      cases k1
      rcases hx with rfl | rfl
      · exact ⟨s'.tm.defers, _, hres, rfl, b'⟩
      · exact ⟨s'.tm.defers, _, hres, rfl, b'⟩
end Go.Proofs.YtcigfmnkfelhjaaDoor.Am
