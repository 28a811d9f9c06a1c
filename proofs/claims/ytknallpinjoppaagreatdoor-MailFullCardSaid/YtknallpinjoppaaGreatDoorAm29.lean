/- The abstract machine: a call whose arguments are given numbers, run in pieces. -/
import Derived.Test.YtknallpinjoppaaGreatDoorAm28
set_option linter.unusedVariables false
namespace Go.Proofs.YtknallpinjoppaaGreatDoor.Am
open Go Go.RowKit

/-- The slots of arguments that are ints. -/
def liveI : Nat → List Int → List (Nat × AV)
  | _, [] => []
  | i, n :: r => (i, .int .i64 n) :: liveI (Nat.succ i) r
theorem liveI_look : ∀ {as : List Int} {i t : Nat} {v : AV}, aLook (liveI i as) t = some v → ∃ n, i ≤ t ∧ as[t - i]? = some n ∧ v = .int .i64 n
  | [], i, t, v, h => by cases h
  | n :: r, i, t, v, h => by
    simp only [liveI, aLook] at h
    cases hb : Nat.beq i t with
    | true =>
      rw [hb] at h
      have := Nat.eq_of_beq_eq_true hb
      subst this
      injection h with h
      exact ⟨n, Nat.le_refl _, by simp, h.symm⟩
    | false =>
      rw [hb] at h
      obtain ⟨k, h1, h2, h3⟩ := liveI_look h
      have h1 : i + 1 ≤ t := h1
      refine ⟨k, by omega, ?_, h3⟩
      rw [show t - i = (t - (i + 1)) + 1 by omega, List.getElem?_cons_succ]
      exact h2

theorem args_pieces {P : Program} {gs : List (Nat × List AV)} {m : Nat} {xs : List (Nat × Nat × Nat)} {hxs : xtAll P xs} {f : FuncId} {fn : Func} {c : Code} {x : AX} {ck : Ck} {as : List Int} (hf : P.funcs[f]? = some fn) (hb : fn.body = some c) (hm : gBelow m gs = true)
    (hn : as.length ≤ fn.ntmps)
    (p : ∀ n0, Pc (Gl.mkG P gs xs hxs) fn.ntmps m n0 ⟨liveI 0 as, gCk gs, m⟩ c x ck) (hx : x = .normal ∨ x = .ret) (hr : aRes P (Gl.mkG P gs xs hxs) (listT ck.live) (ck.h m) fn.results.toList = some [.bool true]) (w : World) (ha : GAll w gs) :
    Calls P f ⟨as.map (Value.int .i64)⟩ w fun e w' => e = .returned (.bool true) ∧ Below w.heap.size w w' := by
  have hgl : GlobOK (gRho w gs) (Gl.mkG P gs xs hxs) := by
    intro g n h
    have h : glOf gs g = some n := h
    unfold glOf at h
    cases hg : gLook gs g with
    | none => rw [hg] at h; cases h
    | some cs =>
      rw [hg] at h
      injection h with h
      subst h
      exact ⟨blkSize w g, by simp only [gRho, hg, if_true]⟩
  refine calls_of_wp hf hb ?_
  refine p w.heap.size _ w (gRho w gs) _ ⟨rep_ck0 ha, wf_ck0 hm, ⟨?_, rfl, fun t => ?_⟩, hgl, fun F v hF => ?_, fun F v L hF hL => ?_, Nat.le_refl _⟩ fun a' w' ρ' s' b' _ => ?_
  · simp only [Array.size_append, Array.size_replicate, List.size_toArray, List.length_map]
    omega
  · show TV _ ((listT (liveI 0 as)).get t) _
    cases hl : (listT (liveI 0 as)).get t with
    | none => trivial
    | some v =>
      obtain ⟨n, _, h2, rfl⟩ := liveI_look (listT_get hl)
      rw [Nat.sub_zero] at h2
      have hlt := (List.getElem?_eq_some_iff.1 h2).1
      have : ((⟨as.map (Value.int .i64)⟩ : Array Value) ++ Array.replicate (fn.ntmps - (⟨as.map (Value.int .i64)⟩ : Array Value).size) undef).getD t undef = .int .i64 n := by
        rw [Array.getD_eq_getD_getElem?, Array.getElem?_append_left (by simpa using hlt), List.getElem?_toArray, List.getElem?_map, h2]
        rfl
      rw [this]
      exact .int _ _
  · cases hh : gRho w gs F v with
    | none => rfl
    | some L =>
      obtain ⟨cs, k1, k2, k3⟩ := gRho_some hh
      have := gBelow_look hm k1
      have hF : m ≤ F := hF
      omega
  · obtain ⟨cs, k1, k2, k3⟩ := gRho_some hL
    have := gBelow_look hm k1
    omega
  · obtain ⟨vs', g1, g2⟩ := aRes_some (P := P) (a := a') (fr := fun | .tmp t => pure (a'.tmps.getD t undef) | .cell a t => do loadVar t (← asAddr (a'.tmps.getD a undef))) (fun _ => rfl) (fun _ _ => rfl) s'.gl s'.rep s'.tm hr
    have hres : (results fn a'.tmps).run P w' = .ok (if h : vs'.length = 1 then vs'[0] else .tuple ⟨vs'⟩) w' := by
      unfold results
      rw [Sem.run_bind, Array.mapM_eq_mapM_toList, Sem.run_map]
      erw [g1]
      simp only [Result.andThen_ok, Sem.run_pure]
      congr 1
    cases g2 with
    | cons k1 k2 =>
      cases k2
      cases k1
      rcases hx with rfl | rfl
      · exact ⟨s'.tm.defers, _, hres, rfl, b'⟩
      · exact ⟨s'.tm.defers, _, hres, rfl, b'⟩
end Go.Proofs.YtknallpinjoppaaGreatDoor.Am
