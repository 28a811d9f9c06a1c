/- The abstract machine: a call without arguments where some package variables' cells are known (some of them: that they hold an int). -/
import Derived.Test.YtcigfmnkfelhjaaDoorAm19
set_option linter.unusedVariables false
namespace Go.Proofs.YtcigfmnkfelhjaaDoor.Am
open Go Go.RowKit

def gLook : List (Nat × List AV) → Nat → Option (List AV)
  | [], _ => none
  | (g, cs) :: r, f => cond (Nat.beq g f) (some cs) (gLook r f)
noncomputable def gTree : List (Nat × List AV) → Tr AO
  | [] => .lf
  | (g, cs) :: r => match setCellsK cs .lf 0 some with
    | none => .lf
    | some c => match (gTree r).setK 40 g (.cells c cs.length cs.length true none) some with
      | some t => t
      | none => .lf
theorem Tr.lf_get {α : Type} (n : Nat) : (Tr.lf : Tr α).get n = none := Tr.get_lf n
theorem gTree_get : ∀ {gs : List (Nat × List AV)} {F : Nat} {o : AO}, (gTree gs).get F = some o → ∃ cs c, gLook gs F = some cs ∧ o = .cells c cs.length cs.length true none ∧ ∀ i, c.get i = cs[i]?
  | [], F, o, h => by rw [show gTree [] = .lf from rfl, Tr.get_lf] at h; cases h
  | (g, cs) :: r, F, o, h => by
    simp only [gTree] at h
    cases h1 : setCellsK cs .lf 0 some with
    | none => rw [h1] at h; dsimp only at h; rw [Tr.get_lf] at h; cases h
    | some c =>
      rw [h1] at h
      dsimp only at h
      obtain ⟨c', e1, e2⟩ := setCellsK_some cs h1
      injection e1 with e1
      subst e1
      cases h2 : (gTree r).setK 40 g (.cells c' cs.length cs.length true none) some with
      | none => rw [h2] at h; dsimp only at h; rw [Tr.get_lf] at h; cases h
      | some t =>
        rw [h2] at h
        dsimp only at h
        obtain ⟨t', e3, e4⟩ := Tr.setK_some h2
        injection e3 with e3
        subst e3
        rw [e4 F] at h
        simp only [gLook]
        by_cases hF : F = g
        · rw [if_pos hF] at h
          injection h with h
          subst hF
          refine ⟨cs, c', by rw [Nat.beq_refl]; rfl, h.symm, fun i => ?_⟩
          rw [e2 i]
          by_cases hi : i < cs.length
          · rw [if_pos (by omega)]; simp
          · rw [if_neg (by omega), List.getElem?_eq_none (by omega)]; exact Tr.get_lf i
        · rw [if_neg hF] at h
          obtain ⟨cs2, c2, k1, k2, k3⟩ := gTree_get h
          have hb : Nat.beq g F = false := by
            cases hh : Nat.beq g F with
            | false => rfl
            | true => exact absurd (Nat.eq_of_beq_eq_true hh).symm hF
          exact ⟨cs2, c2, by rw [hb]; exact k1, k2, k3⟩

/-- The cells of a package variable in the memory. -/
def GAt (w : World) (g : Nat) (cs : List AV) : Prop := ∃ arr et fz, w.heap[g]? = some (.cells arr et fz) ∧ ∀ (i : Nat) (a : AV), cs[i]? = some a → ∃ x, arr[i]? = some x ∧ VR (fun _ _ => none) a x
def GAll (w : World) (gs : List (Nat × List AV)) : Prop := ∀ g cs, gLook gs g = some cs → GAt w g cs

def blkSize (w : World) (g : Nat) : Nat := match w.heap[g]? with
  | some (.cells arr _ _) => arr.size
  | _ => 0
def gRho (w : World) (gs : List (Nat × List AV)) : Rho := fun F v => match gLook gs F with
  | some cs => if v = cs.length then some ⟨F, 0, blkSize w F⟩ else none
  | none => none
theorem gRho_some {w : World} {gs : List (Nat × List AV)} {F v : Nat} {L : Pl} (h : gRho w gs F v = some L) : ∃ cs, gLook gs F = some cs ∧ v = cs.length ∧ L = ⟨F, 0, blkSize w F⟩ := by
  unfold gRho at h
  split at h
  · rename_i cs hcs
    split at h
    · rename_i hv
      injection h with h
      exact ⟨cs, hcs, hv, h.symm⟩
    · cases h
  · cases h

noncomputable def h0g (gs : List (Nat × List AV)) (m : Nat) : AH := ⟨gTree gs, m, m, [], []⟩
/-- Every number of a variable lies below m. -/
def gBelow (m : Nat) : List (Nat × List AV) → Bool
  | [] => true
  | (g, _) :: r => cond (Nat.blt g m) (gBelow m r) false
theorem gBelow_look : ∀ {gs : List (Nat × List AV)} {m F : Nat} {cs : List AV}, gBelow m gs = true → gLook gs F = some cs → F < m
  | [], m, F, cs, _, h => by cases h
  | (g, c) :: r, m, F, cs, hb, h => by
    simp only [gBelow] at hb
    simp only [gLook] at h
    cases hg : Nat.blt g m with
    | false => rw [hg] at hb; cases hb
    | true =>
      rw [hg] at hb
      cases hh : Nat.beq g F with
      | false => rw [hh] at h; exact gBelow_look hb h
      | true =>
        have := Nat.eq_of_beq_eq_true hh
        subst this
        exact of_decide_eq_true ((blt_eq _ _) ▸ hg)
theorem wf0g {gs : List (Nat × List AV)} {m : Nat} (hb : gBelow m gs = true) : Wf (h0g gs m) := by
  refine ⟨Nat.le_refl _, fun _ h => (by cases h), fun F hF => ?_⟩
  show (gTree gs).get F = none
  cases h : (gTree gs).get F with
  | none => rfl
  | some o =>
    obtain ⟨cs, c, h1, _⟩ := gTree_get h
    have := gBelow_look hb h1
    have hF : m ≤ F := hF
    omega
theorem get0g (gs : List (Nat × List AV)) (m F : Nat) : (h0g gs m).get F = (gTree gs).get F := rfl
theorem rep0g {gs : List (Nat × List AV)} {m : Nat} {w : World} (ha : GAll w gs) : Rep (gRho w gs) (h0g gs m).get w := {
  cellsF F c n rd frz eto h := by
    rw [get0g] at h
    obtain ⟨cs, c2, k1, k2, k3⟩ := gTree_get h
    injection k2 with e1 e2 e3 e4 e5
    subst e1 e2 e3 e4 e5
    refine ⟨Nat.le_refl _, fun v L hL => ?_⟩
    obtain ⟨cs2, l1, l2, l3⟩ := gRho_some hL
    rw [k1] at l1
    injection l1 with l1
    subst l1 l2 l3
    refine ⟨Nat.le_refl _, fun _ => ?_⟩
    obtain ⟨arr, et, fz, g1, g2⟩ := ha _ _ k1
    have hsz : blkSize w F = arr.size := by simp only [blkSize, g1]
    refine ⟨arr, et, fz, g1, by simp only [hsz]; omega, ?_, fun i hi => ?_, fun h => by cases h.2⟩
    · simp only [hsz]
      rcases Nat.eq_zero_or_pos cs.length with h0 | h0
      · omega
      · obtain ⟨x, x1, _⟩ := g2 (cs.length - 1) _ (List.getElem?_eq_getElem (by omega))
        have := (Array.getElem?_eq_some_iff.1 x1).1
        omega
    · obtain ⟨x, x1, x2⟩ := g2 i _ (List.getElem?_eq_getElem hi)
      exact ⟨_, x, by rw [k3 i]; exact List.getElem?_eq_getElem hi, by simpa using x1, x2.mono (fun _ _ _ h => by cases h)⟩
  mp F es ck h := by
    rw [get0g] at h
    obtain ⟨cs, c2, k1, k2, k3⟩ := gTree_get h
    cases k2
  inj F F' v v' L L' h1 h2 h3 h4 h5 := by
    obtain ⟨cs, k1, k2, k3⟩ := gRho_some h3
    obtain ⟨cs', l1, l2, l3⟩ := gRho_some h4
    rw [k3, l3] at h5
    exact h5
  one F v v' L L' h1 h2 h3 h4 := by
    obtain ⟨cs, k1, k2, k3⟩ := gRho_some h2
    obtain ⟨cs', l1, l2, l3⟩ := gRho_some h3
    rw [k3, l3]
  bnd F v L h := by
    obtain ⟨cs, k1, k2, k3⟩ := gRho_some h
    obtain ⟨arr, et, fz, g1, g2⟩ := ha _ _ k1
    rw [k3]
    exact (Array.getElem?_eq_some_iff.1 g1).1
  ety F c n rd frz t h := by
    rw [get0g] at h
    obtain ⟨cs, c2, k1, k2, k3⟩ := gTree_get h
    injection k2 with e1 e2 e3 e4 e5
    cases e5 }

def glOf (gs : List (Nat × List AV)) (g : Nat) : Option Nat := match gLook gs g with
  | some cs => some cs.length
  | none => none
def Gl.mkG (P : Program) (gs : List (Nat × List AV)) (xs : List (Nat × Nat × Nat)) (h : xtAll P xs) : Gl P := ⟨glOf gs, xtOf xs, xtOf_ok h⟩
def okG (r : Option (AV × AH)) : Bool := match r with
  | some (.bool true, h) => isNil h.wlog
  | _ => false

/-- A call without arguments that the machine answers with true. -/
theorem known_soundG {P : Program} {gs : List (Nat × List AV)} {m : Nat} {xs : List (Nat × Nat × Nat)} {hxs : xtAll P xs} {over : FuncId → Option (List AV → AH → Option (AV × AH))} (hm : P.follows .mixedOrders = true) (ho : OverOK P (Gl.mkG P gs xs hxs) over) {fuel : Nat} {f : FuncId}
    (hb : gBelow m gs = true) (e : okG (aCall P (Gl.mkG P gs xs hxs) over fuel f [] (h0g gs m)) = true) (w : World) (ha : GAll w gs) :
    Calls P f #[] w fun e w' => e = .returned (.bool true) ∧ Below w.heap.size w w' := by
  unfold okG at e
  split at e
  · rename_i h' e'
    have hnil : h'.wlog = [] := by
      cases hw : h'.wlog with
      | nil => rfl
      | cons a r => rw [hw] at e; cases e
    refine (aCall_sound hm ho e' (rep0g ha) (wf0g hb) (fun g n h => ?_) .nil (fun F v hF _ => ?_)).mono ?_
    · have h : glOf gs g = some n := h
      unfold glOf at h
      cases hg : gLook gs g with
      | none => rw [hg] at h; cases h
      | some cs =>
        rw [hg] at h
        injection h with h
        subst h
        exact ⟨blkSize w g, by simp only [gRho, hg, if_true]⟩
    · cases hh : gRho w gs F v with
      | none => rfl
      | some L =>
        obtain ⟨cs, k1, k2, k3⟩ := gRho_some hh
        have := gBelow_look hb k1
        have hF : m ≤ F := hF
        omega
    · rintro e w' ⟨x, ρ', rfl, hv, hout⟩
      cases hv
      refine ⟨rfl, hout.fr.os, hout.fr.tape, hout.fr.output, hout.fr.size, fun k hk => hout.fr.block k hk fun F v L h hbk ht => ?_⟩
      obtain ⟨cs, k1, k2, k3⟩ := gRho_some h
      have h1 := gBelow_look hb k1
      rcases ht with ⟨h2, _⟩ | h2
      · have h2 : m ≤ F := h2
        omega
      · rw [hnil] at h2; cases h2
  · cases e
/-- A variable that holds some int. -/
theorem gAt_int {w : World} {g : Nat} (h : ∃ m, w.cell? ⟨g, 0, none⟩ = some (.int .i64 m)) : GAt w g [.unk .i64] := by
  obtain ⟨m, h⟩ := h
  unfold World.cell? at h
  split at h
  · rename_i c et fz hc
    refine ⟨c, et, fz, hc, fun i a ha => ?_⟩
    cases i with
    | zero =>
      simp at ha
      subst ha
      exact ⟨_, by simpa using h, .unk _ _⟩
    | succ i => simp at ha
  · cases h
theorem gAll_one {w : World} {g : Nat} {cs : List AV} (h : GAt w g cs) : GAll w [(g, cs)] := by
  intro g' cs' e
  simp only [gLook] at e
  cases hb : Nat.beq g g' with
  | false => rw [hb] at e; cases e
  | true =>
    rw [hb] at e
    injection e with e
    have := Nat.eq_of_beq_eq_true hb
    subst e this
    exact h
end Go.Proofs.YtcigfmnkfelhjaaDoor.Am
