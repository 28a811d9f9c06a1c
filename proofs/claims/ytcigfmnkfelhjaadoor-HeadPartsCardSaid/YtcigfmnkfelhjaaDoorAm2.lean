/- The abstract machine: how its values and memory stand for the program's. -/
import Derived.Test.YtcigfmnkfelhjaaDoorAm1
import Derived.Laws.Cells
import Derived.Laws.Append
set_option linter.unusedVariables false
namespace Go.Proofs.YtcigfmnkfelhjaaDoor.Am
open Go

/-- Where a version of a family lies: its block, its first cell, how many cells are there. -/
structure Pl where
  blk : Nat
  base : Nat
  cap : Nat
abbrev Rho := Nat → Nat → Option Pl

mutual
inductive VR (ρ : Rho) : AV → Value → Prop
  | bool (b : Bool) : VR ρ (.bool b) (.bool b)
  | int (k : IntKind) (n : Int) : VR ρ (.int k n) (.int k n)
  | unk (k : IntKind) (n : Int) : VR ρ (.unk k) (.int k n)
  | str (s : ByteArray) : VR ρ (.str (ofBytes s.data.toList)) (.string s)
  | nilptr : VR ρ .nilptr (.pointer none)
  | ptr {f v : Nat} (o : Nat) {L : Pl} (h : ρ f v = some L) : VR ρ (.ptr f v o) (.pointer (some ⟨L.blk, L.base + o, none⟩))
  | nilsl : VR ρ .nilsl (.slice none 0 0)
  | sl {f v o len esz : Nat} {lim : Option Nat} {L : Pl} {a : Addr} {cap : Nat} (h : ρ f v = some L) (h0 : 0 < esz) (h1 : len ≤ cap) (h2 : o + len * esz ≤ v)
      (h3 : cap * esz + o = lim.getD L.cap) (h4 : lim.getD L.cap ≤ L.cap) (h5 : a = ⟨L.blk, L.base + o, none⟩ ∨ (cap = 0 ∧ a.block = L.blk)) (h6 : cap ≤ 9223372036854775807) : VR ρ (.sl f v o len esz lim) (.slice (some a) len cap)
  | nilmap : VR ρ .nilmap (.map none)
  | map {r : Nat} {L : Pl} (h : ρ r 0 = some L) : VR ρ (.map r) (.map (some L.blk))
  | func (f : FuncId) {x y : List AV} {x' y' : List Value} (h : VRL ρ x x') (h' : VRL ρ y y') : VR ρ (.func f x y) (.func (.func f) ⟨x'⟩ ⟨y'⟩)
  | nilfunc : VR ρ .nilfunc .nilFunc
  | iface (t : TypeId) {a : AV} {v : Value} (h : VR ρ a v) : VR ρ (.iface t a) (.iface t v)
  | niliface : VR ρ .niliface .nilIface
  | agg {x : List AV} {x' : List Value} (h : VRL ρ x x') : VR ρ (.agg x) (.agg ⟨x'⟩)
  | tuple {x : List AV} {x' : List Value} (h : VRL ρ x x') : VR ρ (.tuple x) (.tuple ⟨x'⟩)
inductive VRL (ρ : Rho) : List AV → List Value → Prop
  | nil : VRL ρ [] []
  | cons {a : AV} {v : Value} {x : List AV} {x' : List Value} (h : VR ρ a v) (h' : VRL ρ x x') : VRL ρ (a :: x) (v :: x')
end

def Le (ρ ρ' : Rho) : Prop := ∀ F v L, ρ F v = some L → ρ' F v = some L
theorem Le.refl (ρ : Rho) : Le ρ ρ := fun _ _ _ h => h
theorem Le.trans {a b c : Rho} (h : Le a b) (k : Le b c) : Le a c := fun F v L x => k F v L (h F v L x)

mutual
theorem VR.mono {ρ ρ' : Rho} (le : Le ρ ρ') : ∀ {a : AV} {v : Value}, VR ρ a v → VR ρ' a v
  | _, _, .bool b => .bool b
  | _, _, .int k n => .int k n
  | _, _, .unk k n => .unk k n
  | _, _, .str s => .str s
  | _, _, .nilptr => .nilptr
  | _, _, .ptr o h => .ptr o (le _ _ _ h)
  | _, _, .nilsl => .nilsl
  | _, _, .sl h h0 h1 h2 h3 h4 h5 h6 => .sl (le _ _ _ h) h0 h1 h2 h3 h4 h5 h6
  | _, _, .nilmap => .nilmap
  | _, _, .map h => .map (le _ _ _ h)
  | _, _, .func f h h' => .func f (VRL.mono le h) (VRL.mono le h')
  | _, _, .nilfunc => .nilfunc
  | _, _, .iface t h => .iface t (VR.mono le h)
  | _, _, .niliface => .niliface
  | _, _, .agg h => .agg (VRL.mono le h)
  | _, _, .tuple h => .tuple (VRL.mono le h)
theorem VRL.mono {ρ ρ' : Rho} (le : Le ρ ρ') : ∀ {a : List AV} {v : List Value}, VRL ρ a v → VRL ρ' a v
  | _, _, .nil => .nil
  | _, _, .cons h h' => .cons (VR.mono le h) (VRL.mono le h')
end

theorem VRL.length {ρ : Rho} : ∀ {x : List AV} {x' : List Value}, VRL ρ x x' → x'.length = x.length
  | _, _, .nil => rfl
  | _, _, .cons h h' => by simp [VRL.length h']
theorem VRL.get {ρ : Rho} : ∀ {x : List AV} {x' : List Value}, VRL ρ x x' → ∀ {i : Nat} {a : AV}, x[i]? = some a → ∃ v, x'[i]? = some v ∧ VR ρ a v
  | _, _, .nil, i, a, h => by simp at h
  | _, _, .cons h h', 0, a, e => by
    simp at e; subst e
    exact ⟨_, rfl, h⟩
  | _, _, .cons h h', i + 1, a, e => by
    simp at e
    simpa using VRL.get h' e
theorem VRL.of_get {ρ : Rho} : ∀ {x : List AV} {x' : List Value}, x'.length = x.length → (∀ (i : Nat) (a : AV), x[i]? = some a → ∃ v, x'[i]? = some v ∧ VR ρ a v) → VRL ρ x x'
  | [], [], _, _ => .nil
  | a :: x, v :: x', hl, h => .cons (by obtain ⟨u, hu, hr⟩ := h 0 a rfl; simp at hu; subst hu; exact hr) (VRL.of_get (by simpa using hl) fun i b hb => by simpa using h (i + 1) b (by simpa using hb))
theorem VRL.append {ρ : Rho} : ∀ {x : List AV} {x' : List Value} {y : List AV} {y' : List Value}, VRL ρ x x' → VRL ρ y y' → VRL ρ (x ++ y) (x' ++ y')
  | _, _, _, _, .nil, k => k
  | _, _, _, _, .cons h h', k => .cons h (VRL.append h' k)
theorem VR.oneC {ρ : Rho} {a : AV} {v : Value} (h : VR ρ a v) : oneC a = v.oneCell' := by cases h <;> rfl
theorem VR.cells {ρ : Rho} {a : AV} {v : Value} (h : VR ρ a v) : VRL ρ a.cells v.cells.toList := by
  cases h <;> first
    | exact .cons (by constructor <;> assumption) .nil
    | assumption
    | exact .cons (by constructor) .nil

/-- What is frozen of a block: nothing; or (where its type is not known) at most what lies behind its end. -/
def FzOK (eto : Option TypeId) (fz : Nat × Nat) (n : Nat) : Prop := fz.1 = fz.2 ∨ (eto = none ∧ n ≤ fz.1)
theorem FzOK.weak {eto : Option TypeId} {fz : Nat × Nat} {n : Nat} (h : FzOK eto fz n) : fz.1 = fz.2 ∨ n ≤ fz.1 := h.imp id And.right
theorem FzOK.sub {eto eto' : Option TypeId} {fz : Nat × Nat} {n : Nat} (h : FzOK eto fz n) (hs : ∀ t, eto' = some t → eto = some t) : FzOK eto' fz n := by
  rcases h with h | ⟨h, h2⟩
  · exact .inl h
  · refine .inr ⟨?_, h2⟩
    cases eto' with
    | none => rfl
    | some t => have := hs t rfl; rw [h] at this; cases this
/-- The cells of a version lie in their block. -/
def CellsOK (ρ : Rho) (w : World) (L : Pl) (c : Tr AV) (v : Nat) (un : Prop) (eto : Option TypeId) : Prop :=
  ∃ arr et fz, w.heap[L.blk]? = some (.cells arr et fz) ∧ L.base + L.cap ≤ arr.size ∧ v ≤ L.cap ∧
    (∀ i, i < v → ∃ a x, c.get i = some a ∧ arr[L.base + i]? = some x ∧ VR ρ a x) ∧ (un → FzOK eto fz arr.size)

inductive EntR (ρ : Rho) : List (AV × AV × Nat) → List MapEntry → Prop
  | nil : EntR ρ [] []
  | cons {k v : AV} {b : Nat} {e : MapEntry} {es : List (AV × AV × Nat)} {es' : List MapEntry} (hk : VR ρ k e.key) (hv : VR ρ v e.val) (hb : e.born = b) (h : EntR ρ es es') : EntR ρ ((k, v, b) :: es) (e :: es')
theorem EntR.mono {ρ ρ' : Rho} (le : Le ρ ρ') : ∀ {es : List (AV × AV × Nat)} {es' : List MapEntry}, EntR ρ es es' → EntR ρ' es es'
  | _, _, .nil => .nil
  | _, _, .cons hk hv hb h => .cons (hk.mono le) (hv.mono le) hb (EntR.mono le h)

theorem EntR.length {ρ : Rho} : ∀ {es : List (AV × AV × Nat)} {es' : List MapEntry}, EntR ρ es es' → es'.length = es.length
  | _, _, .nil => rfl
  | _, _, .cons _ _ _ h => by simp [EntR.length h]
/-- What is no row of cells, in the memory: of its version 0 only. -/
inductive MpR (ρ : Rho) : Nat → Nat → MB → Nat → Obj → Prop
  | map (b : Nat) {es : List (AV × AV × Nat)} {es' : List MapEntry} (ck : Nat) (h : EntR ρ es es') : MpR ρ 0 b (.ents es) ck (.map ⟨es'⟩ ck)
  | it (s : ByteArray) (pos : Nat) : MpR ρ 0 0 (.iter (ofBytes s.data.toList)) pos (.stringIter s pos)
theorem MpR.mono {ρ ρ' : Rho} (le : Le ρ ρ') {v b : Nat} {es : MB} {ck : Nat} {o : Obj} (h : MpR ρ v b es ck o) : MpR ρ' v b es ck o := by
  cases h with
  | map b ck h => exact .map b ck (h.mono le)
  | it s p => exact .it s _
theorem MpR.ents {ρ : Rho} {v b : Nat} {es : List (AV × AV × Nat)} {ck : Nat} {o : Obj} (h : MpR ρ v b (.ents es) ck o) : ∃ es', o = .map ⟨es'⟩ ck ∧ EntR ρ es es' := by
  cases h with
  | map b ck h => exact ⟨_, rfl, h⟩
theorem MpR.iters {ρ : Rho} {v b : Nat} {s : List Nat} {pos : Nat} {o : Obj} (h : MpR ρ v b (.iter s) pos o) : ∃ S : ByteArray, s = ofBytes S.data.toList ∧ b = 0 ∧ o = .stringIter S pos := by
  cases h with
  | it S p => exact ⟨S, rfl, rfl, rfl⟩
theorem MpR.zero {ρ : Rho} {v b : Nat} {es : MB} {ck : Nat} {o : Obj} (h : MpR ρ v b es ck o) : v = 0 := by cases h <;> rfl

structure Rep (ρ : Rho) (g : Nat → Option AO) (w : World) : Prop where
  cellsF : ∀ F c n rd frz eto, g F = some (.cells c n rd frz eto) → rd ≤ n ∧ ∀ v L, ρ F v = some L → v ≤ n ∧ (rd ≤ v → CellsOK ρ w L c v (v = n ∧ frz = false) eto)
  mp : ∀ F es ck, g F = some (.mp es ck) → ∀ v L, ρ F v = some L → ∃ es', w.heap[L.blk]? = some es' ∧ MpR ρ v L.base es ck es'
  inj : ∀ F F' v v' L L', isLive (g F) = true → isLive (g F') = true → ρ F v = some L → ρ F' v' = some L' → L.blk = L'.blk → F = F'
  one : ∀ F v v' L L', isLive (g F) = true → ρ F v = some L → ρ F v' = some L' → L.blk = L'.blk → L.base = L'.base
  bnd : ∀ F v L, ρ F v = some L → L.blk < w.heap.size
  ety : ∀ F c n rd frz t, g F = some (.cells c n rd frz (some t)) → ∀ v L, ρ F v = some L → L.base = 0 ∧ ∃ arr fz, w.heap[L.blk]? = some (.cells arr t fz)
theorem Rep.cells {ρ : Rho} {g : Nat → Option AO} {w : World} (r : Rep ρ g w) (F : Nat) (c : Tr AV) (n rd : Nat) (frz : Bool) (h : ∃ eto, g F = some (.cells c n rd frz eto)) :
    rd ≤ n ∧ ∀ v L, ρ F v = some L → v ≤ n ∧ (rd ≤ v → CellsOK ρ w L c v (v = n ∧ frz = false) none) := by
  obtain ⟨eto, e⟩ := h
  obtain ⟨h1, h2⟩ := r.cellsF F c n rd frz eto e
  refine ⟨h1, fun v L hL => ⟨(h2 v L hL).1, fun hrd => ?_⟩⟩
  obtain ⟨arr, et, fz, k1, k2, k3, k4, k5⟩ := (h2 v L hL).2 hrd
  exact ⟨arr, et, fz, k1, k2, k3, k4, fun hu => (k5 hu).sub (fun t ht => by cases ht)⟩

/-- Fewer families. -/
theorem Rep.sub {ρ : Rho} {g g' : Nat → Option AO} {w : World} (r : Rep ρ g w) (h : ∀ F o, g' F = some o → g F = some o) : Rep ρ g' w := {
  cellsF F c n rd frz eto hF := r.cellsF F c n rd frz eto (h _ _ hF)
  mp F es ck hF := r.mp F es ck (h _ _ hF)
  inj F F' v v' L L' h1 h2 := by
    refine r.inj F F' v v' L L' ?_ ?_
    · cases hg : g' F with
      | none => rw [hg] at h1; cases h1
      | some o => rw [h _ _ hg]; rw [hg] at h1; exact h1
    · cases hg : g' F' with
      | none => rw [hg] at h2; cases h2
      | some o => rw [h _ _ hg]; rw [hg] at h2; exact h2
  one F v v' L L' h1 := by
    refine r.one F v v' L L' ?_
    cases hg : g' F with
    | none => rw [hg] at h1; cases h1
    | some o => rw [h _ _ hg]; rw [hg] at h1; exact h1
  bnd := r.bnd
  ety F c n rd frz t hF := r.ety F c n rd frz t (h _ _ hF) }

/-- The world's draws do not matter. -/
theorem Rep.world {ρ : Rho} {g : Nat → Option AO} {w w' : World} (r : Rep ρ g w) (h : w'.heap = w.heap) : Rep ρ g w' := {
  cellsF F c n rd frz eto hF := by
    refine ⟨(r.cellsF F c n rd frz eto hF).1, fun v L hL => ⟨((r.cellsF F c n rd frz eto hF).2 v L hL).1, fun hrd => ?_⟩⟩
    unfold CellsOK
    rw [h]
    exact ((r.cellsF F c n rd frz eto hF).2 v L hL).2 hrd
  mp F es ck hF v L hL := by rw [h]; exact r.mp F es ck hF v L hL
  inj := r.inj
  one := r.one
  bnd F v L hL := by rw [h]; exact r.bnd F v L hL
  ety F c n rd frz t hF v L hL := by rw [h]; exact r.ety F c n rd frz t hF v L hL }

structure Fr (ρ : Rho) (h h' : AH) (w w' : World) : Prop where
  os : w'.os = w.os
  tape : w'.tape = w.tape
  output : w'.output = w.output
  size : w.heap.size ≤ w'.heap.size
  block : ∀ b, b < w.heap.size → (∀ F v L, ρ F v = some L → L.blk = b → ¬ Touch h h' F) → w'.heap[b]? = w.heap[b]?

structure Ext (ρ ρ' : Rho) (h h' : AH) (w : World) : Prop where
  le : Le ρ ρ'
  new : ∀ F v L, ρ' F v = some L → ρ F v = some L ∨ (Touch h h' F ∧ (w.heap.size ≤ L.blk ∨ ∃ F0 v0 L0, ρ F0 v0 = some L0 ∧ L0.blk = L.blk ∧ Touch h h' F0 ∧ isLive (h.get F0) = true))

structure Out (ρ : Rho) (h : AH) (w : World) (ρ' : Rho) (h' : AH) (w' : World) : Prop where
  rep : Rep ρ' h'.get w'
  ext : Ext ρ ρ' h h' w
  fr : Fr ρ h h' w w'
  af : AF h h'

def Fresh (ρ : Rho) (a b : Nat) : Prop := ∀ F v, a ≤ F → F < b → ρ F v = none
theorem Fresh.mono {ρ : Rho} {a b a' b' : Nat} (f : Fresh ρ a b) (h : a ≤ a') (h' : b' ≤ b) : Fresh ρ a' b' :=
  fun F v h1 h2 => f F v (Nat.le_trans h h1) (Nat.lt_of_lt_of_le h2 h')

theorem Out.refl {ρ : Rho} {h : AH} {w : World} (r : Rep ρ h.get w) (wf : Wf h) : Out ρ h w ρ h w :=
  ⟨r, ⟨Le.refl _, fun _ _ _ h => .inl h⟩, ⟨rfl, rfl, rfl, Nat.le_refl _, fun _ _ _ => rfl⟩, .refl wf⟩
/-- A world with the same memory. -/
theorem Out.drew {ρ : Rho} {h : AH} {w w' : World} (r : Rep ρ h.get w) (wf : Wf h) (e : w' = { w with drawn := w'.drawn }) : Out ρ h w ρ h w' := by
  rw [e]
  exact ⟨r.world rfl, ⟨Le.refl _, fun _ _ _ h => .inl h⟩, ⟨rfl, rfl, rfl, Nat.le_refl _, fun _ _ _ => rfl⟩, .refl wf⟩

theorem Out.trans {ρ ρ1 ρ2 : Rho} {h h1 h2 : AH} {w w1 w2 : World} (wf : Wf h) (fr : Fresh ρ h.next h1.next) (a : Out ρ h w ρ1 h1 w1) (b : Out ρ1 h1 w1 ρ2 h2 w2) : Out ρ h w ρ2 h2 w2 := {
  rep := b.rep
  ext := by
    refine ⟨a.ext.le.trans b.ext.le, fun F v L hL => ?_⟩
    have key : ∀ F v L, ρ1 F v = some L → ρ F v = some L ∨ (Touch h h2 F ∧ (w.heap.size ≤ L.blk ∨ ∃ F0 v0 L0, ρ F0 v0 = some L0 ∧ L0.blk = L.blk ∧ Touch h h2 F0 ∧ isLive (h.get F0) = true)) := by
      intro F v L hL
      rcases a.ext.new F v L hL with h' | ⟨t, h' | ⟨F0, v0, L0, e1, e2, e3, e4⟩⟩
      · exact .inl h'
      · exact .inr ⟨t.mono1 a.af b.af, .inl h'⟩
      · exact .inr ⟨t.mono1 a.af b.af, .inr ⟨F0, v0, L0, e1, e2, e3.mono1 a.af b.af, e4⟩⟩
    rcases b.ext.new F v L hL with h' | ⟨t, h' | ⟨F0, v0, L0, e1, e2, e3, e4⟩⟩
    · exact key F v L h'
    · exact .inr ⟨t.mono2 a.af, .inl (Nat.le_trans a.fr.size h')⟩
    · refine .inr ⟨t.mono2 a.af, ?_⟩
      have hlt : F0 < h1.next := by
        rcases Nat.lt_or_ge F0 h1.next with hh | hh
        · exact hh
        · rw [a.af.wf.get F0 hh] at e4; cases e4
      rcases key F0 v0 L0 e1 with h'' | ⟨t', h'' | ⟨G, u, M, g1, g2, g3, g4⟩⟩
      · refine .inr ⟨F0, v0, L0, h'', e2, e3.mono2 a.af, ?_⟩
        refine a.af.live F0 ?_ e4
        rcases Nat.lt_or_ge F0 h.next with hh | hh
        · exact hh
        · rw [fr F0 v0 hh hlt] at h''; cases h''
      · exact .inl (e2 ▸ h'')
      · exact .inr ⟨G, u, M, g1, g2.trans e2, g3, g4⟩
  fr := by
    refine ⟨b.fr.os.trans a.fr.os, b.fr.tape.trans a.fr.tape, b.fr.output.trans a.fr.output, Nat.le_trans a.fr.size b.fr.size, fun k hk hp => ?_⟩
    have s1 := a.fr.block k hk fun F v L hL e t => hp F v L hL e (t.mono1 a.af b.af)
    rw [← s1]
    refine b.fr.block k (Nat.lt_of_lt_of_le hk a.fr.size) fun F v L hL e t => ?_
    rcases a.ext.new F v L hL with h' | ⟨t', h' | ⟨F0, v0, L0, e1, e2, e3, e4⟩⟩
    · exact hp F v L h' e (t.mono2 a.af)
    · omega
    · exact hp F0 v0 L0 e1 (e2.trans e) (e3.mono1 a.af b.af)
  af := a.af.trans wf b.af }

/-! ## A new block -/
theorem heap_push_lt (w : World) (o : Obj) (k : Nat) (h : k < w.heap.size) : (w.heap.push o)[k]? = w.heap[k]? := by
  rw [Array.getElem?_push, if_neg (by omega)]

def upd (ρ : Rho) (F v : Nat) (L : Pl) : Rho := fun G u => if G = F ∧ u = v then some L else ρ G u
theorem upd_same (ρ : Rho) (F v : Nat) (L : Pl) : upd ρ F v L F v = some L := by simp [upd]
theorem upd_le {ρ : Rho} {F v : Nat} {L : Pl} (h : ρ F v = none) : Le ρ (upd ρ F v L) := by
  intro G u M hM
  simp only [upd]
  split
  · rename_i e
    obtain ⟨rfl, rfl⟩ := e
    rw [h] at hM; cases hM
  · exact hM

/-- A block of cells behind what is there, laid for a new family. -/
theorem Out.newRow {ρ : Rho} {h h' : AH} {w w' : World} {c : Tr AV} {eto : Option TypeId} {n : Nat} {arr : Array Value} {et : TypeId} {fz : Nat × Nat} (r : Rep ρ h.get w) (wf : Wf h)
    (fresh : Fresh ρ h.next h'.next) (af : AF h h') (hn : h'.next = h.next + 1) (hget : ∀ F, h'.get F = if F = h.next then some (.cells c n n false eto) else h.get F) (heto : ∀ t, eto = some t → et = t)
    (hw : w' = { w with heap := w.heap.push (.cells arr et fz), drawn := w'.drawn }) (hsz : n ≤ arr.size) (hfz : FzOK eto fz arr.size)
    (hc : ∀ i, i < n → ∃ a x, c.get i = some a ∧ arr[i]? = some x ∧ VR ρ a x) :
    Out ρ h w (upd ρ h.next n ⟨w.heap.size, 0, arr.size⟩) h' w' := by
  have hno : ρ h.next n = none := fresh h.next n (Nat.le_refl _) (by omega)
  have le : Le ρ (upd ρ h.next n ⟨w.heap.size, 0, arr.size⟩) := upd_le hno
  have hheap : w'.heap = w.heap.push (.cells arr et fz) := by rw [hw]
  have hold : ∀ k, k < w.heap.size → w'.heap[k]? = w.heap[k]? := fun k hk => by rw [hheap]; exact heap_push_lt _ _ _ hk
  have hnewb : w'.heap[w.heap.size]? = some (.cells arr et fz) := by rw [hheap]; simp
  have hnext : ∀ F v L, ρ F v = some L → F ≠ h.next := by
    rintro F v L hL rfl
    rw [fresh h.next v (Nat.le_refl _) (by omega)] at hL; cases hL
  have hsame : ∀ F v L, F ≠ h.next → upd ρ h.next n ⟨w.heap.size, 0, arr.size⟩ F v = some L → ρ F v = some L := by
    intro F v L hF hL
    simpa [upd, hF] using hL
  have ht : Touch h h' h.next := .inl ⟨wf.mark, by omega⟩
  refine ⟨⟨?_, ?_, ?_, ?_, ?_, ?_⟩, ⟨le, ?_⟩, ⟨by rw [hw], by rw [hw], by rw [hw], by rw [hheap]; simp, fun b hb _ => hold b hb⟩, af⟩
  · intro F c' n' rd frz eto' hF
    rw [hget F] at hF
    by_cases e : F = h.next
    · rw [if_pos e] at hF
      injection hF with hF
      injection hF with e1 e2 e3 e4 e5
      subst e1 e2 e3 e4 e5
      refine ⟨Nat.le_refl _, fun v L hL => ?_⟩
      have hv : v = n ∧ L = ⟨w.heap.size, 0, arr.size⟩ := by
        subst e
        simp only [upd] at hL
        split at hL
        · rename_i e
          injection hL with hL
          exact ⟨e.2, hL.symm⟩
        · rw [fresh h.next v (Nat.le_refl _) (by omega)] at hL; cases hL
      obtain ⟨rfl, rfl⟩ := hv
      refine ⟨Nat.le_refl _, fun _ => ⟨arr, et, fz, hnewb, by simp, hsz, fun i hi => ?_, fun _ => hfz⟩⟩
      obtain ⟨a, x, h1, h2, h3⟩ := hc i hi
      exact ⟨a, x, h1, by simpa using h2, h3.mono le⟩
    · rw [if_neg e] at hF
      obtain ⟨h1, h2⟩ := r.cellsF F c' n' rd frz eto' hF
      refine ⟨h1, fun v L hL => ?_⟩
      have hL' := hsame F v L e hL
      obtain ⟨h3, h4⟩ := h2 v L hL'
      refine ⟨h3, fun hrd => ?_⟩
      obtain ⟨arr', et', fz', k1, k2, k3, k4, k5⟩ := h4 hrd
      refine ⟨arr', et', fz', by rw [hold _ (r.bnd F v L hL')]; exact k1, k2, k3, fun i hi => ?_, k5⟩
      obtain ⟨a, x, m1, m2, m3⟩ := k4 i hi
      exact ⟨a, x, m1, m2, m3.mono le⟩
  · intro F es ck hF v L hL
    rw [hget F] at hF
    by_cases e : F = h.next
    · rw [if_pos e] at hF; injection hF with hF; cases hF
    · rw [if_neg e] at hF
      have hL' := hsame F v L e hL
      obtain ⟨es', k1, k2⟩ := r.mp F es ck hF v L hL'
      exact ⟨es', by rw [hold _ (r.bnd F v L hL')]; exact k1, k2.mono le⟩
  · intro F F' v v' L L' l1 l2 hL hL' hb
    rw [hget F] at l1
    rw [hget F'] at l2
    by_cases e : F = h.next
    · by_cases e' : F' = h.next
      · rw [e, e']
      · have hL2 := hsame F' v' L' e' hL'
        have := r.bnd F' v' L' hL2
        subst e
        simp only [upd] at hL
        split at hL
        · injection hL with hL; subst hL; simp only at hb; omega
        · rw [fresh h.next v (Nat.le_refl _) (by omega)] at hL; cases hL
    · rw [if_neg e] at l1
      have hL1 := hsame F v L e hL
      by_cases e' : F' = h.next
      · have := r.bnd F v L hL1
        subst e'
        simp only [upd] at hL'
        split at hL'
        · injection hL' with hL'; subst hL'; simp only at hb; omega
        · rw [fresh h.next v' (Nat.le_refl _) (by omega)] at hL'; cases hL'
      · rw [if_neg e'] at l2
        exact r.inj F F' v v' L L' l1 l2 hL1 (hsame F' v' L' e' hL') hb
  · intro F v v' L L' l1 hL hL' hb
    rw [hget F] at l1
    by_cases e : F = h.next
    · subst e
      have one : ∀ u M, upd ρ h.next n ⟨w.heap.size, 0, arr.size⟩ h.next u = some M → M = ⟨w.heap.size, 0, arr.size⟩ := by
        intro u M hM
        simp only [upd] at hM
        split at hM
        · injection hM with hM; exact hM.symm
        · rw [fresh h.next u (Nat.le_refl _) (by omega)] at hM; cases hM
      rw [one v L hL, one v' L' hL']
    · rw [if_neg e] at l1
      exact r.one F v v' L L' l1 (hsame F v L e hL) (hsame F v' L' e hL') hb
  · intro F v L hL
    rw [hheap, Array.size_push]
    simp only [upd] at hL
    split at hL
    · injection hL with hL; subst hL; simp
    · exact Nat.lt_succ_of_lt (r.bnd F v L hL)
  · intro F c' n' rd frz t hF v L hL
    rw [hget F] at hF
    by_cases e : F = h.next
    · rw [if_pos e] at hF
      injection hF with hF
      injection hF with e1 e2 e3 e4 e5
      have hv : L = ⟨w.heap.size, 0, arr.size⟩ := by
        subst e
        simp only [upd] at hL
        split at hL
        · injection hL with hL; exact hL.symm
        · rw [fresh h.next v (Nat.le_refl _) (by omega)] at hL; cases hL
      rw [hv]
      refine ⟨rfl, arr, fz, ?_⟩
      rw [← heto t e5]
      exact hnewb
    · rw [if_neg e] at hF
      have hL' := hsame F v L e hL
      obtain ⟨k0, a1, f1, k1⟩ := r.ety F c' n' rd frz t hF v L hL'
      exact ⟨k0, a1, f1, by rw [hold _ (r.bnd F v L hL')]; exact k1⟩
  · intro F v L hL
    simp only [upd] at hL
    split at hL
    · rename_i e
      injection hL with hL
      subst hL
      rw [e.1]
      exact .inr ⟨ht, .inl (Nat.le_refl _)⟩
    · exact .inl hL

/-! ## A block written -/
/-- The block of a version is written anew: the family's cells are those now. Only the newest version stays readable unless what lay there stays (keep). -/
theorem Out.setRow {ρ : Rho} {h h' : AH} {w w' : World} {f : Nat} {L : Pl} {c c' : Tr AV} {m rd : Nat} {frz frz' : Bool} {eto : Option TypeId} {arr arr' : Array Value} {et : TypeId} {fz fz' : Nat × Nat} (r : Rep ρ h.get w) (wf : Wf h)
    (af : AF h h') (ht : Touch h h' f) (hg : h.get f = some (.cells c m rd frz eto)) (hL : ρ f m = some L) (hget : ∀ F, h'.get F = if F = f then some (.cells c' m m frz' eto) else h.get F)
    (hb : w.heap[L.blk]? = some (.cells arr et fz)) (hsz : L.base + L.cap ≤ arr.size) (hm : m ≤ L.cap)
    (hw : w' = { w with heap := w.heap.setIfInBounds L.blk (.cells arr' et fz') }) (hsz' : arr'.size = arr.size) (hfz : frz' = false → FzOK eto fz' arr'.size)
    (hc : ∀ i, i < m → ∃ a x, c'.get i = some a ∧ arr'[L.base + i]? = some x ∧ VR ρ a x) :
    Out ρ h w ρ h' w' := by
  have hlt : L.blk < w.heap.size := r.bnd _ _ _ hL
  have hheap : w'.heap = w.heap.setIfInBounds L.blk (.cells arr' et fz') := by rw [hw]
  have hold : ∀ k, k ≠ L.blk → w'.heap[k]? = w.heap[k]? := fun k hk => by rw [hheap, Array.getElem?_setIfInBounds_ne (Ne.symm hk)]
  have hnewb : w'.heap[L.blk]? = some (.cells arr' et fz') := by rw [hheap, Array.getElem?_setIfInBounds_self_of_lt hlt]
  have hlive : isLive (h.get f) = true := by rw [hg]; rfl
  have hlv : ∀ F, isLive (h'.get F) = true → isLive (h.get F) = true := by
    intro F hF
    rw [hget F] at hF
    by_cases e : F = f
    · rw [e]; exact hlive
    · rwa [if_neg e] at hF
  have hne : ∀ F v M, F ≠ f → isLive (h.get F) = true → ρ F v = some M → M.blk ≠ L.blk := by
    intro F v M hF hl hM e
    exact hF (r.inj F f v m M L hl hlive hM hL e)
  refine ⟨⟨?_, ?_, ?_, ?_, ?_, ?_⟩, ⟨Le.refl _, fun _ _ _ h => .inl h⟩, ⟨by rw [hw], by rw [hw], by rw [hw], by rw [hheap]; simp, fun b hb hp => hold b fun e => hp f m L hL e.symm ht⟩, af⟩
  · intro F c2 n rd2 frz2 eto2 hF
    rw [hget F] at hF
    by_cases e : F = f
    · rw [if_pos e] at hF
      injection hF with hF
      injection hF with e1 e2 e3 e4 e5
      subst e1 e2 e3 e4 e5 e
      refine ⟨Nat.le_refl _, fun v M hM => ?_⟩
      have hv := ((r.cellsF _ _ _ _ _ _ hg).2 v M hM).1
      refine ⟨hv, fun hrd => ?_⟩
      have : v = m := Nat.le_antisymm hv hrd
      subst this
      rw [hL] at hM
      injection hM with hM
      subst hM
      exact ⟨arr', et, fz', hnewb, by omega, hm, hc, fun hh => hfz hh.2⟩
    · rw [if_neg e] at hF
      obtain ⟨h1, h2⟩ := r.cellsF F c2 n rd2 frz2 eto2 hF
      refine ⟨h1, fun v M hM => ⟨(h2 v M hM).1, fun hrd => ?_⟩⟩
      obtain ⟨arr2, et2, fz2, k1, k2⟩ := (h2 v M hM).2 hrd
      exact ⟨arr2, et2, fz2, by rw [hold _ (hne F v M e (by rw [hF]; rfl) hM)]; exact k1, k2⟩
  · intro F es ck hF v M hM
    rw [hget F] at hF
    by_cases e : F = f
    · rw [if_pos e] at hF; injection hF with hF; cases hF
    · rw [if_neg e] at hF
      obtain ⟨es', k1, k2⟩ := r.mp F es ck hF v M hM
      exact ⟨es', by rw [hold _ (hne F v M e (by rw [hF]; rfl) hM)]; exact k1, k2⟩
  · intro F F' v v' M M' l1 l2
    exact r.inj F F' v v' M M' (hlv F l1) (hlv F' l2)
  · intro F v v' M M' l1
    exact r.one F v v' M M' (hlv F l1)
  · intro F v M hM
    rw [hheap, Array.size_setIfInBounds]
    exact r.bnd F v M hM
  · intro F c2 n rd2 frz2 t hF v M hM
    rw [hget F] at hF
    by_cases e : F = f
    · rw [if_pos e] at hF
      injection hF with hF
      injection hF with e1 e2 e3 e4 e5
      subst e
      obtain ⟨k0, a1, f1, k1⟩ := r.ety _ _ _ _ _ t (by rw [hg, e5]) v M hM
      by_cases hbk : M.blk = L.blk
      · rw [hbk] at k1 ⊢
        rw [hb] at k1
        injection k1 with k1
        injection k1 with _ k2 _
        exact ⟨k0, arr', fz', by rw [← k2]; exact hnewb⟩
      · exact ⟨k0, a1, f1, by rw [hold _ hbk]; exact k1⟩
    · rw [if_neg e] at hF
      obtain ⟨k0, a1, f1, k1⟩ := r.ety F c2 n rd2 frz2 t hF v M hM
      exact ⟨k0, a1, f1, by rw [hold _ (hne F v M e (by rw [hF]; rfl) hM)]; exact k1⟩
end Go.Proofs.YtcigfmnkfelhjaaDoor.Am
