/- The abstract machine: the keys of a map, sorted, by the library's contract. -/
import Derived.Test.YtknallpinjoppaaGreatDoorAm26
import Derived.Sort.KeysCollected
import Derived.Lib.SlKeysI
import Derived.MapKept
import Derived.Laws.AppendOwn
import Derived.Maps.Own
import Derived.Maps.Range
import Derived.WideShapes
set_option linter.unusedVariables false
namespace Go.Proofs.YtknallpinjoppaaGreatDoor.Am
open Go Go.RowKit Go.MapKept

/-- A block of cells that a call has made, laid for a new family. -/
theorem Out.newRowB {ρ : Rho} {h h' : AH} {w w' : World} {c : Tr AV} {eto : Option TypeId} {n : Nat} {arr : Array Value} {et : TypeId} {fz : Nat × Nat} {blk : Nat} (r : Rep ρ h.get w) (wf : Wf h)
    (fresh : Fresh ρ h.next h'.next) (af : AF h h') (hn : h'.next = h.next + 1) (hget : ∀ F, h'.get F = if F = h.next then some (.cells c n n false eto) else h.get F) (heto : ∀ t, eto = some t → et = t)
    (hB : Below w.heap.size w w') (hblk : w.heap.size ≤ blk) (hnewb : w'.heap[blk]? = some (.cells arr et fz)) (hsz : n ≤ arr.size) (hfz : FzOK eto fz arr.size)
    (hc : ∀ i, i < n → ∃ a x, c.get i = some a ∧ arr[i]? = some x ∧ VR ρ a x) :
    Out ρ h w (upd ρ h.next n ⟨blk, 0, arr.size⟩) h' w' := by
  have hno : ρ h.next n = none := fresh h.next n (Nat.le_refl _) (by omega)
  have le : Le ρ (upd ρ h.next n ⟨blk, 0, arr.size⟩) := upd_le hno
  have hold : ∀ k, k < w.heap.size → w'.heap[k]? = w.heap[k]? := hB.block
  have hblt : blk < w'.heap.size := (Array.getElem?_eq_some_iff.1 hnewb).1
  have hnext : ∀ F v L, ρ F v = some L → F ≠ h.next := by
    rintro F v L hL rfl
    rw [fresh h.next v (Nat.le_refl _) (by omega)] at hL; cases hL
  have hsame : ∀ F v L, F ≠ h.next → upd ρ h.next n ⟨blk, 0, arr.size⟩ F v = some L → ρ F v = some L := by
    intro F v L hF hL
    simpa [upd, hF] using hL
  have ht : Touch h h' h.next := .inl ⟨wf.mark, by omega⟩
  refine ⟨⟨?_, ?_, ?_, ?_, ?_, ?_⟩, ⟨le, ?_⟩, ⟨hB.os, hB.tape, hB.output, hB.size, fun b hb _ => hold b hb⟩, af⟩
  · intro F c' n' rd frz eto' hF
    rw [hget F] at hF
    by_cases e : F = h.next
    · rw [if_pos e] at hF
      injection hF with hF
      injection hF with e1 e2 e3 e4 e5
      subst e1 e2 e3 e4 e5
      refine ⟨Nat.le_refl _, fun v L hL => ?_⟩
      have hv : v = n ∧ L = ⟨blk, 0, arr.size⟩ := by
        subst e
        simp only [upd] at hL
        split at hL
        · rename_i e
          injection hL with hL
          exact ⟨e.2, hL.symm⟩
        · rw [fresh h.next v (Nat.le_refl _) (by omega)] at hL; cases hL
      obtain ⟨rfl, rfl⟩ := hv
      refine ⟨Nat.le_refl _, fun _ => ⟨arr, et, fz, hnewb, by simp, hsz, fun i hi => ?_, fun _ => hfz⟩⟩
      obtain ⟨a, x, h1, h2, h3⟩ := hc i hi
      exact ⟨a, x, h1, by simpa using h2, h3.mono le⟩
    · rw [if_neg e] at hF
      obtain ⟨h1, h2⟩ := r.cellsF F c' n' rd frz eto' hF
      refine ⟨h1, fun v L hL => ?_⟩
      have hL' := hsame F v L e hL
      obtain ⟨h3, h4⟩ := h2 v L hL'
      refine ⟨h3, fun hrd => ?_⟩
      obtain ⟨arr', et', fz', k1, k2, k3, k4, k5⟩ := h4 hrd
      refine ⟨arr', et', fz', by rw [hold _ (r.bnd F v L hL')]; exact k1, k2, k3, fun i hi => ?_, k5⟩
      obtain ⟨a, x, m1, m2, m3⟩ := k4 i hi
      exact ⟨a, x, m1, m2, m3.mono le⟩
  · intro F es ck hF v L hL
    rw [hget F] at hF
    by_cases e : F = h.next
    · rw [if_pos e] at hF; injection hF with hF; cases hF
    · rw [if_neg e] at hF
      have hL' := hsame F v L e hL
      obtain ⟨es', k1, k2⟩ := r.mp F es ck hF v L hL'
      exact ⟨es', by rw [hold _ (r.bnd F v L hL')]; exact k1, k2.mono le⟩
  · intro F F' v v' L L' l1 l2 hL hL' hb
    rw [hget F] at l1
    rw [hget F'] at l2
    by_cases e : F = h.next
    · by_cases e' : F' = h.next
      · rw [e, e']
      · have hL2 := hsame F' v' L' e' hL'
        have := r.bnd F' v' L' hL2
        subst e
        simp only [upd] at hL
        split at hL
        · injection hL with hL; subst hL; simp only at hb; omega
        · rw [fresh h.next v (Nat.le_refl _) (by omega)] at hL; cases hL
    · rw [if_neg e] at l1
      have hL1 := hsame F v L e hL
      by_cases e' : F' = h.next
      · have := r.bnd F v L hL1
        subst e'
        simp only [upd] at hL'
        split at hL'
        · injection hL' with hL'; subst hL'; simp only at hb; omega
        · rw [fresh h.next v' (Nat.le_refl _) (by omega)] at hL'; cases hL'
      · rw [if_neg e'] at l2
        exact r.inj F F' v v' L L' l1 l2 hL1 (hsame F' v' L' e' hL') hb
  · intro F v v' L L' l1 hL hL' hb
    rw [hget F] at l1
    by_cases e : F = h.next
    · subst e
      have one : ∀ u M, upd ρ h.next n ⟨blk, 0, arr.size⟩ h.next u = some M → M = ⟨blk, 0, arr.size⟩ := by
        intro u M hM
        simp only [upd] at hM
        split at hM
        · injection hM with hM; exact hM.symm
        · rw [fresh h.next u (Nat.le_refl _) (by omega)] at hM; cases hM
      rw [one v L hL, one v' L' hL']
    · rw [if_neg e] at l1
      exact r.one F v v' L L' l1 (hsame F v L e hL) (hsame F v' L' e hL') hb
  · intro F v L hL
    simp only [upd] at hL
    split at hL
    · injection hL with hL; subst hL; exact hblt
    · exact Nat.lt_of_lt_of_le (r.bnd F v L hL) hB.size
  · intro F c' n' rd frz t hF v L hL
    rw [hget F] at hF
    by_cases e : F = h.next
    · rw [if_pos e] at hF
      injection hF with hF
      injection hF with e1 e2 e3 e4 e5
      have hv : L = ⟨blk, 0, arr.size⟩ := by
        subst e
        simp only [upd] at hL
        split at hL
        · injection hL with hL; exact hL.symm
        · rw [fresh h.next v (Nat.le_refl _) (by omega)] at hL; cases hL
      rw [hv]
      refine ⟨rfl, arr, fz, ?_⟩
      rw [← heto t e5]
      exact hnewb
    · rw [if_neg e] at hF
      have hL' := hsame F v L e hL
      obtain ⟨k0, a1, f1, k1⟩ := r.ety F c' n' rd frz t hF v L hL'
      exact ⟨k0, a1, f1, by rw [hold _ (r.bnd F v L hL')]; exact k1⟩
  · intro F v L hL
    simp only [upd] at hL
    split at hL
    · rename_i e
      injection hL with hL
      subst hL
      rw [e.1]
      exact .inr ⟨ht, .inl hblk⟩
    · exact .inl hL


/-- A call that left what was there as it was. -/
theorem Out.below {ρ : Rho} {h : AH} {w w' : World} (r : Rep ρ h.get w) (wf : Wf h) (hB : Below w.heap.size w w') : Out ρ h w ρ h w' := {
  rep := {
    cellsF := fun F c n rd frz eto hF => by
      refine ⟨(r.cellsF F c n rd frz eto hF).1, fun v L hL => ⟨((r.cellsF F c n rd frz eto hF).2 v L hL).1, fun hrd => ?_⟩⟩
      obtain ⟨arr', et', fz', k1, k2, k3, k4, k5⟩ := ((r.cellsF F c n rd frz eto hF).2 v L hL).2 hrd
      exact ⟨arr', et', fz', by rw [hB.block _ (r.bnd F v L hL)]; exact k1, k2, k3, k4, k5⟩
    mp := fun F es ck hF v L hL => by
      obtain ⟨es', k1, k2⟩ := r.mp F es ck hF v L hL
      exact ⟨es', by rw [hB.block _ (r.bnd F v L hL)]; exact k1, k2⟩
    inj := r.inj
    one := r.one
    bnd := fun F v L hL => Nat.lt_of_lt_of_le (r.bnd F v L hL) hB.size
    ety := fun F c n rd frz t hF v L hL => by
      obtain ⟨k0, a1, f1, k1⟩ := r.ety F c n rd frz t hF v L hL
      exact ⟨k0, a1, f1, by rw [hB.block _ (r.bnd F v L hL)]; exact k1⟩ }
  ext := ⟨Le.refl _, fun _ _ _ h => .inl h⟩
  fr := ⟨hB.os, hB.tape, hB.output, hB.size, fun b hb _ => hB.block b hb⟩
  af := .refl wf }

/-! ## The entries' stamps -/
def bornB (ck : Nat) : List (AV × AV × Nat) → List Nat → Bool
  | [], _ => true
  | (_, _, b) :: r, seen => cond (and (Nat.blt b ck) (not (memN seen b))) (bornB ck r (b :: seen)) false
theorem bornB_spec {ρ : Rho} {ck : Nat} : ∀ {es : List (AV × AV × Nat)} {es' : List MapEntry} {seen : List Nat}, EntR ρ es es' → bornB ck es seen = true →
    (∀ x ∈ es', x.born < ck) ∧ (es'.map (·.born)).Nodup ∧ ∀ x ∈ es', x.born ∉ seen
  | [], _, seen, .nil, _ => ⟨by simp, by simp, by simp⟩
  | (k, v, b) :: es, e :: es', seen, .cons hk hv hb h, hh => by
    simp only [bornB] at hh
    cases hc : and (Nat.blt b ck) (not (memN seen b)) with
    | false => rw [hc] at hh; cases hh
    | true =>
      rw [hc] at hh
      obtain ⟨i1, i2, i3⟩ := bornB_spec h hh
      simp only [Bool.and_eq_true, Bool.not_eq_true'] at hc
      have h1 : b < ck := of_decide_eq_true ((blt_eq _ _) ▸ hc.1)
      have h2 : b ∉ seen := fun hm => by rw [(memN_iff _ _).2 hm] at hc; cases hc.2
      refine ⟨fun x hx => ?_, ?_, fun x hx => ?_⟩
      · rcases List.mem_cons.1 hx with rfl | hx
        · rw [hb]; exact h1
        · exact i1 x hx
      · rw [List.map_cons, List.nodup_cons]
        refine ⟨fun hm => ?_, i2⟩
        obtain ⟨x, hx, hxe⟩ := List.mem_map.1 hm
        exact i3 x hx (by rw [hxe, hb]; exact List.mem_cons_self)
      · rcases List.mem_cons.1 hx with rfl | hx
        · rw [hb]; exact h2
        · exact fun hm => i3 x hx (List.mem_cons_of_mem _ hm)

/-! ## Keys that are strings -/
noncomputable def insSK {R : Type} (x : List Nat) : List (List Nat) → (List (List Nat) → Option R) → Option R
  | [], k => k [x]
  | y :: r, k => cond (ltL y x) (insSK x r fun l => k (y :: l)) (cond (ltL x y) (k (x :: y :: r)) none)
noncomputable def keysSK {R : Type} : List (AV × AV × Nat) → (List (List Nat) → Option R) → Option R
  | [], k => k []
  | (.str l, _, _) :: r, k => cond (Nat.ble l.length 9223372036854775807) (keysSK r fun ks => insSK l ks k) none
  | _ :: _, _ => none
def strAVs : List (List Nat) → List AV
  | [] => []
  | l :: r => .str l :: strAVs r

theorem u8_lt (a b : UInt8) : Nat.blt a.toNat b.toNat = decide (a < b) := by
  rw [blt_eq]
  rfl
theorem ltL_bytes : ∀ (x y : List UInt8), ltL (ofBytes x) (ofBytes y) = decide (x < y)
  | x, [] => by cases x <;> simp [ofBytes, ltL]
  | [], b :: y => by simp [ofBytes, ltL]
  | a :: x, b :: y => by
    simp only [ofBytes, ltL, List.cons_lt_cons_iff]
    rw [u8_lt, ltL_bytes x y]
    by_cases h1 : a < b
    · simp [h1]
    · have hb : Nat.beq a.toNat b.toNat = decide (a = b) := by
        by_cases h2 : a = b
        · subst h2; simp [Nat.beq_refl]
        · have : a.toNat ≠ b.toNat := fun h => h2 (UInt8.toNat_inj.1 h)
          cases hh : Nat.beq a.toNat b.toNat with
          | false => simp [h2]
          | true => exact absurd (Nat.eq_of_beq_eq_true hh) this
      rw [hb]
      by_cases h2 : a = b
      · subst h2; simp [h1]
      · simp [h1, h2]

/-- Insertion into a list that rises. -/
theorem insSK_spec {R : Type} (x : List UInt8) : ∀ {L : List (List UInt8)} {k : List (List Nat) → Option R} {r : R}, insSK (ofBytes x) (L.map ofBytes) k = some r → L.Pairwise (· < ·) →
    ∃ L' : List (List UInt8), k (L'.map ofBytes) = some r ∧ L'.Perm (x :: L) ∧ L'.Pairwise (· < ·)
  | [], k, r, h, _ => ⟨[x], h, .refl _, by simp⟩
  | y :: L, k, r, h, hp => by
    simp only [List.map_cons, insSK] at h
    rw [ltL_bytes, ltL_bytes] at h
    have hp' := List.pairwise_cons.1 hp
    by_cases h1 : y < x
    · rw [decide_eq_true h1] at h
      obtain ⟨L', k1, k2, k3⟩ := insSK_spec x (k := fun l => k (ofBytes y :: l)) h hp'.2
      refine ⟨y :: L', k1, (k2.cons y).trans (.swap _ _ _), List.pairwise_cons.2 ⟨fun z hz => ?_, k3⟩⟩
      rcases List.mem_cons.1 (k2.mem_iff.1 hz) with rfl | hz
      · exact h1
      · exact hp'.1 z hz
    · rw [decide_eq_false h1] at h
      have h2 := of_decide_eq_true (cond_some h).1
      refine ⟨x :: y :: L, (cond_some h).2, .refl _, List.pairwise_cons.2 ⟨fun z hz => ?_, hp⟩⟩
      rcases List.mem_cons.1 hz with rfl | hz
      · exact h2
      · exact List.lt_trans h2 (hp'.1 z hz)

theorem VR.str_inv {ρ : Rho} {l : List Nat} {v : Value} (h : VR ρ (.str l) v) : ∃ s : ByteArray, v = .string s ∧ l = ofBytes s.data.toList := by
  cases h with
  | str s => exact ⟨s, rfl, rfl⟩
theorem keysSK_spec {R : Type} {ρ : Rho} : ∀ {es : List (AV × AV × Nat)} {es' : List MapEntry} {k : List (List Nat) → Option R} {r : R}, EntR ρ es es' → keysSK es k = some r →
    ∃ ks L : List (List UInt8), es'.map (·.key) = ks.map Go.Proofs.encStr ∧ (∀ x ∈ ks, x.length ≤ maxLen) ∧ k (L.map ofBytes) = some r ∧ L.Perm ks ∧ L.Pairwise (· < ·)
  | [], _, k, r, .nil, h => ⟨[], [], rfl, by simp, h, .refl _, .nil⟩
  | (kk, v, b) :: es, e :: es', k, r, .cons hk hv hb he, h => by
    cases kk with
    | str l =>
      simp only [keysSK] at h
      have h1 := (ble_iff _ _).1 (cond_some h).1
      obtain ⟨ks, L, k1, k2, k3, k4, k5⟩ := keysSK_spec he (cond_some h).2
      obtain ⟨s, hs, rfl⟩ := hk.str_inv
      obtain ⟨L', m1, m2, m3⟩ := insSK_spec s.data.toList k3 k5
      refine ⟨s.data.toList :: ks, L', ?_, fun x hx => ?_, m1, m2.trans (k4.cons _), m3⟩
      · rw [List.map_cons, List.map_cons, k1, hs]
      · rcases List.mem_cons.1 hx with rfl | hx
        · rw [ofBytes_length] at h1; exact h1
        · exact k2 x hx
    | _ => simp only [keysSK] at h; cases h

/-- The library's contract: what 'slices.Sorted' (f) answers, given the iterator (g) of 'maps.Keys' of a map. -/
def KeysConS (P : Program) (f g e : Nat) : Prop := ∀ (w : World) (Bm b : Nat) (es : Array MapEntry) (ck : Nat) (ks : List (List UInt8)),
  w.cell? ⟨Bm, 0, none⟩ = some (.map (some b)) → w.heap[b]? = some (.map es ck) → Stamped es ck → es.size ≤ 1000000 → es.toList.map (·.key) = ks.map Go.Proofs.encStr → (∀ x ∈ ks, x.length ≤ maxLen) →
  Calls P f #[.func (.func g) #[] #[.pointer (some ⟨Bm, 0, none⟩)]] w fun e' w' => ∃ (v : Value) (ss : List (List UInt8)), e' = .returned v ∧ ss.Perm ks ∧
    w'.ownsRow w.heap.size e 1 v ss.length ((ss.mergeSort fun x y => decide (x ≤ y)).map Go.Proofs.encStr) ∧ (v = .slice none 0 0 ↔ ss = []) ∧ Below w.heap.size w w'

noncomputable def ovKeysS (g e : Nat) (args : List AV) (h : AH) : Option (AV × AH) := match args with
  | [.func g' [] [.ptr f v 0]] => cond (Nat.beq g' g) (match h.get f with
    | some (.cells _ _ _ _ (some _)) => loadK h f v 0 1 fun cs => match cs with
      | [.map m] => match h.get m with
        | some (.mp (.ents es) ck) => cond (and (Nat.ble es.length 1000000) (bornB ck es [])) (keysSK es fun ks => match ks with
          | [] => some (.nilsl, h)
          | l :: r => newRowK h (some e) (strAVs (l :: r)) fun f n h' => some (.sl f n 0 n 1 none, h')) none
        | _ => none
      | _ => none
    | _ => none) none
  | _ => none

/-! ## Keys that are ints -/
noncomputable def insIK {R : Type} (x : Int) : List Int → (List Int → Option R) → Option R
  | [], k => k [x]
  | y :: r, k => cond (ltI y x) (insIK x r fun l => k (y :: l)) (cond (ltI x y) (k (x :: y :: r)) none)
def in64 : Int → Bool
  | .ofNat n => Nat.ble n 9223372036854775807
  | .negSucc n => Nat.ble n 9223372036854775807
noncomputable def keysIK {R : Type} : List (AV × AV × Nat) → (List Int → Option R) → Option R
  | [], k => k []
  | (.int .i64 n, _, _) :: r, k => cond (in64 n) (keysIK r fun ks => insIK n ks k) none
  | _ :: _, _ => none
def intAVs : List Int → List AV
  | [] => []
  | n :: r => .int .i64 n :: intAVs r
theorem in64_wf {n : Int} (h : in64 n = true) : (Lit.int .i64 n).wf = true := by
  have h1 : IntKind.i64.min = -9223372036854775808 := by decide
  have h2 : IntKind.i64.max = 9223372036854775807 := by decide
  simp only [Lit.wf, h1, h2, Bool.and_eq_true, decide_eq_true_eq]
  cases n with
  | ofNat m => have := (ble_iff _ _).1 h; constructor <;> simp <;> omega
  | negSucc m => have := (ble_iff _ _).1 h; constructor <;> omega
theorem ltI_lt (a b : Int) : ltI a b = decide (a < b) := by
  cases a <;> cases b <;> simp [ltI, blt_eq] <;> omega
theorem insIK_spec {R : Type} (x : Int) : ∀ {L : List Int} {k : List Int → Option R} {r : R}, insIK x L k = some r → L.Pairwise (· < ·) →
    ∃ L' : List Int, k L' = some r ∧ L'.Perm (x :: L) ∧ L'.Pairwise (· < ·)
  | [], k, r, h, _ => ⟨[x], h, .refl _, by simp⟩
  | y :: L, k, r, h, hp => by
    simp only [insIK] at h
    rw [ltI_lt, ltI_lt] at h
    have hp' := List.pairwise_cons.1 hp
    by_cases h1 : y < x
    · rw [decide_eq_true h1] at h
      obtain ⟨L', k1, k2, k3⟩ := insIK_spec x (k := fun l => k (y :: l)) h hp'.2
      refine ⟨y :: L', k1, (k2.cons y).trans (.swap _ _ _), List.pairwise_cons.2 ⟨fun z hz => ?_, k3⟩⟩
      rcases List.mem_cons.1 (k2.mem_iff.1 hz) with rfl | hz
      · exact h1
      · exact hp'.1 z hz
    · rw [decide_eq_false h1] at h
      have h2 := of_decide_eq_true (cond_some h).1
      refine ⟨x :: y :: L, (cond_some h).2, .refl _, List.pairwise_cons.2 ⟨fun z hz => ?_, hp⟩⟩
      rcases List.mem_cons.1 hz with rfl | hz
      · exact h2
      · have := hp'.1 z hz; omega
theorem keysIK_spec {R : Type} {ρ : Rho} : ∀ {es : List (AV × AV × Nat)} {es' : List MapEntry} {k : List Int → Option R} {r : R}, EntR ρ es es' → keysIK es k = some r →
    ∃ ks L : List Int, es'.map (·.key) = ks.map encZ ∧ (∀ x ∈ ks, (Lit.int .i64 x).wf = true) ∧ k L = some r ∧ L.Perm ks ∧ L.Pairwise (· < ·)
  | [], _, k, r, .nil, h => ⟨[], [], rfl, by simp, h, .refl _, .nil⟩
  | (kk, v, b) :: es, e :: es', k, r, .cons hk hv hb he, h => by
    cases kk with
    | int kd n => cases kd with
      | i64 =>
        simp only [keysIK] at h
        obtain ⟨ks, L, k1, k2, k3, k4, k5⟩ := keysIK_spec he (cond_some h).2
        obtain ⟨L', m1, m2, m3⟩ := insIK_spec n k3 k5
        refine ⟨n :: ks, L', ?_, fun x hx => ?_, m1, m2.trans (k4.cons _), m3⟩
        · rw [List.map_cons, List.map_cons, k1]
          congr 1
          have hk2 := hk
          generalize e.key = q at hk2
          cases hk2
          rfl
        · rcases List.mem_cons.1 hx with rfl | hx
          · exact in64_wf (cond_some h).1
          · exact k2 x hx
      | _ => simp only [keysIK] at h; cases h
    | _ => simp only [keysIK] at h; cases h

def KeysConI (P : Program) (f g e : Nat) : Prop := ∀ (w : World) (Bm b : Nat) (es : Array MapEntry) (ck : Nat) (ks : List Int),
  w.cell? ⟨Bm, 0, none⟩ = some (.map (some b)) → w.heap[b]? = some (.map es ck) → Stamped es ck → es.size ≤ 1000000 → es.toList.map (·.key) = ks.map encZ → (∀ x ∈ ks, (Lit.int .i64 x).wf = true) →
  Calls P f #[.func (.func g) #[] #[.pointer (some ⟨Bm, 0, none⟩)]] w fun e' w' => ∃ (v : Value) (ss : List Int), e' = .returned v ∧ ss.Perm ks ∧
    w'.ownsRow w.heap.size e 1 v ss.length ((ss.mergeSort fun x y => decide (x ≤ y)).map encZ) ∧ (v = .slice none 0 0 ↔ ss = []) ∧ Below w.heap.size w w'

noncomputable def ovKeysI (g e : Nat) (args : List AV) (h : AH) : Option (AV × AH) := match args with
  | [.func g' [] [.ptr f v 0]] => cond (Nat.beq g' g) (match h.get f with
    | some (.cells _ _ _ _ (some _)) => loadK h f v 0 1 fun cs => match cs with
      | [.map m] => match h.get m with
        | some (.mp (.ents es) ck) => cond (and (Nat.ble es.length 1000000) (bornB ck es [])) (keysIK es fun ks => match ks with
          | [] => some (.nilsl, h)
          | l :: r => newRowK h (some e) (intAVs (l :: r)) fun f n h' => some (.sl f n 0 n 1 none, h')) none
        | _ => none
      | _ => none
    | _ => none) none
  | _ => none

/-! ## Both kinds -/
theorem sort_le_s {ss L ks : List (List UInt8)} (h : ss.Perm ks) (h' : L.Perm ks) (hp : L.Pairwise (· < ·)) : (ss.mergeSort fun x y => decide (x ≤ y)) = L := by
  have h1 := mergeSort_of_perm (h.trans h'.symm)
  refine h1.trans (List.mergeSort_of_pairwise (hp.imp fun {a b} hab => ?_))
  exact decide_eq_true (List.le_of_lt hab)
theorem sort_le_i {ss L ks : List Int} (h : ss.Perm ks) (h' : L.Perm ks) (hp : L.Pairwise (· < ·)) : (ss.mergeSort fun x y => decide (x ≤ y)) = L := by
  have h1 := mergeSort_of_perm_i (h.trans h'.symm)
  refine h1.trans (List.mergeSort_of_pairwise (hp.imp fun {a b} hab => ?_))
  exact decide_eq_true (Int.le_of_lt hab)
theorem strAVs_eq (L : List (List UInt8)) : strAVs (L.map ofBytes) = L.map fun x => AV.str (ofBytes x) := by
  induction L with
  | nil => rfl
  | cons a r ih => simp [strAVs, ih]
theorem intAVs_eq (L : List Int) : intAVs L = L.map fun x => AV.int .i64 x := by
  induction L with
  | nil => rfl
  | cons a r ih => simp [intAVs, ih]
theorem vrl_map {α : Type} {ρ : Rho} (f : α → AV) (g : α → Value) (h : ∀ x, VR ρ (f x) (g x)) : ∀ L : List α, VRL ρ (L.map f) (L.map g)
  | [] => .nil
  | a :: r => .cons (h a) (vrl_map f g h r)

/-- What the row's owner gives. -/
theorem owned_out {a : AV} {ρ : Rho} {h h' : AH} {w w' : World} {e : TypeId} {vs : List AV} {xs : List Value} {v : Value} (r : Rep ρ h.get w) (wf : Wf h) (hB : Below w.heap.size w w')
    (hr : w'.ownsRow w.heap.size e 1 v vs.length xs) (hv : VRL ρ vs xs) (h0 : vs ≠ []) (hk : newRowK h (some e) vs (fun f n h' => some (AV.sl f n 0 n 1 none, h')) = some (a, h')) (fr : Fresh ρ h.next h'.next) :
    ∃ ρ', VR ρ' a v ∧ Out ρ h w ρ' h' w' := by
  obtain ⟨c, h2, e1, e2, e3, e4, e5, e6⟩ := newRowK_some wf hk
  injection e6 with e6
  injection e6 with e6 e7
  subst e6 e7
  obtain ⟨hl, hr⟩ := hr
  rcases hr with ⟨_, hz⟩ | ⟨gb, cap, cur, rfl, hb, hg, hc1, hc2, hc3, hc4⟩
  · exact absurd (List.eq_nil_of_length_eq_zero hz) h0
  · have hlen := hv.length
    have hlv : 0 < vs.length := by cases vs with
      | nil => exact absurd rfl h0
      | cons a r => simp
    refine ⟨_, .sl (upd_same _ _ _ _) (by omega) hc1 (by omega) ?_ ?_ (.inl rfl) hc2, Out.newRowB (arr := cur) (et := e) (fz := (0, 0)) (n := vs.length) (blk := gb) r wf fr e3 e2 e4 (fun t ht => by injection ht) hB hb hg (by omega) (.inl rfl) fun i hi => ?_⟩
    · simp only [Option.getD_none]; omega
    · simp only [Option.getD_none]; exact Nat.le_refl _
    · obtain ⟨y, y1, y2⟩ := hv.get (List.getElem?_eq_getElem hi)
      refine ⟨vs[i], y, by rw [e1 i, List.getElem?_eq_getElem hi], ?_, y2⟩
      rw [← hc4, List.getElem?_take] at y1
      rw [if_pos (by omega)] at y1
      rw [← Array.getElem?_toList]
      exact y1

theorem ovKeysS_ok {P : Program} {gl : Gl P} {f g e : Nat} (C : KeysConS P f g e) (args : List AV) (h : AH) (v : AV) (h' : AH) (ev : ovKeysS g e args h = some (v, h')) :
    (Wf h → AF h h') ∧ ∀ ρ w args', Rep ρ h.get w → Wf h → GlobOK ρ gl → VRL ρ args args' → Fresh ρ h.next h'.next →
    Calls P f ⟨args'⟩ w (fun e w' => ∃ x ρ', e = .returned x ∧ VR ρ' v x ∧ Out ρ h w ρ' h' w') := by
  unfold ovKeysS at ev
  split at ev
  · rename_i g' F V
    have hg := Nat.eq_of_beq_eq_true (cond_some ev).1
    subst hg
    replace ev := (cond_some ev).2
    split at ev
    · rename_i c n rd frz et hF
      obtain ⟨c2, m2, rd2, frz2, l, ⟨eto2, q0⟩, q1, q2, q3, q4, q5, q6⟩ := loadK_some ev
      rw [hF] at q0
      injection q0 with q0
      injection q0 with z1 z2 z3 z4 z5
      subst z1 z2 z3 z4 z5
      split at q6
      · rename_i M
        split at q6
        · rename_i es ck hM
          have hc := (cond_some q6).1
          replace q6 := (cond_some q6).2
          simp only [Bool.and_eq_true] at hc
          constructor
          · intro wf
            have key : ∀ (es : List (AV × AV × Nat)) (k : List (List Nat) → Option (AV × AH)), (∀ x, k x = some (v, h') → AF h h') → keysSK es k = some (v, h') → AF h h' := by
              intro es
              induction es with
              | nil => intro k hk he; exact hk _ he
              | cons x es ih =>
                intro k hk he
                obtain ⟨kk, v0, b0⟩ := x
                have ins : ∀ (n : List Nat) (l : List (List Nat)) (k : List (List Nat) → Option (AV × AH)), (∀ x, k x = some (v, h') → AF h h') → insSK n l k = some (v, h') → AF h h' := by
                  intro n l
                  induction l with
                  | nil => intro k hk he; exact hk _ he
                  | cons y l ih =>
                    intro k hk he
                    simp only [insSK] at he
                    cases hb : ltL y n with
                    | true => rw [hb] at he; exact ih _ (fun x hx => hk _ hx) he
                    | false => rw [hb] at he; exact hk _ (cond_some he).2
                cases kk with
                | str l =>
                  simp only [keysSK] at he
                  exact ih _ (fun x hx => ins _ _ _ hk hx) (cond_some he).2
                | _ => simp only [keysSK] at he; cases he
            refine key es _ (fun x hx => ?_) q6
            split at hx
            · injection hx with hx; injection hx with _ hx; subst hx; exact .refl wf
            · obtain ⟨c, h2, _, _, af, _, _, e6⟩ := newRowK_some wf hx
              injection e6 with e6; injection e6 with _ e6; subst e6; exact af
          · intro ρ w args' r wf hgl ha fr
            cases ha with
            | @cons _ x' _ _ hx ha2 =>
            cases ha2
            cases hx with
            | @func _ _ _ a' b' hxa hxb =>
            cases hxa
            cases hxb with
            | @cons _ y' _ _ hy hy2 =>
            cases hy2
            cases hy with
            | @ptr _ _ _ L hL =>
            obtain ⟨hb0, arr0, fz0, hh0⟩ := r.ety F _ _ _ _ _ hF _ L hL
            obtain ⟨arr, et', fz, k1, k2, k3, k4, k5⟩ := ((r.cellsF F _ _ _ _ _ hF).2 _ L hL).2 q1
            obtain ⟨a, x, m1, m2, m3⟩ := k4 0 (by omega)
            have hq5 := q5 0 (by omega)
            rw [m1] at hq5
            simp only [List.getElem?_cons_zero, Option.some.injEq] at hq5
            subst hq5
            cases m3 with
            | @map _ Lm hLm =>
            obtain ⟨o, w1, w2⟩ := r.mp M _ _ hM 0 Lm hLm
            obtain ⟨es', rfl, hE⟩ := w2.ents
            obtain ⟨ks, LL, s1, s2, s3, s4, s5⟩ := keysSK_spec hE q6
            obtain ⟨b1, b2, b3⟩ := bornB_spec hE hc.2
            have hks : ks.Nodup := (s4.nodup_iff).1 (s5.imp fun {a b} hab => by exact fun he => by subst he; exact absurd hab (List.lt_irrefl _))
            have hst : Stamped ⟨es'⟩ ck := ⟨b1, b2, by
              show (es'.map (·.key)).Nodup
              rw [s1]
              exact List.Pairwise.map _ (fun a b hab he => hab (encStr_inj he)) hks⟩
            have hcell : w.cell? ⟨L.blk, 0, none⟩ = some (.map (some Lm.blk)) := by
              rw [hb0] at m2
              simpa [World.cell?, k1] using m2
            have hsz : (⟨es'⟩ : Array MapEntry).size ≤ 1000000 := by
              have := (ble_iff _ _).1 hc.1
              have h2 := hE.length
              show es'.length ≤ _
              omega
            rw [show L.base + 0 = 0 from by omega]
            refine (C w L.blk Lm.blk ⟨es'⟩ ck ks hcell w1 hst hsz s1 s2).mono ?_
            rintro e' w' ⟨vv, ss, rfl, hp, hr, hn, hB⟩
            have hsort := sort_le_s hp s4 s5
            rw [hsort] at hr
            have hll : ss.length = LL.length := (hp.trans s4.symm).length_eq
            rw [hll] at hr
            cases LL with
            | nil =>
              have : ss = [] := List.eq_nil_of_length_eq_zero hll
              have hv := hn.2 this
              subst hv
              injection s3 with s3
              injection s3 with s3 s6
              subst s3 s6
              exact ⟨_, ρ, rfl, .nilsl, Out.below r wf hB⟩
            | cons l0 LL =>
              replace s3 : newRowK h (some e) (strAVs ((l0 :: LL).map ofBytes)) (fun f n h' => some (AV.sl f n 0 n 1 none, h')) = some (v, h') := s3
              rw [strAVs_eq] at s3
              have hv : VRL ρ ((l0 :: LL).map fun x => AV.str (ofBytes x)) ((l0 :: LL).map Go.Proofs.encStr) := vrl_map _ _ (fun x => by have := VR.str (ρ := ρ) ⟨x.toArray⟩; simpa using this) _
              obtain ⟨ρ', o1, o2⟩ := owned_out (e := e) r wf hB (by rw [List.length_map]; exact hr) hv (by simp) s3 fr
              exact ⟨_, ρ', rfl, o1, o2⟩
        · cases q6
      · cases q6
    · cases ev
  · cases ev

theorem ovKeysI_ok {P : Program} {gl : Gl P} {f g e : Nat} (C : KeysConI P f g e) (args : List AV) (h : AH) (v : AV) (h' : AH) (ev : ovKeysI g e args h = some (v, h')) :
    (Wf h → AF h h') ∧ ∀ ρ w args', Rep ρ h.get w → Wf h → GlobOK ρ gl → VRL ρ args args' → Fresh ρ h.next h'.next →
    Calls P f ⟨args'⟩ w (fun e w' => ∃ x ρ', e = .returned x ∧ VR ρ' v x ∧ Out ρ h w ρ' h' w') := by
  unfold ovKeysI at ev
  split at ev
  · rename_i g' F V
    have hg := Nat.eq_of_beq_eq_true (cond_some ev).1
    subst hg
    replace ev := (cond_some ev).2
    split at ev
    · rename_i c n rd frz et hF
      obtain ⟨c2, m2, rd2, frz2, l, ⟨eto2, q0⟩, q1, q2, q3, q4, q5, q6⟩ := loadK_some ev
      rw [hF] at q0
      injection q0 with q0
      injection q0 with z1 z2 z3 z4 z5
      subst z1 z2 z3 z4 z5
      split at q6
      · rename_i M
        split at q6
        · rename_i es ck hM
          have hc := (cond_some q6).1
          replace q6 := (cond_some q6).2
          simp only [Bool.and_eq_true] at hc
          constructor
          · intro wf
            have key : ∀ (es : List (AV × AV × Nat)) (k : List Int → Option (AV × AH)), (∀ x, k x = some (v, h') → AF h h') → keysIK es k = some (v, h') → AF h h' := by
              intro es
              induction es with
              | nil => intro k hk he; exact hk _ he
              | cons x es ih =>
                intro k hk he
                obtain ⟨kk, v0, b0⟩ := x
                have ins : ∀ (n : Int) (l : List Int) (k : List Int → Option (AV × AH)), (∀ x, k x = some (v, h') → AF h h') → insIK n l k = some (v, h') → AF h h' := by
                  intro n l
                  induction l with
                  | nil => intro k hk he; exact hk _ he
                  | cons y l ih =>
                    intro k hk he
                    simp only [insIK] at he
                    cases hb : ltI y n with
                    | true => rw [hb] at he; exact ih _ (fun x hx => hk _ hx) he
                    | false => rw [hb] at he; exact hk _ (cond_some he).2
                cases kk with
                | int kd n => cases kd with
                  | i64 =>
                    simp only [keysIK] at he
                    exact ih _ (fun x hx => ins _ _ _ hk hx) (cond_some he).2
                  | _ => simp only [keysIK] at he; cases he
                | _ => simp only [keysIK] at he; cases he
            refine key es _ (fun x hx => ?_) q6
            split at hx
            · injection hx with hx; injection hx with _ hx; subst hx; exact .refl wf
            · obtain ⟨c, h2, _, _, af, _, _, e6⟩ := newRowK_some wf hx
              injection e6 with e6; injection e6 with _ e6; subst e6; exact af
          · intro ρ w args' r wf hgl ha fr
            cases ha with
            | @cons _ x' _ _ hx ha2 =>
            cases ha2
            cases hx with
            | @func _ _ _ a' b' hxa hxb =>
            cases hxa
            cases hxb with
            | @cons _ y' _ _ hy hy2 =>
            cases hy2
            cases hy with
            | @ptr _ _ _ L hL =>
            obtain ⟨hb0, arr0, fz0, hh0⟩ := r.ety F _ _ _ _ _ hF _ L hL
            obtain ⟨arr, et', fz, k1, k2, k3, k4, k5⟩ := ((r.cellsF F _ _ _ _ _ hF).2 _ L hL).2 q1
            obtain ⟨a, x, m1, m2, m3⟩ := k4 0 (by omega)
            have hq5 := q5 0 (by omega)
            rw [m1] at hq5
            simp only [List.getElem?_cons_zero, Option.some.injEq] at hq5
            subst hq5
            cases m3 with
            | @map _ Lm hLm =>
            obtain ⟨o, w1, w2⟩ := r.mp M _ _ hM 0 Lm hLm
            obtain ⟨es', rfl, hE⟩ := w2.ents
            obtain ⟨ks, LL, s1, s2, s3, s4, s5⟩ := keysIK_spec hE q6
            obtain ⟨b1, b2, b3⟩ := bornB_spec hE hc.2
            have hks : ks.Nodup := (s4.nodup_iff).1 (s5.imp fun {a b} hab => by omega)
            have hst : Stamped ⟨es'⟩ ck := ⟨b1, b2, by
              show (es'.map (·.key)).Nodup
              rw [s1]
              exact List.Pairwise.map _ (fun a b hab he => hab (encZ_inj he)) hks⟩
            have hcell : w.cell? ⟨L.blk, 0, none⟩ = some (.map (some Lm.blk)) := by
              rw [hb0] at m2
              simpa [World.cell?, k1] using m2
            have hsz : (⟨es'⟩ : Array MapEntry).size ≤ 1000000 := by
              have := (ble_iff _ _).1 hc.1
              have h2 := hE.length
              show es'.length ≤ _
              omega
            rw [show L.base + 0 = 0 from by omega]
            refine (C w L.blk Lm.blk ⟨es'⟩ ck ks hcell w1 hst hsz s1 s2).mono ?_
            rintro e' w' ⟨vv, ss, rfl, hp, hr, hn, hB⟩
            have hsort := sort_le_i hp s4 s5
            rw [hsort] at hr
            have hll : ss.length = LL.length := (hp.trans s4.symm).length_eq
            rw [hll] at hr
            cases LL with
            | nil =>
              have : ss = [] := List.eq_nil_of_length_eq_zero hll
              have hv := hn.2 this
              subst hv
              injection s3 with s3
              injection s3 with s3 s6
              subst s3 s6
              exact ⟨_, ρ, rfl, .nilsl, Out.below r wf hB⟩
            | cons l0 LL =>
              replace s3 : newRowK h (some e) (intAVs (l0 :: LL)) (fun f n h' => some (AV.sl f n 0 n 1 none, h')) = some (v, h') := s3
              rw [intAVs_eq] at s3
              have hv : VRL ρ ((l0 :: LL).map fun x => AV.int .i64 x) ((l0 :: LL).map encZ) := vrl_map _ _ (fun x => by exact .int _ _) _
              obtain ⟨ρ', o1, o2⟩ := owned_out (e := e) r wf hB (by rw [List.length_map]; exact hr) hv (by simp) s3 fr
              exact ⟨_, ρ', rfl, o1, o2⟩
        · cases q6
      · cases q6
    · cases ev
  · cases ev

def keyVS : Value → List UInt8
  | .string s => s.data.toList
  | _ => []
theorem keysConS_of {P : Program} {f g e : Nat} (hu : P.underlying e = some .string) (hC : ∀ (w : World) (Bm b nn : Nat) (D0 : DataW Unit) (R : Value → Option (DataW Unit × List MemPlace)), Bm < w.heap.size →
      w.cell? ⟨Bm, 0, none⟩ = some (.map (some b)) → w.ownsMap P e R b nn D0 → Go.Maps.size D0 ≤ maxLen → Go.Maps.size D0 * 16 ≤ 140737488355328 →
      Calls P f #[.func (.func g) #[] #[.pointer (some ⟨Bm, 0, none⟩)]] w fun e' w' => ∃ (v : Value) (ss : List (List UInt8)), e' = .returned v ∧ ss.Perm (strKeys D0) ∧
        w'.ownsRow w.heap.size e 1 v ss.length ((ss.mergeSort fun x y => decide (x ≤ y)).map Go.Proofs.encStr) ∧ (v = .slice none 0 0 ↔ ss = []) ∧ Below w.heap.size w w') : KeysConS P f g e := by
  intro w Bm b es ck ks hcell hmap hst hsz hk hl
  let R : Value → Option (DataW Unit × List MemPlace) := fun _ => some (.nil, [])
  have hkey : ∀ x ∈ es.toList, ∃ s ∈ ks, x.key = Go.Proofs.encStr s := by
    intro x hx
    have : x.key ∈ es.toList.map (·.key) := List.mem_map.2 ⟨x, hx, rfl⟩
    rw [hk] at this
    obtain ⟨s, h1, h2⟩ := List.mem_map.1 this
    exact ⟨s, h1, h2.symm⟩
  have hrd : ∀ x ∈ es.toList, Go.WideElems.rd P e R x = some (.string (keyVS x.key), .nil) := by
    intro x hx
    obtain ⟨s, h1, h2⟩ := hkey x hx
    have h3 := hl s h1
    refine Go.WideElems.rd_mk (yv := (DataW.nil, [])) (key := x.key) (val := x.val) (born := x.born) ?_ rfl
    rw [h2]
    simp only [keyOf, hu, mapKey]
    rw [if_pos (show (⟨s.toArray⟩ : ByteArray).size ≤ maxLen from by simpa [ByteArray.size] using h3)]
    simp [keyVS]
  have hrg : ∀ x ∈ es.toList, Go.WideElems.rg P e R x = (.string (keyVS x.key), .nil) := fun x hx => Go.WideElems.rg_of (hrd x hx)
  have hown : w.ownsMap P e R b es.size (.map ((es.toList.map (Go.WideElems.rg P e R)).foldr DataW.insert [])) :=
    ⟨es, ck, hmap, ⟨Nat.le_trans hsz (by decide), hst, fun x hx => ⟨_, hrd x hx⟩⟩, Nat.le_refl _, rfl⟩
  have hsize : Go.Maps.size (.map ((es.toList.map (Go.WideElems.rg P e R)).foldr DataW.insert []) : DataW Unit) = es.size := by
    show (List.length _) = _
    rw [(Go.WideShapes.sorted_perm _).length_eq]
    simp
  have hBm : Bm < w.heap.size := by
    unfold World.cell? at hcell
    split at hcell
    · rename_i hb
      exact (Array.getElem?_eq_some_iff.1 hb).1
    · cases hcell
  refine (hC w Bm b _ _ R hBm hcell hown (by rw [hsize]; exact Nat.le_trans hsz (by decide)) (by rw [hsize]; omega)).mono ?_
  rintro e' w' ⟨v, ss, h1, h2, h3⟩
  refine ⟨v, ss, h1, h2.trans ?_, h3⟩
  show (List.map (fun p : Lit × DataW Unit => strOf p.1) _).Perm ks
  refine ((Go.WideShapes.sorted_perm _).map _).trans ?_
  rw [List.map_map]
  have : List.map ((fun p : Lit × DataW Unit => strOf p.1) ∘ Go.WideElems.rg P e R) es.toList = (es.toList.map (·.key)).map keyVS := by
    rw [List.map_map]
    refine List.map_congr_left fun x hx => ?_
    simp only [Function.comp, hrg x hx]
    rfl
  rw [this, hk, List.map_map]
  have h4 : keyVS ∘ Go.Proofs.encStr = id := by funext x; simp [keyVS, Function.comp]
  rw [h4, List.map_id]

def keyVI : Value → Int
  | .int _ n => n
  | _ => 0
theorem keysConI_of {P : Program} {f g e : Nat} (hu : P.underlying e = some (.int .i64)) (hC : ∀ (w : World) (Bm b nn : Nat) (D0 : DataW Unit) (R : Value → Option (DataW Unit × List MemPlace)), Bm < w.heap.size →
      w.cell? ⟨Bm, 0, none⟩ = some (.map (some b)) → w.ownsMap P e R b nn D0 → Go.Maps.size D0 ≤ maxLen → Go.Maps.size D0 * 8 ≤ 140737488355328 →
      Calls P f #[.func (.func g) #[] #[.pointer (some ⟨Bm, 0, none⟩)]] w fun e' w' => ∃ (v : Value) (ss : List (Int)), e' = .returned v ∧ ss.Perm (intKeys D0) ∧
        w'.ownsRow w.heap.size e 1 v ss.length ((ss.mergeSort fun x y => decide (x ≤ y)).map encZ) ∧ (v = .slice none 0 0 ↔ ss = []) ∧ Below w.heap.size w w') : KeysConI P f g e := by
  intro w Bm b es ck ks hcell hmap hst hsz hk hl
  let R : Value → Option (DataW Unit × List MemPlace) := fun _ => some (.nil, [])
  have hkey : ∀ x ∈ es.toList, ∃ s ∈ ks, x.key = encZ s := by
    intro x hx
    have : x.key ∈ es.toList.map (·.key) := List.mem_map.2 ⟨x, hx, rfl⟩
    rw [hk] at this
    obtain ⟨s, h1, h2⟩ := List.mem_map.1 this
    exact ⟨s, h1, h2.symm⟩
  have hrd : ∀ x ∈ es.toList, Go.WideElems.rd P e R x = some (.int .i64 (keyVI x.key), .nil) := by
    intro x hx
    obtain ⟨s, h1, h2⟩ := hkey x hx
    have h3 := hl s h1
    refine Go.WideElems.rd_mk (yv := (DataW.nil, [])) (key := x.key) (val := x.val) (born := x.born) ?_ rfl
    rw [h2]
    simp only [keyOf, hu, mapKey]
    rw [if_pos ⟨trivial, h3⟩]
    simp [keyVI]
  have hrg : ∀ x ∈ es.toList, Go.WideElems.rg P e R x = (.int .i64 (keyVI x.key), .nil) := fun x hx => Go.WideElems.rg_of (hrd x hx)
  have hown : w.ownsMap P e R b es.size (.map ((es.toList.map (Go.WideElems.rg P e R)).foldr DataW.insert [])) :=
    ⟨es, ck, hmap, ⟨Nat.le_trans hsz (by decide), hst, fun x hx => ⟨_, hrd x hx⟩⟩, Nat.le_refl _, rfl⟩
  have hsize : Go.Maps.size (.map ((es.toList.map (Go.WideElems.rg P e R)).foldr DataW.insert []) : DataW Unit) = es.size := by
    show (List.length _) = _
    rw [(Go.WideShapes.sorted_perm _).length_eq]
    simp
  have hBm : Bm < w.heap.size := by
    unfold World.cell? at hcell
    split at hcell
    · rename_i hb
      exact (Array.getElem?_eq_some_iff.1 hb).1
    · cases hcell
  refine (hC w Bm b _ _ R hBm hcell hown (by rw [hsize]; exact Nat.le_trans hsz (by decide)) (by rw [hsize]; omega)).mono ?_
  rintro e' w' ⟨v, ss, h1, h2, h3⟩
  refine ⟨v, ss, h1, h2.trans ?_, h3⟩
  show (List.map (fun p : Lit × DataW Unit => intOf p.1) _).Perm ks
  refine ((Go.WideShapes.sorted_perm _).map _).trans ?_
  rw [List.map_map]
  have : List.map ((fun p : Lit × DataW Unit => intOf p.1) ∘ Go.WideElems.rg P e R) es.toList = (es.toList.map (·.key)).map keyVI := by
    rw [List.map_map]
    refine List.map_congr_left fun x hx => ?_
    simp only [Function.comp, hrg x hx]
    rfl
  rw [this, hk, List.map_map]
  have h4 : keyVI ∘ encZ = id := by funext x; simp [keyVI, Function.comp]
  rw [h4, List.map_id]
end Go.Proofs.YtknallpinjoppaaGreatDoor.Am
