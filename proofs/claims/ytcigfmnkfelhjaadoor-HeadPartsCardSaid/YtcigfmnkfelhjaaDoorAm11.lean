/- The abstract machine: every operation that it carries out, the program carries out. -/
import Derived.Test.YtcigfmnkfelhjaaDoorAm10
import Derived.Laws.StructEq
import Derived.Lib.Builder
import Derived.ChangeKeysEq
set_option linter.unusedVariables false
set_option linter.unusedSimpArgs false
namespace Go.Proofs.YtcigfmnkfelhjaaDoor.Am
open Go

section
variable {P : Program} {gl : Gl P} {ρ : Rho} {h : AH} {w : World} {tm : Tr AV} {ev : Operand → Value} {o : Oper}

theorem nthN_bytes : ∀ (l : List UInt8) (n b : Nat), nthN (ofBytes l) n = some b → ∃ c, l[n]? = some c ∧ c.toNat = b
  | [], n, b, h => by simp [ofBytes, nthN] at h
  | c :: l, 0, b, h => by simp [ofBytes, nthN] at h; exact ⟨c, rfl, h⟩
  | c :: l, n + 1, b, h => by
    simp only [ofBytes, nthN] at h
    simpa using nthN_bytes l n b h

theorem freeze_row {w : World} {b : Nat} {arr : Array Value} {et : TypeId} {fz : Nat × Nat} (hb : w.heap[b]? = some (.cells arr et fz)) (hfz : fz.1 = fz.2 ∨ arr.size ≤ fz.1) :
    ∃ fz', w.freeze ⟨b, arr.size, none⟩ 1 = { w with heap := w.heap.setIfInBounds b (.cells arr et fz') } ∧ (fz'.1 = fz'.2 ∨ arr.size ≤ fz'.1) := by
  obtain ⟨lo, hi⟩ := fz
  have hlt : b < w.heap.size := (Array.getElem?_eq_some_iff.1 hb).1
  refine ⟨if lo == hi then (arr.size, arr.size + 1) else (min lo arr.size, max hi (arr.size + 1)), ?_, ?_⟩
  · unfold World.freeze
    simp only [Nat.one_ne_zero, if_false]
    congr 1
    apply Array.ext_getElem?
    intro j
    simp only [Array.getElem?_modify]
    by_cases hj : b = j
    · subst hj
      rw [if_pos rfl, hb, Array.getElem?_setIfInBounds_self_of_lt hlt]
      rfl
    · rw [if_neg hj, Array.getElem?_setIfInBounds_ne hj]
  · simp only at hfz
    by_cases he : lo = hi
    · subst he; simp
    · have : (lo == hi) = false := by simpa using he
      rw [this]
      simp only [Bool.false_eq_true, if_false]
      right
      have := hfz.resolve_left he
      omega

theorem ptrEq_run {t e : TypeId} {j : TypeInfo} (hp : P.underlying t = some (.pointer e)) (hte : P.info? e = some j) (hsz : j.size ≠ 0) (B base q q' : Nat) :
    (binOp .eql t (.pointer (some ⟨B, base + q, none⟩)) (.pointer (some ⟨B, base + q', none⟩))).run P w = .ok (.bool (Nat.beq q q')) w ∧
    (binOp .neq t (.pointer (some ⟨B, base + q, none⟩)) (.pointer (some ⟨B, base + q', none⟩))).run P w = .ok (.bool (not (Nat.beq q q'))) w := by
  have hab : ((⟨B, base + q, none⟩ : Addr) == ⟨B, base + q', none⟩) = Nat.beq q q' := by
    rw [Bool.eq_iff_iff, beq_iff_eq]
    constructor
    · intro h
      injection h with _ h
      have : q = q' := by omega
      subst this
      exact Nat.beq_refl q
    · intro h
      rw [Nat.eq_of_beq_eq_true h]
  have h : ∀ d : Nat, (Op.equalIn (d + 1) t (.pointer (some ⟨B, base + q, none⟩)) (.pointer (some ⟨B, base + q', none⟩))).run P w = .ok (Nat.beq q q') w := fun d => by
    simp [Op.equalIn, run_underlying hp, sizeOf, typeInfo, hte, hsz, sameAddr, hab]
  constructor
  · simp only [binOp]
    simp [Op.equal, Op.maxDepth, h 9999]
  · simp only [binOp]
    simp [Op.equal, Op.maxDepth, h 9999]
theorem ptrNe_run {t e : TypeId} {j : TypeInfo} (hp : P.underlying t = some (.pointer e)) (hte : P.info? e = some j) (hsz : j.size ≠ 0) (B B' a a' : Nat) (hne : B ≠ B')
    {arr arr' : Array Value} {et et' : TypeId} {fz fz' : Nat × Nat} (hb : w.heap[B]? = some (.cells arr et fz)) (hb' : w.heap[B']? = some (.cells arr' et' fz')) (hfz : fz.1 = fz.2) (hfz' : fz'.1 = fz'.2) :
    (binOp .eql t (.pointer (some ⟨B, a, none⟩)) (.pointer (some ⟨B', a', none⟩))).run P w = .ok (.bool false) w ∧
    (binOp .neq t (.pointer (some ⟨B, a, none⟩)) (.pointer (some ⟨B', a', none⟩))).run P w = .ok (.bool true) w := by
  have hab : ((⟨B, a, none⟩ : Addr) == ⟨B', a', none⟩) = false := by
    rw [Bool.eq_false_iff]
    intro h
    rw [beq_iff_eq] at h
    injection h with h _
    exact hne h
  obtain ⟨f1, f2⟩ := fz
  obtain ⟨f1', f2'⟩ := fz'
  simp only at hfz hfz'
  subst hfz hfz'
  have hf : ∀ q, w.frozen? ⟨B, q, none⟩ = false := fun q => by
    simp only [World.frozen?, hb, Bool.and_eq_false_iff, decide_eq_false_iff_not]
    omega
  have hf' : ∀ q, w.frozen? ⟨B', q, none⟩ = false := fun q => by
    simp only [World.frozen?, hb', Bool.and_eq_false_iff, decide_eq_false_iff_not]
    omega
  have hsp : w.shape? B = some (et, arr.size) := by simp [World.shape?, hb]
  have hsp' : w.shape? B' = some (et', arr'.size) := by simp [World.shape?, hb']
  have h : ∀ d : Nat, (Op.equalIn (d + 1) t (.pointer (some ⟨B, a, none⟩)) (.pointer (some ⟨B', a', none⟩))).run P w = .ok false w := fun d => by
    simp [Op.equalIn, run_underlying hp, sizeOf, typeInfo, hte, hsz, sameAddr, hab, hne, hf, hf', noView, viewAt, mayBeOne, stringish, run_shape, hsp, hsp']
  constructor
  · simp only [binOp]
    simp [Op.equal, Op.maxDepth, h 9999]
  · simp only [binOp]
    simp [Op.equal, Op.maxDepth, h 9999]
theorem eqStrs_run {e : TypeId} (d : Nat) (he : P.underlying e = some .string) : ∀ (n j : Nat) {xs ys : List AV} {X Y : List Value} {xs' ys' : List Value} {b : Bool}, VRL ρ xs xs' → VRL ρ ys ys' → X.drop j = xs' → Y.drop j = ys' → eqStrs n xs ys = some b →
    (Op.eqItems (d + 1) e 1 ⟨X⟩ ⟨Y⟩ (List.range' j n)).run P w = .ok b w
  | 0, j, xs, ys, X, Y, xs', ys', b, hx, hy, h1, h2, h => by
    simp only [eqStrs] at h
    injection h with h
    subst h
    simp [Op.eqItems]
  | n + 1, j, xs, ys, X, Y, xs', ys', b, hx, hy, h1, h2, h => by
    unfold eqStrs at h
    split at h
    · rename_i h0; cases h0
    · rename_i n' a x c y h0
      injection h0 with h0
      subst h0
      cases hx with
      | @cons _ v1 _ x' hv1 hx =>
      cases hy with
      | @cons _ v2 _ y' hv2 hy =>
      cases hv1 with
      | str s =>
      cases hv2 with
      | str t =>
      have g1 : X[j]? = some (.string s) := by
        have := congrArg (·[0]?) h1
        simpa [List.getElem?_drop] using this
      have g2 : Y[j]? = some (.string t) := by
        have := congrArg (·[0]?) h2
        simpa [List.getElem?_drop] using this
      have p1 : (part e ⟨X⟩ (j * 1)).run P w = .ok (.string s) w := by
        simp [part, isAgg, run_underlying he, g1]
      have p2 : (part e ⟨Y⟩ (j * 1)).run P w = .ok (.string t) w := by
        simp [part, isAgg, run_underlying he, g2]
      have p3 : (Op.equalIn (d + 1) e (.string s) (.string t)).run P w = .ok (s == t) w := by
        simp [Op.equalIn, run_underlying he]
      have hst : eqL (ofBytes s.data.toList) (ofBytes t.data.toList) = (s == t) := by
        have hq : (s == t) = (s.data == t.data) := by cases s; cases t; rfl
        rw [eqL_eq, hq, Bool.eq_iff_iff, beq_iff_eq, beq_iff_eq]
        exact Array.toList_inj
      rw [hst] at h
      rw [List.range'_succ]
      simp only [Op.eqItems, Sem.run_bind, p1, p2, p3, Result.andThen_ok]
      cases hb : (s == t) with
      | false =>
        rw [hb] at h
        injection h with h
        subst h
        simp
      | true =>
        rw [hb] at h
        simp only [Bool.not_true, Bool.false_eq_true, if_false]
        exact eqStrs_run d he n (j + 1) hx hy (by rw [← List.drop_drop, h1]; rfl) (by rw [← List.drop_drop, h2]; rfl) h
    · cases h
def isAggD : TypeDesc → Bool
  | .struct _ => true
  | .array _ _ => true
  | _ => false
theorem part_leaf {t : TypeId} {d : TypeDesc} {cs : Array Value} {o : Nat} {v : Value} (ht : P.underlying t = some d) (hd : isAggD d = false) (hv : cs[o]? = some v) : (part t cs o).run P w = .ok v w := by
  cases d <;> first | (cases hd; done) | simp [part, isAgg, run_underlying ht, hv]
theorem leafEq_run {t : TypeId} {d : TypeDesc} {x y : AV} {x' y' : Value} {b : Bool} (n : Nat) (ht : P.underlying t = some d) (hx : VR ρ x x') (hy : VR ρ y y') (h : leafEq d x y = some b) : (Op.equalIn (n + 1) t x' y').run P w = .ok b w ∧ isAggD d = false := by
  unfold leafEq at h
  split at h
  · rename_i a c
    cases hx; cases hy
    injection h with h
    subst h
    refine ⟨?_, rfl⟩
    rw [run_equalIn_bool' w n t a c ht]
    cases a <;> cases c <;> rfl
  · rename_i k0 k a k' c
    obtain ⟨h1, h2⟩ := cond_some h
    have := (eqK_iff _ _).1 h1
    subst this
    injection h2 with h2
    subst h2
    cases hx; cases hy
    refine ⟨?_, rfl⟩
    rw [run_equalIn_int w n t k k0 a c ht, eqI_eq]
  · rename_i a c
    injection h with h
    subst h
    cases hx with
    | str s =>
    cases hy with
    | str s2 =>
    refine ⟨?_, rfl⟩
    rw [run_equalIn_string w n t s s2 ht, eqL_eq, Lib.toList_data, Lib.toList_data]
  · cases h
theorem eqFlds_run {xs ys : List AV} {X Y : List Value} (n : Nat) (hx : VRL ρ xs X) (hy : VRL ρ ys Y) : ∀ (fs : List Field) {b : Bool}, eqFlds P xs ys fs = some b → (Op.eqFields (n + 1) ⟨X⟩ ⟨Y⟩ fs).run P w = .ok b w
  | [], b, h => by
    simp only [eqFlds] at h
    injection h with h
    subst h
    simp [Op.eqFields]
  | f :: fs, b, h => by
    simp only [eqFlds] at h
    cases hn : f.name == "_" with
    | true => rw [hn] at h; cases h
    | false =>
      rw [hn] at h
      have hn' : f.name ≠ "_" := by simpa using hn
      simp only [cond_false] at h
      split at h
      · rename_i d a c hd ha hc
        obtain ⟨a', p1, p2⟩ := hx.get ha
        obtain ⟨c', p3, p4⟩ := hy.get hc
        split at h
        · rename_i hl
          obtain ⟨g1, g2⟩ := leafEq_run (w := w) n hd p2 p4 hl
          have q1 : (part f.type ⟨X⟩ f.offset).run P w = .ok a' w := part_leaf hd g2 (by rw [arr_get]; exact p1)
          have q2 : (part f.type ⟨Y⟩ f.offset).run P w = .ok c' w := part_leaf hd g2 (by rw [arr_get]; exact p3)
          have ih := eqFlds_run n hx hy fs h
          simp [Op.eqFields, hn', q1, q2, g1, ih]
        · rename_i hl
          obtain ⟨g1, g2⟩ := leafEq_run (w := w) n hd p2 p4 hl
          have q1 : (part f.type ⟨X⟩ f.offset).run P w = .ok a' w := part_leaf hd g2 (by rw [arr_get]; exact p1)
          have q2 : (part f.type ⟨Y⟩ f.offset).run P w = .ok c' w := part_leaf hd g2 (by rw [arr_get]; exact p3)
          injection h with h
          subst h
          simp [Op.eqFields, hn', q1, q2, g1]
        · cases h
      · cases h
theorem liesAt_one (t : TypeId) {count : Nat} (h0 : P.cellsOf t ≠ 0) (h1 : 1 ≤ count) : liesAt P P.depth t count 0 t 1 = true := by
  have hd : P.depth = (2 * (P.types.size + Made.depth) + 1) + 1 := rfl
  rw [hd]
  simp only [liesAt, Bool.or_eq_true]
  left
  rw [hd]
  simp [rowAt, h0, h1, sameLayout]
theorem convert_sound {s d : TypeId} {xo : Operand} {x : AN × AH} (r : Rep ρ h.get w) (wf : Wf h) (ho : o.op = .convert s d xo) (hev : ∀ a, aEval gl tm xo = some a → VR ρ a (ev xo)) (hx : aOp P gl tm h o = some x) : OpOut P ρ h w ev o x := by
  have hex : ∀ w, (execOp ev o).run P w = ((convert s d (ev xo)).run P w).andThen fun v w => .ok (.value v) w := by
    intro w
    simp only [execOp, ho, Sem.run_bind, Sem.run_pure]
  simp only [aOp, ho, opSel, oMove, oPick, oAlloc, oBox, oBuild, oBuildSlice, oLoad, oStore, oNilCheck, oBinOp, oUnOp, oConvert, oMakeInterface, oMakeFunc, oMakeSlice, oSlice, oFieldAddr, oField, oIndexAddr, oIndex, oMakeMap, oLookup, oMapUpdate, oRange, oNext, oExtract, oCall] at hx
  split at hx
  · -- a slice of its own type
    rename_i e0 e f v oo len esz lim hs hd ha
    split at hx
    · rename_i hu
      have hsd := Nat.eq_of_beq_eq_true (cond_some hx).1
      replace hx := (cond_some hx).2
      subst hsd
      split at hx
      · rename_i c m rd frz eto hg
        have hvm := Nat.eq_of_beq_eq_true (cond_some hx).1
        replace hx := (cond_some hx).2
        subst hvm
        obtain ⟨h', hk, hn, af, ht, hget⟩ := putK_some wf (by rw [hg]; rfl) hx
        injection hk with hk
        subst hk
        have hv := hev _ ha
        cases hve : ev xo with
        | slice a' len' cap =>
          rw [hve] at hv
          cases hv with
          | @sl _ _ _ _ _ _ L ad cap hL g0 g1 g2 g3 g4 g5 g6 =>
          obtain ⟨b1, b2⟩ := r.cellsF _ _ _ _ _ _ hg
          obtain ⟨b3, b4⟩ := b2 v L hL
          obtain ⟨arr, et, fz, k1, k2, k3, k4, k5⟩ := b4 b1
          have hblk : ad.block = L.blk := by
            rcases g5 with rfl | g5
            · rfl
            · exact g5.2
          have hsh : w.shape? L.blk = some (et, arr.size) := by simp [World.shape?, k1]
          rw [hs] at hd
          injection hd with hd
          injection hd with hd
          subst hd
          have hrun : (convert s s (.slice (some ad) len cap)).run P w = .ok (.slice (some ad) len cap) (w.freeze ⟨L.blk, arr.size, none⟩ 1) := by
            simp only [convert, Sem.run_bind, run_underlying hs, Result.andThen_ok, run_underlying hu, beq_self_eq_true, markStringish, run_shape, hsh, run_freeze, Sem.run_pure, hblk]
          refine ⟨by omega, fun _ => ⟨_, .slice (some ad) len cap, _, ρ, by rw [hex, hve, hrun]; rfl, .inl rfl, .sl hL g0 g1 g2 g3 g4 g5 g6, ?_⟩⟩
          obtain ⟨lo, hi⟩ := fz
          have hlt : L.blk < w.heap.size := (Array.getElem?_eq_some_iff.1 k1).1
          have f1 : w.freeze ⟨L.blk, arr.size, none⟩ 1 = { w with heap := w.heap.setIfInBounds L.blk (.cells arr et (if lo == hi then (arr.size, arr.size + 1) else (min lo arr.size, max hi (arr.size + 1)))) } := by
            unfold World.freeze
            simp only [Nat.one_ne_zero, if_false]
            congr 1
            apply Array.ext_getElem?
            intro j
            simp only [Array.getElem?_modify]
            by_cases hj : L.blk = j
            · rw [← hj, if_pos rfl, k1, Array.getElem?_setIfInBounds_self_of_lt hlt]
              rfl
            · rw [if_neg hj, Array.getElem?_setIfInBounds_ne hj]
          rw [f1]
          exact Out.setRow r wf af ht hg hL hget k1 k2 k3 rfl rfl (fun h => by cases h) k4
        | _ => rw [hve] at hv; cases hv
      · cases hx
    · cases hx
  · -- *T to unsafe.Pointer
    rename_i t xa hs hd ha
    have hv := hev _ ha
    generalize ev xo = xv at hv hex
    split at hx
    · injection hx with hx
      subst hx
      cases hv
      refine .pure r wf (v' := .pointer none) ?_ .nilptr
      rw [hex]
      simp [convert, run_underlying hs, run_underlying hd, Conv.unsafePointer]
    · rename_i f v oo
      split at hx
      · rename_i sz c m rd frz eto hsz hg
        obtain ⟨c1, c2⟩ := and_true (cond_some hx).1
        replace hx := (cond_some hx).2
        obtain ⟨c2, c3⟩ := and_true c2
        obtain ⟨c3, c4⟩ := and_true c3
        have c1 := of_decide_eq_true ((blt_eq _ _) ▸ c1)
        have c2 := (ble_iff _ _).1 c2
        have c4 := of_decide_eq_true ((blt_eq _ _) ▸ c4)
        injection hx with hx
        subst hx
        obtain ⟨i, hi, his⟩ := sizeT_some hsz
        cases hv with
        | @ptr _ _ _ L hL =>
        obtain ⟨g1, g2⟩ := r.cellsF _ _ _ _ _ _ hg
        obtain ⟨g3, g4⟩ := g2 v L hL
        obtain ⟨arr, et', fz, k1, k2, k3, k4, k5⟩ := g4 c2
        have hsh : w.shape? L.blk = some (et', arr.size) := by simp [World.shape?, k1]
        refine .pure r wf (v' := .pointer (some ⟨L.blk, L.base + oo, none⟩)) ?_ (.ptr _ hL)
        rw [hex, Lib.run_to_unsafe w ⟨L.blk, L.base + oo, none⟩ hs hd hi (by omega) hsh (by show L.base + oo < arr.size; omega)]
        rfl
      · cases hx
    · cases hx
  · -- unsafe.Pointer to *T
    rename_i t xa hs hd ha
    have hv := hev _ ha
    generalize ev xo = xv at hv hex
    split at hx
    · injection hx with hx
      subst hx
      cases hv
      refine .pure r wf (v' := .pointer none) ?_ .nilptr
      rw [hex]
      simp [convert, run_underlying hs, run_underlying hd, Conv.unsafePointer]
    · rename_i f v oo
      split at hx
      · rename_i sz c m rd frz et hsz hg
        obtain ⟨c1, c2⟩ := and_true (cond_some hx).1
        replace hx := (cond_some hx).2
        obtain ⟨c1, c5⟩ := and_true c1
        obtain ⟨c2, c3⟩ := and_true c2
        obtain ⟨c2, c6⟩ := and_true c2
        obtain ⟨c3, c4⟩ := and_true c3
        have c1 := Nat.eq_of_beq_eq_true c1
        have c5 := Nat.eq_of_beq_eq_true c5
        have c2 := of_decide_eq_true ((blt_eq _ _) ▸ c2)
        have c6 := (ble_iff _ _).1 c6
        have c3 := (ble_iff _ _).1 c3
        subst c1 c5
        injection hx with hx
        subst hx
        obtain ⟨i, hi, his⟩ := sizeT_some hsz
        cases hv with
        | @ptr _ _ _ L hL =>
        obtain ⟨g1, g2⟩ := r.cellsF _ _ _ _ _ _ hg
        obtain ⟨g3, g4⟩ := g2 v L hL
        obtain ⟨arr, et', fz, k1, k2, k3, k4, k5⟩ := g4 c3
        obtain ⟨b0, arr0, fz0, b1⟩ := r.ety _ _ _ _ _ _ hg _ _ hL
        rw [k1] at b1
        injection b1 with b1
        injection b1 with b1 b2 b3
        subst b2
        have hsh : w.shape? L.blk = some (et', arr.size) := by simp [World.shape?, k1]
        have hco : P.cellsOf et' = sz := by simp [Program.cellsOf, hi, his]
        have hpos : 1 ≤ arr.size / P.cellsOf et' := by
          rw [hco, Nat.le_div_iff_mul_le c2]; omega
        refine .pure r wf (v' := .pointer (some ⟨L.blk, L.base + 0, none⟩)) ?_ (.ptr _ hL)
        rw [hex, b0, Lib.run_from_unsafe w ⟨L.blk, 0 + 0, none⟩ hs hd hi hsh (liesAt_one et' (by omega) hpos)]
        rfl
      · cases hx
    · cases hx
  · -- numbers
    rename_i d0 k k0 n hs hd ha
    have hv := hev _ ha
    cases hi : intK k (wrapI k n) with
    | none => rw [hi] at hx; cases hx
    | some v =>
      rw [hi] at hx
      injection hx with hx
      subst hx
      rw [intK_some hi, wrapI_eq]
      generalize ev xo = xv at hv hex
      cases hv
      refine .pure r wf (v' := .int k (k.wrap n)) ?_ (.int _ _)
      rw [hex]
      simp only [convert, Sem.run_bind, run_underlying hs, run_underlying hd, Result.andThen_ok, Conv.intToInt, Sem.run_pure]
  · -- strings
    rename_i d0 l hs hd ha
    have hv := hev _ ha
    injection hx with hx
    subst hx
    generalize ev xo = xv at hv hex
    cases hv with
    | str s' =>
    refine .pure r wf (v' := .string s') ?_ (.str _)
    rw [hex]
    simp only [convert, Sem.run_bind, run_underlying hs, run_underlying hd, Result.andThen_ok, Sem.run_pure]
  · -- a string's bytes
    rename_i d0 e l hs hd ha
    split at hx
    · rename_i hu
      have hv := hev _ ha
      generalize ev xo = xv at hv hex
      cases hv with
      | str s' =>
      have hsM : s'.size ≤ maxLen := by
        have := (ble_iff _ _).1 (cond_some hx).1
        rw [ofBytes_length] at this
        exact this
      replace hx := (cond_some hx).2
      obtain ⟨l1, l2, q1, q2, q3, q4⟩ := firstK_run (P := P) (w := w) (size := 1) (N := (ofBytes s'.data.toList).length) r (.str s') rfl (Nat.le_refl _) hx
      -- the bytes
      have hl2 : (⟨l2⟩ : Array Value) = s'.data.map fun b => Value.int .u8 b.toNat := by
        simp only [Builtin.firstCells, Sem.run_pure] at q4
        injection q4 with q4
        rw [← q4, ofBytes_length]
        congr 1
        apply Array.ext'
        simp [ByteArray.extract, ByteArray.copySlice]
        exact List.take_of_length_le (Nat.le_refl _)
      obtain ⟨c, h', e1, e2, e3, e4, e5, e6⟩ := newRowK_some wf q1
      injection e6 with e6
      subst e6
      rw [ofBytes_length, Nat.mul_one] at q2
      have hlen : l2.length = s'.size := by rw [q3.length, q2]; rfl
      have hcap : s'.size ≤ grownCap w s'.size 0 e := by simp only [grownCap, Question.cut]; omega
      have hcapM : grownCap w s'.size 0 e ≤ 9223372036854775807 := grownCap_le_maxLen w s'.size 0 e hsM
      have hrow : Lib.bytesCells w e s' = ⟨l2 ++ (Array.replicate (grownCap w s'.size 0 e - s'.size) (Value.int .u8 0)).toList⟩ := by
        apply Array.ext'
        simp only [Lib.bytesCells, Array.toList_append]
        rw [← hl2]
      have hsz : (Lib.bytesCells w e s').size = grownCap w s'.size 0 e := by
        rw [hrow, ← Array.length_toList]
        rw [List.length_append, hlen, Array.length_toList, Array.size_replicate]; omega
      have hworld : Lib.bytesWorld w e s' = { w with heap := w.heap.push (.cells (Lib.bytesCells w e s') e ((Lib.bytesCells w e s').size, (Lib.bytesCells w e s').size + 1)), drawn := (Lib.bytesWorld w e s').drawn } := by
        simp only [Lib.bytesWorld, World.freeze, World.alloc, World.drew, Nat.one_ne_zero, if_false]
        congr 1
        apply Array.ext_getElem?
        intro j
        simp only [Array.getElem?_modify, Array.getElem?_push]
        by_cases hj : w.heap.size = j
        · subst hj; simp
        · rw [if_neg hj]
          simp [Ne.symm hj]
      refine ⟨by omega, fun fr => ⟨_, .slice (some ⟨w.heap.size, 0, none⟩) s'.size (grownCap w s'.size 0 e), _, upd ρ h.next l1.length ⟨w.heap.size, 0, (Lib.bytesCells w e s').size⟩,
        by rw [hex, Lib.run_convert_string_bytes w s d e s' hs hd hu]; rfl, .inl rfl, ?_, ?_⟩⟩
      · rw [q2, show s'.data.toList.length = s'.size from rfl]
        refine .sl (upd_same _ _ _ _) Nat.one_pos hcap (by omega) (by rw [Option.getD_none]; simp [hsz]) (by simp) (.inl (by simp)) hcapM
      · refine Out.newRow (eto := none) (et := e) (fz := ((Lib.bytesCells w e s').size, (Lib.bytesCells w e s').size + 1)) r wf fr e3 e2 e4 (fun t ht => by cases ht) hworld ?_ (.inr ⟨rfl, Nat.le_refl _⟩) fun i hi => ?_
        · rw [hsz, q2]; exact hcap
        · obtain ⟨y, y1, y2⟩ := q3.get (List.getElem?_eq_getElem hi)
          refine ⟨l1[i], y, by rw [e1 i, List.getElem?_eq_getElem hi], ?_, y2⟩
          rw [hrow, arr_get, List.getElem?_append_left (by rw [q3.length]; exact hi)]
          exact y1
    · cases hx
  · rename_i e hs hd ha
    split at hx
    · rename_i hu
      have hv := hev _ ha
      injection hx with hx
      subst hx
      generalize ev xo = xv at hv hex
      cases hv
      refine .pure r wf (v' := .string .empty) ?_ ?_
      · rw [hex]
        simp only [convert, Sem.run_bind, run_underlying hs, run_underlying hd, Result.andThen_ok, run_underlying hu, Conv.bytesToString, Sem.run_pure]
      · exact .str ByteArray.empty
    · cases hx
  · rename_i e f v oo len esz lim hs hd ha
    split at hx
    · rename_i hu
      have hes := Nat.eq_of_beq_eq_true (cond_some hx).1
      replace hx := (cond_some hx).2
      subst hes
      have hv := hev _ ha
      generalize ev xo = xv at hv hex
      cases hv with
      | @sl _ _ _ _ _ _ L ad cap hL g0 g1 g2 g3 g4 g5 g6 =>
      obtain ⟨c, m, rd, frz, l, e1, e2, e3, e4, e5, e6, e7⟩ := loadK_some hx
      obtain ⟨ns, n1, n2⟩ := toBytesK_some _ e7
      injection n2 with n2
      subst n2
      obtain ⟨l', p1, p2⟩ := load_cells (P := P) r e1 hL e2 e4 e5 e6
      subst n1
      have hl' := VRL.ints p2
      subst hl'
      have hrunl : (loadCells ad len).run P w = .ok (ns.map (Value.int .u8)).toArray w := by
        rcases g5 with rfl | ⟨g5, _⟩
        · exact p1
        · have : len = 0 := by omega
          subst this
          have : ns = [] := by
            have := e5; simp at this; exact this
          subst this
          simp [loadCells, loadCellsFrom]
      refine .pure r wf (v' := .string (ns.foldl (fun r n => r.push (UInt8.ofNat n.toNat)) ByteArray.empty)) ?_ ?_
      · rw [hex, run_convert_bytes_string w s d e (some ad) len cap hs hu hd, run_bytesToString w ad len cap ns hrunl]
        rfl
      · have : ofBytes (ns.foldl (fun r n => r.push (UInt8.ofNat n.toNat)) ByteArray.empty).data.toList = ns.map fun n => n.toNat % 256 := by
          rw [foldl_push_bytes, ofBytes_map]
          simp
        rw [← this]
        exact .str _
    · cases hx
  · cases hx

theorem aOp_sound {x : AN × AH} (r : Rep ρ h.get w) (wf : Wf h) (hev : ∀ y ∈ o.op.operands, ∀ a, aEval gl tm y = some a → VR ρ a (ev y)) (hx : aOp P gl tm h o = some x) : OpOut P ρ h w ev o x := by
  have hadd0 : ∀ (b q n : Nat), (⟨b, q, none⟩ : Addr).add n = ⟨b, q + n, none⟩ := by
    intro b q n
    unfold Addr.add
    split
    · rename_i h0; rw [h0]; simp
    · rfl
  have hmul : ∀ a b : Nat, Nat.mul a b = a * b := fun _ _ => rfl
  have hadd : ∀ a b : Nat, Nat.add a b = a + b := fun _ _ => rfl
  cases ho : o.op with
  | move y =>
    simp only [aOp, ho, opSel, oMove, oPick, oAlloc, oBox, oBuild, oBuildSlice, oLoad, oStore, oNilCheck, oBinOp, oUnOp, oConvert, oMakeInterface, oMakeFunc, oMakeSlice, oSlice, oFieldAddr, oField, oIndexAddr, oIndex, oMakeMap, oLookup, oMapUpdate, oRange, oNext, oExtract, oCall] at hx
    rw [ho] at hev
    cases e : aEval gl tm y with
    | none => rw [e] at hx; cases hx
    | some v => rw [e] at hx; injection hx with hx; subst hx; exact .pure r wf (by simp only [execOp, ho, Sem.run_pure]) (hev y (by simp [Op.operands]) v e)
  | assign y =>
    simp only [aOp, ho, opSel, oMove, oPick, oAlloc, oBox, oBuild, oBuildSlice, oLoad, oStore, oNilCheck, oBinOp, oUnOp, oConvert, oMakeInterface, oMakeFunc, oMakeSlice, oSlice, oFieldAddr, oField, oIndexAddr, oIndex, oMakeMap, oLookup, oMapUpdate, oRange, oNext, oExtract, oCall] at hx
    rw [ho] at hev
    cases e : aEval gl tm y with
    | none => rw [e] at hx; cases hx
    | some v => rw [e] at hx; injection hx with hx; subst hx; exact .pure r wf (by simp only [execOp, ho, Sem.run_pure]) (hev y (by simp [Op.operands]) v e)
  | pick c a b =>
    simp only [aOp, ho, opSel, oMove, oPick, oAlloc, oBox, oBuild, oBuildSlice, oLoad, oStore, oNilCheck, oBinOp, oUnOp, oConvert, oMakeInterface, oMakeFunc, oMakeSlice, oSlice, oFieldAddr, oField, oIndexAddr, oIndex, oMakeMap, oLookup, oMapUpdate, oRange, oNext, oExtract, oCall] at hx
    rw [ho] at hev
    cases e : aEval gl tm c with
    | none => rw [e] at hx; cases hx
    | some cv =>
      rw [e] at hx
      have hc := hev c (by simp [Op.operands]) cv e
      cases cv with
      | bool t =>
        have hcv : ev c = .bool t := by
          generalize ev c = z at hc
          cases hc; rfl
        cases t with
        | true =>
          dsimp only at hx
          cases e2 : aEval gl tm a with
          | none => rw [e2] at hx; cases hx
          | some v => rw [e2] at hx; injection hx with hx; subst hx; exact .pure r wf (by simp only [execOp, ho, hcv, asBool, Sem.run_bind, Sem.run_pure, Result.andThen_ok, if_true]) (hev a (by simp [Op.operands]) v e2)
        | false =>
          dsimp only at hx
          cases e2 : aEval gl tm b with
          | none => rw [e2] at hx; cases hx
          | some v => rw [e2] at hx; injection hx with hx; subst hx; exact .pure r wf (by simp only [execOp, ho, hcv, asBool, Sem.run_bind, Sem.run_pure, Result.andThen_ok, Bool.false_eq_true, if_false]) (hev b (by simp [Op.operands]) v e2)
      | _ => cases hx
  | alloc t =>
    simp only [aOp, ho, opSel, oMove, oPick, oAlloc, oBox, oBuild, oBuildSlice, oLoad, oStore, oNilCheck, oBinOp, oUnOp, oConvert, oMakeInterface, oMakeFunc, oMakeSlice, oSlice, oFieldAddr, oField, oIndexAddr, oIndex, oMakeMap, oLookup, oMapUpdate, oRange, oNext, oExtract, oCall] at hx
    cases hz : zeroT P t with
    | none => rw [hz] at hx; cases hx
    | some z =>
      rw [hz] at hx
      obtain ⟨z', g1, g2⟩ := run_zeroT hz
      obtain ⟨h', z1, z2, z3, z4⟩ := newRow_run (w := w) (h0 := h) t (fun t ht => by injection ht) [] r wf (g2 ρ).cells hx
      injection z1 with z1
      subst z1
      refine ⟨by omega, fun fr => ⟨_, .pointer (some ⟨w.heap.size, 0, none⟩), _, _, ?_, .inl rfl, ?_, z4 w.drawn fr⟩⟩
      · simp only [execOp, ho, Instr.alloc, Sem.run_bind, g1, Result.andThen_ok, newVar, newRow, run_newObj, Sem.run_pure, List.append_nil]
      · exact .ptr 0 (upd_same _ _ _ _)
  | box t y =>
    simp only [aOp, ho, opSel, oMove, oPick, oAlloc, oBox, oBuild, oBuildSlice, oLoad, oStore, oNilCheck, oBinOp, oUnOp, oConvert, oMakeInterface, oMakeFunc, oMakeSlice, oSlice, oFieldAddr, oField, oIndexAddr, oIndex, oMakeMap, oLookup, oMapUpdate, oRange, oNext, oExtract, oCall] at hx
    rw [ho] at hev
    cases e : aEval gl tm y with
    | none => rw [e] at hx; cases hx
    | some v =>
      rw [e] at hx
      have hv := hev y (by simp [Op.operands]) v e
      obtain ⟨h', z1, z2, z3, z4⟩ := newRow_run (w := w) (h0 := h) t (fun t ht => by injection ht) [] r wf hv.cells hx
      injection z1 with z1
      subst z1
      refine ⟨by omega, fun fr => ⟨_, .pointer (some ⟨w.heap.size, 0, none⟩), _, _, ?_, .inl rfl, ?_, z4 w.drawn fr⟩⟩
      · simp only [execOp, ho, Instr.box, Sem.run_bind, Result.andThen_ok, newVar, newRow, run_newObj, Sem.run_pure, List.append_nil]
      · exact .ptr 0 (upd_same _ _ _ _)
  | build t parts =>
    simp only [aOp, ho, opSel, oMove, oPick, oAlloc, oBox, oBuild, oBuildSlice, oLoad, oStore, oNilCheck, oBinOp, oUnOp, oConvert, oMakeInterface, oMakeFunc, oMakeSlice, oSlice, oFieldAddr, oField, oIndexAddr, oIndex, oMakeMap, oLookup, oMapUpdate, oRange, oNext, oExtract, oCall] at hx
    rw [ho] at hev
    split at hx
    · rename_i it ps fs hit hps hu
      split at hx
      · rename_i z places hz hpl
        split at hx
        · rename_i za hza
          split at hx
          · rename_i cs hcs
            injection hx with hx
            subst hx
            have hp := mapEvP_some (ρ := ρ) (ev := ev) (fun y hy => hev y (by simpa [Op.operands] using hy)) hps
            obtain ⟨cs', f1, f2⟩ := fillL_some hp ((ofV_some (ρ := ρ) 6 z za hza).cells) hcs
            refine .pure r wf (v' := .agg cs') ?_ (.agg f2)
            have hb : P.built t (parts.map fun (i, x) => (i, ev x)).toList = some cs' := by
              unfold Program.built
              rw [hit, hu]
              dsimp only
              rw [hz, hpl]
              dsimp only
              rw [Array.toList_map]
              exact f1
            simp only [execOp, ho, Sem.run_bind, run_build w t _ cs' hb, Result.andThen_ok, Sem.run_pure]
          · cases hx
        · cases hx
      · cases hx
    · rename_i it ps n e hit hps hu
      split at hx
      · rename_i z ie hz hie
        split at hx
        · rename_i za hza
          split at hx
          · rename_i cs hcs
            injection hx with hx
            subst hx
            have hp := mapEvP_some (ρ := ρ) (ev := ev) (fun y hy => hev y (by simpa [Op.operands] using hy)) hps
            obtain ⟨cs', f1, f2⟩ := fillL_some hp ((ofV_some (ρ := ρ) 6 z za hza).cells) hcs
            refine .pure r wf (v' := .agg cs') ?_ (.agg f2)
            have hb : P.built t (parts.map fun (i, x) => (i, ev x)).toList = some cs' := by
              unfold Program.built
              rw [hit, hu]
              dsimp only
              rw [hz, hie]
              dsimp only
              rw [Array.toList_map]
              exact f1
            simp only [execOp, ho, Sem.run_bind, run_build w t _ cs' hb, Result.andThen_ok, Sem.run_pure]
          · cases hx
        · cases hx
      · cases hx
    · cases hx
  | buildSlice t len parts =>
    simp only [aOp, ho, opSel, oMove, oPick, oAlloc, oBox, oBuild, oBuildSlice, oLoad, oStore, oNilCheck, oBinOp, oUnOp, oConvert, oMakeInterface, oMakeFunc, oMakeSlice, oSlice, oFieldAddr, oField, oIndexAddr, oIndex, oMakeMap, oLookup, oMapUpdate, oRange, oNext, oExtract, oCall] at hx
    rw [ho] at hev
    split at hx
    · rename_i e ps hu hps
      split at hx
      · rename_i ie hie
        split at hx
        · rename_i z hz
          split at hx
          · rename_i za hza
            have hc := (cond_some hx).1
            replace hx := (cond_some hx).2
            obtain ⟨c1, c2⟩ := and_true hc
            obtain ⟨c2, c3⟩ := and_true c2
            rw [blt_eq] at c1
            have c1 := of_decide_eq_true c1
            have c2 := (ble_iff _ _).1 c2
            have c3 := Nat.eq_of_beq_eq_true c3
            simp only [hmul] at c2
            have hlB : len ≤ 9223372036854775807 := by
              have : len * 1 ≤ len * ie.size := Nat.mul_le_mul_left _ c1
              omega
            split at hx
            · rename_i cs hcs
              have hp := mapEvP_some (ρ := ρ) (ev := ev) (fun y hy => hev y (by simpa [Op.operands] using hy)) hps
              have hrep := repL_made ((ofV_some (ρ := ρ) 6 z za hza).cells) len
              rw [c3] at hrep
              obtain ⟨cs', f1, f2⟩ := fillL_some hp hrep hcs
              obtain ⟨h', z1, z2, z3, z4⟩ := newRow_run (w := w) (h0 := h) e (fun t ht => by injection ht) [] r wf f2 hx
              injection z1 with z1
              subst z1
              -- how many cells
              have hcl : ∀ {ps : List (Nat × AV)} {cells cs : List AV}, fillL (fun i => some (i * ie.size, ie.size)) cells ps = some cs → cs.length = cells.length := by
                intro ps
                induction ps with
                | nil => intro cells cs hh; simp only [fillL] at hh; injection hh with hh; rw [hh]
                | cons p ps ih =>
                  intro cells cs hh
                  obtain ⟨i, v⟩ := p
                  simp only [fillL] at hh
                  replace hh := (cond_some hh).2
                  cases hup : updL cells (i * ie.size) v.cells with
                  | none => rw [hup] at hh; cases hh
                  | some c2 =>
                    rw [hup] at hh
                    rw [ih hh, (updL_some _ _ _ _ hup).2.2.1]
              have hlen : cs.length = len * ie.size := by
                rw [hcl hcs, ← hrep.length, Array.length_toList, size_madeCells]
              refine ⟨by omega, fun fr => ⟨_, .slice (some ⟨w.heap.size, 0, none⟩) len len, { w with heap := w.heap.push (.cells cs' e) }, upd ρ h.next cs.length ⟨w.heap.size, 0, (cs'.toList ++ []).length⟩, ?_, .inl rfl, ?_, ?_⟩⟩
              rotate_left
              · rw [hlen]
                refine .sl (upd_same _ _ _ _) c1 (Nat.le_refl _) (by omega) (by rw [Option.getD_some]; omega) ?_ (.inl rfl) hlB
                rw [Option.getD_some]
                show len * ie.size ≤ (cs'.toList ++ []).length
                rw [List.append_nil, f2.length, hlen]
                exact Nat.le_refl _
              · have := z4 w.drawn fr
                simpa using this
              · have hm : madeCells z.cells (len * ie.size) = (Array.range (len * ie.size)).map (z.cells[· % z.cells.size]!) := rfl
                have hf : Instr.fill (fun i => some (i * ie.size, ie.size)) ((Array.range (len * ie.size)).map (z.cells[· % z.cells.size]!)) (parts.map fun (i, x) => (i, ev x)).toList = some cs' := by
                  rw [Array.toList_map]; exact f1
                have hsmall : ¬ len * ie.size > 2 ^ 24 := by omega
                by_cases h0 : len * ie.size = 0
                · have hcells0 : ((Array.range (len * ie.size)).map fun i => (#[] : Array Value)[i % (#[] : Array Value).size]!) = ((Array.range (len * ie.size)).map (z.cells[· % z.cells.size]!)) := by
                    rw [h0]; simp
                  simp only [execOp, ho, Instr.buildSlice, Sem.run_bind, run_underlying hu, Result.andThen_ok, run_sizeOf' hie, Sem.run_ite, hsmall, if_false, h0, if_true, Sem.run_pure]
                  rw [h0] at hf hcells0
                  rw [hcells0, hf]
                  simp [newRow]
                · simp only [execOp, ho, Instr.buildSlice, Sem.run_bind, run_underlying hu, Result.andThen_ok, run_sizeOf' hie, Sem.run_ite, hsmall, if_false, h0, run_zeroValue' hie hz, Sem.run_pure, hf]
                  simp [newRow]
            · cases hx
          · cases hx
        · cases hx
      · cases hx
    · cases hx
  | load t y =>
    simp only [aOp, ho, opSel, oMove, oPick, oAlloc, oBox, oBuild, oBuildSlice, oLoad, oStore, oNilCheck, oBinOp, oUnOp, oConvert, oMakeInterface, oMakeFunc, oMakeSlice, oSlice, oFieldAddr, oField, oIndexAddr, oIndex, oMakeMap, oLookup, oMapUpdate, oRange, oNext, oExtract, oCall] at hx
    rw [ho] at hev
    split at hx
    · rename_i f v q e
      have hv := hev y (by simp [Op.operands]) _ e
      obtain ⟨x1, x1', g1, g2, g3⟩ := loadT_some (P := P) r hv hx
      injection g1 with g1
      subst g1
      exact .pure r wf (by simp only [execOp, ho, Sem.run_bind, g2, Result.andThen_ok, Sem.run_pure]) g3
    · cases hx
  | store t y z =>
    simp only [aOp, ho, opSel, oMove, oPick, oAlloc, oBox, oBuild, oBuildSlice, oLoad, oStore, oNilCheck, oBinOp, oUnOp, oConvert, oMakeInterface, oMakeFunc, oMakeSlice, oSlice, oFieldAddr, oField, oIndexAddr, oIndex, oMakeMap, oLookup, oMapUpdate, oRange, oNext, oExtract, oCall] at hx
    rw [ho] at hev
    split at hx
    · rename_i f v q u e1 e2
      have hv := hev y (by simp [Op.operands]) _ e1
      have hu := hev z (by simp [Op.operands]) _ e2
      obtain ⟨h', w', g1, g2, g3, g4⟩ := storeT_run (P := P) r wf hv hu hx
      injection g1 with g1
      subst g1
      exact ⟨by omega, fun _ => ⟨.skip, undef, w', ρ, by simp only [execOp, ho, Sem.run_bind, g3, Result.andThen_ok, Sem.run_pure], .inr ⟨rfl, rfl⟩, .tuple .nil, g4⟩⟩
    · cases hx
  | nilCheck y =>
    simp only [aOp, ho, opSel, oMove, oPick, oAlloc, oBox, oBuild, oBuildSlice, oLoad, oStore, oNilCheck, oBinOp, oUnOp, oConvert, oMakeInterface, oMakeFunc, oMakeSlice, oSlice, oFieldAddr, oField, oIndexAddr, oIndex, oMakeMap, oLookup, oMapUpdate, oRange, oNext, oExtract, oCall] at hx
    rw [ho] at hev
    split at hx
    · rename_i f v q e
      injection hx with hx; subst hx
      have hv := hev y (by simp [Op.operands]) _ e
      generalize hy : ev y = y' at hv
      cases hv with
      | ptr _ hL => exact .pure r wf (by simp only [execOp, ho, hy, Sem.run_pure]) (.ptr q hL)
    · rename_i f e
      injection hx with hx; subst hx
      have hv := hev y (by simp [Op.operands]) _ e
      generalize hy : ev y = y' at hv
      cases hv with
      | func _ h1 h2 =>
      cases h1; cases h2
      exact .pure r wf (by simp only [execOp, ho, hy, Sem.run_pure]) (.func f .nil .nil)
    · cases hx
  | binOp op t y z yt =>
    simp only [aOp, ho, opSel, oMove, oPick, oAlloc, oBox, oBuild, oBuildSlice, oLoad, oStore, oNilCheck, oBinOp, oUnOp, oConvert, oMakeInterface, oMakeFunc, oMakeSlice, oSlice, oFieldAddr, oField, oIndexAddr, oIndex, oMakeMap, oLookup, oMapUpdate, oRange, oNext, oExtract, oCall] at hx
    rw [ho] at hev
    split at hx
    · rename_i xs ys e1 e2
      have hv1 := hev y (by simp [Op.operands]) _ e1
      have hv2 := hev z (by simp [Op.operands]) _ e2
      split at hx
      · rename_i n e hp
        split at hx
        · rename_i b he hsz hb
          obtain ⟨i, hi, his⟩ := sizeT_some hsz
          have hco : P.cellsOf e = 1 := by simp [Program.cellsOf, hi, his]
          generalize hy : ev y = y' at hv1
          generalize hz : ev z = z' at hv2
          cases hv1 with
          | @agg _ x' hx1 =>
          cases hv2 with
          | @agg _ z' hx2 =>
          have hrun : (Op.equalIn 10000 t (.agg ⟨x'⟩) (.agg ⟨z'⟩)).run P w = .ok b w := by
            rw [run_equalIn_array w 9999 _ _ hp hi, hco, List.range_eq_range']
            exact eqStrs_run 9998 he n 0 hx1 hx2 (by simp) (by simp) hb
          have hgt : P.eqGuardType P.depth t = false := by
            have hd : P.depth = (2 * (P.types.size + Made.depth)) + 1 + 1 := rfl
            rw [hd]
            simp [Program.eqGuardType, hp, he]
          have hgd : ∀ op, (eqGuard op t y z (.agg ⟨x'⟩) (.agg ⟨z'⟩)).run P w = .ok () w := by
            intro op
            unfold eqGuard
            cases op <;> simp [hgt]
          split at hx
          · injection hx with hx
            subst hx
            refine .pure r wf (v' := .bool b) ?_ (.bool _)
            simp only [execOp, ho, hy, hz]
            rw [Sem.run_bind, Sem.run_bind, hgd, Result.andThen_ok]
            simp [binOp, Op.equal, Op.maxDepth, hrun]
          · injection hx with hx
            subst hx
            refine .pure r wf (v' := .bool (!b)) ?_ (.bool _)
            simp only [execOp, ho, hy, hz]
            rw [Sem.run_bind, Sem.run_bind, hgd, Result.andThen_ok]
            simp [binOp, Op.equal, Op.maxDepth, hrun]
          · cases hx
        · cases hx
      · rename_i fs hp
        have hc := (cond_some hx).1
        replace hx := (cond_some hx).2
        obtain ⟨c1, c2⟩ := and_true hc
        have c1 : P.stoodInHeld t = false := by simpa using c1
        have c2 : P.eqGuardType P.depth t = false := by simpa using c2
        split at hx
        · rename_i b hb
          generalize hy : ev y = y' at hv1
          generalize hz : ev z = z' at hv2
          cases hv1 with
          | @agg _ x' hx1 =>
          cases hv2 with
          | @agg _ z' hx2 =>
          have hfo : P.fieldsOf t = fs := by simp [Program.fieldsOf, hp]
          have hrun : (Op.equalIn 10000 t (.agg ⟨x'⟩) (.agg ⟨z'⟩)).run P w = .ok b w := by
            rw [run_equalIn_struct w 9999 t _ _ (by rw [hfo]; exact hp) c1, hfo]
            exact eqFlds_run 9998 hx1 hx2 fs.toList hb
          have hgd := fun op => run_eqGuard_agg (P := P) w op t y z ⟨x'⟩ ⟨z'⟩ c2
          split at hx
          · injection hx with hx
            subst hx
            refine .pure r wf (v' := .bool b) ?_ (.bool _)
            simp only [execOp, ho, hy, hz]
            rw [Sem.run_bind, Sem.run_bind, hgd, Result.andThen_ok, run_eql_struct, hrun]
            rfl
          · injection hx with hx
            subst hx
            refine .pure r wf (v' := .bool (!b)) ?_ (.bool _)
            simp only [execOp, ho, hy, hz]
            rw [Sem.run_bind, Sem.run_bind, hgd, Result.andThen_ok, run_neq_struct, hrun]
            rfl
          · cases hx
        · cases hx
      · cases hx
    · rename_i f v q f2 v2 q2 e1 e2
      have hv1 := hev y (by simp [Op.operands]) _ e1
      have hv2 := hev z (by simp [Op.operands]) _ e2
      have key : ∀ (op' : BinOp) (b : Bool) (e sz : Nat), op = op' → P.underlying t = some (.pointer e) → sizeT P e = some sz → ptrCmpA h sz f v q f2 v2 q2 = some b →
          ((op' = .eql ∧ x = (.val (.bool b), h)) ∨ (op' = .neq ∧ x = (.val (.bool (!b)), h))) → OpOut P ρ h w ev o x := by
        intro op' b e sz hop hp hsz hc hb
        subst hop
        unfold ptrCmpA at hc
        have c1 := of_decide_eq_true ((blt_eq _ _) ▸ (cond_some hc).1)
        replace hc := (cond_some hc).2
        obtain ⟨i, hi, his⟩ := sizeT_some hsz
        have hgd : ∀ op a b, (eqGuard op t y z (.pointer a) (.pointer b)).run P w = .ok () w := by
          intro op a b
          unfold eqGuard
          split <;> rfl
        generalize hy : ev y = y' at hv1
        generalize hz : ev z = z' at hv2
        cases hv1 with
        | @ptr _ _ _ L hL =>
        cases hv2 with
        | @ptr _ _ _ L2 hL2 =>
        have hruns : (binOp .eql t (.pointer (some ⟨L.blk, L.base + q, none⟩)) (.pointer (some ⟨L2.blk, L2.base + q2, none⟩))).run P w = .ok (.bool b) w ∧
            (binOp .neq t (.pointer (some ⟨L.blk, L.base + q, none⟩)) (.pointer (some ⟨L2.blk, L2.base + q2, none⟩))).run P w = .ok (.bool (!b)) w := by
          cases hff : Nat.beq f f2 with
          | true =>
            rw [hff] at hc
            have c2 := Nat.eq_of_beq_eq_true hff
            simp only [cond_true] at hc
            have c3 := Nat.eq_of_beq_eq_true (cond_some hc).1
            replace hc := (cond_some hc).2
            injection hc with hc
            subst hc c2 c3
            rw [hL] at hL2
            injection hL2 with hL2
            subst hL2
            exact ptrEq_run (P := P) (w := w) hp hi (by omega) L.blk L.base q q2
          | false =>
            rw [hff] at hc
            simp only [cond_false] at hc
            split at hc
            · rename_i c n rd eto c2 n2 rd2 eto2 hF hF2
              have c4 := (cond_some hc).1
              replace hc := (cond_some hc).2
              injection hc with hc
              subst hc
              simp only [Bool.and_eq_true] at c4
              have c5 := Nat.eq_of_beq_eq_true c4.1
              have c6 := Nat.eq_of_beq_eq_true c4.2
              subst c5 c6
              have hne : L.blk ≠ L2.blk := fun hbb => Nat.ne_of_beq_eq_false hff (r.inj f f2 v v2 L L2 (by rw [hF]; rfl) (by rw [hF2]; rfl) hL hL2 hbb)
              obtain ⟨r1, r2⟩ := r.cellsF f _ _ _ _ _ hF
              obtain ⟨arr, et, fz, k1, _, _, _, k5⟩ := (r2 _ L hL).2 r1
              obtain ⟨r3, r4⟩ := r.cellsF f2 _ _ _ _ _ hF2
              obtain ⟨arr', et', fz', m1, _, _, _, m5⟩ := (r4 _ L2 hL2).2 r3
              exact ptrNe_run (P := P) (w := w) hp hi (by omega) L.blk L2.blk _ _ hne k1 m1 ((k5 ⟨rfl, rfl⟩).resolve_right fun h => by cases h.1) ((m5 ⟨rfl, rfl⟩).resolve_right fun h => by cases h.1)
            · cases hc
        rcases hb with ⟨rfl, rfl⟩ | ⟨rfl, rfl⟩
        · refine .pure r wf (v' := .bool b) ?_ (.bool _)
          simp only [execOp, ho, hy, hz]
          rw [Sem.run_bind, Sem.run_bind, hgd, Result.andThen_ok, hruns.1]; rfl
        · refine .pure r wf (v' := .bool (!b)) ?_ (.bool _)
          simp only [execOp, ho, hy, hz]
          rw [Sem.run_bind, Sem.run_bind, hgd, Result.andThen_ok, hruns.2]; rfl
      split at hx
      · rename_i e hp
        split at hx
        · rename_i sz hsz
          split at hx
          · rename_i b hb
            injection hx with hx
            exact key _ _ _ _ rfl hp hsz hb (.inl ⟨rfl, hx.symm⟩)
          · cases hx
        · cases hx
      · rename_i e hp
        split at hx
        · rename_i sz hsz
          split at hx
          · rename_i b hb
            injection hx with hx
            exact key _ _ _ _ rfl hp hsz hb (.inr ⟨rfl, hx.symm⟩)
          · cases hx
        · cases hx
      · cases hx
    · rename_i a b _ e1 e2
      split at hx
      · rename_i v hb
        injection hx with hx; subst hx
        obtain ⟨v', g1, g2⟩ := aBin_run (d := .bool) (xo := y) (yo := z) (fun _ _ => trivial) (hev y (by simp [Op.operands]) _ e1) (hev z (by simp [Op.operands]) _ e2) hb w
        refine .pure r wf ?_ g2
        simp only [execOp, ho]
        rw [Sem.run_bind, g1]
        rfl
      · cases hx
    · cases hx
  | unOp op t y =>
    simp only [aOp, ho, opSel, oMove, oPick, oAlloc, oBox, oBuild, oBuildSlice, oLoad, oStore, oNilCheck, oBinOp, oUnOp, oConvert, oMakeInterface, oMakeFunc, oMakeSlice, oSlice, oFieldAddr, oField, oIndexAddr, oIndex, oMakeMap, oLookup, oMapUpdate, oRange, oNext, oExtract, oCall] at hx
    rw [ho] at hev
    split at hx
    · rename_i a e1
      split at hx
      · rename_i v hb
        injection hx with hx; subst hx
        obtain ⟨v', g1, g2⟩ := aUn_run (P := P) (hev y (by simp [Op.operands]) _ e1) hb w
        exact .pure r wf (by simp only [execOp, ho, Sem.run_bind, g1, Result.andThen_ok, Sem.run_pure]) g2
      · cases hx
    · cases hx
  | convert s d y =>
    exact convert_sound r wf ho (fun a e => hev y (by rw [ho]; simp [Op.operands]) a e) hx
  | makeInterface t y =>
    simp only [aOp, ho, opSel, oMove, oPick, oAlloc, oBox, oBuild, oBuildSlice, oLoad, oStore, oNilCheck, oBinOp, oUnOp, oConvert, oMakeInterface, oMakeFunc, oMakeSlice, oSlice, oFieldAddr, oField, oIndexAddr, oIndex, oMakeMap, oLookup, oMapUpdate, oRange, oNext, oExtract, oCall] at hx
    rw [ho] at hev
    split at hx
    · cases hx
    · rename_i d v hni hu e
      injection hx with hx; subst hx
      have hv := hev y (by simp [Op.operands]) _ e
      refine .pure r wf (v' := .iface t (ev y)) ?_ (.iface t hv)
      simp only [execOp, ho, Instr.makeInterface, Sem.run_bind, run_underlying hu, Result.andThen_ok]
      cases d <;> first | rfl | (exfalso; exact hni _ rfl)
    · cases hx
  | makeFunc fn first captured =>
    cases fn with
    | func f =>
      simp only [aOp, ho, opSel, oMove, oPick, oAlloc, oBox, oBuild, oBuildSlice, oLoad, oStore, oNilCheck, oBinOp, oUnOp, oConvert, oMakeInterface, oMakeFunc, oMakeSlice, oSlice, oFieldAddr, oField, oIndexAddr, oIndex, oMakeMap, oLookup, oMapUpdate, oRange, oNext, oExtract, oCall] at hx
      rw [ho] at hev
      split at hx
      · rename_i a b e1 e2
        injection hx with hx; subst hx
        have h1 := mapEv_some (ρ := ρ) (ev := ev) (fun y hy => hev y (by simp [Op.operands]; exact .inl (by simpa using hy))) e1
        have h2 := mapEv_some (ρ := ρ) (ev := ev) (fun y hy => hev y (by simp [Op.operands]; exact .inr (by simpa using hy))) e2
        refine .pure r wf (v' := .func (.func f) ⟨first.toList.map ev⟩ ⟨captured.toList.map ev⟩) ?_ (.func f h1 h2)
        simp only [execOp, ho, Instr.makeFunc, Sem.run_bind, Sem.run_pure, Result.andThen_ok]
        congr 3 <;> (apply Array.ext'; simp)
      · cases hx
    | _ => simp only [aOp, ho, opSel, oMove, oPick, oAlloc, oBox, oBuild, oBuildSlice, oLoad, oStore, oNilCheck, oBinOp, oUnOp, oConvert, oMakeInterface, oMakeFunc, oMakeSlice, oSlice, oFieldAddr, oField, oIndexAddr, oIndex, oMakeMap, oLookup, oMapUpdate, oRange, oNext, oExtract, oCall] at hx; cases hx
  | makeSlice t l c =>
    simp only [aOp, ho, opSel, oMove, oPick, oAlloc, oBox, oBuild, oBuildSlice, oLoad, oStore, oNilCheck, oBinOp, oUnOp, oConvert, oMakeInterface, oMakeFunc, oMakeSlice, oSlice, oFieldAddr, oField, oIndexAddr, oIndex, oMakeMap, oLookup, oMapUpdate, oRange, oNext, oExtract, oCall] at hx
    rw [ho] at hev
    split at hx
    · rename_i e kl ln kc cn hu e1 e2
      split at hx
      · rename_i i hi
        split at hx
        · rename_i z hz
          split at hx
          · rename_i za hza
            have hc := (cond_some hx).1
            replace hx := (cond_some hx).2
            obtain ⟨c1, c2⟩ := and_true hc
            obtain ⟨c1, c3⟩ := and_true c1
            obtain ⟨c2, c4⟩ := and_true c2
            obtain ⟨c4, c5⟩ := and_true c4
            rw [blt_eq] at c1
            have c1 := of_decide_eq_true c1
            have c3 := Nat.eq_of_beq_eq_true c3
            have c2 := (ble_iff _ _).1 c2
            have c4 := (ble_iff _ _).1 c4
            have c5 := (ble_iff _ _).1 c5
            simp only [hmul] at c5 hx
            have hv1 := hev l (by simp [Op.operands]) _ e1
            have hv2 := hev c (by simp [Op.operands]) _ e2
            generalize hl : ev l = l' at hv1
            generalize hcc : ev c = c' at hv2
            cases hv1; cases hv2
            have hrep := repL_made ((ofV_some (ρ := ρ) 6 z za hza).cells) ln
            rw [c3] at hrep
            -- the rest of the row
            have hle : ln * i.size ≤ cn * i.size := Nat.mul_le_mul_right _ c2
            have hsplit : (madeCells z.cells (cn * i.size)).toList = (madeCells z.cells (ln * i.size)).toList ++ (madeCells z.cells (cn * i.size)).toList.drop (ln * i.size) := by
              have : (madeCells z.cells (ln * i.size)).toList = (madeCells z.cells (cn * i.size)).toList.take (ln * i.size) := by
                apply List.ext_getElem?
                intro k
                rw [List.getElem?_take]
                by_cases hk : k < ln * i.size
                · rw [if_pos hk, Array.getElem?_toList, Array.getElem?_toList]
                  simp [madeCells, hk, Nat.lt_of_lt_of_le hk hle]
                · rw [if_neg hk, List.getElem?_eq_none (by rw [Array.length_toList, size_madeCells]; omega)]
              rw [this, List.take_append_drop]
            cases hb30 : Nat.ble ln 30000 with
            | true =>
              rw [hb30] at hx
              simp only [cond_true] at hx
              obtain ⟨h', z1, z2, z3, z4⟩ := newRow_run (w := w) (h0 := h) e (fun t ht => by injection ht) ((madeCells z.cells (cn * i.size)).toList.drop (ln * i.size)) r wf hrep hx
              rw [fN_eq] at z1
              injection z1 with z1
              subst z1
              have hcl : (repL ln za.cells []).length = ln * i.size := by rw [← hrep.length, Array.length_toList, size_madeCells]
              have hb : (i.bytes : Int) * (cn : Int) ≤ 281474976710656 := by
                have : ((i.bytes * cn : Nat) : Int) ≤ 281474976710656 := by rw [Nat.mul_comm]; omega
                rwa [Int.natCast_mul] at this
              have hrun := run_make (P := P) w t e i z hu hi hz kl kc (Int.ofNat ln) (Int.ofNat cn) (by simp) (by simp; omega) (by simpa using hb) (by simp; omega)
              refine ⟨by omega, fun fr => ⟨_, .slice (some ⟨w.heap.size, 0, none⟩) ln cn, w.alloc (.cells (madeCells z.cells (cn * i.size)) e), upd ρ h.next (repL ln za.cells []).length ⟨w.heap.size, 0, ((madeCells z.cells (ln * i.size)).toList ++ (madeCells z.cells (cn * i.size)).toList.drop (ln * i.size)).length⟩, ?_, .inl rfl, ?_, ?_⟩⟩
              rotate_left
              · rw [hcl]
                refine .sl (upd_same _ _ _ _) c1 c2 (by omega) (by rw [Option.getD_some]; omega) ?_ (.inl rfl) (by omega)
                rw [Option.getD_some]
                show cn * i.size ≤ ((madeCells z.cells (ln * i.size)).toList ++ (madeCells z.cells (cn * i.size)).toList.drop (ln * i.size)).length
                rw [← hsplit, Array.length_toList, size_madeCells]
                exact Nat.le_refl _
              · have := z4 w.drawn fr
                rw [← hsplit] at this ⊢
                exact this
              · simp only [execOp, ho, hl, hcc, Sem.run_bind, hrun, Result.andThen_ok, Sem.run_pure]
                rfl
            | false =>
              rw [hb30] at hx
              simp only [cond_false] at hx
              obtain ⟨h', z1, z2, z3, z4⟩ := newDead_run (w := w) e ((madeCells z.cells (cn * i.size)).toList.drop (ln * i.size)) r wf hrep hx
              rw [fN_eq, fN_eq] at z1
              injection z1 with z1
              subst z1
              have hcl : (repL ln za.cells []).length = ln * i.size := by rw [← hrep.length, Array.length_toList, size_madeCells]
              have hb : (i.bytes : Int) * (cn : Int) ≤ 281474976710656 := by
                have : ((i.bytes * cn : Nat) : Int) ≤ 281474976710656 := by rw [Nat.mul_comm]; omega
                rwa [Int.natCast_mul] at this
              have hrun := run_make (P := P) w t e i z hu hi hz kl kc (Int.ofNat ln) (Int.ofNat cn) (by simp) (by simp; omega) (by simpa using hb) (by simp; omega)
              refine ⟨by omega, fun fr => ⟨_, .slice (some ⟨w.heap.size, 0, none⟩) ln cn, w.alloc (.cells (madeCells z.cells (cn * i.size)) e), upd ρ h.next (repL ln za.cells []).length ⟨w.heap.size, 0, ((madeCells z.cells (ln * i.size)).toList ++ (madeCells z.cells (cn * i.size)).toList.drop (ln * i.size)).length⟩, ?_, .inl rfl, ?_, ?_⟩⟩
              rotate_left
              · rw [hcl]
                refine .sl (upd_same _ _ _ _) c1 c2 (by omega) (by rw [Option.getD_some]; omega) ?_ (.inl rfl) (by omega)
                rw [Option.getD_some]
                show cn * i.size ≤ ((madeCells z.cells (ln * i.size)).toList ++ (madeCells z.cells (cn * i.size)).toList.drop (ln * i.size)).length
                rw [← hsplit, Array.length_toList, size_madeCells]
                exact Nat.le_refl _
              · have := z4 w.drawn fr
                rw [← hsplit] at this ⊢
                exact this
              · simp only [execOp, ho, hl, hcc, Sem.run_bind, hrun, Result.andThen_ok, Sem.run_pure]
                rfl
          · cases hx
        · cases hx
      · cases hx
    · cases hx
  | slice t y lo hi mx =>
    simp only [aOp, ho, opSel, oMove, oPick, oAlloc, oBox, oBuild, oBuildSlice, oLoad, oStore, oNilCheck, oBinOp, oUnOp, oConvert, oMakeInterface, oMakeFunc, oMakeSlice, oSlice, oFieldAddr, oField, oIndexAddr, oIndex, oMakeMap, oLookup, oMapUpdate, oRange, oNext, oExtract, oCall] at hx
    rw [ho] at hev
    split at hx
    · rename_i a b c d e1 e2 e3 e4
      have hv := hev y (by simp [Op.operands]) _ e1
      have o2 := evO_some (ρ := ρ) (ev := ev) (fun y hy => hev y (by simp only [Op.operands, Array.mem_append]; exact .inl (.inl (.inr hy)))) e2
      have o3 := evO_some (ρ := ρ) (ev := ev) (fun y hy => hev y (by simp only [Op.operands, Array.mem_append]; exact .inl (.inr hy))) e3
      have o4 := evO_some (ρ := ρ) (ev := ev) (fun y hy => hev y (by simp only [Op.operands, Array.mem_append]; exact .inr hy)) e4
      obtain ⟨v, v', g1, g2, g3⟩ := aSlice_run (P := P) r hv o2 o3 o4 hx
      injection g1 with g1
      subst g1
      exact .pure r wf (by simp only [execOp, ho, Sem.run_bind, g2, Result.andThen_ok, Sem.run_pure]) g3
    · cases hx
  | fieldAddr t y i =>
    simp only [aOp, ho, opSel, oMove, oPick, oAlloc, oBox, oBuild, oBuildSlice, oLoad, oStore, oNilCheck, oBinOp, oUnOp, oConvert, oMakeInterface, oMakeFunc, oMakeSlice, oSlice, oFieldAddr, oField, oIndexAddr, oIndex, oMakeMap, oLookup, oMapUpdate, oRange, oNext, oExtract, oCall] at hx
    rw [ho] at hev
    split at hx
    · rename_i fs f v q hu e
      split at hx
      · rename_i fd hf
        split at hx
        · rename_i s hs
          have hc := (cond_some hx).1
          replace hx := (cond_some hx).2
          rw [blt_eq] at hc
          have hc := of_decide_eq_true hc
          rw [fN_eq] at hx
          injection hx with hx; subst hx
          have hv := hev y (by simp [Op.operands]) _ e
          generalize hy : ev y = y' at hv
          cases hv with
          | @ptr _ _ _ L hL =>
          have hs0 : ¬ s = 0 := by omega
          refine .pure r wf (v' := .pointer (some ⟨L.blk, L.base + (q + fd.offset), none⟩)) ?_ (.ptr _ hL)
          simp only [execOp, ho, hy, Instr.fieldAt, Sem.run_bind, run_underlying hu, Result.andThen_ok, hf, Instr.sureAddr, Sem.run_pure, fieldPlace, run_sizeT hs, hs0, if_false, hadd0]
          rw [Nat.add_assoc]
        · cases hx
      · cases hx
    · cases hx
  | field t y i =>
    simp only [aOp, ho, opSel, oMove, oPick, oAlloc, oBox, oBuild, oBuildSlice, oLoad, oStore, oNilCheck, oBinOp, oUnOp, oConvert, oMakeInterface, oMakeFunc, oMakeSlice, oSlice, oFieldAddr, oField, oIndexAddr, oIndex, oMakeMap, oLookup, oMapUpdate, oRange, oNext, oExtract, oCall] at hx
    rw [ho] at hev
    split at hx
    · rename_i fs cs hu e
      split at hx
      · rename_i fd hf
        have hv := hev y (by simp [Op.operands]) _ e
        generalize hy : ev y = y' at hv
        cases hv with
        | agg hcs =>
        obtain ⟨x1, x1', g1, g2, g3⟩ := partT_some (P := P) hcs hx
        injection g1 with g1
        subst g1
        refine .pure r wf ?_ g3
        simp only [execOp, ho, hy, Instr.field, Sem.run_bind, run_underlying hu, Result.andThen_ok, hf, asAgg, Sem.run_pure, g2]
      · cases hx
    · cases hx
  | indexAddr t y z =>
    simp only [aOp, ho, opSel, oMove, oPick, oAlloc, oBox, oBuild, oBuildSlice, oLoad, oStore, oNilCheck, oBinOp, oUnOp, oConvert, oMakeInterface, oMakeFunc, oMakeSlice, oSlice, oFieldAddr, oField, oIndexAddr, oIndex, oMakeMap, oLookup, oMapUpdate, oRange, oNext, oExtract, oCall] at hx
    rw [ho] at hev
    split at hx
    · rename_i e f v q len esz lim k n hu e1 e2
      split at hx
      · rename_i s hs
        have hc := (cond_some hx).1
        replace hx := (cond_some hx).2
        obtain ⟨c1, c2⟩ := and_true hc
        have c1 := Nat.eq_of_beq_eq_true c1
        rw [blt_eq] at c2
        have c2 := of_decide_eq_true c2
        subst c1
        rw [fN_eq] at hx
        injection hx with hx; subst hx
        have hv := hev y (by simp [Op.operands]) _ e1
        have hn := hev z (by simp [Op.operands]) _ e2
        generalize hy : ev y = y' at hv
        generalize hz : ev z = z' at hn
        cases hn
        cases hv with
        | @sl _ _ _ _ _ _ L ad cap hL g0 g1 g2 g3 g4 g5 g6 =>
        have had : ad = ⟨L.blk, L.base + q, none⟩ := by
          rcases g5 with g5 | ⟨g5, _⟩
          · exact g5
          · omega
        refine .pure r wf (v' := .pointer (some ⟨L.blk, L.base + (q + n * s), none⟩)) ?_ (.ptr _ hL)
        have hi : (0 : Int) ≤ Int.ofNat n ∧ Int.ofNat n < (len : Int) := by constructor <;> simp; omega
        simp only [execOp, ho, hy, hz, Instr.indexAt, asIntOf, Sem.run_bind, run_underlying hu, Result.andThen_ok, Sem.run_pure, hi, and_self, if_true, run_sizeT hs, had, hadd0]
        simp [Nat.add_assoc]
      · cases hx
    · rename_i len e f v q k n hu e1 e2
      split at hx
      · rename_i s hs
        have c2 := (cond_some hx).1
        replace hx := (cond_some hx).2
        rw [blt_eq] at c2
        have c2 := of_decide_eq_true c2
        rw [fN_eq] at hx
        injection hx with hx; subst hx
        have hv := hev y (by simp [Op.operands]) _ e1
        have hn := hev z (by simp [Op.operands]) _ e2
        generalize hy : ev y = y' at hv
        generalize hz : ev z = z' at hn
        cases hn
        cases hv with
        | @ptr _ _ _ L hL =>
        refine .pure r wf (v' := .pointer (some ⟨L.blk, L.base + (q + n * s), none⟩)) ?_ (.ptr _ hL)
        have hi : (0 : Int) ≤ Int.ofNat n ∧ Int.ofNat n < (len : Int) := by constructor <;> simp; omega
        simp only [execOp, ho, hy, hz, Instr.indexAt, asIntOf, Instr.sureAddr, Sem.run_bind, run_underlying hu, Result.andThen_ok, Sem.run_pure, hi, and_self, if_true, run_sizeT hs, hadd0]
        simp [Nat.add_assoc]
      · cases hx
    · cases hx
  | index t y z =>
    simp only [aOp, ho, opSel, oMove, oPick, oAlloc, oBox, oBuild, oBuildSlice, oLoad, oStore, oNilCheck, oBinOp, oUnOp, oConvert, oMakeInterface, oMakeFunc, oMakeSlice, oSlice, oFieldAddr, oField, oIndexAddr, oIndex, oMakeMap, oLookup, oMapUpdate, oRange, oNext, oExtract, oCall] at hx
    rw [ho] at hev
    split at hx
    · rename_i l k n hu e1 e2
      split at hx
      · rename_i b hb
        injection hx with hx; subst hx
        have hv := hev y (by simp [Op.operands]) _ e1
        have hn := hev z (by simp [Op.operands]) _ e2
        generalize hy : ev y = y' at hv
        generalize hz : ev z = z' at hn
        cases hn
        cases hv with
        | str s =>
        obtain ⟨c, c1, c2⟩ := nthN_bytes _ _ _ hb
        refine .pure r wf (v' := .int .u8 (c.toNat : Int)) ?_ (by rw [← c2]; exact .int _ _)
        have hs : s[n]? = some c := by
          rw [← c1]
          simp [getElem?_def, ByteArray.getElem_eq_getElem_data]
        have h0 : (0 : Int) ≤ Int.ofNat n := by simp
        simp only [execOp, ho, hy, hz, Instr.index, asIntOf, Sem.run_bind, run_underlying hu, Result.andThen_ok, Sem.run_pure, h0, if_true]
        rw [show (Int.ofNat n).toNat = n from rfl, hs]
        rfl
      · cases hx
    · rename_i len e cs k n hu e1 e2
      split at hx
      · rename_i s hs
        have c2 := (cond_some hx).1
        replace hx := (cond_some hx).2
        rw [blt_eq] at c2
        have c2 := of_decide_eq_true c2
        have hv := hev y (by simp [Op.operands]) _ e1
        have hn := hev z (by simp [Op.operands]) _ e2
        generalize hy : ev y = y' at hv
        generalize hz : ev z = z' at hn
        cases hn
        cases hv with
        | agg hcs =>
        obtain ⟨x1, x1', g1, g2, g3⟩ := partT_some (P := P) hcs hx
        injection g1 with g1
        subst g1
        refine .pure r wf ?_ g3
        have hi : (0 : Int) ≤ Int.ofNat n ∧ Int.ofNat n < (len : Int) := by constructor <;> simp; omega
        have g2' := g2 w
        simp only [hmul] at g2'
        simp only [execOp, ho, hy, hz, Instr.index, asIntOf, Sem.run_bind, run_underlying hu, Result.andThen_ok, Sem.run_pure, hi, and_self, if_true, run_sizeT hs]
        rw [show (Int.ofNat n).toNat = n from rfl, g2']
        rfl
      · cases hx
    · cases hx
  | extract y i =>
    simp only [aOp, ho, opSel, oMove, oPick, oAlloc, oBox, oBuild, oBuildSlice, oLoad, oStore, oNilCheck, oBinOp, oUnOp, oConvert, oMakeInterface, oMakeFunc, oMakeSlice, oSlice, oFieldAddr, oField, oIndexAddr, oIndex, oMakeMap, oLookup, oMapUpdate, oRange, oNext, oExtract, oCall] at hx
    rw [ho] at hev
    split at hx
    · rename_i vs e
      split at hx
      · rename_i v rest hd
        injection hx with hx; subst hx
        rw [dropL_eq (α := AV)] at hd
        have hvi : vs[i]? = some v := by
          have := congrArg (·[0]?) hd
          simpa [List.getElem?_drop] using this
        have hv := hev y (by simp [Op.operands]) _ e
        generalize hy : ev y = y' at hv
        cases hv with
        | tuple hcs =>
        obtain ⟨x', g1, g2⟩ := hcs.get hvi
        refine .pure r wf (v' := x') ?_ g2
        simp only [execOp, ho, hy, Instr.extract, Sem.run_bind]
        rw [arr_get, g1]
        rfl
      · cases hx
    · cases hx
  | call c =>
    simp only [aOp, ho, opSel, oMove, oPick, oAlloc, oBox, oBuild, oBuildSlice, oLoad, oStore, oNilCheck, oBinOp, oUnOp, oConvert, oMakeInterface, oMakeFunc, oMakeSlice, oSlice, oFieldAddr, oField, oIndexAddr, oIndex, oMakeMap, oLookup, oMapUpdate, oRange, oNext, oExtract, oCall] at hx
    rw [ho] at hev
    split at hx
    · cases hx
    · rename_i args e
      have hargs : ∀ y ∈ c.args.toList, ∀ a, aEval gl tm y = some a → VR ρ a (ev y) := fun y hy => hev y (by
        simp only [Op.operands, Call.operands, Array.mem_append]
        exact .inr (by simpa using hy))
      have hal := mapEv_some (ρ := ρ) (ev := ev) hargs e
      have hmap : (c.args.map ev) = ⟨c.args.toList.map ev⟩ := by apply Array.ext'; simp
      split at hx
      · rename_i b hcal
        refine aBuiltin_sound (cs := c.args.map fun | .const _ => true | _ => false) (ty := o.type) r wf hal hx fun w => ?_
        simp only [execOp, ho, resolve, hcal, Sem.run_bind, Sem.run_pure, Result.andThen_ok, invoke, hmap]
        rfl
      · rename_i fo hcal
        split at hx
        · rename_i f first captured e2
          have hv := hev fo (by simp [Op.operands, Call.operands, hcal]) _ e2
          generalize hf : ev fo = f' at hv
          cases hv with
          | @func _ _ _ x' y' h1 h2 =>
          have hrun : ∀ w, (execOp ev o).run P w = (callFunc f ⟨x' ++ c.args.toList.map ev ++ y'⟩).run P w := by
            intro w
            simp only [execOp, ho, resolve, hcal, hf, Deferred.ofValue, Sem.run_bind, Sem.run_pure, Result.andThen_ok, invoke, hmap]
            congr 2
            apply Array.ext'
            simp
          split at hx
          · rename_i kd e hxt
            rw [appL_eq, appL_eq] at hx
            exact xt_sound hxt r wf ((h1.append hal).append h2) hx (hrun w)
          have hen := (cond_some hx).1
          replace hx := (cond_some hx).2
          rw [appL_eq, appL_eq] at hx
          injection hx with hx; subst hx
          refine ⟨rfl, _, ?_, (h1.append hal).append h2⟩
          simp only [execOp, ho, resolve, hcal, hf, Deferred.ofValue, Sem.run_bind, Sem.run_pure, Result.andThen_ok, invoke, hmap]
          rw [run_enter hen]
          congr 2
          apply Array.ext'
          simp
        · cases hx
      · cases hx
  | makeMap t y =>
    simp only [aOp, ho, opSel, oMove, oPick, oAlloc, oBox, oBuild, oBuildSlice, oLoad, oStore, oNilCheck, oBinOp, oUnOp, oConvert, oMakeInterface, oMakeFunc, oMakeSlice, oSlice, oFieldAddr, oField, oIndexAddr, oIndex, oMakeMap, oLookup, oMapUpdate, oRange, oNext, oExtract, oCall] at hx
    rw [ho] at hev
    have hnew : ∀ {res : AN × AH}, (h.newK (.mp (.ents []) 0) fun f h' => some (AN.val (.map f), h')) = some res → (∀ w, (Instr.makeMap t (y.map ev)).run P w = .ok (.map (some w.heap.size)) { w with heap := w.heap.push (.map #[] 0) }) → OpOut P ρ h w ev o res := by
      intro res hx hr
      obtain ⟨h', e1, e2, e3, e4, e5⟩ := newK_some wf hx
      injection e1 with e1
      subst e1
      refine ⟨by omega, fun fr => ⟨_, .map (some w.heap.size), { w with heap := w.heap.push (.map #[] 0) }, _, ?_, .inl rfl, .map (upd_same _ _ _ _), Out.newOb r wf fr e3 e2 e4 rfl (.map 0 0 .nil)⟩⟩
      simp only [execOp, ho, Sem.run_bind, hr, Result.andThen_ok, Sem.run_pure]
    split at hx
    · refine hnew hx fun w => ?_
      simp [Instr.makeMap]
    · rename_i y
      split at hx
      · rename_i kt e k n hd hy
        have hv := hev y (by simp [Op.operands]) _ hy
        generalize hz : ev y = z at hv
        cases hv
        refine hnew hx fun w => ?_
        simp [Instr.makeMap, run_underlying hd, hz, asInt, asIntOf]
      · cases hx
  | lookup t y z ok =>
    simp only [aOp, ho, opSel, oMove, oPick, oAlloc, oBox, oBuild, oBuildSlice, oLoad, oStore, oNilCheck, oBinOp, oUnOp, oConvert, oMakeInterface, oMakeFunc, oMakeSlice, oSlice, oFieldAddr, oField, oIndexAddr, oIndex, oMakeMap, oLookup, oMapUpdate, oRange, oNext, oExtract, oCall] at hx
    rw [ho] at hev
    split at hx
    · rename_i kt e m key hd hm hk
      have hmv := hev y (by simp [Op.operands]) m hm
      have hkv := hev z (by simp [Op.operands]) key hk
      split at hx
      · rename_i d hu
        have hb := (cond_some hx).1
        replace hx := (cond_some hx).2
        split at hx
        · rename_i es hes
          obtain ⟨m', es', f1, f2, f3⟩ := ents_run r hmv hes
          split at hx
          · rename_i v f4
            injection hx with hx
            subst hx
            rcases lookup_run (P := P) (ok := ok) (z' := .tuple #[]) hb hkv hd hu f2 f3 f4 with ⟨g1, _⟩ | ⟨v2, v', g1, g2, g3⟩
            · cases g1
            · injection g1 with g1
              subst g1
              refine .pure r wf (v' := if ok then .tuple #[v', .bool true] else v') (by simp only [execOp, ho, f1, Sem.run_bind, g3, Result.andThen_ok, Sem.run_pure]) ?_
              cases ok with
              | true => exact .tuple (.cons g2 (.cons (.bool _) .nil))
              | false => exact g2
          · rename_i f4
            split at hx
            · rename_i z0 hz
              obtain ⟨z', q1, q2⟩ := run_zeroT hz
              injection hx with hx
              subst hx
              rcases lookup_run (P := P) (ok := ok) (z' := .tuple #[]) hb hkv hd hu f2 f3 f4 with ⟨_, g3⟩ | ⟨v2, v', g1, _⟩
              · refine .pure r wf (v' := if ok then .tuple #[z', .bool false] else z') (by simp only [execOp, ho, f1, Sem.run_bind, g3 z' (q1 w), Result.andThen_ok, Sem.run_pure]) ?_
                cases ok with
                | true => exact .tuple (.cons (q2 ρ) (.cons (.bool _) .nil))
                | false => exact q2 ρ
              · cases g1
            · cases hx
          · cases hx
        · cases hx
      · cases hx
    · cases hx
  | mapUpdate t y z u =>
    simp only [aOp, ho, opSel, oMove, oPick, oAlloc, oBox, oBuild, oBuildSlice, oLoad, oStore, oNilCheck, oBinOp, oUnOp, oConvert, oMakeInterface, oMakeFunc, oMakeSlice, oSlice, oFieldAddr, oField, oIndexAddr, oIndex, oMakeMap, oLookup, oMapUpdate, oRange, oNext, oExtract, oCall] at hx
    rw [ho] at hev
    split at hx
    · rename_i kt e f key v hd hm hk hv
      have hmv := hev y (by simp [Op.operands]) _ hm
      have hkv := hev z (by simp [Op.operands]) key hk
      have hvv := hev u (by simp [Op.operands]) v hv
      split at hx
      · rename_i d es ck hu hg
        have hb := (cond_some hx).1
        replace hx := (cond_some hx).2
        split at hx
        · rename_i es2 fd hup
          rw [fN_eq] at hx
          obtain ⟨h', e1, e2, e3, e4, e5⟩ := putK_some wf (by rw [hg]; rfl) hx
          injection e1 with e1
          subst e1
          generalize hy : ev y = y' at hmv
          cases hmv with
          | @map _ L hL =>
          obtain ⟨o', k1, k2⟩ := r.mp _ _ _ hg _ _ hL
          obtain ⟨es', rfl, k3⟩ := k2.ents
          obtain ⟨es3, q1, q2⟩ := mapUpdate_run (P := P) hb hkv hvv hd hu k1 k3 hup
          refine ⟨by omega, fun fr => ⟨.skip, undef, _, ρ, ?_, .inr ⟨rfl, rfl⟩, .tuple .nil, Out.setOb r wf e3 e4 hg hL e5 rfl (.map _ _ q2)⟩⟩
          simp only [execOp, ho, hy, Sem.run_bind, q1, Result.andThen_ok, Sem.run_pure]
        · cases hx
      · cases hx
    · cases hx
  | insert t y z u =>
    simp only [aOp, ho, opSel, oMove, oPick, oAlloc, oBox, oBuild, oBuildSlice, oLoad, oStore, oNilCheck, oBinOp, oUnOp, oConvert, oMakeInterface, oMakeFunc, oMakeSlice, oSlice, oFieldAddr, oField, oIndexAddr, oIndex, oMakeMap, oLookup, oMapUpdate, oRange, oNext, oExtract, oCall] at hx
    rw [ho] at hev
    split at hx
    · rename_i kt e f key v hd hm hk hv
      have hmv := hev y (by simp [Op.operands]) _ hm
      have hkv := hev z (by simp [Op.operands]) key hk
      have hvv := hev u (by simp [Op.operands]) v hv
      split at hx
      · rename_i d es ck hu hg
        have hb := (cond_some hx).1
        replace hx := (cond_some hx).2
        split at hx
        · rename_i es2 fd hup
          rw [fN_eq] at hx
          obtain ⟨h', e1, e2, e3, e4, e5⟩ := putK_some wf (by rw [hg]; rfl) hx
          injection e1 with e1
          subst e1
          generalize hy : ev y = y' at hmv
          cases hmv with
          | @map _ L hL =>
          obtain ⟨o', k1, k2⟩ := r.mp _ _ _ hg _ _ hL
          obtain ⟨es', rfl, k3⟩ := k2.ents
          obtain ⟨es3, q1, q2⟩ := mapUpdate_run (P := P) hb hkv hvv hd hu k1 k3 hup
          refine ⟨by omega, fun fr => ⟨.skip, undef, _, ρ, ?_, .inr ⟨rfl, rfl⟩, .tuple .nil, Out.setOb r wf e3 e4 hg hL e5 rfl (.map _ _ q2)⟩⟩
          simp only [execOp, ho, hy, Sem.run_bind, q1, Result.andThen_ok, Sem.run_pure]
        · cases hx
      · cases hx
    · cases hx
  | range t y =>
    simp only [aOp, ho, opSel, oMove, oPick, oAlloc, oBox, oBuild, oBuildSlice, oLoad, oStore, oNilCheck, oBinOp, oUnOp, oConvert, oMakeInterface, oMakeFunc, oMakeSlice, oSlice, oFieldAddr, oField, oIndexAddr, oIndex, oMakeMap, oLookup, oMapUpdate, oRange, oNext, oExtract, oCall] at hx
    rw [ho] at hev
    split at hx
    · rename_i l hd hy
      have hv := hev y (by simp [Op.operands]) _ hy
      generalize hz : ev y = z at hv
      cases hv with
      | str s =>
      obtain ⟨h', e1, e2, e3, e4, e5⟩ := newK_some wf hx
      injection e1 with e1
      subst e1
      refine ⟨by omega, fun fr => ⟨_, .pointer (some ⟨w.heap.size, 0, none⟩), { w with heap := w.heap.push (.stringIter s 0) }, _, ?_, .inl rfl, .ptr 0 (upd_same _ _ _ _), Out.newOb r wf fr e3 e2 e4 rfl (.it s 0)⟩⟩
      simp only [execOp, ho, hz, Sem.run_bind, run_range_string w t s hd, Result.andThen_ok, Sem.run_pure]
      rfl
    · cases hx
  | next y isS =>
    cases isS with
    | false => simp only [aOp, ho, opSel, oMove, oPick, oAlloc, oBox, oBuild, oBuildSlice, oLoad, oStore, oNilCheck, oBinOp, oUnOp, oConvert, oMakeInterface, oMakeFunc, oMakeSlice, oSlice, oFieldAddr, oField, oIndexAddr, oIndex, oMakeMap, oLookup, oMapUpdate, oRange, oNext, oExtract, oCall] at hx; cases hx
    | true =>
    simp only [aOp, ho, opSel, oMove, oPick, oAlloc, oBox, oBuild, oBuildSlice, oLoad, oStore, oNilCheck, oBinOp, oUnOp, oConvert, oMakeInterface, oMakeFunc, oMakeSlice, oSlice, oFieldAddr, oField, oIndexAddr, oIndex, oMakeMap, oLookup, oMapUpdate, oRange, oNext, oExtract, oCall] at hx
    rw [ho] at hev
    split at hx
    · rename_i f hy
      have hv := hev y (by simp [Op.operands]) _ hy
      generalize hz : ev y = z at hv
      split at hx
      · rename_i s pos hg
        cases hv with
        | @ptr _ _ _ L hL =>
        obtain ⟨o', k1, k2⟩ := r.mp _ _ _ hg _ _ hL
        obtain ⟨blk, base, cap⟩ := L
        obtain ⟨S, rfl, rfl, rfl⟩ := k2.iters
        have hob : (getObj blk).run P w = .ok (.stringIter S pos) w := run_getIt k1
        rcases decA_run hx with ⟨g1, g2⟩ | ⟨g1, c, wd, g2, g3⟩
        · injection g2 with g2
          subst g2
          refine .pure r wf (v' := .tuple #[.bool false]) ?_ (.tuple (.cons (.bool _) .nil))
          simp only [execOp, ho, hz, Instr.next, Sem.run_bind, hob, Result.andThen_ok, g1, if_false, Sem.run_pure]
        · obtain ⟨h', e1, e2, e3, e4, e5⟩ := putK_some wf (by rw [hg]; rfl) g3
          injection e1 with e1
          subst e1
          refine ⟨by omega, fun fr => ⟨_, .tuple #[.bool true, .int .i64 pos, .int .i32 c], _, ρ, ?_, .inl rfl, .tuple (.cons (.bool _) (.cons (.int _ _) (.cons (.int _ _) .nil))), Out.setOb r wf e3 e4 hg hL e5 rfl (.it S (pos + wd))⟩⟩
          simp only [execOp, ho, hz, Instr.next, Sem.run_bind, hob, Result.andThen_ok, g1, if_true, g2, run_setIt k1, Sem.run_pure]
          rfl
      · cases hx
    · cases hx
  | _ => simp only [aOp, ho, opSel, oMove, oPick, oAlloc, oBox, oBuild, oBuildSlice, oLoad, oStore, oNilCheck, oBinOp, oUnOp, oConvert, oMakeInterface, oMakeFunc, oMakeSlice, oSlice, oFieldAddr, oField, oIndexAddr, oIndex, oMakeMap, oLookup, oMapUpdate, oRange, oNext, oExtract, oCall] at hx; cases hx
end
end Go.Proofs.YtcigfmnkfelhjaaDoor.Am
