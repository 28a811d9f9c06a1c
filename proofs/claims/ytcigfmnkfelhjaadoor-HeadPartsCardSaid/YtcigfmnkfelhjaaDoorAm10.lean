/- The abstract machine: every operation that it carries out, the program carries out. -/
import Derived.Test.YtcigfmnkfelhjaaDoorAm9
import Derived.Lib.BytesEntry
import Derived.Lib.UnsafeStr
import Derived.Lib.Bytealg
import Derived.Laws.Externs
set_option linter.unusedVariables false
set_option linter.unusedSimpArgs false
namespace Go.Proofs.YtcigfmnkfelhjaaDoor.Am
open Go

section
variable {P : Program} {gl : Gl P} {ρ : Rho} {h : AH} {w : World} {tm : Tr AV} {ev : Operand → Value} {o : Oper}

theorem mem1 {x : Operand} : x ∈ (#[x] : Array Operand) := by simp


theorem toUInt8_mod (n : Int) : (n.toNat.toUInt8).toNat = n.toNat % 256 := by simp
theorem bytesOf_nums (ns : List Int) : ofBytes (Lib.bytesOf ns) = ns.map fun n => n.toNat % 256 := by
  rw [ofBytes_map]
  simp [Lib.bytesOf]
/-- The bytes of a string or of a slice of bytes, as the externs read them. -/
theorem bytesA_run {R : Type} {x : AV} {x' : Value} {k : List Nat → Option R} {res : R} (r : Rep ρ h.get w) (hx : VR ρ x x') (hk : bytesA h x k = some res) :
    ∃ s : ByteArray, k (ofBytes s.data.toList) = some res ∧ (Extern.Bytes.bytesOf x').run P w = .ok s w := by
  unfold bytesA at hk
  split at hk
  · cases hx with
    | str s => exact ⟨s, hk, rfl⟩
  · cases hx
    exact ⟨.empty, hk, rfl⟩
  · rename_i f v q len esz lim
    have h1 := Nat.eq_of_beq_eq_true (cond_some hk).1
    replace hk := (cond_some hk).2
    subst h1
    cases hx with
    | @sl _ _ _ _ _ _ L ad cap hL g0 g1 g2 g3 g4 g5 g6 =>
    obtain ⟨c, m, rd, frz, l, e1, e2, e3, e4, e5, e6, e7⟩ := loadK_some hk
    obtain ⟨ns, n1, n2⟩ := toBytesK_some _ e7
    subst n1
    obtain ⟨l', p1, p2, p3⟩ := load_at r e1 hL e2 e4 e5 e6
    have hl' := VRL.ints p3
    subst hl'
    have hlen : len = ns.length := by rw [← p2]; simp
    have hrun : (Extern.Bytes.loadBytes ad len .empty).run P w = .ok ⟨(ByteArray.empty).data ++ (Lib.bytesOf ns).toArray⟩ w := by
      rcases g5 with rfl | ⟨g5, _⟩
      · rw [hlen]
        exact Lib.run_loadBytesX w ns _ _ fun j x hj => p1 j _ (by simp [hj])
      · have h0 : len = 0 := by omega
        have : ns = [] := List.length_eq_zero_iff.1 (by omega)
        subst this
        rw [h0]
        simp [Extern.Bytes.loadBytes, Lib.bytesOf]
        rfl
    refine ⟨_, ?_, hrun⟩
    have : ofBytes (((ByteArray.empty).data ++ (Lib.bytesOf ns).toArray : Array UInt8)).toList = ns.map fun n => n.toNat % 256 := by
      rw [← bytesOf_nums]; simp
    show k (ofBytes (((ByteArray.empty).data ++ (Lib.bytesOf ns).toArray : Array UInt8)).toList) = some res
    rw [this]
    exact n2
  · cases hk

theorem idxN_eq (c : UInt8) : ∀ (l : List UInt8) (i : Nat), idxN (ofBytes l) c.toNat i = match (List.range l.length).find? (fun j => l[j]? == some c) with
    | some j => ((i + j : Nat) : Int)
    | none => -1
  | [], i => rfl
  | a :: l, i => by
    simp only [ofBytes, idxN]
    rw [List.length_cons, List.range_succ_eq_map, List.find?_cons]
    cases hb : Nat.beq a.toNat c.toNat with
    | true =>
      have := UInt8.toNat_inj.1 (Nat.eq_of_beq_eq_true hb)
      subst this
      simp
    | false =>
      have hne : a ≠ c := fun e => Nat.ne_of_beq_eq_false hb (by rw [e])
      have e0 : ((a :: l)[0]? == some c) = false := by simpa using hne
      rw [e0]
      simp only [cond_false]
      rw [idxN_eq c l (Nat.succ i), List.find?_map]
      have : ((fun j => (a :: l)[j]? == some c) ∘ Nat.succ) = fun j => l[j]? == some c := by
        funext j
        simp [Function.comp]
      rw [this]
      cases (List.range l.length).find? (fun j => l[j]? == some c) with
      | none => rfl
      | some j =>
        simp only [Option.map_some]
        congr 1
        omega
theorem cntN_eq (c : UInt8) : ∀ (l : List UInt8) (n : Nat), cntN (ofBytes l) c.toNat n = l.foldl (fun n x => if x == c then n + 1 else n) n
  | [], n => rfl
  | a :: l, n => by
    simp only [ofBytes, cntN, List.foldl_cons]
    rw [cntN_eq c l]
    congr 1
    cases hb : Nat.beq a.toNat c.toNat with
    | true =>
      have := UInt8.toNat_inj.1 (Nat.eq_of_beq_eq_true hb)
      subst this
      simp
    | false =>
      have hne : a ≠ c := fun e => Nat.ne_of_beq_eq_false hb (by rw [e])
      simp [hne]
theorem bytes_getElem! (s : ByteArray) (i : Nat) (h : i < s.size) (c : UInt8) : (s[i]! == c) = (s.data.toList[i]? == some c) := by
  have h1 : s[i]! = s[i] := getElem!_pos s i h
  have h2 : s.data.toList[i]? = some s[i] := by
    rw [Array.getElem?_toList, Array.getElem?_eq_getElem h]
    rfl
  rw [h1, h2]
  rfl
theorem digits_size : ∀ (n t : Nat) (acc : Array Value), (Extern.BytealgMakeNoZero.digits n t acc).size = acc.size + n ∧ ((∀ (i : Nat) (x : Value), acc[i]? = some x → ∃ m, x = Value.int .u8 m) → ∀ (i : Nat) (x : Value), (Extern.BytealgMakeNoZero.digits n t acc)[i]? = some x → ∃ m, x = Value.int .u8 m)
  | 0, t, acc => ⟨rfl, fun h => h⟩
  | n + 1, t, acc => by
    obtain ⟨h1, h2⟩ := digits_size n (t / 256) (acc.push (.int .u8 (Int.ofNat (t % 256))))
    simp only [Extern.BytealgMakeNoZero.digits]
    refine ⟨by rw [h1]; simp; omega, fun h => h2 fun i x hx => ?_⟩
    rw [Array.getElem?_push] at hx
    split at hx
    · injection hx with hx; exact ⟨_, hx.symm⟩
    · exact h i x hx
theorem repU_eq : ∀ (n : Nat) (l : List AV), repU n l = List.replicate n (.unk .u8) ++ l
  | 0, l => rfl
  | n + 1, l => by
    simp only [repU]
    rw [repU_eq n, List.replicate_succ']
    simp

theorem indexByte_def (b c : Value) : Extern.BytealgIndexByte.indexByte #[b, c] = (do
    let b ← Extern.Bytes.bytesOf b
    let c ← Extern.Bytes.asByte c
    match (List.range b.size).find? (fun i => b[i]! == c) with
    | some i => pure (goInt i)
    | none => pure (goInt (-1))) := rfl
theorem foldl_cast (c : UInt8) : ∀ (l : List UInt8) (n : Nat), l.foldl (fun (n : Int) x => if x == c then n + 1 else n) (n : Int) = ((l.foldl (fun (n : Nat) x => if x == c then n + 1 else n) n : Nat) : Int)
  | [], _ => rfl
  | a :: l, n => by
    simp only [List.foldl_cons]
    rw [← foldl_cast c l]
    congr 1
    by_cases h : (a == c) = true
    · rw [if_pos h, if_pos h]; rfl
    · rw [if_neg h, if_neg h]
theorem count_def (b c : Value) : Extern.BytealgCount.count #[b, c] = (do
    let b ← Extern.Bytes.bytesOf b
    let c ← Extern.Bytes.asByte c
    pure (goInt (b.foldl (fun n x => if x == c then n + 1 else n) (0 : Nat)))) := rfl
theorem freeze_some {w : World} {b o n : Nat} {arr : Array Value} {et : TypeId} {fz : Nat × Nat} (hb : w.heap[b]? = some (.cells arr et fz)) (hn : n ≠ 0) :
    ∃ fz', w.freeze ⟨b, o, none⟩ n = { w with heap := w.heap.setIfInBounds b (.cells arr et fz') } := by
  obtain ⟨lo, hi⟩ := fz
  have hlt : b < w.heap.size := (Array.getElem?_eq_some_iff.1 hb).1
  refine ⟨if lo == hi then (o, o + n) else (min lo o, max hi (o + n)), ?_⟩
  unfold World.freeze
  simp only [hn, if_false]
  congr 1
  apply Array.ext_getElem?
  intro j
  simp only [Array.getElem?_modify]
  by_cases hj : b = j
  · subst hj
    rw [if_pos rfl, hb, Array.getElem?_setIfInBounds_self_of_lt hlt]
    rfl
  · rw [if_neg hj, Array.getElem?_setIfInBounds_ne hj]
theorem makeNoZero_def (ps : Array TypeId) (t : TypeId) (n : Int) : Extern.BytealgMakeNoZero.makeNoZero ps #[t] #[.int .i64 n] =
    (do
      let .slice elem ← underlying t | stuck "bytealg.MakeNoZero: slice type expected"
      if n < 0 || n > 2 ^ 48 then runtimePanic (.error "makeslice: len out of range")
      let cap ← choose (.appendCap n.toNat 0 elem)
      askRoom cap
      let bytes ← choose (.extern "internal/bytealg.MakeNoZero.bytes" 0)
      let a ← newRow elem (Extern.BytealgMakeNoZero.digits cap bytes #[])
      pure (.slice (some a) n.toNat cap)) := rfl
/-- A function without a body. -/
theorem cmpN_eq : ∀ a b : List UInt8, cmpN (ofBytes a) (ofBytes b) = Lib.compareBytes a b
  | [], [] => rfl
  | [], _ :: _ => rfl
  | _ :: _, [] => rfl
  | x :: a, y :: b => by
    simp only [ofBytes, cmpN, Lib.compareBytes, blt_eq, cmpN_eq a b, UInt8.lt_iff_toNat_lt]
    by_cases h1 : x.toNat < y.toNat
    · rw [decide_eq_true h1, if_pos h1]; rfl
    · rw [decide_eq_false h1, if_neg h1]
      by_cases h2 : y.toNat < x.toNat
      · rw [decide_eq_true h2, if_pos h2]; rfl
      · rw [decide_eq_false h2, if_neg h2]; rfl
theorem xt_sound {gl : Gl P} {f : FuncId} {kd : Nat} {e : TypeId} {args : List AV} {args' : List Value} {x : AN × AH} (hkd : gl.xt f = (Nat.succ kd, e)) (r : Rep ρ h.get w) (wf : Wf h) (ha : VRL ρ args args')
    (hx : xtFun (Nat.succ kd) e args h (fun v h' => some (.val v, h')) = some x) (hex : (execOp ev o).run P w = (callFunc f ⟨args'⟩).run P w) : OpOut P ρ h w ev o x := by
  obtain ⟨fn, q1, q2, q3, q4, q5⟩ := gl.ok f (by rw [hkd]; exact Nat.succ_ne_zero _)
  rw [hkd] at q5
  dsimp only at q5
  unfold xtFun at hx
  split at hx
  · rename_i y hk0
    have hk0 : kd = 0 := by omega
    subst hk0
    injection hx with hx
    subst hx
    cases ha with
    | @cons _ v _ _ hv h2 =>
    cases h2
    refine .pure r wf (v' := v) ?_ hv
    rw [hex, run_callFunc_extern q1 q2 q3 q4 q5]
    rfl
  · rename_i b c hk0
    have hk0 : kd = 1 := by omega
    subst hk0
    cases ha with
    | @cons _ b' _ _ hv h2 =>
    cases h2 with
    | @cons _ c' _ _ hc h3 =>
    cases h3
    cases hc
    obtain ⟨s, g1, g2⟩ := bytesA_run (P := P) r hv hx
    rw [fI_eq] at g1
    injection g1 with g1
    subst g1
    rw [show Nat.mod c.toNat 256 = (c.toNat.toUInt8).toNat from (toUInt8_mod _).symm, idxN_eq]
    refine .pure r wf (v' := .int .i64 (match (List.range s.data.toList.length).find? (fun j => s.data.toList[j]? == some c.toNat.toUInt8) with
      | some j => ((j : Nat) : Int)
      | none => -1)) ?_ ?_
    · rw [hex, run_callFunc_extern q1 q2 q3 q4 q5]
      have hfind : (List.range s.size).find? (fun i => s[i]! == c.toNat.toUInt8) = (List.range s.data.toList.length).find? (fun j => s.data.toList[j]? == some c.toNat.toUInt8) := by
        show (List.range s.size).find? _ = (List.range s.size).find? _
        have : ∀ l : List Nat, (∀ i ∈ l, i < s.size) → l.find? (fun i => s[i]! == c.toNat.toUInt8) = l.find? (fun j => s.data.toList[j]? == some c.toNat.toUInt8) := by
          intro l
          induction l with
          | nil => intro _; rfl
          | cons a l ih =>
            intro hl
            rw [List.find?_cons, List.find?_cons, bytes_getElem! s a (hl a List.mem_cons_self), ih fun i hi => hl i (List.mem_cons_of_mem _ hi)]
        exact this _ fun i hi => List.mem_range.1 hi
      rw [show (⟨[b', Value.int .u8 c]⟩ : Array Value) = #[b', .int .u8 c] from rfl, indexByte_def]
      simp only [Sem.run_bind, g2, Result.andThen_ok, Extern.Bytes.asByte, Sem.run_pure, hfind]
      cases (List.range s.data.toList.length).find? (fun j => s.data.toList[j]? == some c.toNat.toUInt8) <;> rfl
    · cases (List.range s.data.toList.length).find? (fun j => s.data.toList[j]? == some c.toNat.toUInt8) with
      | none => exact .int _ _
      | some j => simp only [Nat.zero_add]; exact .int _ _
  · rename_i b c hk0
    have hk0 : kd = 2 := by omega
    subst hk0
    cases ha with
    | @cons _ b' _ _ hv h2 =>
    cases h2 with
    | @cons _ c' _ _ hc h3 =>
    cases h3
    cases hc
    obtain ⟨s, g1, g2⟩ := bytesA_run (P := P) r hv hx
    rw [fN_eq] at g1
    injection g1 with g1
    subst g1
    rw [show Nat.mod c.toNat 256 = (c.toNat.toUInt8).toNat from (toUInt8_mod _).symm, cntN_eq]
    refine .pure r wf (v' := .int .i64 ((s.data.toList.foldl (fun n x => if x == c.toNat.toUInt8 then n + 1 else n) 0 : Nat) : Int)) ?_ (.int _ _)
    rw [hex, run_callFunc_extern q1 q2 q3 q4 q5]
    have hfold : s.foldl (fun (n : Int) x => if x == c.toNat.toUInt8 then n + 1 else n) ((0 : Nat) : Int) = ((s.data.toList.foldl (fun (n : Nat) x => if x == c.toNat.toUInt8 then n + 1 else n) 0 : Nat) : Int) := (Lib.foldl_data _ _ _).trans (foldl_cast _ _ _)
    rw [show (⟨[b', Value.int .u8 c]⟩ : Array Value) = #[b', .int .u8 c] from rfl, count_def]
    simp only [Sem.run_bind, g2, Result.andThen_ok, Extern.Bytes.asByte, Sem.run_pure, hfold]
    rfl
  · rename_i b c hk0
    have hk0 : kd = 4 := by omega
    subst hk0
    cases ha with
    | @cons _ b' _ _ hv h2 =>
    cases h2 with
    | @cons _ c' _ _ hc h3 =>
    cases h3
    obtain ⟨s, g1, g2⟩ := bytesA_run (P := P) r hv hx
    obtain ⟨t, g3, g4⟩ := bytesA_run (P := P) r hc g1
    rw [fI_eq] at g3
    injection g3 with g3
    subst g3
    rw [cmpN_eq]
    refine .pure r wf (v' := .int .i64 (Lib.compareBytes s.data.toList t.data.toList)) ?_ (.int _ _)
    rw [hex, run_callFunc_extern q1 q2 q3 q4 q5]
    have hc2 : (Extern.BytealgCompare.compare ⟨[b', c']⟩).run P w = .ok (.int .i64 (Lib.compareBytes s.data.toList t.data.toList)) w := by
      change Sem.run P (do pure (goInt (Extern.BytealgCompare.cmp (← Extern.Bytes.bytesOf b') (← Extern.Bytes.bytesOf c')))) w = _
      simp only [Sem.run_bind, g2, g4, Result.andThen_ok, Sem.run_pure, Lib.cmp_eq]
      rfl
    rw [hc2]
    rfl
  · rename_i n hk0
    have hk0 : kd = 3 := by omega
    subst hk0
    obtain ⟨ps, t, q6, q7⟩ := q5
    have hc := (ble_iff _ _).1 (cond_some hx).1
    replace hx := (cond_some hx).2
    cases ha with
    | @cons _ n' _ _ hv h2 =>
    cases h2
    cases hv
    have hcap : ∀ q : Nat, n ≤ (Question.appendCap n 0 e).cut q := fun q => by simp only [Question.cut]; omega
    generalize hC : (Question.appendCap n 0 e).cut (w.tape w.drawn (Question.appendCap n 0 e)) = C at *
    have hC' : n ≤ C := hC ▸ hcap _
    have hCM : C ≤ 9223372036854775807 := by
      rw [← hC]
      have hlt := Nat.mod_lt (w.tape w.drawn (.appendCap n 0 e)) (show 0 < 2 ^ 63 - n by omega)
      simp only [Question.cut]
      omega
    generalize hB : (Question.extern "internal/bytealg.MakeNoZero.bytes" 0).cut (w.tape (w.drawn + 1) (Question.extern "internal/bytealg.MakeNoZero.bytes" 0)) = B
    obtain ⟨d1, d2⟩ := digits_size C B #[]
    have d2 := d2 (by simp)
    rw [repU_eq, List.append_nil] at hx
    have hrel : VRL ρ (List.replicate n (AV.unk .u8)) ((Extern.BytealgMakeNoZero.digits C B #[]).toList.take n) := by
      refine VRL.of_get (by rw [List.length_take, Array.length_toList, d1, List.length_replicate]; simp; omega) fun i a ha => ?_
      have hi : i < n := by
        have := (List.getElem?_eq_some_iff.1 ha).1
        simpa using this
      rw [List.getElem?_replicate, if_pos hi] at ha
      injection ha with ha
      subst ha
      have hlt : i < (Extern.BytealgMakeNoZero.digits C B #[]).size := by rw [d1]; simp; omega
      obtain ⟨m, hm⟩ := d2 i _ (Array.getElem?_eq_getElem hlt)
      refine ⟨_, by rw [List.getElem?_take, if_pos hi, Array.getElem?_toList, Array.getElem?_eq_getElem hlt], ?_⟩
      rw [hm]
      exact .unk _ _
    obtain ⟨h', z1, z2, z3, z4⟩ := newRow_run (w := w) (h0 := h) e (fun t ht => by injection ht) ((Extern.BytealgMakeNoZero.digits C B #[]).toList.drop n) r wf hrel hx
    injection z1 with z1
    subst z1
    rw [List.take_append_drop] at z4
    refine ⟨by omega, fun fr => ⟨_, .slice (some ⟨w.heap.size, 0, none⟩) n C, { w with heap := w.heap.push (.cells (Extern.BytealgMakeNoZero.digits C B #[]) e), drawn := w.drawn + 2 }, upd ρ h.next (List.replicate n (AV.unk .u8)).length ⟨w.heap.size, 0, (Extern.BytealgMakeNoZero.digits C B #[]).toList.length⟩, ?_, .inl rfl, ?_, z4 (w.drawn + 2) fr⟩⟩
    · rw [hex, run_callFunc_extern q1 q2 q3 q4 q6]
      have h1 : ¬ (((Int.ofNat n) < 0 || (Int.ofNat n) > 2 ^ 48) = true) := by
        simp only [Bool.or_eq_true, decide_eq_true_eq]
        have : (Int.ofNat n) = (n : Int) := rfl
        rw [this]
        omega
      rw [show (⟨[Value.int .i64 (Int.ofNat n)]⟩ : Array Value) = #[.int .i64 (Int.ofNat n)] from rfl, makeNoZero_def]
      simp only [Sem.run_bind, run_underlying q7, Result.andThen_ok, h1, if_false, run_choose, Question.forced, Bool.false_eq_true, run_askRoom, newRow, run_newObj, Sem.run_pure, show (Int.ofNat n).toNat = n from rfl, hC, hB, show decide ((0 : Nat) = 1) = false from rfl]
    · rw [List.length_replicate]
      refine .sl (upd_same _ _ _ _) Nat.one_pos hC' (by omega) ?_ (by simp) (.inl (by simp)) hCM
      rw [Option.getD_none, Array.length_toList, d1]
      simp
  · cases hx

/-- The built-in functions. -/
theorem aBuiltin_sound {b : Builtin} {ts : Array TypeId} {ty : TypeId} {cs : Array Bool} {args : List AV} {args' : List Value} {x : AN × AH} (r : Rep ρ h.get w) (wf : Wf h) (ha : VRL ρ args args')
    (hx : aBuiltin P h b ts.toList args (fun v h' => some (.val v, h')) = some x) (hex : ∀ w, (execOp ev o).run P w = (builtin b ts ty cs ⟨args'⟩).run P w) : OpOut P ρ h w ev o x := by
  have hts : ∀ {t : TypeId} {r : List TypeId}, ts.toList = t :: r → ts[0]? = some t := fun e => by rw [← Array.getElem?_toList, e]; rfl
  have hts1 : ∀ {t t2 : TypeId} {r : List TypeId}, ts.toList = t :: t2 :: r → ts[1]? = some t2 := fun e => by rw [← Array.getElem?_toList, e]; rfl
  unfold aBuiltin at hx
  split at hx
  · -- len
    rename_i t rest a rest' e1
    have ht := hts e1
    cases ha with
    | cons hv ha' =>
    rename_i a' x'
    have hlen : ∀ n : Nat, x = (.val (.int .i64 (.ofNat n)), h) → (Builtin.len_ ts ty ⟨a' :: x'⟩).run P w = .ok (goInt n) w → OpOut P ρ h w ev o x := by
      rintro n rfl e
      refine .pure r wf (v' := .int .i64 (n : Int)) ?_ (.int _ _)
      rw [hex]
      simp only [builtin, Sem.run_bind, e, Result.andThen_ok, Sem.run_pure]
      rfl
    have h0 : (⟨a' :: x'⟩ : Array Value)[0]? = some a' := by rw [arr_get]; rfl
    split at hx
    · rename_i l hd
      rw [fN_eq] at hx
      injection hx with hx
      cases hv with
      | str s =>
      refine hlen _ hx.symm ?_
      simp only [Builtin.len_, ht, h0, Sem.run_bind, run_underlying hd, Result.andThen_ok, Sem.run_pure]
      rw [ofBytes_length]
      rfl
    · rename_i hd
      injection hx with hx
      cases hv
      exact hlen 0 hx.symm (by simp only [Builtin.len_, ht, h0, Sem.run_bind, run_underlying hd, Result.andThen_ok, Sem.run_pure] <;> rfl)
    · rename_i hd
      injection hx with hx
      cases hv
      exact hlen _ hx.symm (by simp only [Builtin.len_, ht, h0, Sem.run_bind, run_underlying hd, Result.andThen_ok, Sem.run_pure])
    · rename_i n _ hd
      injection hx with hx
      refine hlen n hx.symm ?_
      simp only [Builtin.len_, ht, h0, Sem.run_bind, run_underlying hd, Result.andThen_ok]
      rfl
    · rename_i hd
      injection hx with hx
      cases hv
      exact hlen 0 hx.symm (by simp only [Builtin.len_, ht, h0, Sem.run_bind, run_underlying hd, Result.andThen_ok, Sem.run_pure] <;> rfl)
    · rename_i m hd
      split at hx
      · rename_i es ck hg
        rw [fN_eq] at hx
        injection hx with hx
        cases hv with
        | map hL =>
        obtain ⟨o', k1, k2⟩ := r.mp _ _ _ hg _ _ hL
        obtain ⟨es', rfl, k3⟩ := k2.ents
        refine hlen _ hx.symm ?_
        simp only [Builtin.len_, ht, h0, Sem.run_bind, run_underlying hd, Result.andThen_ok]
        simp only [getObj, Sem.run, k1, Result.andThen_ok]
        simp [k3.length]
      · cases hx
    · cases hx
  · -- append
    rename_i t t2 rest s a rest' e1
    have ht := hts e1
    have ht2 := hts1 e1
    cases ha with
    | @cons _ s' _ _ hs ha' =>
    cases ha' with
    | @cons _ a' _ x' hv ha'' =>
    have h0 : (⟨s' :: a' :: x'⟩ : Array Value)[0]? = some s' := by rw [arr_get]; rfl
    have h1 : (⟨s' :: a' :: x'⟩ : Array Value)[1]? = some a' := by rw [arr_get]; rfl
    split at hx
    · rename_i e k0 hd hd2
      split at hx
      · rename_i i k1 n hi
        split at hx
        · rename_i z hz
          have hc := (cond_some hx).1
          replace hx := (cond_some hx).2
          obtain ⟨c0, hc⟩ := and_true hc
          obtain ⟨c4, hc⟩ := and_true hc
          obtain ⟨c5, hc⟩ := and_true hc
          obtain ⟨c1, c2⟩ := and_true hc
          obtain ⟨c2, c3⟩ := and_true c2
          have c1 := Nat.eq_of_beq_eq_true c1
          rw [blt_eq] at c2 c3 c0
          have c2 := of_decide_eq_true c2
          have c3 := of_decide_eq_true c3
          have c0 := of_decide_eq_true c0
          have c4 := (ble_iff _ _).1 c4
          have c5 := (ble_iff _ _).1 c5
          cases hza : ofV 6 z with
          | none => rw [hza] at hx; cases hx
          | some za =>
          rw [hza] at hx
          dsimp only at hx
          cases hv
          have hzr : VRL ρ (repL n za.cells []) (Builtin.zeroCells z.cells n).toList := repL_made ((ofV_some (ρ := ρ) 6 z za hza).cells) n
          have hlz : (repL n za.cells []).length = n * i.size := by
            rw [← hzr.length, Array.length_toList, zeroCells_size, c1]
          obtain ⟨v, h', y1, y2, y3⟩ := appendK_run (P := P) (args := ⟨s' :: Value.int k1 (Int.ofNat n) :: x'⟩) (ts := ts) (ty := ty) r wf hs hzr (AppR.zeros ht ht2 h0 h1 hd hd2 hi hz c3 c2 c0 c4 c5) c1 c2 hlz hx
          injection y1 with y1
          subst y1
          refine ⟨y2, fun fr => ?_⟩
          obtain ⟨v', w', ρ', z1, z2, z3⟩ := y3 fr
          refine ⟨_, v', w', ρ', ?_, .inl rfl, z2, z3⟩
          rw [hex]
          simp only [builtin, Sem.run_bind, z1, Result.andThen_ok, Sem.run_pure]
        · cases hx
      · cases hx
    · rename_i e d2 hni hd hd2
      split at hx
      · rename_i i n hi hn
        split at hx
        · rename_i z hz
          have hc := (cond_some hx).1
          replace hx := (cond_some hx).2
          obtain ⟨c1, c2⟩ := and_true hc
          obtain ⟨c2, c3⟩ := and_true c2
          have c1 := Nat.eq_of_beq_eq_true c1
          rw [blt_eq] at c2 c3
          have c2 := of_decide_eq_true c2
          have c3 := of_decide_eq_true c3
          have hnr := lenOfA_run (P := P) hv hn
          obtain ⟨l, l', q1, q2, q3, q4⟩ := firstK_run (P := P) r hv hn (Nat.le_refl _) hx
          have q5 : ∀ d, (Builtin.firstCells i.size n a').run P { w with drawn := d } = .ok ⟨l'⟩ { w with drawn := d } := by
            intro d
            obtain ⟨m, m', p1, p2, p3, p4⟩ := firstK_run (P := P) (w := { w with drawn := d }) (r.world rfl) hv hn (Nat.le_refl _) hx
            -- both read the same cells
            rw [p4]
            congr 2
            -- the run does not look at the draws
            cases hv with
            | nilsl => simp [Builtin.firstCells] at p4 q4; first | exact p4.trans q4.symm | exact p4.symm.trans q4 | (rw [p4, q4]) | (subst p4; exact q4)
            | str s => simp [Builtin.firstCells] at p4 q4; have := p4.symm.trans q4; simpa using this
            | @sl f v o len esz lim L ad cap hL g0 g1 g2 g3 g4 g5 g6 =>
              simp only [firstK] at hx
              have hce := (cond_some hx).1
              have hlk := (cond_some hx).2
              obtain ⟨c, mm, rd, frz, ll, e1, e2, e3, e4, e5, e6, e7⟩ := loadK_some hlk
              obtain ⟨arr, et, fz, k1, k2, k3, k4, k5⟩ := ((r.cells _ _ _ _ _ e1).2 v L hL).2 e2
              simp only [lenOfA] at hn
              injection hn with hn
              subst hn
              have hes := Nat.eq_of_beq_eq_true hce
              subst hes
              simp only [Builtin.firstCells] at p4 q4
              have hm : ∀ w1 : World, w1.heap = w.heap → (loadCells ad (len * i.size)).run P w1 = .ok ((List.range (len * i.size)).map fun j => arr.getD (L.base + o + j) undef).toArray w1 := by
                intro w1 hw1
                rcases g5 with rfl | ⟨g5, _⟩
                · refine run_loadCells (P := P) w1 _ _ _ fun j hj => ?_
                  rw [cell_add (w := w1) (by rw [hw1]; exact k1)]
                  obtain ⟨_, y, _, gx, _⟩ := k4 (o + j) (by have : o + Nat.mul len i.size ≤ v := e4; have h9 : Nat.mul len i.size = len * i.size := rfl; omega)
                  rw [show L.base + (o + j) = L.base + o + j by omega] at gx
                  simp [gx]
                · have : len = 0 := by omega
                  subst this
                  simp [loadCells, loadCellsFrom]
              rw [hm { w with drawn := d } rfl] at p4
              rw [hm w rfl] at q4
              injection p4 with p4
              injection q4 with q4
              have := p4.symm.trans q4
              simpa using this
            | _ => cases hn
          obtain ⟨v, h', y1, y2, y3⟩ := appendK_run (P := P) (args := ⟨s' :: a' :: x'⟩) (ts := ts) (ty := ty) r wf hs q3 (AppR.plain ht ht2 h0 h1 hd hd2 (fun k e => hni k (e ▸ rfl)) hi hz c3 hnr q5) c1 c2 q2 q1
          injection y1 with y1
          subst y1
          refine ⟨y2, fun fr => ?_⟩
          obtain ⟨v', w', ρ', z1, z2, z3⟩ := y3 fr
          refine ⟨_, v', w', ρ', ?_, .inl rfl, z2, z3⟩
          rw [hex]
          simp only [builtin, Sem.run_bind, z1, Result.andThen_ok, Sem.run_pure]
        · cases hx
      · cases hx
    · cases hx
  · -- copy
    rename_i t rest d a rest' e1
    have ht := hts e1
    cases ha with
    | @cons _ s' _ _ hs ha' =>
    cases ha' with
    | @cons _ a' _ x' hv ha'' =>
    have h0 : (⟨s' :: a' :: x'⟩ : Array Value)[0]? = some s' := by rw [arr_get]; rfl
    have h1 : (⟨s' :: a' :: x'⟩ : Array Value)[1]? = some a' := by rw [arr_get]; rfl
    split at hx
    · rename_i e hd
      split at hx
      · rename_i size n hsz hn
        cases hs
        have hnr := lenOfA_run (P := P) hv hn
        obtain ⟨l, l', q1, q2, q3, q4⟩ := firstK_run (P := P) r hv hn (Nat.zero_le _) hx
        injection q1 with q1
        subst q1
        refine .pure r wf (v' := .int .i64 0) ?_ (.int _ _)
        rw [hex]
        simp only [builtin, Builtin.copy_, ht, h0, h1, Sem.run_bind, run_underlying hd, Result.andThen_ok, hnr, run_sizeT hsz, Sem.run_pure]
        rw [show Nat.min n 0 = 0 from Nat.min_zero n, q4]
        simp only [Result.andThen_ok, Sem.run_pure]
        rfl
      · cases hx
    · rename_i e f v oo len esz lim hd
      split at hx
      · rename_i size n hsz hn
        have hc := (cond_some hx).1
        replace hx := (cond_some hx).2
        have hc := Nat.eq_of_beq_eq_true hc
        subst hc
        rw [fN_eq] at hx
        cases hs with
        | @sl _ _ _ _ _ _ L ad cap hL g0 g1 g2 g3 g4 g5 g6 =>
        have hnr := lenOfA_run (P := P) hv hn
        obtain ⟨l, l', q1, q2, q3, q4⟩ := firstK_run (P := P) r hv hn (Nat.min_le_left n len) hx
        split at q1
        · rename_i hm0
          injection q1 with q1
          subst q1
          have hl0 : l' = [] := by
            have a1 := q3.length
            rw [q2, show min n len = Nat.min n len from rfl, hm0] at a1
            exact List.length_eq_zero_iff.1 (by omega)
          subst hl0
          refine .pure r wf (v' := .int .i64 0) ?_ (.int _ _)
          rw [hex]
          simp only [builtin, Builtin.copy_, ht, h0, h1, Sem.run_bind, run_underlying hd, Result.andThen_ok, hnr, run_sizeT hsz, Sem.run_pure, q4]
          simp only [storeCells, Sem.run_pure, Result.andThen_ok]
          rw [hm0]
          rfl
        · rename_i m hm0
          have hpos : 0 < len := by
            rcases Nat.eq_zero_or_pos len with h | h
            · subst h; exact absurd (Nat.min_zero n) hm0
            · exact h
          have had : ad = ⟨L.blk, L.base + oo, none⟩ := by
            rcases g5 with g5 | ⟨g5, _⟩
            · exact g5
            · omega
          obtain ⟨h', w', z1, z2, z3, z4⟩ := storeK_run (P := P) r wf hL q3 q1
          injection z1 with z1
          subst z1
          refine ⟨by omega, fun fr => ⟨_, .int .i64 (Nat.min n len : Nat), w', ρ, ?_, .inl rfl, .int _ _, z4⟩⟩
          rw [hex]
          simp only [builtin, Builtin.copy_, ht, h0, h1, Sem.run_bind, run_underlying hd, Result.andThen_ok, hnr, run_sizeT hsz, Sem.run_pure, q4]
          rw [had, z3]
          simp only [Result.andThen_ok, Sem.run_pure]
          rfl
      · cases hx
    · cases hx
  · -- cap
    rename_i t rest e1
    have ht := hts e1
    cases ha with
    | cons hv ha' =>
    cases ha'
    cases hv
    split at hx
    · rename_i e hd
      injection hx with hx
      subst hx
      refine .pure r wf (v' := .int .i64 0) ?_ (.int _ _)
      rw [hex]
      simp only [builtin, Builtin.cap_, ht, List.getElem?_toArray, List.getElem?_cons_zero, Sem.run_bind, run_underlying hd, Result.andThen_ok, Sem.run_pure]
      rfl
    · cases hx
  · -- SliceData of nil
    injection hx with hx
    subst hx
    cases ha with
    | cons hv ha' =>
    cases ha'
    cases hv
    refine .pure r wf (v' := .pointer none) ?_ .nilptr
    rw [hex]
    simp only [builtin, Sem.run_bind]
    rw [show (⟨[Value.slice none 0 0]⟩ : Array Value) = #[.slice none 0 0] from rfl, Lib.run_unsafeSliceData_nil]
    rfl
  · -- SliceData
    rename_i f v q len esz lim
    have hpos := of_decide_eq_true ((blt_eq _ _) ▸ (cond_some hx).1)
    replace hx := (cond_some hx).2
    injection hx with hx
    subst hx
    cases ha with
    | cons hv ha' =>
    cases ha'
    cases hv with
    | @sl _ _ _ _ _ _ L ad cap hL g0 g1 g2 g3 g4 g5 g6 =>
    have had : ad = ⟨L.blk, L.base + q, none⟩ := by
      rcases g5 with g5 | ⟨g5, _⟩
      · exact g5
      · omega
    refine .pure r wf (v' := .pointer (some ad)) ?_ (by rw [had]; exact .ptr _ hL)
    rw [hex]
    simp only [builtin, Sem.run_bind]
    rw [show (⟨[Value.slice (some ad) len cap]⟩ : Array Value) = #[.slice (some ad) len cap] from rfl, Lib.run_unsafeSliceData_row _ _ _ _ _ _ (by omega)]
    rfl
  · -- String
    rename_i t it p n e1
    have hts2 : ts = #[t, it] := by
      rw [← Array.toList_inj]; exact e1
    subst hts2
    cases ha with
    | @cons _ p' _ _ hv ha' =>
    cases ha' with
    | cons hv2 ha'' =>
    cases ha''
    cases hv2
    have hnone : ∀ q : Option Addr, (execOp ev o).run P w = (builtin .unsafeString #[t, it] ty cs ⟨[.pointer q, .int .i64 (Int.ofNat 0)]⟩).run P w → OpOut P ρ h w ev o (.val (.str []), h) := by
      intro q hq
      refine .pure r wf (v' := .string .empty) ?_ (.str .empty)
      rw [hq]
      simp only [builtin, Sem.run_bind]
      rw [show (⟨[Value.pointer q, .int .i64 (Int.ofNat 0)]⟩ : Array Value) = #[.pointer q, .int .i64 0] from rfl, Lib.run_unsafeString_none]
      rfl
    split at hx
    · split at hx
      · injection hx with hx
        subst hx
        cases hv
        exact hnone _ (hex w)
      · injection hx with hx
        subst hx
        cases hv
        exact hnone _ (hex w)
      · cases hx
    · rename_i n' hn0
      split at hx
      · rename_i f v e hd
        split at hx
        · rename_i c m rd frz et hg
          obtain ⟨c1, c2⟩ := and_true (cond_some hx).1
          replace hx := (cond_some hx).2
          obtain ⟨c1, c3⟩ := and_true c1
          obtain ⟨c2, c4⟩ := and_true c2
          have c1 := Nat.eq_of_beq_eq_true c1
          have c3 := Nat.eq_of_beq_eq_true c3
          have c2 := (ble_iff _ _).1 c2
          have c4 := Nat.eq_of_beq_eq_true c4
          subst c1 c4
          cases hv with
          | @ptr _ _ _ L hL =>
          obtain ⟨c', m', rd', frz', l, e1, e2, e3, e4, e5, e6, e7⟩ := loadK_some hx
          obtain ⟨ns, n1, n0, n2⟩ := toNumsK_some _ e7
          subst n1
          obtain ⟨l', p1, p2, p3⟩ := load_at r e1 hL e2 e4 e5 e6
          have hl' := VRL.ints (ns := ns.map Int.ofNat) (by rw [List.map_map]; exact p3)
          subst hl'
          obtain ⟨h', hk, hn, af, ht, hget⟩ := putK_some wf (by rw [hg]; rfl) n2
          injection hk with hk
          subst hk
          obtain ⟨b0, arr0, fz0, b1⟩ := r.ety _ _ _ _ _ _ hg _ _ hL
          obtain ⟨g1, g2⟩ := r.cellsF _ _ _ _ _ _ hg
          obtain ⟨g3, g4⟩ := g2 v L hL
          obtain ⟨arr, et', fz, k1, k2, k3, k4, k5⟩ := g4 g1
          rw [k1] at b1
          injection b1 with b1
          injection b1 with b1 b2 b3
          subst b2
          have hsh : w.shape? L.blk = some (et', arr.size) := by simp [World.shape?, k1]
          have hlen : n = ns.length := by rw [← p2]; simp
          have hn1 : ns ≠ [] := by
            intro e
            subst e
            exact hn0 hlen
          have hU := toU_length ns
          have hrun := Lib.run_unsafeString_row (P := P) w t it ty et' hd c3 L.blk arr.size hsh (toU ns) (fun e => hn1 (by rw [← List.length_eq_zero_iff, ← hU, e]; rfl)) (by omega) (by omega) fun j x hj => by
            rw [toU_get] at hj
            obtain ⟨m, hm, rfl⟩ := Option.map_eq_some_iff.1 hj
            have := p1 j (.int .u8 (Int.ofNat m)) (by simp [hm])
            rw [b0] at this
            rw [UInt8.toNat_ofNat', Nat.mod_eq_of_lt (n0 m (List.mem_of_getElem? hm))]
            exact this
          obtain ⟨fz', f1⟩ := freeze_some (o := 0) (n := (toU ns).length) k1 (by rw [hU]; simpa using hn1)
          refine ⟨by omega, fun fr => ⟨_, .string ⟨(toU ns).toArray⟩, w.freeze ⟨L.blk, 0, none⟩ (toU ns).length, ρ, ?_, .inl rfl, ?_, ?_⟩⟩
          · rw [hex]
            simp only [builtin, Sem.run_bind]
            rw [b0, show n = (toU ns).length by omega]
            rw [show (⟨[Value.pointer (some ⟨L.blk, 0 + 0, none⟩), .int .i64 (Int.ofNat (toU ns).length)]⟩ : Array Value) = #[.pointer (some ⟨L.blk, 0, none⟩), .int .i64 (toU ns).length] from rfl, hrun]
            rfl
          · have := VR.str (ρ := ρ) ⟨(toU ns).toArray⟩
            rwa [show (⟨(toU ns).toArray⟩ : ByteArray).data.toList = toU ns by simp, ofBytes_toU ns n0] at this
          · rw [f1]
            exact Out.setRow r wf af ht hg hL hget k1 k2 k3 rfl rfl (fun h => by cases h) k4
        · cases hx
      · cases hx
  · -- clear
    rename_i t rest f e1
    have ht := hts e1
    split at hx
    · rename_i d es ck hd hg
      cases ha with
      | cons hs ha' =>
      cases ha'
      cases hs with
      | @map _ L hL =>
      obtain ⟨h', hk, hn, af, ht2, hget⟩ := putK_some wf (by rw [hg]; rfl) hx
      injection hk with hk
      subst hk
      obtain ⟨o', k1, k2⟩ := r.mp _ _ _ hg _ _ hL
      obtain ⟨es', rfl, k3⟩ := k2.ents
      refine ⟨by omega, fun fr => ⟨_, .tuple #[], _, ρ, ?_, .inl rfl, .tuple .nil, Out.setOb r wf af ht2 hg hL hget rfl (.map _ _ .nil)⟩⟩
      rw [hex]
      have h0 : (⟨[Value.map (some L.blk)]⟩ : Array Value)[0]? = some (.map (some L.blk)) := rfl
      simp only [builtin, Builtin.clear_, ht, h0, Sem.run_bind, run_underlying hd, Result.andThen_ok, run_getOb k1, run_setOb k1, Sem.run_pure]
    · cases hx
  · -- clear of the nil slice
    rename_i t rest e1
    have ht := hts e1
    split at hx
    · rename_i d hd
      injection hx with hx
      subst hx
      cases ha with
      | cons hs ha' =>
      cases ha'
      cases hs
      refine .pure r wf (v' := .tuple #[]) ?_ (.tuple .nil)
      rw [hex]
      have h0 : (⟨[Value.slice none 0 0]⟩ : Array Value)[0]? = some (.slice none 0 0) := rfl
      simp only [builtin, Builtin.clear_, ht, h0, Sem.run_bind, run_underlying hd, Result.andThen_ok, Sem.run_pure]
    · cases hx
  · -- clear of a slice
    rename_i t rest f v o len esz lim e1
    have ht := hts e1
    cases ha with
    | cons hs ha' =>
    cases ha'
    cases hs with
    | @sl _ _ _ _ _ _ L ad cap hL g0 g1 g2 g3 g4 g5 g6 =>
    split at hx
    · rename_i d hd
      injection hx with hx
      subst hx
      refine .pure r wf (v' := .tuple #[]) ?_ (.tuple .nil)
      rw [hex]
      have h0 : (⟨[Value.slice (some ad) 0 cap]⟩ : Array Value)[0]? = some (.slice (some ad) 0 cap) := rfl
      simp only [builtin, Builtin.clear_, ht, h0, Sem.run_bind, run_underlying hd, Result.andThen_ok, Sem.run_pure]
    · rename_i n e hd
      split at hx
      · rename_i i hi
        split at hx
        · rename_i z hz
          split at hx
          · rename_i za hza
            have hc := (cond_some hx).1
            replace hx := (cond_some hx).2
            obtain ⟨c1, c2⟩ := and_true hc
            have c1 := Nat.eq_of_beq_eq_true c1
            have c2 := Nat.eq_of_beq_eq_true c2
            have had : ad = ⟨L.blk, L.base + o, none⟩ := by
              rcases g5 with g5 | ⟨g5, _⟩
              · exact g5
              · omega
            have hrep := repL_made ((ofV_some (ρ := ρ) 6 z za hza).cells) (n + 1)
            obtain ⟨h', w', z1, z2, z3, z4⟩ := storeK_run (P := P) r wf hL hrep hx
            injection z1 with z1
            subst z1
            refine ⟨by omega, fun fr => ⟨_, .tuple #[], w', ρ, ?_, .inl rfl, .tuple .nil, z4⟩⟩
            rw [hex]
            have h0 : (⟨[Value.slice (some ad) (n + 1) cap]⟩ : Array Value)[0]? = some (.slice (some ad) (n + 1) cap) := rfl
            have hzc : Builtin.zeroCells z.cells (n + 1) = madeCells z.cells ((n + 1) * z.cells.size) := rfl
            simp only [builtin, Builtin.clear_, ht, h0, Sem.run_bind, run_underlying hd, Result.andThen_ok, run_zeroValue' hi hz, hzc]
            rw [had, z3]
            simp only [Result.andThen_ok, Sem.run_pure]
          · cases hx
        · cases hx
      · cases hx
    · cases hx
  · -- delete
    rename_i t rest f key e1
    have ht := hts e1
    split at hx
    · rename_i kt e hd
      split at hx
      · rename_i d es ck hu hg
        have hkb := (cond_some hx).1
        replace hx := (cond_some hx).2
        split at hx
        · rename_i es2 hdel
          cases ha with
          | cons hs ha' =>
          cases ha' with
          | @cons _ k' _ _ hv ha'' =>
          cases ha''
          cases hs with
          | @map _ L hL =>
          obtain ⟨h', hk, hn, af, ht2, hget⟩ := putK_some wf (by rw [hg]; rfl) hx
          injection hk with hk
          subst hk
          obtain ⟨o', k1, k2⟩ := r.mp _ _ _ hg _ _ hL
          obtain ⟨es', rfl, k3⟩ := k2.ents
          obtain ⟨es3, q1, q2⟩ := delete_run (P := P) (ty := ty) hkb hv ht hd hu k1 k3 hdel
          refine ⟨by omega, fun fr => ⟨_, .tuple #[], _, ρ, ?_, .inl rfl, .tuple .nil, Out.setOb r wf af ht2 hg hL hget rfl (.map _ _ q2)⟩⟩
          rw [hex]
          simp only [builtin, Sem.run_bind]
          rw [show (⟨[Value.map (some L.blk), k']⟩ : Array Value) = #[.map (some L.blk), k'] from rfl, q1]
          rfl
        · cases hx
      · cases hx
    · cases hx
  · rename_i j a k b
    injection hx with hx
    subst hx
    cases ha with
    | cons hs ha' =>
    cases ha' with
    | cons hv ha'' =>
    cases ha''
    cases hs; cases hv
    refine .pure r wf (v' := .int j (if b < a then b else a)) ?_ ?_
    · rw [hex]
      simp [builtin, Builtin.min_, Builtin.min2]
    · rw [ltI_eq]
      by_cases hh : b < a
      · rw [decide_eq_true hh, if_pos hh]; exact .int _ _
      · rw [decide_eq_false hh, if_neg hh]; exact .int _ _
  · rename_i j a k b
    injection hx with hx
    subst hx
    cases ha with
    | cons hs ha' =>
    cases ha' with
    | cons hv ha'' =>
    cases ha''
    cases hs; cases hv
    refine .pure r wf (v' := .int j (if b > a then b else a)) ?_ ?_
    · rw [hex]
      simp [builtin, Builtin.max_, Builtin.max2]
    · rw [ltI_eq]
      by_cases hh : b > a
      · rw [decide_eq_true hh, if_pos hh]; exact .int _ _
      · rw [decide_eq_false hh, if_neg hh]; exact .int _ _
  · cases hx
end
end Go.Proofs.YtcigfmnkfelhjaaDoor.Am
