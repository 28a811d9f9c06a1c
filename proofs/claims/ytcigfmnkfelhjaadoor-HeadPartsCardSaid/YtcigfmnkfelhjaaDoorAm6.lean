/- The abstract machine: append, copy. -/
import Derived.Test.YtcigfmnkfelhjaaDoorAm5
set_option linter.unusedVariables false
set_option linter.unusedSimpArgs false
namespace Go.Proofs.YtcigfmnkfelhjaaDoor.Am
open Go

section
variable {P : Program} {ρ : Rho} {h : AH} {w : World} {R : Type}

/-! ## The cells of some elements -/
theorem lenOfA_run {x : AV} {x' : Value} {n : Nat} (hx : VR ρ x x') (h : lenOfA x = some n) : ∀ w, (Builtin.lenOf x').run P w = .ok n w := by
  intro w
  cases hx <;> simp only [lenOfA] at h <;> first
    | (cases h; done)
    | (injection h with h; subst h; simp only [Builtin.lenOf]; rfl)
    | (injection h with h; subst h; simp only [Builtin.lenOf, ofBytes_length]; rfl)
theorem bytesK_some : ∀ (l : List UInt8) (n : Nat) {k : List AV → Option R} {res : R}, firstK.bytesK (ofBytes l) n k = some res → n ≤ l.length →
    ∃ r, k r = some res ∧ r.length = n ∧ VRL ρ r ((l.take n).map fun b => Value.int .u8 b.toNat)
  | [], 0, k, res, h, _ => ⟨[], h, rfl, .nil⟩
  | [], n + 1, k, res, h, hn => by simp at hn
  | b :: l, 0, k, res, h, _ => ⟨[], h, rfl, .nil⟩
  | b :: l, n + 1, k, res, h, hn => by
    simp only [ofBytes, firstK.bytesK] at h
    obtain ⟨r, h1, h2, h3⟩ := bytesK_some l n h (by simp at hn; omega)
    exact ⟨_, h1, by simp [h2], .cons (.int _ _) h3⟩
theorem firstK_run {size n N : Nat} {x : AV} {x' : Value} {k : List AV → Option R} {res : R} (r : Rep ρ h.get w) (hx : VR ρ x x') (hN : lenOfA x = some N) (hn : n ≤ N)
    (hk : firstK h size n x k = some res) : ∃ l l', k l = some res ∧ l.length = n * size ∧ VRL ρ l l' ∧ (Builtin.firstCells size n x').run P w = .ok ⟨l'⟩ w := by
  cases hx <;> simp only [lenOfA] at hN <;> first
    | (cases hN; done)
    | skip
  case nilsl =>
    injection hN with hN; subst hN
    obtain rfl : n = 0 := by omega
    exact ⟨[], [], hk, by simp, .nil, by simp [Builtin.firstCells]⟩
  case sl f v o len esz lim L a cap hL h0 h1 h2 h3 h4 h5 h6 =>
    injection hN with hN; subst hN
    simp only [firstK] at hk
    obtain ⟨e1, hk1⟩ := cond_some hk
    have e2 := Nat.eq_of_beq_eq_true e1
    subst e2
    obtain ⟨c, m, rd, frz, l, q1, q2, q3, q4, q5, q6, q7⟩ := loadK_some hk1
    obtain ⟨l', p1, p2⟩ := load_cells (P := P) r q1 hL q2 q4 q5 q6
    refine ⟨l, l', q7, q5, p2, ?_⟩
    simp only [Builtin.firstCells]
    rcases h5 with rfl | ⟨h5, _⟩
    · exact p1
    · have : n = 0 := by omega
      subst this
      have e : (Nat.mul 0 esz) = 0 := Nat.zero_mul _
      rw [e] at q5
      have := p2.length
      have hl' : l' = [] := List.length_eq_zero_iff.1 (by omega)
      subst hl'
      simp [loadCells, loadCellsFrom]
  case str s =>
    injection hN with hN; subst hN
    simp only [firstK] at hk
    obtain ⟨e1, hk1⟩ := cond_some hk
    have e2 := Nat.eq_of_beq_eq_true e1
    subst e2
    rw [ofBytes_length] at hn
    obtain ⟨rr, g1, g2, g3⟩ := bytesK_some (ρ := ρ) _ _ hk1 hn
    refine ⟨rr, _, g1, by omega, g3, ?_⟩
    simp only [Builtin.firstCells, Sem.run_pure]
    congr 1
    apply Array.ext'
    simp [ByteArray.extract, ByteArray.copySlice]

/-! ## append, carried out -/
theorem run_append_fits {t t2 e : TypeId} {d2 : TypeDesc} {i : TypeInfo} {args : Array Value} {ts : Array TypeId} {ty : TypeId} {a : Addr} {len cap n : Nat} {x' : Value} {new : List Value}
    (ht : ts[0]? = some t) (ht2 : ts[1]? = some t2) (hs : args[0]? = some (.slice (some a) len cap)) (hx : args[1]? = some x')
    (h1 : P.underlying t = some (.slice e)) (h2 : P.underlying t2 = some d2) (hd : ∀ k, d2 ≠ .int k) (hi : P.info? e = some i)
    (hn : ∀ w, (Builtin.lenOf x').run P w = .ok n w) (hnew : (Builtin.firstCells i.size n x').run P w = .ok ⟨new⟩ w) (hc : len + n ≤ cap) :
    (Builtin.append_ ts ty args).run P w = ((storeCells (a.add (len * i.size)) new 0).run P w).andThen fun _ w => .ok (.slice (some a) (len + n) cap) w := by
  have hz : (match d2 with | .int _ => true | _ => false) = false := by
    cases d2 <;> first | rfl | exact absurd rfl (hd _)
  simp only [Builtin.append_, ht, ht2, hs, hx, Sem.run_bind, run_underlying h1, run_underlying h2, Result.andThen_ok, run_sizeOf' hi, Sem.run_pure, hz, Bool.false_eq_true, if_false, hn, hc, if_true, Bool.not_false, hnew]
theorem run_append_none {t t2 e : TypeId} {d2 : TypeDesc} {i : TypeInfo} {args : Array Value} {ts : Array TypeId} {ty : TypeId} {x' : Value} {new : List Value}
    (ht : ts[0]? = some t) (ht2 : ts[1]? = some t2) (hs : args[0]? = some (.slice none 0 0)) (hx : args[1]? = some x')
    (h1 : P.underlying t = some (.slice e)) (h2 : P.underlying t2 = some d2) (hd : ∀ k, d2 ≠ .int k) (hi : P.info? e = some i)
    (hn : ∀ w, (Builtin.lenOf x').run P w = .ok 0 w) (hnew : (Builtin.firstCells i.size 0 x').run P w = .ok ⟨new⟩ w) :
    (Builtin.append_ ts ty args).run P w = .ok (.slice none 0 0) w := by
  have hz : (match d2 with | .int _ => true | _ => false) = false := by
    cases d2 <;> first | rfl | exact absurd rfl (hd _)
  simp only [Builtin.append_, ht, ht2, hs, hx, Sem.run_bind, run_underlying h1, run_underlying h2, Result.andThen_ok, run_sizeOf' hi, Sem.run_pure, hz, Bool.false_eq_true, if_false, hn, Nat.le_refl, if_true, Bool.not_false, hnew]
theorem arr_app2 (a : List Value) (b c : Array Value) : (⟨a⟩ : Array Value) ++ b ++ c = ⟨a ++ b.toList ++ c.toList⟩ := by apply Array.ext'; simp
theorem arr_app (a b : List Value) (c : Array Value) : (⟨a⟩ : Array Value) ++ ⟨b⟩ ++ c = ⟨a ++ b ++ c.toList⟩ := by apply Array.ext'; simp
theorem run_append_moves {t t2 e : TypeId} {d2 : TypeDesc} {i : TypeInfo} {z : Value} {args : Array Value} {ts : Array TypeId} {ty : TypeId} {base : Option Addr} {len cap n : Nat} {x' : Value} {new old : List Value}
    (ht : ts[0]? = some t) (ht2 : ts[1]? = some t2) (hs : args[0]? = some (.slice base len cap)) (hx : args[1]? = some x')
    (h1 : P.underlying t = some (.slice e)) (h2 : P.underlying t2 = some d2) (hd : ∀ k, d2 ≠ .int k) (hi : P.info? e = some i) (hz0 : i.zero = some z)
    (hn : ∀ w, (Builtin.lenOf x').run P w = .ok n w) (hnew : ∀ d, (Builtin.firstCells i.size n x').run P { w with drawn := d } = .ok ⟨new⟩ { w with drawn := d }) (hc : cap < len + n)
    (hold : ∀ d, (Builtin.firstCells i.size len (.slice base len cap)).run P { w with drawn := d } = .ok ⟨old⟩ { w with drawn := d }) (hb : (len + n) * i.bytes ≤ 140737488355328) (hb0 : 0 < i.bytes) :
    ∃ c, (len + n ≤ c ∧ c ≤ 9223372036854775807) ∧ (Builtin.append_ ts ty args).run P w = .ok (.slice (some ⟨w.heap.size, 0, none⟩) (len + n) c) { w with heap := w.heap.push (.cells ⟨old ++ new ++ (Builtin.zeroCells z.cells (c - (len + n))).toList⟩ e), drawn := w.drawn + 1 } := by
  have hz : (match d2 with | .int _ => true | _ => false) = false := by
    cases d2 <;> first | rfl | exact absurd rfl (hd _)
  have hnc : ¬ (len + n ≤ cap) := by omega
  have hgr : ¬ (Builtin.nextslicecap (len + n) cap * i.bytes > 2 ^ 48) := by
    have := growslice_fits (bytes := i.bytes) hc hb
    omega
  have hb1 : ¬ ((((len + n : Nat) : Int) > IntKind.i64.max) ∧ (False ∨ i.bytes = 0)) := by
    rintro ⟨_, h | h⟩
    · exact h
    · omega
  have hneed : len + n ≤ 9223372036854775807 := by
    have : (len + n) * 1 ≤ (len + n) * i.bytes := Nat.mul_le_mul_left _ hb0
    omega
  refine ⟨(Question.appendCap (len + n) cap e).cut (w.tape w.drawn (.appendCap (len + n) cap e)), ?_, ?_⟩
  · have hlt := Nat.mod_lt (w.tape w.drawn (.appendCap (len + n) cap e)) (show 0 < 2 ^ 63 - (len + n) by omega)
    simp only [Question.cut]
    omega
  · simp only [Builtin.append_, ht, ht2, hs, hx, Sem.run_bind, run_underlying h1, run_underlying h2, Result.andThen_ok, run_sizeOf' hi, Sem.run_pure, hz, Bool.false_eq_true, if_false, hn, hnc, Bool.not_false, if_true,
      Sem.run_ite, run_typeInfo' hi, hb1, hgr, run_choose, Question.forced, run_askRoom, hold, hnew, run_zeroValue' hi hz0, newRow, run_newObj]
    rw [arr_app]

/-- The three ways in which an append of these cells goes. -/
structure AppR (P : Program) (w : World) (ts : Array TypeId) (ty : TypeId) (args : Array Value) (s' : Value) (e : TypeId) (i : TypeInfo) (z : Value) (n : Nat) (new : List Value) : Prop where
  nil : s' = .slice none 0 0 → n = 0 → (Builtin.append_ ts ty args).run P w = .ok (.slice none 0 0) w
  fits : ∀ {a : Addr} {len cap : Nat}, s' = .slice (some a) len cap → len + n ≤ cap → (Builtin.append_ ts ty args).run P w = ((storeCells (a.add (len * i.size)) new 0).run P w).andThen fun _ w => .ok (.slice (some a) (len + n) cap) w
  moves : ∀ {base : Option Addr} {len cap : Nat} {old : List Value}, s' = .slice base len cap → cap < len + n → (∀ d, (Builtin.firstCells i.size len (.slice base len cap)).run P { w with drawn := d } = .ok ⟨old⟩ { w with drawn := d }) → (len + n) * i.bytes ≤ 140737488355328 →
    ∃ c, (len + n ≤ c ∧ c ≤ 9223372036854775807) ∧ (Builtin.append_ ts ty args).run P w = .ok (.slice (some ⟨w.heap.size, 0, none⟩) (len + n) c) { w with heap := w.heap.push (.cells ⟨old ++ new ++ (Builtin.zeroCells z.cells (c - (len + n))).toList⟩ e), drawn := w.drawn + 1 }
theorem AppR.plain {t t2 e : TypeId} {d2 : TypeDesc} {i : TypeInfo} {z : Value} {args : Array Value} {ts : Array TypeId} {ty : TypeId} {s' x' : Value} {n : Nat} {new' : List Value}
    (ht : ts[0]? = some t) (ht2 : ts[1]? = some t2) (hs0 : args[0]? = some s') (hx : args[1]? = some x')
    (h1 : P.underlying t = some (.slice e)) (h2 : P.underlying t2 = some d2) (hd : ∀ k, d2 ≠ .int k) (hi : P.info? e = some i) (hz0 : i.zero = some z) (hb0 : 0 < i.bytes)
    (hn : ∀ w, (Builtin.lenOf x').run P w = .ok n w) (hnew : ∀ d, (Builtin.firstCells i.size n x').run P { w with drawn := d } = .ok ⟨new'⟩ { w with drawn := d }) : AppR P w ts ty args s' e i z n new' := {
  nil hs h0 := by subst hs h0; exact run_append_none ht ht2 hs0 hx h1 h2 hd hi hn (hnew w.drawn)
  fits hs hc := by subst hs; exact run_append_fits ht ht2 hs0 hx h1 h2 hd hi hn (hnew w.drawn) hc
  moves hs hc hold hb := by subst hs; exact run_append_moves ht ht2 hs0 hx h1 h2 hd hi hz0 hn hnew hc hold hb hb0 }
/-- An append of zeros. -/
theorem AppR.zeros {t t2 e : TypeId} {k0 k1 : IntKind} {i : TypeInfo} {z : Value} {args : Array Value} {ts : Array TypeId} {ty : TypeId} {s' : Value} {n : Nat}
    (ht : ts[0]? = some t) (ht2 : ts[1]? = some t2) (hs0 : args[0]? = some s') (hx : args[1]? = some (.int k1 n))
    (h1 : P.underlying t = some (.slice e)) (h2 : P.underlying t2 = some (.int k0)) (hi : P.info? e = some i) (hz0 : i.zero = some z) (hb0 : 0 < i.bytes) (hsz : 0 < i.size) (hn0 : 0 < n) (hn63 : n ≤ 1099511627776) (hnb : n * i.bytes ≤ 140737488355328) :
    AppR P w ts ty args s' e i z n (Builtin.zeroCells z.cells n).toList := by
  have hwr : IntKind.i64.wrap (n : Int) = (n : Int) := by
    have := w_i64 (n : Int)
    rw [this]
    omega
  have hneg : ¬ ((n : Int) < 0) := by omega
  have hbig : ¬ (((n : Int) * (i.bytes : Int)) > 2 ^ 48) := by
    have h3 : ((n : Int) * (i.bytes : Int)) = ((n * i.bytes : Nat) : Int) := by simp
    rw [h3]
    omega
  have hns : ¬ (n * i.size = 0) := by
    have := Nat.mul_pos hn0 hsz
    omega
  refine ⟨fun _ h0 => by omega, fun {a len cap} hs hc => ?_, fun {base len cap old} hs hc hold hb => ?_⟩
  · subst hs
    simp only [Builtin.append_, ht, ht2, hs0, hx, Sem.run_bind, run_underlying h1, run_underlying h2, Result.andThen_ok, run_sizeOf' hi, Sem.run_pure, if_true, asInt, asIntOf, hwr, hneg, if_false, run_typeInfo' hi, hbig, Int.toNat_natCast, hc, Bool.not_true, Bool.false_eq_true, hns, run_zeroValue' hi hz0]
  · subst hs
    have hnc : ¬ (len + n ≤ cap) := by omega
    have hgr : ¬ (Builtin.nextslicecap (len + n) cap * i.bytes > 2 ^ 48) := by
      have := growslice_fits (bytes := i.bytes) hc hb
      omega
    have hmax : ¬ (((len + n : Nat) : Int) > IntKind.i64.max) := by
      have h6 : IntKind.i64.max = 9223372036854775807 := by decide
      rw [h6]
      have : (len + n) * 1 ≤ (len + n) * i.bytes := Nat.mul_le_mul_left _ hb0
      omega
    have hneed : len + n ≤ 9223372036854775807 := by
      have : (len + n) * 1 ≤ (len + n) * i.bytes := Nat.mul_le_mul_left _ hb0
      omega
    refine ⟨(Question.appendCap (len + n) cap e).cut (w.tape w.drawn (.appendCap (len + n) cap e)), ?_, ?_⟩
    · have hlt := Nat.mod_lt (w.tape w.drawn (.appendCap (len + n) cap e)) (show 0 < 2 ^ 63 - (len + n) by omega)
      simp only [Question.cut]
      omega
    · simp only [Builtin.append_, ht, ht2, hs0, hx, Sem.run_bind, run_underlying h1, run_underlying h2, Result.andThen_ok, run_sizeOf' hi, Sem.run_pure, if_true, asInt, asIntOf, hwr, hneg, if_false, run_typeInfo' hi, hbig, Int.toNat_natCast, hnc, Bool.not_true, Bool.false_eq_true, hns, run_zeroValue' hi hz0,
        Sem.run_ite, hmax, false_and, hgr, run_choose, Question.forced, run_askRoom, hold, newRow, run_newObj]
      rw [arr_app2]

theorem keepEtO_some {o : Nat} {eto : Option TypeId} {e t : TypeId} (h : keepEtO o eto e = some t) : (eto = some t ∧ o = 0) ∧ e = t := by
  cases o with
  | zero =>
    have h : keepEt eto e = some t := h
    unfold keepEt at h
    split at h
    · rename_i u
      have h1 := (cond_some h).1
      have h2 := (cond_some h).2
      injection h2 with h2
      subst h2
      exact ⟨⟨rfl, rfl⟩, (Nat.eq_of_beq_eq_true h1).symm⟩
    · cases h
  | succ o => cases h
theorem keepEt_some {eto : Option TypeId} {e t : TypeId} (h : keepEt eto e = some t) : eto = some t ∧ t = e := by
  unfold keepEt at h
  split at h
  · rename_i u
    have h1 := (cond_some h).1
    have h2 := (cond_some h).2
    injection h2 with h2
    subst h2
    exact ⟨rfl, Nat.eq_of_beq_eq_true h1⟩
  · cases h
theorem appL_eq : ∀ (a b : List AV) (k : List AV → R), appendK.appL a b k = k (a ++ b)
  | [], b, k => rfl
  | x :: a, b, k => by simp [appendK.appL, appL_eq a b]
theorem and_true {a b : Bool} (h : and a b = true) : a = true ∧ b = true := by simpa using h
theorem zeroCells_size (z : Array Value) (n : Nat) : (Builtin.zeroCells z n).size = n * z.size := by simp [Builtin.zeroCells]
theorem setCells_get {vs : List AV} {c' c : Tr AV} {m : Nat} (hc : ∀ i, c'.get i = if m ≤ i ∧ i < m + vs.length then vs[i - m]? else c.get i) : ∀ i, i < m → c'.get i = c.get i := by
  intro i hi
  rw [hc i, if_neg (by omega)]

/-- What an append does to memory, and what it yields, whatever the capacity. -/
theorem appendK_run {e : TypeId} {i : TypeInfo} {z : Value} {args : Array Value} {ts : Array TypeId} {ty : TypeId} {s : AV} {s' : Value} {n : Nat} {new : List AV} {new' : List Value}
    {k : AV → AH → Option R} {res : R} (r : Rep ρ h.get w) (wf : Wf h) (hs : VR ρ s s') (hv : VRL ρ new new')
    (A : AppR P w ts ty args s' e i z n new') (hzs : z.cells.size = i.size) (hsz : 0 < i.size) (hlen : new.length = n * i.size)
    (hk : appendK h e i.size i.bytes s n new k = some res) :
    ∃ v h', k v h' = some res ∧ h.next ≤ h'.next ∧ (Fresh ρ h.next h'.next → ∃ v' w' ρ', (Builtin.append_ ts ty args).run P w = .ok v' w' ∧ VR ρ' v v' ∧ Out ρ h w ρ' h' w') := by
  have hlen' : new'.length = n * i.size := by rw [hv.length, hlen]
  unfold appendK at hk
  cases n with
  | zero =>
    have hnil' : new' = [] := List.length_eq_zero_iff.1 (by omega)
    subst hnil'
    cases hs with
    | nilsl =>
      refine ⟨_, _, hk, Nat.le_refl _, fun _ => ⟨.slice none 0 0, w, ρ, A.nil rfl rfl, .nilsl, .refl r wf⟩⟩
    | @sl f v o len esz lim L a cap hL g0 g1 g2 g3 g4 g5 g6 =>
      refine ⟨_, _, hk, Nat.le_refl _, fun _ => ⟨.slice (some a) len cap, w, ρ, ?_, .sl hL g0 g1 g2 g3 g4 g5 g6, .refl r wf⟩⟩
      rw [A.fits rfl (by omega)]
      simp [storeCells]
    | _ => cases hk
  | succ n =>
    have hall := (cond_some hk).1; replace hk := (cond_some hk).2
    have hone : ∀ v ∈ new', v.oneCell' = true := by
      intro x hx
      obtain ⟨j, hj⟩ := List.mem_iff_getElem?.1 hx
      have hj' : j < new.length := by
        have := (List.getElem?_eq_some_iff.1 hj).1
        rw [hv.length] at this
        exact this
      obtain ⟨y, y1, y2⟩ := hv.get (List.getElem?_eq_getElem hj')
      rw [hj] at y1
      injection y1 with y1
      subst y1
      rw [← y2.oneC]
      exact (allC_iff _).1 hall _ (List.getElem_mem hj')
    -- the zero cells behind
    have hextra : ∀ c, n + 1 ≤ c → ∀ len, ((Builtin.zeroCells z.cells (c - (len + (n + 1)))).toList).length = (c - (len + (n + 1))) * i.size := by
      intro c _ len
      rw [Array.length_toList, zeroCells_size, hzs]
    cases hs with
    | nilsl =>
      dsimp only at hk
      have hb := (cond_some hk).1; replace hk := (cond_some hk).2
      have hb' := (ble_iff _ _).1 hb
      obtain ⟨c, ⟨hc, hcM⟩, hrun⟩ := A.moves (old := []) (len := 0) (cap := 0) (base := none) rfl (by omega) (fun d => by simp [Builtin.firstCells]) (by rw [Nat.zero_add]; exact hb')
      obtain ⟨h', q1, q2, q3, q4⟩ := newRow_run (w := w) (h0 := h) e (eto := _) (fun t ht => by injection ht) ((Builtin.zeroCells z.cells (c - (0 + (n + 1)))).toList) r wf hv hk
      refine ⟨_, h', q1, by omega, fun fr => ⟨_, _, upd ρ h.next new.length ⟨w.heap.size, 0, (new' ++ (Builtin.zeroCells z.cells (c - (0 + (n + 1)))).toList).length⟩, hrun, ?_, ?_⟩⟩
      rotate_left
      · have := q4 (w.drawn + 1) fr
        simpa only [List.nil_append] using this
      · have hext := hextra c (by omega) 0
        have e1 : (new' ++ (Builtin.zeroCells z.cells (c - (0 + (n + 1)))).toList).length = c * i.size := by
          rw [List.length_append, hlen', hext, ← Nat.add_mul]
          congr 1
          omega
        rw [show 0 + (n + 1) = n + 1 by omega] at e1 ⊢
        exact .sl (upd_same _ _ _ _) hsz (by omega) (by rw [hlen]; omega) (by rw [Option.getD_none]; simp only; rw [e1]; omega) (by simp) (.inl (by simp)) hcM
    | @sl f v o len esz lim L a cap hL g0 g1 g2 g3 g4 g5 g6 =>
      dsimp only at hk
      have hce := (cond_some hk).1; replace hk := (cond_some hk).2
      obtain ⟨hc1, hc2⟩ := and_true hce
      have hesz := Nat.eq_of_beq_eq_true hc1
      subst hesz
      have hbytes := (ble_iff _ _).1 hc2
      rw [fN_eq] at hk
      have hmul : ∀ a b : Nat, Nat.mul a b = a * b := fun _ _ => rfl
      have hadd : ∀ a b : Nat, Nat.add a b = a + b := fun _ _ => rfl
      simp only [hmul, hadd] at hk hbytes
      -- what was there, at whatever draws
      have hold : ∀ {l : List AV}, (∃ c m rd frz, (∃ eto, h.get f = some (.cells c m rd frz eto)) ∧ rd ≤ v ∧ o + len * i.size ≤ v ∧ l.length = len * i.size ∧ ∀ j, j < len * i.size → c.get (o + j) = l[j]?) →
          ∃ old : List Value, VRL ρ l old ∧ ∀ d, (Builtin.firstCells i.size len (.slice (some a) len cap)).run P { w with drawn := d } = .ok ⟨old⟩ { w with drawn := d } := by
        rintro l ⟨c, m, rd, frz, e1, e2, e3, e4, e5⟩
        obtain ⟨old, p1, p2⟩ := load_cells (P := P) r e1 hL e2 e3 e4 e5
        refine ⟨old, p2, fun d => ?_⟩
        obtain ⟨old2, p3, p4⟩ := load_cells (P := P) (w := { w with drawn := d }) (r.world rfl) e1 hL e2 e3 e4 e5
        have hsame : old2 = old := by
          -- the same cells
          apply List.ext_getElem?
          intro j
          by_cases hj : j < len * i.size
          · obtain ⟨arr, et, fz, k1, k2, k3, k4, k5⟩ := ((r.cells _ _ _ _ _ e1).2 v L hL).2 e2
            have f1 := run_loadCells (P := P) w (⟨L.blk, L.base + o, none⟩ : Addr) (len * i.size) (fun j => arr.getD (L.base + o + j) undef) (fun j hj => by
              rw [cell_add k1]
              obtain ⟨_, x, _, gx, _⟩ := k4 (o + j) (by omega)
              rw [show L.base + (o + j) = L.base + o + j by omega] at gx
              simp [gx])
            have f2 := run_loadCells (P := P) { w with drawn := d } (⟨L.blk, L.base + o, none⟩ : Addr) (len * i.size) (fun j => arr.getD (L.base + o + j) undef) (fun j hj => by
              rw [cell_add (w := { w with drawn := d }) k1]
              obtain ⟨_, x, _, gx, _⟩ := k4 (o + j) (by omega)
              rw [show L.base + (o + j) = L.base + o + j by omega] at gx
              simp [gx])
            rw [p1] at f1
            rw [p3] at f2
            injection f1 with f1
            injection f2 with f2
            have : (⟨old⟩ : Array Value) = ⟨old2⟩ := f1.trans f2.symm
            injection this with this
            rw [this]
          · have a1 := p2.length
            have a2 := p4.length
            rw [List.getElem?_eq_none (by omega), List.getElem?_eq_none (by omega)]
        subst hsame
        simp only [Builtin.firstCells]
        rcases g5 with rfl | ⟨g5, _⟩
        · exact p3
        · have h0 : len = 0 := by omega
          subst h0
          have a1 := p2.length
          have : old2 = [] := List.length_eq_zero_iff.1 (by omega)
          subst this
          simp [loadCells, loadCellsFrom]
      -- in place
      have hplace : len + (n + 1) ≤ cap → a = ⟨L.blk, L.base + o, none⟩ := by
        intro hc
        rcases g5 with g5 | ⟨g5, _⟩
        · exact g5
        · omega
      have hoff : a = ⟨L.blk, L.base + o, none⟩ → (a.add (len * i.size)) = ⟨L.blk, L.base + o + len * i.size, none⟩ := by
        rintro rfl
        unfold Addr.add
        split
        · rename_i h0; rw [h0]; simp
        · rfl
      have hcm : cap * i.size + o ≤ L.cap := by rw [g3]; exact g4
      have hfit : len + (n + 1) ≤ cap → o + (len + (n + 1)) * i.size ≤ L.cap := by
        intro hc
        have := Nat.mul_le_mul_right i.size hc
        omega
      have hdist : (len + (n + 1)) * i.size = len * i.size + (n + 1) * i.size := Nat.add_mul _ _ _
      -- moved: the whole new row
      have moved : ∀ {l : List AV} {eto1 : Option TypeId} {k1 : Nat → Nat → AH → Option R} (heto1 : ∀ t, eto1 = some t → e = t) (h1' : AH) (hnx : h1'.next = h.next) (o1 : Out ρ h w ρ h1' w), cap < len + (n + 1) → (∃ c m rd frz, (∃ eto, h.get f = some (.cells c m rd frz eto)) ∧ rd ≤ v ∧ o + len * i.size ≤ v ∧ l.length = len * i.size ∧ ∀ j, j < len * i.size → c.get (o + j) = l[j]?) →
          newRowK h1' eto1 (l ++ new) k1 = some res →
          ∃ h', k1 h1'.next (l ++ new).length h' = some res ∧ h'.next = h.next + 1 ∧ (Fresh ρ h.next h'.next → ∃ v' w' ρ', (Builtin.append_ ts ty args).run P w = .ok v' w' ∧ VR ρ' (.sl h1'.next (l ++ new).length 0 (len + (n + 1)) i.size none) v' ∧ Out ρ h w ρ' h' w') := by
        intro l eto1 k1 heto1 h1' hnx o1 hc hl hk
        obtain ⟨old, p1, p2⟩ := hold hl
        obtain ⟨_, _, _, _, _, _, _, hll, _⟩ := hl
        obtain ⟨c, ⟨hc', hcM⟩, hrun⟩ := A.moves (old := old) (len := len) (cap := cap) (base := some a) rfl hc p2 hbytes
        obtain ⟨h', q1, q2, q3, q4⟩ := newRow_run (w := w) (h0 := h) e (eto := _) heto1 ((Builtin.zeroCells z.cells (c - (len + (n + 1)))).toList) o1.rep o1.af.wf (p1.append hv) hk
        refine ⟨h', q1, by omega, fun fr => ⟨_, _, upd ρ h1'.next (l ++ new).length ⟨w.heap.size, 0, (old ++ new' ++ (Builtin.zeroCells z.cells (c - (len + (n + 1)))).toList).length⟩, hrun, ?_, ?_⟩⟩
        rotate_left
        · have := q4 (w.drawn + 1) (by rw [hnx]; exact fr)
          exact Out.trans wf (fun F v a b => by omega) o1 this
        · have hext := hextra c (by omega) len
          have e0 := p1.length
          have e1 : (old ++ new' ++ (Builtin.zeroCells z.cells (c - (len + (n + 1)))).toList).length = c * i.size := by
            rw [List.length_append, List.length_append, hlen', hext, e0, hll, ← Nat.add_mul, ← Nat.add_mul]
            congr 1
            omega
          refine .sl (upd_same _ _ _ _) hsz hc' ?_ ?_ (by simp) (.inl (by simp)) hcM
          · rw [List.length_append, hll, hlen, ← Nat.add_mul]; omega
          · rw [Option.getD_none]; simp only; rw [e1]; omega
      cases lim with
      | some Lm =>
        dsimp only at hk
        cases hfits : Nat.ble (o + (len + (n + 1)) * i.size) Lm with
        | true =>
          rw [hfits] at hk
          simp only [cond_true] at hk
          have hfits' := (ble_iff _ _).1 hfits
          rw [Option.getD_some] at g3 g4
          have hc : len + (n + 1) ≤ cap := by
            have h3 : (len + (n + 1)) * i.size ≤ cap * i.size := by omega
            exact Nat.le_of_mul_le_mul_right h3 hsz
          split at hk
          · rename_i c m rd frz eto hg
            have hcond := (cond_some hk).1; replace hk := (cond_some hk).2
            obtain ⟨ha1, ha2⟩ := and_true hcond
            obtain ⟨ha3, ha4⟩ := and_true ha2
            have hvm := Nat.eq_of_beq_eq_true ha1
            have hfr := Nat.eq_of_beq_eq_true ha3
            have hfz : frz = false := by simpa using ha4
            subst hvm hfz
            obtain ⟨c', hk2, hc'⟩ := setCellsK_some new hk
            rw [fN_eq] at hk2
            obtain ⟨h', hk3, hnx, af, ht', hget⟩ := putK_some wf (by rw [hg]; rfl) hk2
            obtain ⟨b1, b2⟩ := r.cellsF _ _ _ _ _ _ hg
            obtain ⟨b3, b4⟩ := b2 v L hL
            obtain ⟨arr, et, fz, k1, k2, k3, k4, k5⟩ := b4 b1
            have hae := hplace hc
            obtain ⟨cur', q1, q2, q3⟩ := run_storeCells_am (P := P) L.blk (L.base + o + len * i.size) et fz new' 0 arr w k1 (k5 ⟨rfl, rfl⟩).weak (by rw [hlen']; omega) hone
            refine ⟨_, h', hk3, by omega, fun fr => ⟨.slice (some a) (len + (n + 1)) cap, { w with heap := w.heap.setIfInBounds L.blk (.cells cur' et fz) }, upd ρ f (Nat.add v new.length) L, ?_, ?_, ?_⟩⟩
            rotate_left
            · refine .sl (upd_same _ _ _ _) hsz hc ?_ (by rw [Option.getD_some]; exact g3) (by rw [Option.getD_some]; exact g4) (.inl hae) g6
              show o + (len + (n + 1)) * i.size ≤ v + new.length
              omega
            · refine Out.growIn (c' := c') (m' := v + new.length) r wf af ht' hg (fun t ht => ht) hL hget k1 k2 (by rw [hlen]; have := Nat.mul_pos (Nat.succ_pos n) hsz; show v < v + (n + 1) * i.size; simp only [Nat.succ_eq_add_one] at this; omega)
                (by omega) rfl q2 (k5 ⟨rfl, rfl⟩) (setCells_get hc') (fun j hj => by rw [q3 j, if_neg (by omega)]) fun j hj => ?_
              rw [hc' j, q3]
              by_cases h4 : v ≤ j ∧ j < v + new.length
              · rw [if_pos h4, if_pos (by rw [hv.length]; omega)]
                have hj2 : j - v < new.length := by omega
                obtain ⟨y, y1, y2⟩ := hv.get (List.getElem?_eq_getElem hj2)
                exact ⟨_, y, List.getElem?_eq_getElem hj2, by rw [show L.base + j - (L.base + o + len * i.size + 0) = j - v by omega]; exact y1, y2⟩
              · rw [if_neg h4, if_neg (by rw [hv.length]; omega)]
                exact k4 j (by omega)
            · rw [A.fits rfl hc, hoff hae, q1]
              rfl
          · cases hk
        | false =>
          rw [hfits] at hk
          simp only [cond_false] at hk
          have hfits' : ¬ (o + (len + (n + 1)) * i.size ≤ Lm) := fun hh => by
            rw [(ble_iff _ _).2 hh] at hfits; cases hfits
          rw [Option.getD_some] at g3 g4
          have hc : cap < len + (n + 1) := by
            rcases Nat.lt_or_ge cap (len + (n + 1)) with hh | hh
            · exact hh
            · have := Nat.mul_le_mul_right i.size hh
              omega
          obtain ⟨c, m, rd, frz, l, e1, e2, e3, e4, e5, e6, e7⟩ := loadK_some hk
          rw [appL_eq] at e7
          obtain ⟨h', q1, q2, q3⟩ := moved (fun t ht => by injection ht) h rfl (.refl r wf) hc ⟨c, m, rd, frz, e1, e2, e4, e5, e6⟩ e7
          exact ⟨_, h', q1, by omega, q3⟩
      | none =>
        dsimp only at hk
        split at hk
        · rename_i c m rd frz eto hg
          obtain ⟨b1, b2⟩ := r.cellsF _ _ _ _ _ _ hg
          obtain ⟨b3, b4⟩ := b2 v L hL
          rw [Option.getD_none] at g3 g4
          cases hfront : and (Nat.beq o 0) (and (Nat.beq v m) (Nat.beq (len * i.size) m)) with
          | true =>
            rw [hfront] at hk
            simp only [cond_true] at hk
            obtain ⟨ha1, ha2⟩ := and_true hfront
            obtain ⟨ha3, ha4⟩ := and_true ha2
            have ho0 := Nat.eq_of_beq_eq_true ha1
            have hvm := Nat.eq_of_beq_eq_true ha3
            have hfr := Nat.eq_of_beq_eq_true ha4
            subst ho0 hvm
            cases frz with
            | true => cases hk
            | false =>
            simp only [cond_false] at hk
            obtain ⟨c', hk2, hc'⟩ := setCellsK_some new hk
            rw [fN_eq] at hk2
            obtain ⟨h', hk3, hnx, af, ht', hget⟩ := putK_some wf (by rw [hg]; rfl) hk2
            obtain ⟨arr, et, fz, k1, k2, k3, k4, k5⟩ := b4 b1
            have hpos : 0 < new.length := by
              rw [hlen]; exact Nat.mul_pos (Nat.succ_pos n) hsz
            by_cases hc : len + (n + 1) ≤ cap
            · have hae := hplace hc
              have hfit' := hfit hc
              obtain ⟨cur', q1, q2, q3⟩ := run_storeCells_am (P := P) L.blk (L.base + 0 + len * i.size) et fz new' 0 arr w k1 (k5 ⟨rfl, rfl⟩).weak (by rw [hlen']; omega) hone
              refine ⟨_, h', hk3, by omega, fun fr => ⟨.slice (some a) (len + (n + 1)) cap, { w with heap := w.heap.setIfInBounds L.blk (.cells cur' et fz) }, upd ρ f (Nat.add v new.length) L, ?_, ?_, ?_⟩⟩
              rotate_left
              · refine .sl (upd_same _ _ _ _) hsz hc ?_ (by rw [Option.getD_none]; exact g3) (by rw [Option.getD_none]; exact g4) (.inl hae) g6
                show 0 + (len + (n + 1)) * i.size ≤ v + new.length
                omega
              · refine Out.growIn (c' := c') (m' := v + new.length) r wf af ht' hg (fun t ht => (keepEt_some ht).1) hL hget k1 k2 (by omega)
                  (by omega) rfl q2 (k5 ⟨rfl, rfl⟩) (setCells_get hc') (fun j hj => by rw [q3 j, if_neg (by omega)]) fun j hj => ?_
                rw [hc' j, q3]
                by_cases h4 : v ≤ j ∧ j < v + new.length
                · rw [if_pos h4, if_pos (by rw [hv.length]; omega)]
                  have hj2 : j - v < new.length := by omega
                  obtain ⟨y, y1, y2⟩ := hv.get (List.getElem?_eq_getElem hj2)
                  exact ⟨_, y, List.getElem?_eq_getElem hj2, by rw [show L.base + j - (L.base + 0 + len * i.size + 0) = j - v by omega]; exact y1, y2⟩
                · rw [if_neg h4, if_neg (by rw [hv.length]; omega)]
                  exact k4 j (by omega)
              · rw [A.fits rfl hc, hoff hae, q1]
                rfl
            · -- it moves
              have hl : ∃ l : List AV, l.length = len * i.size ∧ ∀ j, j < len * i.size → c.get (0 + j) = l[j]? := by
                have : ∀ q, q ≤ v → ∃ l : List AV, l.length = q ∧ ∀ j, j < q → c.get (0 + j) = l[j]? := by
                  intro q
                  induction q with
                  | zero => intro _; exact ⟨[], rfl, fun j hj => by omega⟩
                  | succ q ih =>
                    intro hq
                    obtain ⟨l, l1, l2⟩ := ih (by omega)
                    obtain ⟨a, _, y1, _, _⟩ := k4 q (by omega)
                    refine ⟨l ++ [a], by simp [l1], fun j hj => ?_⟩
                    rcases Nat.lt_or_ge j q with h3 | h3
                    · rw [l2 j h3, List.getElem?_append_left (by omega)]
                    · obtain rfl : j = q := by omega
                      rw [List.getElem?_append_right (by omega), l1, Nat.zero_add, y1]
                      simp
                exact this _ (by omega)
              obtain ⟨l, l1, l2⟩ := hl
              obtain ⟨old, p1, p2⟩ := hold ⟨c, v, rd, false, ⟨_, hg⟩, b1, by omega, l1, l2⟩
              obtain ⟨cc, ⟨hc2, hcM⟩, hrun⟩ := A.moves (old := old) (len := len) (cap := cap) (base := some a) rfl (by omega) p2 hbytes
              have hext := hextra cc (by omega) len
              have e0 := p1.length
              have e1 : (old ++ new' ++ (Builtin.zeroCells z.cells (cc - (len + (n + 1)))).toList).length = cc * i.size := by
                rw [List.length_append, List.length_append, hlen', hext, e0, l1, ← Nat.add_mul, ← Nat.add_mul]
                congr 1
                omega
              refine ⟨_, h', hk3, by omega, fun fr => ⟨_, _, upd ρ f (Nat.add v new.length) ⟨w.heap.size, 0, (old ++ new' ++ (Builtin.zeroCells z.cells (cc - (len + (n + 1)))).toList).length⟩, hrun, ?_, ?_⟩⟩
              · refine .sl (upd_same _ _ _ _) hsz hc2 ?_ ?_ (by simp) (.inl (by simp)) hcM
                · show 0 + (len + (n + 1)) * i.size ≤ v + new.length; omega
                · rw [Option.getD_none]; simp only; rw [e1]; omega
              · have happ := p1.append hv
                refine Out.growMove (arr' := ⟨old ++ new' ++ (Builtin.zeroCells z.cells (cc - (len + (n + 1)))).toList⟩) (c' := c') (m' := v + new.length) r wf af ht' hg (fun t ht => ⟨(keepEt_some ht).1, (keepEt_some ht).2.symm⟩) hget (by omega) rfl
                  (by show v + new.length ≤ (old ++ new' ++ _).length; rw [List.length_append, List.length_append, e0, hv.length]; omega) (setCells_get hc') fun j hj => ?_
                rw [hc' j, arr_get]
                have hll : (l ++ new).length = v + new.length := by rw [List.length_append, l1]; omega
                obtain ⟨y, y1, y2⟩ := happ.get (List.getElem?_eq_getElem (show j < (l ++ new).length by omega))
                refine ⟨(l ++ new)[j], y, ?_, ?_, y2⟩
                · by_cases h4 : v ≤ j ∧ j < v + new.length
                  · rw [if_pos h4, ← List.getElem?_eq_getElem, List.getElem?_append_right (by omega)]
                    congr 1
                    omega
                  · rw [if_neg h4, ← List.getElem?_eq_getElem, List.getElem?_append_left (by omega), ← l2 j (by omega)]
                    congr 1
                    omega
                · rw [List.getElem?_append_left (by rw [List.length_append, e0, hv.length]; omega)]
                  exact y1
          | false =>
            rw [hfront] at hk
            simp only [cond_false] at hk
            have hcond := (cond_some hk).1; replace hk := (cond_some hk).2
            obtain ⟨ha1, ha2⟩ := and_true hcond
            have hvm := Nat.eq_of_beq_eq_true ha1
            have hfz : frz = false := by simpa using ha2
            subst hvm hfz
            obtain ⟨c2, m2, rd2, frz2, l, e1, e2, e3, e4, e5, e6, e7⟩ := loadK_some hk
            obtain ⟨eto9, e1⟩ := e1
            rw [hg] at e1
            injection e1 with e1
            injection e1 with i1 i2 i3 i4 i5
            subst i1 i2 i3 i4 i5
            rw [appL_eq] at e7
            obtain ⟨h1', e8, hnx, af, ht', hget⟩ := putK_some wf (by rw [hg]; rfl) e7
            have o1 : Out ρ h w ρ h1' w := Out.kill r wf af hget
            by_cases hc : len + (n + 1) ≤ cap
            · obtain ⟨c', h', z1, z2, z3, z4, z5, z6⟩ := newRowK_some o1.af.wf e8
              obtain ⟨arr, et, fz, k1, k2, k3, k4, k5⟩ := b4 b1
              have hae := hplace hc
              have hfit' := hfit hc
              obtain ⟨cur', q1, q2, q3⟩ := run_storeCells_am (P := P) L.blk (L.base + o + len * i.size) et fz new' 0 arr w k1 (k5 ⟨rfl, rfl⟩).weak (by rw [hlen']; omega) hone
              have hll : (l ++ new).length = (len + (n + 1)) * i.size := by rw [List.length_append, e5, hlen]; omega
              refine ⟨_, h', z6, by omega, fun fr => ⟨.slice (some a) (len + (n + 1)) cap, { w with heap := w.heap.setIfInBounds L.blk (.cells cur' et fz) }, upd ρ h.next (l ++ new).length ⟨L.blk, L.base + o, L.cap - o⟩, ?_, ?_, ?_⟩⟩
              rotate_left
              · rw [hnx]
                refine .sl (upd_same _ _ _ _) hsz hc (by rw [hll]; omega) ?_ (by simp) (.inl (by rw [hae]; simp)) g6
                rw [Option.getD_none]
                simp only
                omega
              · have af2 := af.trans wf z3
                refine Out.cutIn (c' := c') (n := (l ++ new).length) (o := o) (eto' := keepEtO o eto e) r wf (fun t ht => (keepEtO_some ht).1) fr af2 (ht'.mono1 af z3) (by omega) hg hL (fun F => ?_) k1 k2 (by rw [hll]; omega) rfl q2 (k5 ⟨rfl, rfl⟩) fun j hj => ?_
                · rw [z4 F, hnx]
                  split
                  · rfl
                  · exact hget F
                · rw [z1 j, q3]
                  by_cases h4 : len * i.size ≤ j
                  · rw [if_pos (by rw [hv.length]; omega)]
                    have hj2 : j - l.length < new.length := by
                      rw [List.length_append] at hj; omega
                    obtain ⟨y, y1, y2⟩ := hv.get (List.getElem?_eq_getElem hj2)
                    refine ⟨_, y, by rw [List.getElem?_append_right (by omega)]; exact List.getElem?_eq_getElem hj2, ?_, y2⟩
                    rw [show L.base + o + j - (L.base + o + len * i.size + 0) = j - l.length by omega]
                    exact y1
                  · rw [if_neg (by omega), List.getElem?_append_left (by omega), ← e6 j (by show j < len * i.size; omega)]
                    have := k4 (o + j) (by have : o + Nat.mul len i.size ≤ v := e4; simp only [hmul] at this; omega)
                    rw [show L.base + (o + j) = L.base + o + j by omega] at this
                    exact this
              · rw [A.fits rfl hc, hoff hae, q1]
                rfl
            · obtain ⟨h', q1, q2, q3⟩ := moved (fun t ht => (keepEtO_some ht).2) h1' hnx o1 (by omega) ⟨c, v, rd, false, ⟨_, hg⟩, e2, e4, e5, e6⟩ e8
              exact ⟨_, h', q1, by omega, q3⟩
        · cases hk
    | _ => cases hk
end
end Go.Proofs.YtcigfmnkfelhjaaDoor.Am
