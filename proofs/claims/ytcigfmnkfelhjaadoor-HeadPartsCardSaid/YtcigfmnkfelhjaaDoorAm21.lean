/- The abstract machine: where a row of bytes first stands in another, by the library's contract. -/
import Derived.Test.YtcigfmnkfelhjaaDoorAm20
import Derived.Lib.Index
set_option linter.unusedVariables false
namespace Go.Proofs.YtcigfmnkfelhjaaDoor.Am
open Go Go.RowKit

def pfx : List Nat → List Nat → Bool
  | [], _ => true
  | _ :: _, [] => false
  | a :: x, b :: y => cond (Nat.beq a b) (pfx x y) false
def idxL (p : List Nat) : List Nat → Nat → Int
  | [], i => cond (pfx p []) (.ofNat i) (.negSucc 0)
  | a :: r, i => cond (pfx p (a :: r)) (.ofNat i) (idxL p r (Nat.succ i))
/-- The numbers of bytes, just below 256. -/
noncomputable def rowK {R : Type} (h : AH) (x : AV) (k : List Nat → Option R) : Option R := match x with
  | .nilsl => k []
  | .sl f v o len esz _ => cond (Nat.beq esz 1) (loadK h f v o len fun cs => toNumsK cs k) none
  | _ => none
/-- The variable g holds some int (or one). -/
noncomputable def someI {R : Type} (h : AH) (g : Nat) (k : Option R) : Option R := loadK h g 1 0 1 fun cs => match cs with
  | [.unk .i64] => k
  | _ => none
noncomputable def ovIndex (g : Nat) (args : List AV) (h : AH) : Option (AV × AH) := match args with
  | [x, y] => someI h g (rowK h x fun l => rowK h y fun p => cond (Nat.blt l.length 4294967281) (cond (Nat.blt p.length 4294967281) (fI (idxL p l 0) fun n => some (.int .i64 n, h)) none) none)
  | _ => none

def u8s (l : List Nat) : List UInt8 := l.map Nat.toUInt8
theorem pfx_eq : ∀ (p l : List Nat), (∀ x ∈ p, x < 256) → (∀ x ∈ l, x < 256) → pfx p l = (u8s p).isPrefixOf (u8s l)
  | [], l, _, _ => by cases l <;> rfl
  | _ :: _, [], _, _ => rfl
  | a :: x, b :: y, hp, hl => by
    simp only [pfx, u8s, List.map_cons, List.isPrefixOf]
    have ha := hp a List.mem_cons_self
    have hb := hl b List.mem_cons_self
    have ih := pfx_eq x y (fun z hz => hp z (List.mem_cons_of_mem _ hz)) (fun z hz => hl z (List.mem_cons_of_mem _ hz))
    have hab : Nat.beq a b = (a.toUInt8 == b.toUInt8) := by
      rw [Bool.eq_iff_iff, beq_iff_eq]
      constructor
      · intro h; rw [Nat.eq_of_beq_eq_true h]
      · intro h
        have h2 : a.toUInt8.toNat = b.toUInt8.toNat := by rw [h]
        simp at h2
        have : a = b := by omega
        subst this
        exact Nat.beq_refl a
    rw [hab, ih]
    cases (a.toUInt8 == b.toUInt8) <;> simp [u8s]
theorem idxL_eq (p : List Nat) (hp : ∀ x ∈ p, x < 256) : ∀ (l : List Nat) (i : Nat), (∀ x ∈ l, x < 256) → idxL p l i = if Lib.index (u8s l) (u8s p) = -1 then -1 else Lib.index (u8s l) (u8s p) + i
  | [], i, _ => by
    simp only [idxL, u8s, List.map_nil, Lib.index]
    cases p with
    | nil => simp [pfx]
    | cons a r => simp [pfx]
  | a :: r, i, hl => by
    have ih := idxL_eq p hp r (i + 1) fun z hz => hl z (List.mem_cons_of_mem _ hz)
    simp only [idxL]
    rw [pfx_eq p (a :: r) hp hl]
    have hA : (u8s p).isPrefixOf (u8s (a :: r)) = true → Lib.index (u8s (a :: r)) (u8s p) = 0 := fun hh => by
      have hh' : (u8s p).isPrefixOf (a.toUInt8 :: u8s r) = true := hh
      show Lib.index (a.toUInt8 :: u8s r) (u8s p) = 0
      simp [Lib.index, hh']
    have hB : (u8s p).isPrefixOf (u8s (a :: r)) = false → Lib.index (u8s (a :: r)) (u8s p) = if Lib.index (u8s r) (u8s p) = -1 then -1 else Lib.index (u8s r) (u8s p) + 1 := fun hh => by
      have hh' : (u8s p).isPrefixOf (a.toUInt8 :: u8s r) = false := hh
      show Lib.index (a.toUInt8 :: u8s r) (u8s p) = _
      simp [Lib.index, hh']
    have hge := Lib.index_ge (u8s r) (u8s p)
    generalize Lib.index (u8s (a :: r)) (u8s p) = z at hA hB
    rw [show Nat.succ i = i + 1 from rfl, ih]
    generalize Lib.index (u8s r) (u8s p) = y at hB hge
    cases hpre : (u8s p).isPrefixOf (u8s (a :: r)) with
    | true =>
      rw [hA hpre]
      simp
    | false =>
      rw [hB hpre]
      simp only [cond_false]
      by_cases h1 : y = -1
      · simp [h1]
      · rw [if_neg h1, if_neg h1, if_neg (by omega)]
        omega

section
variable {P : Program} {gl : Gl P} {ρ : Rho} {h : AH} {w : World}
theorem rowK_some {R : Type} {x : AV} {x' : Value} {k : List Nat → Option R} {res : R} (r : Rep ρ h.get w) (hx : VR ρ x x') (hk : rowK h x k = some res) :
    ∃ l : List Nat, (∀ x ∈ l, x < 256) ∧ k l = some res ∧ ((l = [] ∧ x' = .slice none 0 0) ∨ ∃ a cap, x' = .slice (some a) l.length cap ∧ l.length ≤ cap ∧ ∀ i, i < l.length → w.cell? (a.add i) = some (.int .u8 (.ofNat (l.getD i 0))) ∧ (∃ b q, a = ⟨b, q, none⟩)) := by
  unfold rowK at hk
  split at hk
  · cases hx
    exact ⟨[], fun x hx => (by cases hx), hk, .inl ⟨rfl, rfl⟩⟩
  · rename_i f v q len esz lim
    have h1 := Nat.eq_of_beq_eq_true (cond_some hk).1
    replace hk := (cond_some hk).2
    subst h1
    cases hx with
    | @sl _ _ _ _ _ _ L ad cap hL g0 g1 g2 g3 g4 g5 g6 =>
    obtain ⟨c, m, rd, frz, l, e1, e2, e3, e4, e5, e6, e7⟩ := loadK_some hk
    obtain ⟨ns, n1, n2, n3⟩ := toNumsK_some _ e7
    subst n1
    obtain ⟨l', p1, p2, p3⟩ := load_at r e1 hL e2 e4 e5 e6
    have hl' := VRL.ints (ns := ns.map Int.ofNat) (by rw [List.map_map]; exact p3)
    have hlen : len = ns.length := by rw [← e5]; simp
    subst hlen
    refine ⟨ns, n2, n3, .inr ⟨ad, cap, rfl, g1, fun i hi => ?_⟩⟩
    have had : ad = ⟨L.blk, L.base + q, none⟩ := by
      rcases g5 with g5 | ⟨g5, _⟩
      · exact g5
      · omega
    refine ⟨?_, _, _, had⟩
    rw [had]
    refine p1 i _ ?_
    rw [hl']
    simp [List.getD_eq_getElem?_getD, List.getElem?_eq_getElem hi]
  · cases hk
theorem someI_some {R : Type} {g : Nat} {k : Option R} {res : R} (hk : someI h g k = some res) : k = some res ∧ ∀ {ρ : Rho} {w : World} {C : Nat}, Rep ρ h.get w → ρ g 1 = some ⟨g, 0, C⟩ → ∃ m, w.cell? ⟨g, 0, none⟩ = some (.int .i64 m) := by
  obtain ⟨c, m, rd, frz, l, e1, e2, e3, e4, e5, e6, e7⟩ := loadK_some hk
  split at e7
  · refine ⟨e7, fun r hL => ?_⟩
    obtain ⟨l', p1, p2, p3⟩ := load_at r e1 hL e2 e4 e5 e6
    cases p3 with
    | @cons _ x' _ _ hv h2 =>
    cases hv with
    | unk _ n =>
    exact ⟨n, by simpa [Addr.add] using p1 0 _ rfl⟩
  · cases e7
theorem u8s_bytesOf (l : List Nat) : Lib.bytesOf (l.map Int.ofNat) = u8s l := by
  simp [Lib.bytesOf, u8s, Function.comp_def]
/-- What the library's contract of bytes.Index says. -/
structure IdxCon (P : Program) (f : FuncId) (g : Nat) : Prop where
  none : ∀ (p q : Option Addr) (n c d : Nat) (w : World), Calls P f #[.slice p n c, .slice q 0 d] w fun e w' => e = .returned (.int .i64 0) ∧ w' = w
  nil : ∀ (p2 : Option Addr) (k c2 : Nat) (w : World), k ≤ 9223372036854775807 → (k = 1 → ∃ b2 o2 cv, p2 = some ⟨b2, o2, .none⟩ ∧ w.cell? ⟨b2, o2, .none⟩ = some (.int .u8 cv)) →
    Calls P f #[.slice .none 0 0, .slice p2 k c2] w fun e w' => e = .returned (.int .i64 (if k = 0 then 0 else -1)) ∧ w' = w
  full : ∀ (a1 a2 : Addr) (n c1 k c2 : Nat) (xs ys : List Int) (m : Int) (w : World), xs.length = n → ys.length = k → (∀ x ∈ xs, 0 ≤ x ∧ x < 256) → (∀ y ∈ ys, 0 ≤ y ∧ y < 256) →
    (∀ i, i < n → w.cell? (a1.add i) = some (.int .u8 (xs.getD i 0))) → (∀ i, i < k → w.cell? (a2.add i) = some (.int .u8 (ys.getD i 0))) → n ≤ c1 → n < 4294967281 → k ≤ 9223372036854775807 → w.cell? ⟨g, 0, .none⟩ = some (.int .i64 m) →
    Calls P f #[.slice (some a1) n c1, .slice (some a2) k c2] w fun e w' => e = .returned (.int .i64 (Lib.index (Lib.bytesOf xs) (Lib.bytesOf ys))) ∧ w' = { w with drawn := w'.drawn }

theorem ovIndex_ok {gl : Gl P} {f : FuncId} {g : Nat} (C : IdxCon P f g) (hgl : gl.gl g = some 1) (args : List AV) (h : AH) (v : AV) (h' : AH) (e : ovIndex g args h = some (v, h')) :
    (Wf h → AF h h') ∧ ∀ ρ w args', Rep ρ h.get w → Wf h → GlobOK ρ gl → VRL ρ args args' → Fresh ρ h.next h'.next →
    Calls P f ⟨args'⟩ w (fun e w' => ∃ x ρ', e = .returned x ∧ VR ρ' v x ∧ Out ρ h w ρ' h' w') := by
  unfold ovIndex at e
  split at e
  · rename_i x y
    obtain ⟨e1, hi⟩ := someI_some e
    have hh : h = h' := by
      -- the memory is handed on
      have key : ∀ {l p : List Nat}, cond (Nat.blt l.length 4294967281) (cond (Nat.blt p.length 4294967281) (fI (idxL p l 0) fun n => some (AV.int .i64 n, h)) none) none = some (v, h') → h = h' := by
        intro l p hk
        have hk := (cond_some (cond_some hk).2).2
        rw [fI_eq] at hk
        injection hk with hk
        injection hk with _ hk
      obtain ⟨l, e2⟩ : ∃ l, rowK h y (fun p => cond (Nat.blt l.length 4294967281) (cond (Nat.blt p.length 4294967281) (fI (idxL p l 0) fun n => some (AV.int .i64 n, h)) none) none) = some (v, h') := by
        unfold rowK at e1
        split at e1
        · exact ⟨_, e1⟩
        · obtain ⟨_, _, _, _, _, _, _, _, _, _, _, e7⟩ := loadK_some (cond_some e1).2
          obtain ⟨ns, _, _, n3⟩ := toNumsK_some _ e7
          exact ⟨ns, n3⟩
        · cases e1
      unfold rowK at e2
      split at e2
      · exact key e2
      · obtain ⟨_, _, _, _, _, _, _, _, _, _, _, e7⟩ := loadK_some (cond_some e2).2
        obtain ⟨ns, _, _, n3⟩ := toNumsK_some _ e7
        exact key n3
      · cases e2
    subst hh
    refine ⟨fun wf => .refl wf, fun ρ w args' r wf hg ha fr => ?_⟩
    cases ha with
    | @cons _ x' _ _ hx ha2 =>
    cases ha2 with
    | @cons _ y' _ _ hy ha3 =>
    cases ha3
    obtain ⟨C0, hC0⟩ := hg g 1 hgl
    obtain ⟨m, hm⟩ := hi r hC0
    obtain ⟨l, l1, l2, l3⟩ := rowK_some r hx e1
    obtain ⟨p, p1, p2, p3⟩ := rowK_some r hy l2
    have hl := of_decide_eq_true ((blt_eq _ _) ▸ (cond_some p2).1)
    have hp := of_decide_eq_true ((blt_eq _ _) ▸ (cond_some (cond_some p2).2).1)
    have hv := (cond_some (cond_some p2).2).2
    rw [fI_eq] at hv
    injection hv with hv
    injection hv with hv _
    subst hv
    rw [idxL_eq p p1 l 0 l1]
    have out : ∀ (z : Int) (w' : World), w' = { w with drawn := w'.drawn } → z = (if Lib.index (u8s l) (u8s p) = -1 then -1 else Lib.index (u8s l) (u8s p) + ((0 : Nat) : Int)) →
        ∃ x ρ', Ending.returned (.int .i64 z) = .returned x ∧ VR ρ' (.int .i64 (if Lib.index (u8s l) (u8s p) = -1 then -1 else Lib.index (u8s l) (u8s p) + ((0 : Nat) : Int))) x ∧ Out ρ h w ρ' h w' := by
      intro z w' hw hz
      subst hz
      exact ⟨_, ρ, rfl, .int _ _, Out.drew r wf hw⟩
    have hidx : Lib.index (u8s l) (u8s p) = (if Lib.index (u8s l) (u8s p) = -1 then -1 else Lib.index (u8s l) (u8s p) + ((0 : Nat) : Int)) := by
      split
      · assumption
      · omega
    rcases p3 with ⟨rfl, rfl⟩ | ⟨a2, c2, rfl, p4, p5⟩
    · have hz : Lib.index (u8s l) (u8s []) = 0 := by cases l <;> simp [u8s, Lib.index]
      rcases l3 with ⟨rfl, rfl⟩ | ⟨a1, c1, rfl, l4, l5⟩
      · refine (C.none .none .none 0 0 0 w).mono ?_
        rintro e w' ⟨rfl, rfl⟩
        exact out _ _ rfl (by rw [← hidx, hz])
      · refine (C.none (some a1) .none l.length c1 0 w).mono ?_
        rintro e w' ⟨rfl, rfl⟩
        exact out _ _ rfl (by rw [← hidx, hz])
    · rcases l3 with ⟨rfl, rfl⟩ | ⟨a1, c1, rfl, l4, l5⟩
      · refine (C.nil (some a2) p.length c2 w (by omega) fun hk => ?_).mono ?_
        · obtain ⟨q1, b, q, rfl⟩ := p5 0 (by omega)
          exact ⟨b, q, _, rfl, by simpa [Addr.add] using q1⟩
        · rintro e w' ⟨rfl, rfl⟩
          refine out _ _ rfl ?_
          rw [← hidx]
          cases p <;> simp [u8s, Lib.index]
      · refine (C.full a1 a2 l.length c1 p.length c2 (l.map Int.ofNat) (p.map Int.ofNat) m w (by simp) (by simp) (fun x hx => ?_) (fun x hx => ?_) (fun i hi => ?_) (fun i hi => ?_) l4 hl (by omega) hm).mono ?_
        · obtain ⟨n, n1, rfl⟩ := List.mem_map.1 hx
          have := l1 n n1
          exact ⟨Int.natCast_nonneg n, by show (n : Int) < 256; omega⟩
        · obtain ⟨n, n1, rfl⟩ := List.mem_map.1 hx
          have := p1 n n1
          exact ⟨Int.natCast_nonneg n, by show (n : Int) < 256; omega⟩
        · rw [(l5 i hi).1]
          simp [List.getD_eq_getElem?_getD, List.getElem?_map, List.getElem?_eq_getElem hi]
        · rw [(p5 i hi).1]
          simp [List.getD_eq_getElem?_getD, List.getElem?_map, List.getElem?_eq_getElem hi]
        · rintro e w' ⟨rfl, hq⟩
          rw [u8s_bytesOf, u8s_bytesOf]
          exact out _ _ hq hidx
  · cases e
theorem ofBytes_lt : ∀ (l : List UInt8), ∀ x ∈ ofBytes l, x < 256
  | [], x, h => by cases h
  | b :: l, x, h => by
    rcases List.mem_cons.1 h with rfl | h
    · exact b.toNat_lt
    · exact ofBytes_lt l x h
theorem u8s_ofBytes : ∀ (l : List UInt8), u8s (ofBytes l) = l
  | [] => rfl
  | b :: l => by
    show b.toNat.toUInt8 :: u8s (ofBytes l) = b :: l
    rw [u8s_ofBytes l]
    simp
noncomputable def ovIndexS (g : Nat) (args : List AV) (h : AH) : Option (AV × AH) := match args with
  | [.str l, .str p] => someI h g (cond (Nat.blt l.length 4294967281) (fI (idxL p l 0) fun n => some (.int .i64 n, h)) none)
  | _ => none
/-- What the library's contract of strings.Index says. -/
def IdxConS (P : Program) (f : FuncId) (g : Nat) : Prop := ∀ (s t : ByteArray) (m : Int) (w : World), s.size < 4294967281 → w.cell? ⟨g, 0, none⟩ = some (.int .i64 m) →
  Calls P f #[.string s, .string t] w fun e w' => e = .returned (.int .i64 (Lib.index s.data.toList t.data.toList)) ∧ w' = w
theorem ovIndexS_ok {gl : Gl P} {f : FuncId} {g : Nat} (C : IdxConS P f g) (hgl : gl.gl g = some 1) (args : List AV) (h : AH) (v : AV) (h' : AH) (e : ovIndexS g args h = some (v, h')) :
    (Wf h → AF h h') ∧ ∀ ρ w args', Rep ρ h.get w → Wf h → GlobOK ρ gl → VRL ρ args args' → Fresh ρ h.next h'.next →
    Calls P f ⟨args'⟩ w (fun e w' => ∃ x ρ', e = .returned x ∧ VR ρ' v x ∧ Out ρ h w ρ' h' w') := by
  unfold ovIndexS at e
  split at e
  · rename_i l p
    obtain ⟨e1, hi⟩ := someI_some e
    have hl := of_decide_eq_true ((blt_eq _ _) ▸ (cond_some e1).1)
    have hv := (cond_some e1).2
    rw [fI_eq] at hv
    injection hv with hv
    injection hv with hv hh
    subst hv hh
    refine ⟨fun wf => .refl wf, fun ρ w args' r wf hg ha fr => ?_⟩
    cases ha with
    | @cons _ x' _ _ hx ha2 =>
    cases ha2 with
    | @cons _ y' _ _ hy ha3 =>
    cases ha3
    cases hx with
    | str s =>
    cases hy with
    | str t =>
    obtain ⟨C0, hC0⟩ := hg g 1 hgl
    obtain ⟨m, hm⟩ := hi r hC0
    rw [idxL_eq _ (ofBytes_lt _) _ 0 (ofBytes_lt _), u8s_ofBytes, u8s_ofBytes]
    have hidx : Lib.index s.data.toList t.data.toList = (if Lib.index s.data.toList t.data.toList = -1 then -1 else Lib.index s.data.toList t.data.toList + ((0 : Nat) : Int)) := by
      split
      · assumption
      · omega
    rw [← hidx]
    refine (C s t m w (by rw [ofBytes_length] at hl; exact hl) hm).mono ?_
    rintro e w' ⟨rfl, rfl⟩
    exact ⟨_, ρ, rfl, .int _ _, Out.refl r wf⟩
  · cases e
end
end Go.Proofs.YtcigfmnkfelhjaaDoor.Am
