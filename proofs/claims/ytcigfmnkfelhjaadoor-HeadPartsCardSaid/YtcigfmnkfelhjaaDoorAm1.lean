/- The abstract machine's memory: what its steps do, as relations. -/
import Derived.Test.YtcigfmnkfelhjaaDoorAm0
set_option linter.unusedVariables false
namespace Go.Proofs.YtcigfmnkfelhjaaDoor.Am
open Go

section
variable {α R : Type}
theorem fN_eq (n : Nat) (k : Nat → R) : fN n k = k n := by cases n <;> rfl
theorem fI_eq (n : Int) (k : Int → R) : fI n k = k n := by cases n <;> simp [fI, fN_eq]

theorem cond_beq (a b : Nat) (x y : R) : cond (Nat.beq a b) x y = if a = b then x else y := by
  cases hb : Nat.beq a b with
  | true => rw [if_pos (Nat.eq_of_beq_eq_true hb)]; rfl
  | false => rw [if_neg (Nat.ne_of_beq_eq_false hb)]; rfl

/-! ## Digits -/
instance : DecidableEq D4 := fun x y => by
  cases x <;> cases y <;> first | exact isTrue rfl | exact isFalse (fun h => by cases h)
def D4.val : D4 → Nat
  | .a => 0 | .b => 1 | .c => 2 | .d => 3
def pathVal : List D4 → Nat
  | [] => 0
  | x :: l => 4 * pathVal l + x.val + 1
theorem pathF_val : ∀ (k n : Nat), n ≤ k → pathVal (pathF k n) = n
  | 0, n, h => by
    have : n = 0 := by omega
    subst this; rfl
  | k + 1, n, h => by
    show pathVal (cond (Nat.beq n 0) [] (List.cons (cond (Nat.beq (Nat.mod (Nat.pred n) 4) 0) .a (cond (Nat.beq (Nat.mod (Nat.pred n) 4) 1) .b (cond (Nat.beq (Nat.mod (Nat.pred n) 4) 2) .c .d))) (pathF k (Nat.div (Nat.pred n) 4)))) = n
    rw [cond_beq]
    split
    · rename_i h0; rw [h0]; rfl
    · rename_i h0
      have hm : Nat.mod (Nat.pred n) 4 = (n - 1) % 4 := rfl
      have hd : Nat.div (Nat.pred n) 4 = (n - 1) / 4 := rfl
      have ih := pathF_val k ((n - 1) / 4) (by omega)
      rw [cond_beq, cond_beq, cond_beq, hm, hd]
      simp only [pathVal, ih]
      split
      · simp only [D4.val]; omega
      · split
        · simp only [D4.val]; omega
        · split
          · simp only [D4.val]; omega
          · simp only [D4.val]; omega
theorem path_inj {m n : Nat} (h : path m = path n) : m = n := by
  have h1 := pathF_val m m (Nat.le_refl _)
  have h2 := pathF_val n n (Nat.le_refl _)
  unfold path at h
  rw [← h1, h, h2]

/-! ## Trees -/
def Tr.setP (v : α) : List D4 → Tr α → Tr α
  | [], .lf => .nd (some v) .lf .lf .lf .lf
  | [], .nd _ p q r s => .nd (some v) p q r s
  | .a :: l, .lf => .nd none (Tr.setP v l .lf) .lf .lf .lf
  | .b :: l, .lf => .nd none .lf (Tr.setP v l .lf) .lf .lf
  | .c :: l, .lf => .nd none .lf .lf (Tr.setP v l .lf) .lf
  | .d :: l, .lf => .nd none .lf .lf .lf (Tr.setP v l .lf)
  | .a :: l, .nd u p q r s => .nd u (Tr.setP v l p) q r s
  | .b :: l, .nd u p q r s => .nd u p (Tr.setP v l q) r s
  | .c :: l, .nd u p q r s => .nd u p q (Tr.setP v l r) s
  | .d :: l, .nd u p q r s => .nd u p q r (Tr.setP v l s)
theorem Tr.getP_lf : ∀ l : List D4, Tr.getP l (.lf : Tr α) = none
  | [] => rfl
  | _ :: _ => rfl
theorem Tr.get_lf (n : Nat) : (Tr.lf : Tr α).get n = none := Tr.getP_lf _
theorem Tr.setPK_eq (v : α) : ∀ (l : List D4) (t : Tr α) (k : Tr α → Option R), Tr.setPK v l t k = k (Tr.setP v l t)
  | [], .lf, k => rfl
  | [], .nd .., k => rfl
  | .a :: l, .lf, k => Tr.setPK_eq v l .lf _
  | .b :: l, .lf, k => Tr.setPK_eq v l .lf _
  | .c :: l, .lf, k => Tr.setPK_eq v l .lf _
  | .d :: l, .lf, k => Tr.setPK_eq v l .lf _
  | .a :: l, .nd u p q r s, k => Tr.setPK_eq v l p _
  | .b :: l, .nd u p q r s, k => Tr.setPK_eq v l q _
  | .c :: l, .nd u p q r s, k => Tr.setPK_eq v l r _
  | .d :: l, .nd u p q r s, k => Tr.setPK_eq v l s _
theorem Tr.getP_setP (v : α) : ∀ (l m : List D4) (t : Tr α), Tr.getP m (Tr.setP v l t) = if m = l then some v else Tr.getP m t
  | [], [], .lf => rfl
  | [], [], .nd .. => rfl
  | [], x :: m, .lf => by cases x <;> exact Tr.getP_lf m
  | [], x :: m, .nd .. => by cases x <;> rfl
  | x :: l, [], .lf => by cases x <;> rfl
  | x :: l, [], .nd .. => by cases x <;> rfl
  | x :: l, y :: m, .lf => by
    have ih := Tr.getP_setP v l m .lf
    rw [Tr.getP_lf] at ih
    rw [Tr.getP_lf]
    cases x <;> cases y <;> first
      | exact ih.trans (by simp)
      | exact (Tr.getP_lf m).trans (by simp)
  | x :: l, y :: m, .nd u p q r s => by
    cases x <;> cases y <;> first
      | exact (Tr.getP_setP v l m p).trans (by simp; rfl)
      | exact (Tr.getP_setP v l m q).trans (by simp; rfl)
      | exact (Tr.getP_setP v l m r).trans (by simp; rfl)
      | exact (Tr.getP_setP v l m s).trans (by simp; rfl)
      | (rw [if_neg (by simp)]; rfl)
theorem Tr.setK_some {fuel : Nat} {t : Tr α} {n : Nat} {v : α} {k : Tr α → Option R} {r : R} (h : t.setK fuel n v k = some r) :
    ∃ t', k t' = some r ∧ ∀ m, t'.get m = if m = n then some v else t.get m := by
  unfold Tr.setK at h
  rw [Tr.setPK_eq] at h
  refine ⟨_, h, fun m => ?_⟩
  unfold Tr.get
  rw [Tr.getP_setP]
  by_cases e : m = n
  · subst e; simp
  · rw [if_neg e, if_neg fun h => e (path_inj h)]

theorem cond_some {b : Bool} {x : Option R} {r : R} (h : cond b x none = some r) : b = true ∧ x = some r := by
  cases b <;> simp_all

theorem setCellsK_some : ∀ (vs : List AV) {c : Tr AV} {i : Nat} {k : Tr AV → Option R} {r : R}, setCellsK vs c i k = some r →
    ∃ c', k c' = some r ∧ ∀ m, c'.get m = if i ≤ m ∧ m < i + vs.length then vs[m - i]? else c.get m
  | [], c, i, k, r, h => ⟨c, h, fun m => by rw [if_neg (by simp only [List.length_nil]; omega)]⟩
  | v :: vs, c, i, k, r, h => by
    simp only [setCellsK, fN_eq] at h
    obtain ⟨c1, h1, g1⟩ := Tr.setK_some h
    obtain ⟨c', hk, g⟩ := setCellsK_some vs h1
    refine ⟨c', hk, fun m => ?_⟩
    rw [g m, g1 m]
    by_cases hm : m = i
    · subst hm
      rw [if_neg (by omega), if_pos rfl, if_pos (by simp)]
      simp
    · by_cases h2 : i ≤ m ∧ m < i + (v :: vs).length
      · have h3 : i + 1 ≤ m ∧ m < i + 1 + vs.length := by simp at h2; omega
        rw [if_pos h3, if_pos h2]
        rw [show m - i = (m - (i + 1)) + 1 by omega]
        simp
      · have h3 : ¬ (Nat.succ i ≤ m ∧ m < Nat.succ i + vs.length) := by simp at h2 ⊢; omega
        rw [if_neg h3, if_neg h2, if_neg hm]

theorem readK_some {c : Tr AV} : ∀ (n : Nat) {i : Nat} {k : List AV → Option R} {r : R}, readK c n i k = some r →
    ∃ l, k l = some r ∧ l.length = n ∧ ∀ j, j < n → c.get (i + j) = l[j]?
  | 0, i, k, r, h => ⟨[], h, rfl, fun j hj => by omega⟩
  | n + 1, i, k, r, h => by
    simp only [readK, fN_eq] at h
    cases hc : c.get i with
    | none => rw [hc] at h; cases h
    | some v =>
      rw [hc] at h
      obtain ⟨l, hk, hl, hg⟩ := readK_some n h
      refine ⟨v :: l, hk, by simp [hl], fun j hj => ?_⟩
      cases j with
      | zero => simpa using hc
      | succ j =>
        have := hg j (by omega)
        rw [show i + (j + 1) = Nat.succ i + j by omega, this]
        simp
end

/-! ## Heaps -/

def isLive : Option AO → Bool
  | some .dead => false
  | some _ => true
  | none => false
/-- What a run may have touched of the families: those of its own, and those that it logged. -/
def Touch (h h' : AH) (F : Nat) : Prop := (h.mark ≤ F ∧ F < h'.next) ∨ F ∈ h'.wlog

structure Wf (h : AH) : Prop where
  mark : h.mark ≤ h.next
  wl : ∀ F, F ∈ h.wlog → F < h.mark
  raw : ∀ F, h.next ≤ F → h.tr.get F = none

theorem AH.get_eq (h : AH) (F : Nat) : h.get F = if inRanges h.hid F = true then none else h.tr.get F := by
  cases h with
  | mk tr next mark wlog hid =>
    simp only [AH.get]
    cases inRanges hid F <;> rfl
theorem Wf.get {h : AH} (w : Wf h) (F : Nat) (hF : h.next ≤ F) : h.get F = none := by
  rw [AH.get_eq, w.raw F hF]
  split <;> rfl
structure AF (h h' : AH) : Prop where
  mark : h'.mark = h.mark
  hid : h'.hid = h.hid
  next : h.next ≤ h'.next
  wl : ∀ F, F ∈ h.wlog → F ∈ h'.wlog
  wn : ∀ F, F ∈ h'.wlog → F ∈ h.wlog ∨ (F < h.mark ∧ isLive (h.get F) = true)
  keep : ∀ F, F < h.next → ¬ Touch h h' F → h'.tr.get F = h.tr.get F
  nh : ∀ F, h.next ≤ F → F < h'.next → inRanges h.hid F = false
  live : ∀ F, F < h.next → isLive (h'.get F) = true → isLive (h.get F) = true
  wf : Wf h'

theorem AF.refl {h : AH} (w : Wf h) : AF h h := ⟨rfl, rfl, Nat.le_refl _, fun _ h => h, fun _ h => .inl h, fun _ _ _ => rfl, fun F a b => absurd b (Nat.not_lt.2 a), fun _ _ h => h, w⟩
theorem Touch.mono1 {h h1 h2 : AH} (a : AF h h1) (b : AF h1 h2) {F : Nat} (t : Touch h h1 F) : Touch h h2 F := by
  rcases t with ⟨t1, t2⟩ | t
  · exact .inl ⟨t1, Nat.lt_of_lt_of_le t2 b.next⟩
  · exact .inr (b.wl _ t)
theorem Touch.mono2 {h h1 h2 : AH} (a : AF h h1) {F : Nat} (t : Touch h1 h2 F) : Touch h h2 F := by
  rcases t with ⟨t1, t2⟩ | t
  · exact .inl ⟨a.mark ▸ t1, t2⟩
  · exact .inr t
theorem AF.trans {h h1 h2 : AH} (w : Wf h) (a : AF h h1) (b : AF h1 h2) : AF h h2 := {
  mark := b.mark.trans a.mark
  hid := b.hid.trans a.hid
  next := Nat.le_trans a.next b.next
  wl F hF := b.wl _ (a.wl _ hF)
  wn F hF := by
    rcases b.wn F hF with h' | ⟨h1', h2'⟩
    · exact a.wn F h'
    · rw [a.mark] at h1'
      exact .inr ⟨h1', a.live F (Nat.lt_of_lt_of_le h1' w.mark) h2'⟩
  keep F hF ht := by
    rw [b.keep F (Nat.lt_of_lt_of_le hF a.next) (fun t => ht (t.mono2 a)), a.keep F hF (fun t => ht (t.mono1 a b))]
  nh F h1' h2' := by
    rcases Nat.lt_or_ge F h1.next with hh | hh
    · exact a.nh F h1' hh
    · have := b.nh F hh h2'
      rwa [a.hid] at this
  live F hF hl := a.live F hF (b.live F (Nat.lt_of_lt_of_le hF a.next) hl)
  wf := b.wf }

theorem AF.keepGet {h h' : AH} (a : AF h h') {F : Nat} (hF : F < h.next) (ht : ¬ Touch h h' F) : h'.get F = h.get F := by
  rw [AH.get_eq, AH.get_eq, a.hid, a.keep F hF ht]
theorem memN_iff (l : List Nat) (a : Nat) : memN l a = true ↔ a ∈ l := by
  induction l with
  | nil => simp [memN]
  | cons b r ih =>
    simp only [memN]
    cases hb : Nat.beq b a with
    | true =>
      have : b = a := by simpa using hb
      simp [this]
    | false =>
      have : b ≠ a := Nat.ne_of_beq_eq_false hb
      simp [ih, Ne.symm this]

section
variable {R : Type}
theorem putK_some {h : AH} {f : Nat} {o : AO} {k : AH → Option R} {r : R} (w : Wf h) (hl : isLive (h.get f) = true) (hk : h.putK f o k = some r) :
    ∃ h', k h' = some r ∧ h'.next = h.next ∧ AF h h' ∧ Touch h h' f ∧ ∀ F, h'.get F = if F = f then some o else h.get F := by
  cases h with
  | mk tr next mark wlog hid =>
    simp only [AH.putK] at hk
    obtain ⟨tr', hk, hg⟩ := Tr.setK_some hk
    have hnh : inRanges hid f = false := by
      cases hh : inRanges hid f with
      | false => rfl
      | true => simp [AH.get, hh, isLive] at hl
    have hfn : f < next := by
      rcases Nat.lt_or_ge f next with h | h
      · exact h
      · rw [w.get f h] at hl; cases hl
    have key : ∀ wl' : List Nat, (∀ F, F ∈ wlog → F ∈ wl') → (∀ F, F ∈ wl' → F ∈ wlog ∨ (F = f ∧ f < mark)) → (f < mark → f ∈ wl') →
        (⟨tr', next, mark, wl', hid⟩ : AH).next = next ∧ AF ⟨tr, next, mark, wlog, hid⟩ ⟨tr', next, mark, wl', hid⟩ ∧ Touch ⟨tr, next, mark, wlog, hid⟩ ⟨tr', next, mark, wl', hid⟩ f ∧
          ∀ F, (⟨tr', next, mark, wl', hid⟩ : AH).get F = if F = f then some o else (⟨tr, next, mark, wlog, hid⟩ : AH).get F := by
      intro wl' h1 h2 h3
      have hget : ∀ F, (⟨tr', next, mark, wl', hid⟩ : AH).get F = if F = f then some o else (⟨tr, next, mark, wlog, hid⟩ : AH).get F := by
        intro F
        rw [AH.get_eq, AH.get_eq]
        dsimp only
        rw [hg F]
        by_cases hF : F = f
        · subst hF; simp [hnh]
        · simp [hF]
      have ht : Touch ⟨tr, next, mark, wlog, hid⟩ ⟨tr', next, mark, wl', hid⟩ f := by
        rcases Nat.lt_or_ge f mark with h | h
        · exact .inr (h3 h)
        · exact .inl ⟨h, hfn⟩
      refine ⟨rfl, ⟨rfl, rfl, Nat.le_refl _, h1, fun F hF => ?_, fun F hF hnt => ?_, fun F a b => absurd b (Nat.not_lt.2 a), fun F hF hlv => ?_, ⟨w.mark, fun F hF => ?_, fun F hF => ?_⟩⟩, ht, hget⟩
      · rcases h2 F hF with h | ⟨rfl, h⟩
        · exact .inl h
        · exact .inr ⟨h, hl⟩
      · show tr'.get F = tr.get F
        rw [hg F, if_neg]
        rintro rfl
        exact hnt ht
      · rw [hget F] at hlv
        by_cases hFf : F = f
        · subst hFf; exact hl
        · rwa [if_neg hFf] at hlv
      · rcases h2 F hF with h | ⟨rfl, h⟩
        · exact w.wl F h
        · exact h
      · have hF' : next ≤ F := hF
        show tr'.get F = none
        rw [hg F, if_neg (by omega)]
        exact w.raw F hF
    cases hb : Nat.blt f mark with
    | true =>
      have hb' : f < mark := by simpa using hb
      rw [hb] at hk
      simp only [cond_true] at hk
      cases hm : memN wlog f with
      | true =>
        rw [hm] at hk
        have hm' := (memN_iff _ _).1 hm
        exact ⟨_, hk, key wlog (fun _ h => h) (fun _ h => .inl h) (fun _ => hm')⟩
      | false =>
        rw [hm] at hk
        exact ⟨_, hk, key (f :: wlog) (fun _ h => List.mem_cons_of_mem _ h) (fun F h => by
          rcases List.mem_cons.1 h with rfl | h
          · exact .inr ⟨rfl, hb'⟩
          · exact .inl h) (fun _ => List.mem_cons_self)⟩
    | false =>
      rw [hb] at hk
      have hb' : ¬ f < mark := by
        intro h
        have : Nat.blt f mark = true := by simpa using h
        rw [this] at hb; cases hb
      exact ⟨_, hk, key wlog (fun _ h => h) (fun _ h => .inl h) (fun h => absurd h hb')⟩

theorem newK_some {h : AH} {o : AO} {k : Nat → AH → Option R} {r : R} (w : Wf h) (hk : h.newK o k = some r) :
    ∃ h', k h.next h' = some r ∧ h'.next = h.next + 1 ∧ AF h h' ∧ (∀ F, h'.get F = if F = h.next then some o else h.get F) ∧ h'.wlog = h.wlog := by
  cases h with
  | mk tr next mark wlog hid =>
    simp only [AH.newK] at hk
    cases hh : inRanges hid next with
    | true => rw [hh] at hk; cases hk
    | false =>
    rw [hh] at hk
    simp only [cond_false, fN_eq] at hk
    obtain ⟨tr', hk, hg⟩ := Tr.setK_some hk
    have hget : ∀ F, (⟨tr', next + 1, mark, wlog, hid⟩ : AH).get F = if F = next then some o else (⟨tr, next, mark, wlog, hid⟩ : AH).get F := by
      intro F
      rw [AH.get_eq, AH.get_eq]
      dsimp only
      rw [hg F]
      by_cases hF : F = next
      · subst hF; simp [hh]
      · simp [hF]
    refine ⟨_, hk, rfl, ⟨rfl, rfl, Nat.le_succ _, fun _ h => h, fun _ h => .inl h, fun F hF _ => ?_, fun F h1 h2 => ?_, fun F hF hl => ?_, ⟨Nat.le_succ_of_le w.mark, w.wl, fun F hF => ?_⟩⟩, hget, rfl⟩
    · have : F < next := hF
      show tr'.get F = tr.get F
      rw [hg F, if_neg (by omega)]
    · have h1 : next ≤ F := h1
      have h2 : F < next + 1 := h2
      obtain rfl : F = next := by omega
      exact hh
    · have : F < next := hF
      rwa [hget F, if_neg (by omega)] at hl
    · have hF' : next + 1 ≤ F := hF
      show tr'.get F = none
      rw [hg F, if_neg (by omega)]
      exact w.raw F (by show next ≤ F; omega)

/-- loadK: the cells read. -/
theorem loadK_some {h : AH} {f v o n : Nat} {k : List AV → Option R} {r : R} (hk : loadK h f v o n k = some r) :
    ∃ c m rd frz l, (∃ eto, h.get f = some (.cells c m rd frz eto)) ∧ rd ≤ v ∧ v ≤ m ∧ o + n ≤ v ∧ l.length = n ∧ (∀ j, j < n → c.get (o + j) = l[j]?) ∧ k l = some r := by
  unfold loadK at hk
  split at hk
  · rename_i c m rd frz eto hg
    obtain ⟨h1, hk⟩ := cond_some hk
    obtain ⟨h2, hk⟩ := cond_some hk
    obtain ⟨h3, hk⟩ := cond_some hk
    obtain ⟨l, hk, hl, hr⟩ := readK_some n hk
    exact ⟨c, m, rd, frz, l, ⟨eto, hg⟩, by simpa using h1, by simpa using h2, by simpa using h3, hl, hr, hk⟩
  · cases hk
theorem allC_iff (l : List AV) : allC l = true ↔ ∀ v, v ∈ l → oneC v = true := by
  induction l with
  | nil => simp [allC]
  | cons a r ih =>
    simp only [allC]
    cases ha : oneC a <;> simp [ha, ih]
theorem storeK_some {h : AH} {f v o : Nat} {vs : List AV} {k : AH → Option R} {r : R} (w : Wf h) (hk : storeK h f v o vs k = some r) :
    ∃ c m rd c' h' eto, h.get f = some (.cells c m rd false eto) ∧ v = m ∧ o + vs.length ≤ m ∧ (∀ x, x ∈ vs → oneC x = true) ∧
      (∀ i, c'.get i = if o ≤ i ∧ i < o + vs.length then vs[i - o]? else c.get i) ∧ AF h h' ∧ Touch h h' f ∧ h'.next = h.next ∧
      (∀ F, h'.get F = if F = f then some (.cells c' m m false eto) else h.get F) ∧ k h' = some r := by
  unfold storeK at hk
  split at hk
  · rename_i c m rd frz eto hg
    obtain ⟨h1, hk1⟩ := cond_some hk
    obtain ⟨h2, hk2⟩ := cond_some hk1
    obtain ⟨h3, hk3⟩ := cond_some hk2
    clear hk hk1 hk2
    have h3' := (Bool.and_eq_true_iff.1 h3)
    have hfz : frz = false := by simpa using h3'.2
    subst hfz
    obtain ⟨c', hk, hc⟩ := setCellsK_some vs hk3
    obtain ⟨h', hk, hn, af, ht, hget⟩ := putK_some w (by rw [hg]; rfl) hk
    exact ⟨c, m, rd, c', h', eto, hg, by simpa using h1, by simpa using h2, (allC_iff _).1 h3'.1, hc, af, ht, hn, hget, hk⟩
  · cases hk
theorem newRowK_some {h : AH} {eto : Option TypeId} {vs : List AV} {k : Nat → Nat → AH → Option R} {r : R} (w : Wf h) (hk : newRowK h eto vs k = some r) :
    ∃ c h', (∀ i, c.get i = vs[i]?) ∧ h'.next = h.next + 1 ∧ AF h h' ∧ (∀ F, h'.get F = if F = h.next then some (.cells c vs.length vs.length false eto) else h.get F) ∧ h'.wlog = h.wlog ∧
      k h.next vs.length h' = some r := by
  unfold newRowK at hk
  obtain ⟨c, hk, hc⟩ := setCellsK_some vs hk
  rw [fN_eq] at hk
  obtain ⟨h', hk, hn, af, hget, hw⟩ := newK_some w hk
  refine ⟨c, h', fun i => ?_, hn, af, hget, hw, hk⟩
  rw [hc i]
  split
  · simp
  · rename_i hi
    rw [List.getElem?_eq_none (by omega)]
    exact Tr.get_lf i
end
end Go.Proofs.YtcigfmnkfelhjaaDoor.Am
