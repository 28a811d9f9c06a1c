/- Package seq: actual, the closure of Has, valid, Has: what each returns, as plain functions on a list of pairs. -/
import Derived.Test.YtehbekjcnlcooaaDoorRdR
import Derived.Test.YtehbekjcnlcooaaDoorCShelf
import Derived.Shelf.SlicesQ.IndexFunc
set_option linter.unusedVariables false
namespace Go.Proofs.YtehbekjcnlcooaaDoor
open Go.RowKit

def actF (n last : Int) : Int := if n = 0 then last else n
def hitF (last n : Int) (x : Int × Int) : Bool := decide (min (actF x.1 last) (actF x.2 last) ≤ n ∧ n ≤ max (actF x.1 last) (actF x.2 last))
def okS (x : Int × Int) : Bool := decide (0 ≤ min x.1 x.2 ∧ max x.1 x.2 ≤ 4294967295)
def validF (xs : List (Int × Int)) : Bool := decide (1 ≤ xs.length ∧ xs.length ≤ 100) && xs.all okS
def hasF (xs : List (Int × Int)) (n last : Int) : Bool := decide (1 ≤ n) && validF xs && xs.any (hitF last n)
/-- An element: two numbers. -/
def encS (x : Int × Int) : List Value := [.int .i64 x.1, .int .i64 x.2]
def SpR (w : World) (cs : List Value) (x : Int × Int) : Prop := cs = encS x
theorem SpR.keeps : Keeps SpR := fun w w' cs x C h hb hC => h

theorem actual_any (n last : Int) (w : World) : Calls Tryd.prog 29 #[.int .i64 n, .int .i64 last] w fun e w' => e = .returned (.int .i64 (actF n last)) ∧ w' = w := by
  by_cases h : n = 0
  · subst h
    go_enter Tryd.func29, Tryd.ntmps29
    go_wp2
    go_ret
    exact ⟨ret_int (by simp [actF]), rfl⟩
  · have hb : (n == 0) = false := by simpa using h
    go_enter Tryd.func29, Tryd.ntmps29
    go_wp2
    go_ret
    exact ⟨ret_int (by simp [actF, h]), rfl⟩

set_option maxRecDepth 100000 in
theorem pred_hit (last n : Int) (B C : Nat) (w : World) (hB : B < w.heap.size) (hC : C < w.heap.size) (hl : w.cell? ⟨B, 0, none⟩ = some (.int .i64 last)) (hn : w.cell? ⟨C, 0, none⟩ = some (.int .i64 n)) :
    PredBelow Tryd.prog 28 #[.pointer (some ⟨B, 0, none⟩), .pointer (some ⟨C, 0, none⟩)] (fun x => .agg (encS x).toArray) (hitF last n) w := fun W x hb => by
  have hl' : W.cell? ⟨B, 0, none⟩ = some (.int .i64 last) := (hb.cell (p := ⟨B, 0, none⟩) hB).trans hl
  have hn' : W.cell? ⟨C, 0, none⟩ = some (.int .i64 n) := (hb.cell (p := ⟨C, 0, none⟩) hC).trans hn
  have hBW : B < W.heap.size := Nat.lt_of_lt_of_le hB hb.size
  have hCW : C < W.heap.size := Nat.lt_of_lt_of_le hC hb.size
  have hneB : B ≠ W.heap.size := by omega
  have hneC : C ≠ W.heap.size := by omega
  clear hl hn hB hC
  obtain ⟨x1, x2⟩ := x
  show Calls Tryd.prog 28 #[.agg #[.int .i64 x1, .int .i64 x2], .pointer (some ⟨B, 0, none⟩), .pointer (some ⟨C, 0, none⟩)] W _
  obtain ⟨p, hp⟩ : ∃ p, p = actF x1 last := ⟨_, rfl⟩
  obtain ⟨q, hq⟩ : ∃ q, q = actF x2 last := ⟨_, rfl⟩
  have c1 := fun u => actual_any x1 last u
  have c2 := fun u => actual_any x2 last u
  have hh : hitF last n (x1, x2) = decide (min p q ≤ n ∧ n ≤ max p q) := by rw [hp, hq]; rfl
  rw [← hp] at c1
  rw [← hq] at c2
  rw [hh]
  clear hh hp hq
  by_cases h1 : min p q ≤ n
  · go_enter Tryd.func28, Tryd.ntmps28
    go_wp2_with fail
    go_quiet ((go_at_call 29; first | (with_reducible exact Calls.quiet_of_same (c1 _)) | (with_reducible exact Calls.quiet_of_same (c2 _))))
    go_wp2
    go_ret
    exact ⟨ret_bool (by simp [h1]), below_drewN (hb.alloc hb.size _) _⟩
  · go_enter Tryd.func28, Tryd.ntmps28
    go_wp2_with fail
    go_quiet ((go_at_call 29; first | (with_reducible exact Calls.quiet_of_same (c1 _)) | (with_reducible exact Calls.quiet_of_same (c2 _))))
    go_wp2
    go_ret
    exact ⟨ret_bool (by simp; omega), below_drewN (hb.alloc hb.size _) _⟩

theorem take_all_succ {α} (p : α → Bool) (l : List α) (k : Nat) (h : k < l.length) : (l.take (k + 1)).all p = ((l.take k).all p && p l[k]) := by
  rw [List.take_succ_eq_append_getElem h, List.all_append]
  simp
theorem rd_agg {w : World} {b o : Nat} {xs : List (Int × Int)} (h : RdR SpR 2 w (some ⟨b, o, none⟩) xs) (i : Nat) (hi : i < xs.length) :
    w.cell? ⟨b, o + i * 2, none⟩ = some (.int .i64 xs[i].1) ∧ w.cell? ⟨b, o + i * 2 + 1, none⟩ = some (.int .i64 xs[i].2) := by
  rw [Nat.mul_comm i 2]
  obtain ⟨b', o', hA, _, hc⟩ := h (by omega)
  cases hA
  obtain ⟨cs, h1, h2, h3⟩ := hc i hi
  unfold SpR encS at h1
  subst h1
  exact ⟨h3 0 (by simp), h3 1 (by simp)⟩

set_option maxRecDepth 100000 in
theorem valid_any (A : Option Addr) (xs : List (Int × Int)) (cap : Nat) (w : World) (hr : RdR SpR 2 w A xs) (hlc : xs.length ≤ cap) (hcm : cap ≤ maxLen) :
    Calls Tryd.prog 19 #[.agg #[.slice A xs.length cap]] w fun e w' => e = .returned (.bool (validF xs)) ∧ Below w.heap.size w w' := by
  unfold maxLen at hcm
  by_cases h1 : xs.length < 1
  · have h1' : (xs.length : Int) < 1 := by omega
    go_enter Tryd.func19, Tryd.ntmps19
    go_wp2
    go_ret
    refine ⟨ret_bool ?_, (Below.refl _ w).alloc (Nat.le_refl _) _⟩
    unfold validF
    rw [decide_eq_false (by omega)]
    rfl
  have h1' : ¬ (xs.length : Int) < 1 := by omega
  by_cases h2 : 100 < xs.length
  · have h2' : (100 : Int) < (xs.length : Int) := by omega
    go_enter Tryd.func19, Tryd.ntmps19
    go_wp2
    go_ret
    refine ⟨ret_bool ?_, (Below.refl _ w).alloc (Nat.le_refl _) _⟩
    unfold validF
    rw [decide_eq_false (by omega)]
    rfl
  have h2' : ¬ (100 : Int) < (xs.length : Int) := by omega
  obtain ⟨b, o, rfl, hb, _⟩ := hr (by omega)
  have hc := fun i hi => rd_agg hr i hi
  clear hr
  have hV : Aside (validF xs = xs.all okS) := by
    show validF xs = xs.all okS
    unfold validF
    rw [decide_eq_true (by omega)]
    rfl
  obtain ⟨n, hn⟩ : ∃ n, n = xs.length := ⟨_, rfl⟩
  go_enter Tryd.func19, Tryd.ntmps19
  go_wp2
  go_loopw [18] (fun i wr => ∃ k : Nat, k ≤ xs.length ∧ i = .int .i64 k ∧ Below w.heap.size w wr ∧ (xs.take k).all okS = true) (fun i _ => xs.length - (intOf i).toNat)
  case atStart => exact ⟨0, Nat.zero_le _, rfl, (Below.refl _ w).alloc (Nat.le_refl _) _, by simp⟩
  case round =>
    obtain ⟨k, hk, rfl, hw, hall⟩ := hrel
    have HA := Lib.hid hall
    clear hall
    by_cases hlt : k < xs.length
    · have e1 : (k : Int) < (xs.length : Int) := by omega
      obtain ⟨d1, d2⟩ := hc k hlt
      rw [← hw.cell (p := ⟨b, o + k * 2, none⟩) hb] at d1
      rw [← hw.cell (p := ⟨b, o + k * 2 + 1, none⟩) hb] at d2
      have hbw : b < wr.heap.size := Nat.lt_of_lt_of_le hb hw.size
      have hsz := hw.size
      have HX := Lib.hid (show okS xs[k] = decide (0 ≤ min xs[k].1 xs[k].2 ∧ max xs[k].1 xs[k].2 ≤ 4294967295) from rfl)
      have HN := Lib.hid (take_all_succ okS xs k hlt)
      have HM := Lib.hid (show okS xs[k] = false → xs.all okS = false from fun h => List.all_eq_false.2 ⟨xs[k], List.getElem_mem hlt, by simp [h]⟩)
      generalize xs[k] = x at d1 d2 HX HN HM
      clear hc
      obtain ⟨x1, x2⟩ := x
      by_cases t1 : min x1 x2 < 0
      · go_wp2
        go_ret
        refine ⟨ret_bool ?_, hw.alloc hsz _⟩
        rw [hV.out, HM.out (by rw [HX.out]; simp only [decide_eq_false_iff_not]; omega)]
      have t1' : ¬ min x1 x2 < 0 := t1
      by_cases t2 : 4294967295 < max x1 x2
      · go_wp2
        go_ret
        refine ⟨ret_bool ?_, hw.alloc hsz _⟩
        rw [hV.out, HM.out (by rw [HX.out]; simp only [decide_eq_false_iff_not]; omega)]
      go_wp2
      go_roundw
      case rel =>
        refine ⟨k + 1, by omega, by go_num, hw.alloc hsz _, ?_⟩
        rw [HN.out, HA.out, HX.out]
        simp only [Bool.true_and, decide_eq_true_eq]
        omega
      case measure => simp [intOf]; omega
    · obtain rfl : k = xs.length := by omega
      go_wp2
      go_ret
      refine ⟨ret_bool ?_, hw⟩
      rw [hV.out, ← HA.out, List.take_length]

theorem below3 (w : World) (x y z : Obj) : Below w.heap.size w (((w.alloc x).alloc y).alloc z) :=
  (((Below.refl _ w).alloc (Nat.le_refl _) _).alloc (by simp) _).alloc (by simp; omega) _
theorem new0 (w : World) (v : Value) (e : TypeId) (f : Nat × Nat) : (w.alloc (.cells #[v] e f)).cell? ⟨w.heap.size, 0, none⟩ = some v := by
  unfold World.cell?
  rw [heap_alloc_new]
  rfl
theorem keep0 (w : World) (x : Obj) (b : Nat) (hb : b < w.heap.size) : (w.alloc x).cell? ⟨b, 0, none⟩ = w.cell? ⟨b, 0, none⟩ := ((Below.refl _ w).alloc (Nat.le_refl _) x).cell (p := ⟨b, 0, none⟩) hb
theorem new1 (w : World) (v : Value) (e : TypeId) (f : Nat × Nat) (y z : Obj) : (((w.alloc (.cells #[v] e f)).alloc y).alloc z).cell? ⟨w.heap.size, 0, none⟩ = some v := by
  rw [keep0 _ _ _ (by simp; omega), keep0 _ _ _ (by simp), new0]
theorem new2 (w : World) (v : Value) (e : TypeId) (f : Nat × Nat) (x z : Obj) : (((w.alloc x).alloc (.cells #[v] e f)).alloc z).cell? ⟨w.heap.size + 1, 0, none⟩ = some v := by
  rw [keep0 _ _ _ (by simp)]
  have := new0 (w.alloc x) v e f
  simpa using this
theorem new3 (w : World) (v : Value) (e : TypeId) (f : Nat × Nat) (x y : Obj) : (((w.alloc x).alloc y).alloc (.cells #[v] e f)).cell? ⟨w.heap.size + 1 + 1, 0, none⟩ = some v := by
  have := new0 ((w.alloc x).alloc y) v e f
  simpa using this
theorem contains_hit (b o cap : Nat) (xs : List (Int × Int)) (n last : Int) (B C : Nat) (w : World) (hr : RdR SpR 2 w (some ⟨b, o, none⟩) xs) (hb : b < w.heap.size) (hlc : xs.length ≤ cap) (hcm : cap ≤ maxLen)
    (hB : B < w.heap.size) (hC : C < w.heap.size) (hl : w.cell? ⟨B, 0, none⟩ = some (.int .i64 last)) (hn : w.cell? ⟨C, 0, none⟩ = some (.int .i64 n)) :
    Calls Tryd.prog 27 #[.slice (some ⟨b, o, none⟩) xs.length cap, .func (.func 28) #[] #[.pointer (some ⟨B, 0, none⟩), .pointer (some ⟨C, 0, none⟩)]] w fun e w' => e = .returned (.bool (xs.any (hitF last n))) ∧ Below w.heap.size w w' := by
  have eg : ∀ args w, (callFunc 28 args).run Tryd.prog w = .ok (.enter 28 args) w := enters_of Tryd.func28 (by kernel_rfl) rfl
  have hm : cap ≤ 9223372036854775807 := hcm
  have hcon := AnyQ.slices_ContainsFunc Tryd.cfn 2 Tryd.isAgg38 Tryd.sizeOf38 encS (fun _ => rfl) (hitF last n) 28 #[.pointer (some ⟨B, 0, none⟩), .pointer (some ⟨C, 0, none⟩)] eg b o xs.length cap xs w
    (pred_hit last n B C w hB hC hl hn) (Nat.le_refl _) (by omega) hb (fun j hj i v hi => by
      obtain ⟨h1, h2⟩ := rd_agg hr j hj
      rw [getElem!_pos xs j hj] at hi
      match i, hi with
      | 0, hi => simp [encS] at hi; rw [← hi]; exact h1
      | 1, hi => simp [encS] at hi; rw [← hi]; exact h2
      | i + 2, hi => simp [encS] at hi)
  rw [List.take_length] at hcon
  exact hcon

set_option maxRecDepth 100000 in
theorem has_any (A : Option Addr) (xs : List (Int × Int)) (cap : Nat) (n last : Int) (w : World) (hr : RdR SpR 2 w A xs) (hlc : xs.length ≤ cap) (hcm : cap ≤ maxLen) :
    Calls Tryd.prog 11 #[.agg #[.slice A xs.length cap], .int .i64 n, .int .i64 last] w fun e w' => e = .returned (.bool (hasF xs n last)) ∧ Below w.heap.size w w' := by
  by_cases h1 : 1 ≤ n
  · have hv := fun W (hb : Below w.heap.size w W) => valid_any A xs cap W (hr.below SpR.keeps hb (Nat.le_refl _)) hlc hcm
    cases hq : validF xs with
    | false =>
      rw [hq] at hv
      have hF : hasF xs n last = false := by unfold hasF; rw [hq]; simp
      rw [hF]
      go_enter Tryd.func11, Tryd.ntmps11
      go_wp2_with ((with_reducible refine (hv _ (below3 w _ _ _)).mono ?_))
      rintro _ w1 ⟨rfl, hb1⟩
      go_wp2
      go_ret
      exact ⟨rfl, (below3 w _ _ _).trans (hb1.mono (by simp; omega))⟩
    | true =>
      rw [hq] at hv
      have hF : hasF xs n last = xs.any (hitF last n) := by unfold hasF; rw [hq, decide_eq_true h1]; simp
      have hpos : 0 < xs.length := by
        unfold validF at hq
        simp at hq
        omega
      rw [hF]
      obtain ⟨b, o, rfl, hb, _⟩ := id hr hpos
      go_enter Tryd.func11, Tryd.ntmps11
      go_wp2_with ((with_reducible refine (hv _ (below3 w _ _ _)).mono ?_))
      rintro _ w1 ⟨rfl, hb1⟩
      have hs1 : w.heap.size + 3 ≤ w1.heap.size := by have := hb1.size; simp at this; omega
      have k0 : w1.cell? ⟨w.heap.size, 0, none⟩ = some (.slice (some ⟨b, o, none⟩) xs.length cap) := (hb1.cell (p := ⟨w.heap.size, 0, none⟩) (by simp; omega)).trans (new1 w _ _ _ _ _)
      have k1 : w1.cell? ⟨w.heap.size + 1, 0, none⟩ = some (.int .i64 n) := (hb1.cell (p := ⟨w.heap.size + 1, 0, none⟩) (by simp)).trans (new2 w _ _ _ _ _)
      have k2 : w1.cell? ⟨w.heap.size + 1 + 1, 0, none⟩ = some (.int .i64 last) := (hb1.cell (p := ⟨w.heap.size + 1 + 1, 0, none⟩) (by simp)).trans (new3 w _ _ _ _ _)
      have hbw := (below3 w _ _ _).trans (hb1.mono (Nat.le_trans (below3 w _ _ _).size (Nat.le_refl _)))
      have hcon := fun W (hW : Below w1.heap.size w1 W) => contains_hit b o cap xs n last (w.heap.size + 1 + 1) (w.heap.size + 1) W ((hr.below SpR.keeps hbw (Nat.le_refl _)).below SpR.keeps hW (Nat.le_refl _)) (by have := hW.size; omega) hlc hcm (by have := hW.size; omega) (by have := hW.size; omega) ((hW.cell (p := ⟨w.heap.size + 1 + 1, 0, none⟩) (by simp; omega)).trans k2) ((hW.cell (p := ⟨w.heap.size + 1, 0, none⟩) (by simp; omega)).trans k1)
      go_wp2_with ((with_reducible refine (hcon _ (Below.refl _ _)).mono ?_))
      rintro _ w2 ⟨rfl, hb2⟩
      go_wp2
      go_ret
      exact ⟨rfl, hbw.trans (hb2.mono (by omega))⟩
  · have h1' : n < 1 := by omega
    go_enter Tryd.func11, Tryd.ntmps11
    go_wp2
    go_ret
    refine ⟨ret_bool ?_, ?_⟩
    · unfold hasF; rw [decide_eq_false (by omega)]; rfl
    · exact below3 w _ _ _
end Go.Proofs.YtehbekjcnlcooaaDoor
