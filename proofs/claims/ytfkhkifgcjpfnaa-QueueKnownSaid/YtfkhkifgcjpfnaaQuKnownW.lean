/- QueueKnown's walk. -/
import Derived.Test.YtfkhkifgcjpfnaaQuAw
set_option linter.unusedVariables false
namespace Go.Proofs.Ytfkhkifgcjpfnaa
open Go.Conc Go.RowKit

theorem EmptyQ.of {w : World} {q c cap : Nat} {cl : Bool} (h : QS w q c cap cl #[]) : EmptyQ w (.pointer (some ⟨q, 0, none⟩)) := .inr ⟨q, c, cap, cl, rfl, h⟩
theorem close_v (q c cap : Nat) (cl : Bool) (buf : Array Value) (w : World) (hq : QS w q c cap cl buf) :
    Calls Try.prog 12 #[.pointer (some ⟨q, 0, none⟩)] w fun e w' => e = .returned (.tuple #[]) ∧ QS w' q c cap true buf ∧ Tn [q] w w' := by
  refine (close_q q c cap cl buf w hq).mono ?_
  rintro e w' ⟨rfl, rfl⟩
  exact ⟨rfl, hq.shut, Tn.set (a := ⟨q, 1, none⟩)⟩
theorem ready_v (b o n k m q c cap : Nat) (mi : Int) (hmi : mi = (m : Int)) (cl : Bool) (buf : Array Value) (v : Value) (hb : buf.getD 0 undef = v) (V : Nat → Value) (w : World) (hm : m < n) (hn : n ≤ 100) (hV : ∀ i, i < n → w.cell? ⟨b, o + i, none⟩ = some (V i)) (he : ∀ i, i < m → EmptyQ w (V i)) (hv : V m = .pointer (some ⟨q, 0, none⟩)) (hq : QS w q c cap cl buf) (hsome : 0 < buf.size) :
    Calls Try.prog 10 #[.slice (some ⟨b, o, none⟩) n k] w fun e w' => e = .returned (.tuple #[.int .i64 mi, v, .bool true]) ∧ QS w' q c cap cl (buf.extract 1 buf.size) ∧ Tn [c] w w' := by
  subst hmi
  subst hb
  exact ready_at b o n m k q c cap cl buf V w hm hn hV he hv hq hsome
theorem NB.of_ge {w : World} {k : Nat} (h : w.heap.size ≤ k) : NB w k := by
  intro cur fz h2
  rw [Array.getElem?_eq_none h] at h2
  cases h2
theorem tn_one (w : World) (o : Obj) (X : List Nat) : Tn X w (w.alloc o) := (Tn.of_below (below_one w o)).mono (by simp)
theorem Tn.belowB {X : List Nat} {w w' : World} (h : Below w.heap.size w w') : Tn X w w' := (Tn.of_below h).mono (by simp)

set_option maxRecDepth 100000 in
set_option maxHeartbeats 4000000 in
theorem known_walk (w : World) : Calls Try.prog 3 #[] w fun e w' => e = .returned (.bool true) ∧ Below w.heap.size w w' := by
  have hlit := lit1
  go_enter Try.func3, Try.ntmps3
  go_wp2_with ((with_reducible refine (awake_t _).mono ?_))
  rintro _ w0 ⟨rfl, hb0⟩
  go_wp2_with ((with_reducible refine (new_bad 0 _ (by decide)).mono ?_))
  rintro _ w0' ⟨rfl, rfl⟩
  go_wp2_with ((with_reducible refine (new_bad 65 _ (by decide)).mono ?_))
  rintro _ w0' ⟨rfl, rfl⟩
  go_wp2_with ((with_reducible refine (new_k 1 1 _ rfl (by decide) (by decide)).mono ?_))
  rintro _ w1 ⟨p, pc, rfl, hp1, lp, lpc, hb1⟩
  go_wp2_with ((with_reducible refine (new_k 2 2 _ rfl (by decide) (by decide)).mono ?_))
  rintro _ w2 ⟨q, qc, rfl, hq2, lq, lqc, hb2⟩
  have s0 := hb0.size
  have s1 := hb1.size
  have s2 := hb2.size
  have ltp := hp1.ltq
  have ltpc := hp1.ltc
  have ltq := hq2.ltq
  have ltqc := hq2.ltc
  have hp2 := hp1.below hb2 ltp ltpc
  have np := hp2.ne
  have nq := hq2.ne
  have H2 : Below w.heap.size w w2 := (hb0.trans (hb1.mono (by omega))).trans (hb2.mono (by omega))
  go_wp2_with ((with_reducible refine (ready_no (some ⟨w2.heap.size, 0, none⟩) 2 2 (fun i => if i = 0 then .pointer (some ⟨p, 0, none⟩) else .pointer (some ⟨q, 0, none⟩)) _ (by decide) (fun _ => ⟨w2.heap.size, 0, rfl, ?_⟩) ?_).mono ?_))
  · intro i hi
    rcases (by omega : i = 0 ∨ i = 1) with rfl | rfl <;> simp [World.cell?, World.alloc, -World.alloc_eq]
  · intro i hi
    rcases (by omega : i = 0 ∨ i = 1) with rfl | rfl
    · exact EmptyQ.of (hp2.one _)
    · exact EmptyQ.of (hq2.one _)
  rintro _ w3 ⟨rfl, e3⟩
  have t3 : Tn [] w2 w3 := e3 ▸ tn_one w2 _ _
  clear e3
  have hp3 := hp2.tn t3 (by simp) (by simp)
  have hq3 := hq2.tn t3 (by simp) (by simp)
  have H3 := H2.trans (t3.below (by omega) (by simp))
  have s3 := t3.size
  go_wp2_with ((with_reducible refine (put_v q qc 2 _ _ [120] _ (hq3.one _) (by simp) ?_ (by decide)).mono ?_))
  · exact lit1_arg _ 120 _
  rintro _ w4 ⟨rfl, v, hv, hq4, ht4⟩
  have t4 := (tn_one w3 _ _).trans ht4
  have hp4 := hp3.tn t4 (by simp; omega) (by simp; omega)
  have H4 := H3.trans (t4.below (by omega) (by intro x hx; simp at hx; omega))
  have s4 := t4.size
  go_wp2_with ((with_reducible refine (close_v q qc 2 _ _ _ hq4).mono ?_))
  rintro _ w5 ⟨rfl, hq5, t5⟩
  have hp5 := hp4.tn t5 (by simp; omega) (by simp; omega)
  have H5 := H4.trans (t5.below (by omega) (by intro x hx; simp at hx; omega))
  have s5 := t5.size
  go_wp2_with ((with_reducible refine (close_v q qc 2 _ _ _ hq5).mono ?_))
  rintro _ w6 ⟨rfl, hq6, t6⟩
  have hp6 := hp5.tn t6 (by simp; omega) (by simp; omega)
  have H6 := H5.trans (t6.below (by omega) (by intro x hx; simp at hx; omega))
  have s6 := t6.size
  go_wp2_with ((with_reducible refine (put_closed q qc 2 _ _ _ (hq6.one _)).mono ?_))
  rintro _ w7 ⟨rfl, e7⟩
  have t7 : Tn [] w6 w7 := e7 ▸ tn_one w6 _ _
  clear e7
  have hp7 := hp6.tn t7 (by simp) (by simp)
  have hq7 := hq6.tn t7 (by simp) (by simp)
  have H7 := H6.trans (t7.below (by omega) (by simp))
  have s7 := t7.size
  go_wp2_with ((with_reducible refine (ready_v w7.heap.size 0 3 3 2 q qc 2 2 rfl true _ v (by simp [Array.getD]) (fun i => if i = 0 then .pointer (some ⟨p, 0, none⟩) else if i = 1 then .pointer none else .pointer (some ⟨q, 0, none⟩)) _ (by decide) (by decide) ?_ ?_ rfl (hq7.one _) (by simp)).mono ?_))
  · intro i hi
    rcases (by omega : i = 0 ∨ i = 1 ∨ i = 2) with rfl | rfl | rfl <;> simp [World.cell?, World.alloc, -World.alloc_eq]
  · intro i hi
    rcases (by omega : i = 0 ∨ i = 1) with rfl | rfl
    · exact EmptyQ.of (hp7.one _)
    · exact .inl rfl
  rintro _ w8 ⟨rfl, hq8, ht8⟩
  have t8 := (tn_one w7 _ _).trans ht8
  replace hq8 : QS w8 q qc 2 true #[] := by simpa using hq8
  have hp8 := hp7.tn t8 (by simp; omega) (by simp; omega)
  have H8 := H7.trans (t8.below (by omega) (by intro x hx; simp at hx; omega))
  have s8 := t8.size
  have T48 : Tn [q, qc] w4 w8 := (((t5.mono (by simp)).trans (t6.mono (by simp))).trans (t7.mono (by simp))).trans (t8.mono (by simp))
  have k8 : Elem (fun _ => True) w8 v [120] := (hv.mono (fun _ _ => trivial)).tn T48 (by intro x hx; simp at hx; rcases hx with rfl | rfl; exact .inl hq4.nbq; exact .inl hq4.nbc)
  go_wp2_with ((with_reducible refine (move_empty q p pc 1 _ _ (by omega) (ptr_other hq8 hp8 (by omega)) (EmptyQ.of hq8) hp8 (by decide)).mono ?_))
  rintro _ w9 ⟨rfl, hb9⟩
  have t9 : Tn [] w8 w9 := Tn.of_below hb9
  have hp9 := hp8.tn t9 (by simp) (by simp)
  have hq9 := hq8.tn t9 (by simp) (by simp)
  have H9 := H8.trans (t9.below (by omega) (by simp))
  have s9 := t9.size
  go_wp2_with ((with_reducible refine (put_v p pc 1 _ _ [122] _ (hp9.one _) (by simp) ?_ (by decide)).mono ?_))
  · exact lit1_arg _ 122 _
  rintro _ w10 ⟨rfl, z, hz, hp10, ht10⟩
  have t10 := (tn_one w9 _ _).trans ht10
  have hq10 := hq9.tn t10 (by simp; omega) (by simp; omega)
  have H10 := H9.trans (t10.below (by omega) (by intro x hx; simp at hx; omega))
  have s10 := t10.size
  go_wp2_with ((with_reducible refine (new_k 1 1 _ rfl (by decide) (by decide)).mono ?_))
  rintro _ w11 ⟨r, rc, rfl, hr11, lr, lrc, hb11⟩
  have t11 : Tn [] w10 w11 := Tn.of_below hb11
  have hp11 := hp10.tn t11 (by simp) (by simp)
  have hq11 := hq10.tn t11 (by simp) (by simp)
  have H11 := H10.trans (t11.below (by omega) (by simp))
  have s11 := t11.size
  go_wp2_with ((with_reducible refine (put_v r rc 1 _ _ [119] _ (hr11.one _) (by simp) ?_ (by decide)).mono ?_))
  · exact lit1_arg _ 119 _
  rintro _ w12 ⟨rfl, y, hy, hr12, ht12⟩
  have t12 := (tn_one w11 _ _).trans ht12
  have hp12 := hp11.tn t12 (by simp; omega) (by simp; omega)
  have hq12 := hq11.tn t12 (by simp; omega) (by simp; omega)
  have H12 := H11.trans (t12.below (by omega) (by intro x hx; simp at hx; omega))
  have s12 := t12.size
  have hR : Refuses w12 (.pointer (some ⟨r, 0, none⟩)) := .inr ⟨r, rc, 1, false, _, rfl, hr12, .inr (by simp)⟩
  have hcmp := ptr_other hp12 hr12 (by omega)
  go_wp2_with ((with_reducible refine (move_refused ⟨p, 0, none⟩ (.pointer (some ⟨r, 0, none⟩)) _ hcmp hR).mono ?_))
  rintro _ w13 ⟨rfl, hb13⟩
  have t13 : Tn [] w12 w13 := Tn.of_below hb13
  have hp13 := hp12.tn t13 (by simp) (by simp)
  have hq13 := hq12.tn t13 (by simp) (by simp)
  have H13 := H12.trans (t13.below (by omega) (by simp))
  have s13 := t13.size
  go_wp2_with ((with_reducible refine (move_same (.pointer (some ⟨p, 0, none⟩)) _ p rfl).mono ?_))
  rintro _ w13' ⟨rfl, rfl⟩
  go_wp2_with ((with_reducible refine (take_v p pc 1 false _ z _ hp13 (by simp) (by simp [Array.getD])).mono ?_))
  rintro _ w14 ⟨rfl, hp14, t14⟩
  have hq14 := hq13.tn t14 (by simp; omega) (by simp; omega)
  have H14 := H13.trans (t14.below (by omega) (by intro x hx; simp at hx; omega))
  have T8 : Tn [pc, rc] w8 w14 := (((((t9.mono (by simp)).trans (t10.mono (by simp))).trans (t11.mono (by simp))).trans (t12.mono (by simp))).trans (t13.mono (by simp))).trans (t14.mono (by simp))
  have k14 := k8.tn T8 (by intro x hx; simp at hx; rcases hx with rfl | rfl; exact .inl hp8.nbc; exact .inl (NB.of_ge (by omega)))
  have j14 : Elem (fun _ => True) w14 z [122] := (hz.mono (fun _ _ => trivial)).tn (X := [pc, rc]) ((((t11.mono (by simp)).trans (t12.mono (by simp))).trans (t13.mono (by simp))).trans (t14.mono (by simp))) (by intro x hx; simp at hx; rcases hx with rfl | rfl; exact .inl hp10.nbc; exact .inl (NB.of_ge (by omega)))
  go_wp2_with ((with_reducible refine (ready_no none 0 0 (fun _ => .pointer none) _ (by decide) (fun h => absurd h (by decide)) (fun i h => absurd h (by omega))).mono ?_))
  rintro _ w15 ⟨rfl, rfl⟩
  have c1 := k14.arg.back
  have c2 := j14.arg.back
  go_wp2_with ((with_reducible refine (closed_q q qc 2 _ _ _ hq14).mono ?_))
  rintro _ w16 ⟨rfl, rfl⟩
  go_wp2_with ((with_reducible refine (closed_q p pc 1 _ _ _ hp14).mono ?_))
  rintro _ w16 ⟨rfl, rfl⟩
  go_wp2_with ((with_reducible refine (len_q q qc 2 _ _ _ hq14).mono ?_))
  rintro _ w16 ⟨rfl, rfl⟩
  go_wp2
  go_ret
  exact ⟨rfl, H14⟩
end Go.Proofs.Ytfkhkifgcjpfnaa
