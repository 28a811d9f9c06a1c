/- QueueCopies' walk. -/
import Derived.Test.YtfkhkifgcjpfnaaQuAw
set_option linter.unusedVariables false
namespace Go.Proofs.Ytfkhkifgcjpfnaa
open Go.Conc Go.RowKit

theorem u8Info : (Try.prog.info? 5).map (fun i => (i.zero, i.size, i.bytes)) = some (some (.int .u8 0), 1, 1) := by kernel_rfl
theorem own_empty (w : World) (B : Nat) (hB : B ≤ w.heap.size) : (w.alloc (.cells #[] 5)).ownsRow B 5 1 (.slice (some ⟨w.heap.size, 0, none⟩) 0 0) ([] : List UInt8).length (Lib.byteCells []) :=
  World.ownsRow_made w #[] 0 hB (Nat.zero_le _) rfl
theorem tn_one (w : World) (o : Obj) (X : List Nat) : Tn X w (w.alloc o) := (Tn.of_below (below_one w o)).mono (by simp)
theorem Tn.drewN {X : List Nat} {w w' : World} (h : Tn X w w') (n : Nat) : Tn X w (w'.drewN n) := ⟨h.os, h.tape, h.output, h.size, h.block⟩
theorem nb1 {w : World} {c : Nat} {S : Nat → Prop} (h : NB w c) : ∀ x ∈ [c], NB w x ∨ ¬ S x := by
  intro x hx
  simp at hx
  subst hx
  exact .inl h
/-- The first n cells of block g are bytes, whatever; none is frozen. -/
def Row8 (w : World) (g n : Nat) : Prop := ∃ cur, w.heap[g]? = some (.cells cur 5 (0, 0)) ∧ ∀ j, j < n → ∃ z : Int, cur[j]? = some (.int .u8 z)
theorem Row8.cell {w : World} {g n : Nat} (h : Row8 w g n) (j : Nat) (hj : j < n) : ∃ z : Int, w.cell? ⟨g, j, none⟩ = some (.int .u8 z) := by
  obtain ⟨cur, h1, h2⟩ := h
  obtain ⟨z, hz⟩ := h2 j hj
  exact ⟨z, by simp [World.cell?, h1, hz]⟩
theorem Row8.frozen {w : World} {g n : Nat} (h : Row8 w g n) (j : Nat) : w.frozen? ⟨g, j, none⟩ = false := by
  obtain ⟨cur, h1, h2⟩ := h
  simp [World.frozen?, h1]
theorem Row8.set_ {w : World} {g n : Nat} (h : Row8 w g n) (j : Nat) (z : Int) : Row8 (w.setCell ⟨g, j, none⟩ (.int .u8 z)) g n := by
  obtain ⟨cur, h1, h2⟩ := h
  refine ⟨cur.setIfInBounds j (.int .u8 z), by simp [World.setCell, Array.getElem?_modify, h1], fun i hi => ?_⟩
  obtain ⟨y, hy⟩ := h2 i hi
  have hlt : i < cur.size := (Array.getElem?_eq_some_iff.1 hy).1
  rw [Array.getElem?_setIfInBounds]
  by_cases hij : j = i
  · subst hij
    exact ⟨z, by simp [hlt]⟩
  · exact ⟨y, by simp [hij, hy]⟩
theorem Row8.tn {w w' : World} {g n : Nat} {X : List Nat} (h : Row8 w g n) (ht : Tn X w w') (hg : g ∉ X) : Row8 w' g n := by
  obtain ⟨cur, h1, h2⟩ := h
  exact ⟨cur, (ht.block g (Array.getElem?_eq_some_iff.1 h1).1 hg).trans h1, h2⟩
/-- A row of bytes of one's own: the slice value; its block. -/
theorem own_row8 {w : World} {B : Nat} {v : Value} {l : List UInt8} (h : w.ownsRow B 5 1 v l.length (Lib.byteCells l)) (hB : B < w.heap.size) : ∃ A cap g, v = .slice A l.length cap ∧ l.length ≤ cap ∧ Rd w A l ∧ B ≤ g ∧ g < w.heap.size ∧ (0 < l.length → A = some ⟨g, 0, none⟩ ∧ Row8 w g l.length) := by
  obtain ⟨A, cap, hv, hc, hr⟩ := Bts.of_own h
  rcases h.2 with ⟨h1, h0⟩ | ⟨g, cap', cur, h1, hg, hh, hn, hm, hs, ht⟩
  · exact ⟨A, cap, B, hv, hc, hr, Nat.le_refl _, hB, fun hp => absurd hp (by omega)⟩
  · have hlt : g < w.heap.size := (Array.getElem?_eq_some_iff.1 hh).1
    rw [h1] at hv
    injection hv with e1 e2 e3
    refine ⟨A, cap, g, by rw [h1, e1, e3], hc, hr, hg, hlt, fun hp => ⟨e1.symm, cur, hh, fun j hj => ?_⟩⟩
    have h2 : (cur.toList.take (l.length * 1))[j]? = (Lib.byteCells l)[j]? := by rw [ht]
    rw [List.getElem?_take_of_lt (by omega)] at h2
    exact ⟨(l[j].toNat : Int), by simpa [Lib.byteCells, hj] using h2⟩

set_option maxRecDepth 100000 in
set_option maxHeartbeats 4000000 in
theorem copies_walk (A : Option Addr) (l : List (List UInt8)) (cap : Nat) (w : World) (hr : RdR BytesR 1 w A l) (hlc : l.length ≤ cap) (hcm : cap ≤ maxLen) :
    Calls Try.prog 5 #[.slice A l.length cap] w fun e w' => e = .returned (.bool true) ∧ Below w.heap.size w w' := by
  obtain ⟨i0, hi0, hz0, hz1, hz2⟩ := info_parts u8Info
  go_enter Try.func5, Try.ntmps5
  go_wp2_with ((with_reducible refine (awake_t _).mono ?_))
  rintro _ w0 ⟨rfl, hb0⟩
  by_cases h30 : 30 < l.length
  · have h30' : (30 : Int) < (l.length : Int) := by omega
    go_wp2
    go_ret
    exact ⟨rfl, hb0⟩
  have h30' : ¬ (30 : Int) < (l.length : Int) := by omega
  go_wp2_with ((with_reducible refine (new_k 64 64 _ rfl (by decide) (by decide)).mono ?_))
  rintro _ w1 ⟨q, c, rfl, hq1, lq, lc, hb1⟩
  have s0 := hb0.size
  have s1 := hb1.size
  have ltq := hq1.ltq
  have ltc := hq1.ltc
  have H1 : Below w.heap.size w w1 := hb0.trans (hb1.mono (by omega))
  go_wp2
  go_loopw [5] (fun i wr => ∃ (k : Nat) (buf : Array Value), k ≤ l.length ∧ i = .int .i64 k ∧ QS wr q c 64 false buf ∧ Buf (fun _ => True) wr buf (l.take k) ∧ Below w.heap.size w wr) (fun i _ => l.length - (intOf i).toNat)
  case atStart => exact ⟨0, #[], Nat.zero_le _, rfl, hq1, Buf.nil, H1⟩
  case round =>
    obtain ⟨k, buf, hk, rfl, hq, hbuf, hb⟩ := hrel
    have hsz := hb.size
    by_cases hlt : k < l.length
    · have hlt' : (k : Int) < (l.length : Int) := by omega
      obtain ⟨b0, o0, v0, rfl, hv0, hcell⟩ := (hr.below BytesR.keeps hb (Nat.le_refl _)).one k hlt
      obtain ⟨Ae, ce, e0, hle, hcm0, hre⟩ := hv0
      injection e0 with e0
      subst e0
      have hne : (k : Int) < (l.length : Int) := hlt'
      by_cases h50 : 50 < l[k].length
      · have h50' : (50 : Int) < (l[k].length : Int) := by omega
        go_wp2
        go_ret
        exact ⟨rfl, hb⟩
      have h50' : ¬ (50 : Int) < (l[k].length : Int) := by omega
      have hoe := own_empty wr wr.heap.size (Nat.le_refl _)
      have ba := below_one wr (.cells #[] 5)
      have hcell2 := (ba.cell (p := ⟨b0, o0 + k, none⟩) (World.block_lt_of_cell? wr _ hcell)).trans hcell
      go_wp2_with (at_builtin; refine wpList_append_rd _ rfl _ _ 27 rfl wr.heap.size 5 i0 Try.underlying27 hi0 hz0 hz1 hz2 _ [] rfl hoe Ae l[k] _ _ rfl rfl (hre.below ba) (by simp; omega) (by simp) ?_)
      intro v6 w2 hown2 g2
      replace hown2 : w2.ownsRow wr.heap.size 5 1 v6 l[k].length (Lib.byteCells l[k]) := hown2
      have t12 : Tn [wr.heap.size] wr w2 := (tn_one wr (.cells #[] 5) _).trans (Tn.of_grown g2)
      have s2 : wr.heap.size < w2.heap.size := by
        have := g2.size
        simp at this
        omega
      obtain ⟨A6, c6, g, rfl, hc6, hr6, hg1, hg2, hrow⟩ := own_row8 hown2 s2
      have lq1 := hq.ltq
      have lc1 := hq.ltc
      have hq2 := hq.tn t12 (by simp; omega) (by simp; omega)
      have hbs : buf.size = k := by rw [hbuf.1, List.length_take]; omega
      have harg : ArgB w2 (.slice A6 l[k].length c6) l[k] := ⟨A6, c6, rfl, hr6⟩
      go_wp2_with ((with_reducible refine (put_v q c 64 buf _ l[k] _ hq2 (by omega) harg (by omega)).mono ?_))
      rintro _ w3 ⟨rfl, v, hv, hq3, t23⟩
      have s3 := t23.size
      have hbuf3 := (hbuf.lab.tn t12 (by intro x hx; simp at hx; subst hx; exact .inr (by simp))).tn t23 (by intro x hx; simp at hx; subst hx; exact .inl hq2.nbc)
      have hb2 : Below w.heap.size w w2 := hb.trans (t12.below (by omega) (by intro x hx; simp at hx; omega))
      have hb3 : Below w.heap.size w w3 := hb2.trans (t23.below (by omega) (by intro x hx; simp at hx; omega))
      have hrow3 : 0 < l[k].length → A6 = some ⟨g, 0, none⟩ ∧ Row8 w3 g l[k].length := fun hp => ⟨(hrow hp).1, (hrow hp).2.tn t23 (by simp; omega)⟩
      go_wp2
      go_loopw [7] (fun i wm => ∃ m : Nat, m ≤ l[k].length ∧ i = .int .i64 m ∧ Tn [g] w3 wm ∧ (0 < l[k].length → Row8 wm g l[k].length)) (fun i _ => l[k].length - (intOf i).toNat)
      case atStart => exact ⟨0, Nat.zero_le _, rfl, Tn.refl _ _, fun hp => (hrow3 hp).2⟩
      case round =>
        obtain ⟨m, hm, rfl, tm, hrw⟩ := hrel
        by_cases hml : m < l[k].length
        · have hml' : (m : Int) < (l[k].length : Int) := by omega
          obtain ⟨hA6, _⟩ := hrow3 (by omega)
          subst hA6
          have hrm := hrw (by omega)
          obtain ⟨z, hz⟩ := hrm.cell m hml
          have hfz := hrm.frozen m
          have hmc : m < c6 := by omega
          go_wp2
          go_roundw
          case rel => exact ⟨m + 1, by omega, by go_num, tm.trans (Tn.set (a := ⟨g, m, none⟩)), fun _ => hrm.set_ m _⟩
          case measure => simp [intOf]; omega
        · obtain rfl : m = l[k].length := by omega
          have hml' : ¬ (l[k].length : Int) < (l[k].length : Int) := by omega
          go_wp2
          go_roundw
          case rel =>
            refine ⟨k + 1, buf.push v, by omega, by go_num, hq3.tn tm (by simp; omega) (by simp; omega), ?_, hb3.trans (tm.below (by omega) (by intro x hx; simp at hx; omega))⟩
            rw [List.take_succ_eq_append_getElem hlt]
            refine Buf.push ?_ ?_
            · exact (hbuf3.tn tm (by intro x hx; simp at hx; subst hx; exact .inr (by simp; omega))).mono (fun _ _ => trivial)
            · exact (hv.tn tm (by intro x hx; simp at hx; subst hx; exact .inr (by omega))).mono (fun _ _ => trivial)
          case measure => simp [intOf]; omega
    · obtain rfl : k = l.length := by omega
      have hlt' : ¬ (l.length : Int) < (l.length : Int) := by omega
      rw [List.take_length] at hbuf
      go_wp2
      go_loopw [8] (fun i wn => ∃ (k : Nat) (bufk : Array Value), k ≤ l.length ∧ i = .int .i64 k ∧ QS wn q c 64 false bufk ∧ Buf (fun _ => True) wn bufk (l.drop k) ∧ Below w.heap.size w wn) (fun i _ => l.length - (intOf i).toNat)
      case atStart => exact ⟨0, buf, Nat.zero_le _, rfl, hq, by simpa using hbuf, hb⟩
      case round =>
        obtain ⟨k, bufk, hk, rfl, hq4, hbuf4, hb4⟩ := hrel
        have hs4 := hb4.size
        by_cases hlt : k < l.length
        · have hlt2 : (k : Int) < (l.length : Int) := by omega
          have hdr : l.drop k = l[k] :: l.drop (k + 1) := List.drop_eq_getElem_cons hlt
          rw [hdr] at hbuf4
          have hv := hbuf4.head
          have hbt := hbuf4.tail
          have hbz : 0 < bufk.size := by rw [hbuf4.1, List.length_cons]; omega
          generalize hvv : bufk.getD 0 undef = v at hv
          go_wp2_with ((with_reducible refine (take_v q c 64 false bufk v _ hq4 hbz hvv).mono ?_))
          rintro _ w5 ⟨rfl, hq5, t5⟩
          have hnb := nb1 (S := fun _ => True) hq4.nbc
          have hv5 := hv.tn t5 hnb
          have hb5 : Below w.heap.size w w5 := hb4.trans (t5.below (by omega) (by intro x hx; simp at hx; omega))
          obtain ⟨b0, o0, v0, rfl, hv0, hcell⟩ := (hr.below BytesR.keeps hb5 (Nat.le_refl _)).one k hlt
          obtain ⟨Ae, ce, e0, hle, hcm0, hre⟩ := hv0
          injection e0 with e0
          subst e0
          have harg : ArgB w5 (.slice Ae l[k].length ce) l[k] := ⟨Ae, ce, rfl, hre⟩
          have hc1 := fun nd => ArgB.back (w := w5.drewN nd) harg
          have hc2 := fun nd => ArgB.back (w := w5.drewN nd) hv5.arg
          obtain ⟨Av, kv, rfl, hrv⟩ := hv5.arg
          go_wp2_with fail
          go_quiet (fail)
          go_wp2
          go_roundw
          case rel => exact ⟨k + 1, _, by omega, by go_num, hq5, hbt.tn (t5.drewN nq) hnb, below_drewN hb5 nq⟩
          case measure => simp [intOf]; omega
        · obtain rfl : k = l.length := by omega
          have hz0 : bufk.size = 0 := by rw [hbuf4.1]; simp
          go_wp2_with ((with_reducible refine (len_q q c 64 false _ _ hq4).mono ?_))
          rintro _ w9 ⟨rfl, rfl⟩
          rw [hz0]
          go_wp2
          go_ret
          exact ⟨rfl, hb4⟩
end Go.Proofs.Ytfkhkifgcjpfnaa
