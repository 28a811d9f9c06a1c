/- QueueOrder's walk. -/
import Derived.Test.YtfkhkifgcjpfnaaQuD
set_option linter.unusedVariables false
namespace Go.Proofs.Ytfkhkifgcjpfnaa
open Go.Conc Go.RowKit

set_option maxRecDepth 100000 in
set_option maxHeartbeats 4000000 in
theorem order_walk (A : Option Addr) (l : List ByteArray) (cap : Nat) (st : Int) (w : World) (hr : RdR StrZ 1 w A l) (hlc : l.length ≤ cap) (hcm : cap ≤ maxLen) (hst : (Lit.int .i64 st).wf = true) :
    Calls Try.prog 6 #[.slice A l.length cap, .int .i64 st] w fun e w' => e = .returned (.bool true) ∧ Below w.heap.size w w' := by
  have hall : ∀ i (h : i < l.length), l[i].size ≤ 140737488351232 := fun i h => by
    obtain ⟨_, _, _, _, hv, _⟩ := hr.one i h
    exact hv.2
  replace hall := Lib.hid hall
  go_enter Try.func6, Try.ntmps6
  go_wp2_with ((with_reducible refine (awake_t _).mono ?_))
  rintro _ w0 ⟨rfl, hb0⟩
  by_cases h30 : 50 < l.length
  · have h30' : (50 : Int) < (l.length : Int) := by omega
    go_wp2
    go_ret
    exact ⟨rfl, hb0⟩
  have h30' : ¬ (50 : Int) < (l.length : Int) := by omega
  by_cases hs1 : st < 1
  · go_wp2
    go_ret
    exact ⟨rfl, hb0⟩
  by_cases hs2 : 10 < st
  · go_wp2
    go_ret
    exact ⟨rfl, hb0⟩
  go_wp2_with ((with_reducible refine (new_k 64 64 _ rfl (by decide) (by decide)).mono ?_))
  rintro _ w1 ⟨a, ac, rfl, ha1, la, lac, hb1⟩
  go_wp2_with ((with_reducible refine (new_k 64 64 _ rfl (by decide) (by decide)).mono ?_))
  rintro _ w2 ⟨b, bc, rfl, hq2, lb, lbc, hb2⟩
  have s0 := hb0.size
  have s1 := hb1.size
  have s2 := hb2.size
  have lta := ha1.ltq
  have ltac := ha1.ltc
  have ltb := hq2.ltq
  have ltbc := hq2.ltc
  have na := ha1.ne
  have nb := hq2.ne
  have ha2 := ha1.below hb2 lta ltac
  have H2 : Below w.heap.size w w2 := (hb0.trans (hb1.mono (by omega))).trans (hb2.mono (by omega))
  go_wp2
  go_loopw [10] (fun i wr => ∃ (k x : Nat) (bufa bufb : Array Value), k ≤ l.length ∧ x ≤ k ∧ i = .int .i64 k ∧ QS wr a ac 64 false bufa ∧ QS wr b bc 64 false bufb ∧ Buf (fun _ => True) wr bufa (((l.take k).drop x).map bs) ∧ Buf (fun _ => True) wr bufb ((l.take x).map bs) ∧ Below w.heap.size w wr) (fun i _ => l.length - (intOf i).toNat)
  case atStart => exact ⟨0, 0, #[], #[], Nat.zero_le _, Nat.le_refl _, rfl, ha2, hq2, Buf.nil, Buf.nil, H2⟩
  case round =>
    obtain ⟨k, x, bufa, bufb, hk, hx, rfl, ha, hq, hba, hbb, hb⟩ := hrel
    have hsz := hb.size
    by_cases hlt : k < l.length
    · have hlt' : (k : Int) < (l.length : Int) := by omega
      obtain ⟨b0, o0, v0, rfl, ⟨hv0, hlz⟩, hcell⟩ := (hr.below StrZ.keeps hb (Nat.le_refl _)).one k hlt
      injection hv0 with hv0
      subst hv0
      obtain ⟨cc, o, hconv, hca⟩ := conv_arg wr l[k]
      have t12 := tn_conv wr o []
      have ha3 := ha.tn t12 (by simp) (by simp)
      have hbas : bufa.size = k - x := by rw [hba.1, List.length_map, List.length_drop, List.length_take]; omega
      have hbbs : bufb.size = x := by rw [hbb.1, List.length_map, List.length_take]; omega
      have lq1 := ha.ltq
      have lc1 := ha.ltc
      go_wp2_with ((with_reducible refine (put_v a ac 64 bufa _ (bs l[k]) _ ha3 (by omega) hca.out (by rw [bs_len]; omega)).mono ?_))
      first | (rintro _ w3 rfl v hv ha4 t23) | (rintro _ w3 ⟨rfl, v, hv, ha4, t23⟩)
      have t13 : Tn [ac] wr w3 := (t12.mono (by simp)).trans t23
      have hq4 := hq.tn t13 (by simp; omega) (by simp; omega)
      have hba4 : Buf (fun _ => True) w3 (bufa.push v) (((l.take (k + 1)).drop x).map bs) := by
        rw [List.take_succ_eq_append_getElem hlt, List.drop_append_of_le_length (by rw [List.length_take]; omega), List.map_append]
        exact Buf.push (hba.tn t13 (nb1 ha.nbc)) (hv.mono (fun _ _ => trivial))
      have hbb4 := hbb.tn t13 (nb1 ha.nbc)
      have hb4 := hb.trans (t13.below (by omega) (by intro x hx; simp at hx; omega))
      have s4 := t13.size
      by_cases hrem : (k : Int) % st = 0
      · have hst0 : st ≠ 0 := by omega
        have hxl : x < l.length := by omega
        have hdx : ((l.take (k + 1)).drop x).map bs = bs l[x] :: ((l.take (k + 1)).drop (x + 1)).map bs := by
          rw [List.drop_eq_getElem_cons (by rw [List.length_take]; omega), List.getElem_take, List.map_cons]
        rw [hdx] at hba4
        have hhd := hba4.head
        have htl := hba4.tail
        have hxz := hall.out x hxl
        go_wp2_with ((with_reducible refine (move_ok a ac 64 b bc 64 false (bufa.push v) bufb (bs l[x]) (fun _ => True) _ ha4 (by simp) hq4 (by omega) (by omega) (by omega) hhd (by rw [bs_len]; omega)).mono ?_))
        first | (rintro _ w5 rfl v2 hv2 ha5 hq5 t5) | (rintro _ w5 ⟨rfl, v2, hv2, ha5, hq5, t5⟩)
        have hnb : ∀ y ∈ [ac, bc], NB w3 y ∨ ¬ True := by
          intro y hy
          simp at hy
          rcases hy with rfl | rfl
          · exact .inl ha4.nbc
          · exact .inl hq4.nbc
        have lq4 := hq4.ltc
        go_wp2
        go_roundw
        case rel =>
          refine ⟨k + 1, x + 1, _, _, by omega, by omega, by go_num, ha5, hq5, htl.tn t5 hnb, ?_, hb4.trans (t5.below (by omega) (by intro y hy; simp at hy; omega))⟩
          rw [List.take_succ_eq_append_getElem hxl, List.map_append]
          exact Buf.push (hbb4.tn t5 hnb) (hv2.mono (fun _ _ => trivial))
        case measure => simp [intOf]; omega
      · have hst0 : st ≠ 0 := by omega
        have hrf : ((k : Int) % st == 0) = false := by simpa using hrem
        have hrf2 : decide ((k : Int) % st = 0) = false := by simpa using hrem
        go_wp2
        go_roundw
        case rel => exact ⟨k + 1, x, _, _, by omega, by omega, by go_num, ha4, hq4, hba4, hbb4, hb4⟩
        case measure => simp [intOf]; omega
    · obtain rfl : k = l.length := by omega
      have hlt' : ¬ (l.length : Int) < (l.length : Int) := by omega
      rw [List.take_length] at hba
      go_wp2
      go_loopw [9] (fun i wn => ∃ (k : Nat) (bufa bufb : Array Value) (La Lb : List (List UInt8)), k ≤ l.length ∧ i = .int .i64 k ∧ QS wn a ac 64 false bufa ∧ QS wn b bc 64 false bufb ∧ Buf (fun _ => True) wn bufa La ∧ Buf (fun _ => True) wn bufb Lb ∧ Lb ++ La = (l.drop k).map bs ∧ Below w.heap.size w wn) (fun i _ => l.length - (intOf i).toNat)
      case atStart => exact ⟨0, bufa, bufb, _, _, Nat.zero_le _, rfl, ha, hq, hba, hbb, by rw [← List.map_append, List.take_append_drop, List.drop_zero], hb⟩
      case round =>
        obtain ⟨k, bufa, bufb, La, Lb, hk, rfl, ha4, hq4, hba4, hbb4, hL, hb4⟩ := hrel
        have hs4 := hb4.size
        have la4 := ha4.ltq
        have lac4 := ha4.ltc
        have lq4 := hq4.ltq
        have lqc4 := hq4.ltc
        by_cases hlt : k < l.length
        · have hlt2 : (k : Int) < (l.length : Int) := by omega
          have hdr : (l.drop k).map bs = bs l[k] :: (l.drop (k + 1)).map bs := by rw [List.drop_eq_getElem_cons hlt, List.map_cons]
          rw [hdr] at hL
          cases Lb with
          | cons y Lb =>
            rw [List.cons_append] at hL
            injection hL with hL1 hL2
            subst hL1
            have hv := hbb4.head
            have hbt := hbb4.tail
            have hbz : 0 < bufb.size := by rw [hbb4.1, List.length_cons]; omega
            generalize hvv : bufb.getD 0 undef = v at hv
            go_wp2_with ((with_reducible refine (ready_v wr.heap.size 0 2 2 0 b bc 64 0 rfl false bufb v hvv (fun i => if i = 0 then .pointer (some ⟨b, 0, none⟩) else .pointer (some ⟨a, 0, none⟩)) _ (by decide) (by decide) ?_ ?_ rfl (hq4.one _) hbz).mono ?_))
            · intro i hi
              rcases (by omega : i = 0 ∨ i = 1) with rfl | rfl <;> simp [World.cell?, World.alloc, -World.alloc_eq]
            · intro i hi
              omega
            first | (rintro _ w5 rfl hq5 ht5) | (rintro _ w5 ⟨rfl, hq5, ht5⟩)
            have t5 := (tn_one wr _ _).trans ht5
            have hnb := nb1 (S := fun _ => True) hq4.nbc
            have hv5 := hv.tn t5 hnb
            have hb5 : Below w.heap.size w w5 := hb4.trans (t5.below (by omega) (by intro x hx; simp at hx; omega))
            have ha5 := ha4.tn t5 (by simp; omega) (by simp; omega)
            obtain ⟨b0, o0, v0, rfl, ⟨hv0, hlz⟩, hcell⟩ := (hr.below StrZ.keeps hb5 (Nat.le_refl _)).one k hlt
            injection hv0 with hv0
            subst hv0
            have hc2 := fun nd => ArgB.str (w := w5.drewN nd) hv5.arg
            go_wp2_with fail
            go_quiet (fail)
            go_wp2
            go_roundw
            case rel => exact ⟨k + 1, _, _, _, _, by omega, by go_num, ha5, hq5, hba4.tn (t5.drewN nq) hnb, hbt.tn (t5.drewN nq) hnb, hL2, below_drewN hb5 nq⟩
            case measure => simp [intOf]; omega
          | nil =>
            rw [List.nil_append] at hL
            subst hL
            have hv := hba4.head
            have hbt := hba4.tail
            have hbz : 0 < bufa.size := by rw [hba4.1, List.length_cons]; omega
            have zb : bufb.size = 0 := by rw [hbb4.1]; rfl
            generalize hvv : bufa.getD 0 undef = v at hv
            go_wp2_with ((with_reducible refine (ready_v wr.heap.size 0 2 2 1 a ac 64 1 rfl false bufa v hvv (fun i => if i = 0 then .pointer (some ⟨b, 0, none⟩) else .pointer (some ⟨a, 0, none⟩)) _ (by decide) (by decide) ?_ ?_ rfl (ha4.one _) hbz).mono ?_))
            · intro i hi
              rcases (by omega : i = 0 ∨ i = 1) with rfl | rfl <;> simp [World.cell?, World.alloc, -World.alloc_eq]
            · intro i hi
              obtain rfl : i = 0 := by omega
              exact EmptyQ.of0 (hq4.one _) zb
            first | (rintro _ w5 rfl ha5 ht5) | (rintro _ w5 ⟨rfl, ha5, ht5⟩)
            have t5 := (tn_one wr _ _).trans ht5
            have hnb := nb1 (S := fun _ => True) ha4.nbc
            have hv5 := hv.tn t5 hnb
            have hb5 : Below w.heap.size w w5 := hb4.trans (t5.below (by omega) (by intro x hx; simp at hx; omega))
            have hq5 := hq4.tn t5 (by simp; omega) (by simp; omega)
            obtain ⟨b0, o0, v0, rfl, ⟨hv0, hlz⟩, hcell⟩ := (hr.below StrZ.keeps hb5 (Nat.le_refl _)).one k hlt
            injection hv0 with hv0
            subst hv0
            have hc2 := fun nd => ArgB.str (w := w5.drewN nd) hv5.arg
            go_wp2_with fail
            go_quiet (fail)
            go_wp2
            go_roundw
            case rel => exact ⟨k + 1, _, _, _, [], by omega, by go_num, ha5, hq5, hbt.tn (t5.drewN nq) hnb, hbb4.tn (t5.drewN nq) hnb, rfl, below_drewN hb5 nq⟩
            case measure => simp [intOf]; omega
        · obtain rfl : k = l.length := by omega
          have hlt2 : ¬ (l.length : Int) < (l.length : Int) := by omega
          rw [List.drop_length, List.map_nil] at hL
          obtain ⟨rfl, rfl⟩ := List.append_eq_nil_iff.1 hL
          have za : bufa.size = 0 := by rw [hba4.1]; rfl
          have zb : bufb.size = 0 := by rw [hbb4.1]; rfl
          go_wp2_with ((with_reducible refine (ready_no (some ⟨wr.heap.size, 0, none⟩) 2 2 (fun i => if i = 0 then .pointer (some ⟨a, 0, none⟩) else .pointer (some ⟨b, 0, none⟩)) _ (by decide) (fun _ => ⟨wr.heap.size, 0, rfl, ?_⟩) ?_).mono ?_))
          · intro i hi
            rcases (by omega : i = 0 ∨ i = 1) with rfl | rfl <;> simp
          · intro i hi
            rcases (by omega : i = 0 ∨ i = 1) with rfl | rfl
            · exact EmptyQ.of0 (ha4.one _) za
            · exact EmptyQ.of0 (hq4.one _) zb
          go_ret
          exact ⟨rfl, hb4.trans ((below_one _ _).mono (by omega))⟩
end Go.Proofs.Ytfkhkifgcjpfnaa
