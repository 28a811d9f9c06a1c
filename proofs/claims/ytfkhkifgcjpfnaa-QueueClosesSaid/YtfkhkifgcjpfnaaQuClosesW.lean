/- QueueCloses' walk. -/
import Derived.Test.YtfkhkifgcjpfnaaQuD
set_option linter.unusedVariables false
namespace Go.Proofs.Ytfkhkifgcjpfnaa
open Go.Conc Go.RowKit

set_option maxRecDepth 100000 in
set_option maxHeartbeats 4000000 in
theorem closes_walk (A : Option Addr) (l : List ByteArray) (cap : Nat) (more : ByteArray) (w : World) (hr : RdR StrZ 1 w A l) (hlc : l.length ≤ cap) (hcm : cap ≤ maxLen) (hs : more.size ≤ maxLen) (hz : more.size ≤ 140737488351232) :
    Calls Try.prog 7 #[.slice A l.length cap, .string more] w fun e w' => e = .returned (.bool true) ∧ Below w.heap.size w w' := by
  go_enter Try.func7, Try.ntmps7
  go_wp2_with ((with_reducible refine (awake_t _).mono ?_))
  rintro _ w0 ⟨rfl, hb0⟩
  by_cases h30 : 60 < l.length
  · have h30' : (60 : Int) < (l.length : Int) := by omega
    go_wp2
    go_ret
    exact ⟨rfl, hb0⟩
  have h30' : ¬ (60 : Int) < (l.length : Int) := by omega
  go_wp2_with ((with_reducible refine (new_k 64 64 _ rfl (by decide) (by decide)).mono ?_))
  rintro _ w1 ⟨q, c, rfl, hq1, lq, lc, hb1⟩
  have s0 := hb0.size
  have s1 := hb1.size
  have ltq := hq1.ltq
  have ltc := hq1.ltc
  have H1 : Below w.heap.size w w1 := hb0.trans (hb1.mono (by omega))
  go_wp2
  go_loopw [7] (fun i wr => ∃ (k : Nat) (buf : Array Value), k ≤ l.length ∧ i = .int .i64 k ∧ QS wr q c 64 false buf ∧ Buf (fun _ => True) wr buf ((l.take k).map bs) ∧ Below w.heap.size w wr) (fun i _ => l.length - (intOf i).toNat)
  case atStart => exact ⟨0, #[], Nat.zero_le _, rfl, hq1, Buf.nil, H1⟩
  case round =>
    obtain ⟨k, buf, hk, rfl, hq, hbuf, hb⟩ := hrel
    have hsz := hb.size
    by_cases hlt : k < l.length
    · have hlt' : (k : Int) < (l.length : Int) := by omega
      obtain ⟨b0, o0, v0, rfl, ⟨hv0, hlz⟩, hcell⟩ := (hr.below StrZ.keeps hb (Nat.le_refl _)).one k hlt
      injection hv0 with hv0
      subst hv0
      obtain ⟨cc, o, hconv, hca⟩ := conv_arg wr l[k]
      have t12 := tn_conv wr o []
      have hq2 := hq.tn t12 (by simp) (by simp)
      have hbs : buf.size = k := by rw [hbuf.1, List.length_map, List.length_take]; omega
      have lq1 := hq.ltq
      have lc1 := hq.ltc
      go_wp2_with ((with_reducible refine (put_v q c 64 buf _ (bs l[k]) _ hq2 (by omega) hca.out (by rw [bs_len]; omega)).mono ?_))
      rintro _ w3 rfl v hv hq3 t23
      have t13 : Tn [c] wr w3 := (t12.mono (by simp)).trans t23
      go_wp2
      go_roundw
      case rel =>
        refine ⟨k + 1, buf.push v, by omega, by go_num, hq3, ?_, hb.trans (t13.below (by omega) (by intro x hx; simp at hx; omega))⟩
        rw [List.take_succ_eq_append_getElem hlt, List.map_append]
        exact Buf.push (hbuf.tn t13 (nb1 hq.nbc)) (hv.mono (fun _ _ => trivial))
      case measure => simp [intOf]; omega
    · obtain rfl : k = l.length := by omega
      have hlt' : ¬ (l.length : Int) < (l.length : Int) := by omega
      rw [List.take_length] at hbuf
      have lq1 := hq.ltq
      have lc1 := hq.ltc
      go_wp2_with ((with_reducible refine (close_v q c 64 _ _ _ hq).mono ?_))
      first | (rintro _ w2 rfl hq2 tt2) | (rintro _ w2 ⟨rfl, hq2, tt2⟩)
      have hbuf2 := hbuf.tn tt2 (nb1 hq.nbq)
      have hb2 := hb.trans (tt2.below (by omega) (by intro x hx; simp at hx; omega))
      obtain ⟨cc, o, hconv, hca⟩ := conv_arg w2 more
      have t12 := tn_conv w2 o []
      have hs2 := hb2.size
      have hq3 := hq2.tn t12 (by simp) (by simp)
      have hb3 := hb2.trans (t12.below (by omega) (by simp))
      have hbuf3 := hbuf2.tn t12 (by simp)
      have hbs : buf.size = l.length := by rw [hbuf.1, List.length_map]
      go_wp2_with ((with_reducible refine (put_closed q c 64 _ _ _ hq3).mono ?_))
      first | (rintro _ w3 rfl e3) | (rintro _ w3 ⟨rfl, e3⟩)
      rw [e3] at hq3 hb3 hbuf3
      clear e3
      go_wp2_with ((with_reducible refine (len_q q c 64 _ _ _ hq3).mono ?_))
      first | (rintro _ w4 rfl rfl) | (rintro _ w4 ⟨rfl, rfl⟩)
      rw [hbs]
      go_wp2_with ((with_reducible refine (closed_q q c 64 _ _ _ hq3).mono ?_))
      first | (rintro _ w4 rfl rfl) | (rintro _ w4 ⟨rfl, rfl⟩)
      go_wp2
      go_loopw [8] (fun i wn => ∃ (k : Nat) (bufk : Array Value), k ≤ l.length ∧ i = .int .i64 k ∧ QS wn q c 64 true bufk ∧ Buf (fun _ => True) wn bufk ((l.drop k).map bs) ∧ Below w.heap.size w wn) (fun i _ => l.length - (intOf i).toNat)
      case atStart => exact ⟨0, buf, Nat.zero_le _, rfl, hq3, by simpa using hbuf3, hb3⟩
      case round =>
        obtain ⟨k, bufk, hk, rfl, hq4, hbuf4, hb4⟩ := hrel
        have hs4 := hb4.size
        by_cases hlt : k < l.length
        · have hlt2 : (k : Int) < (l.length : Int) := by omega
          have hdr : (l.drop k).map bs = bs l[k] :: (l.drop (k + 1)).map bs := by rw [List.drop_eq_getElem_cons hlt, List.map_cons]
          rw [hdr] at hbuf4
          have hv := hbuf4.head
          have hbt := hbuf4.tail
          have hbz : 0 < bufk.size := by rw [hbuf4.1, List.length_cons]; omega
          generalize hvv : bufk.getD 0 undef = v at hv
          go_wp2_with ((with_reducible refine (take_v q c 64 true bufk v _ hq4 hbz hvv).mono ?_))
          first | (rintro _ w5 rfl hq5 t5) | (rintro _ w5 ⟨rfl, hq5, t5⟩)
          have hnb := nb1 (S := fun _ => True) hq4.nbc
          have hv5 := hv.tn t5 hnb
          have hb5 : Below w.heap.size w w5 := hb4.trans (t5.below (by omega) (by intro x hx; simp at hx; omega))
          obtain ⟨b0, o0, v0, rfl, ⟨hv0, hlz⟩, hcell⟩ := (hr.below StrZ.keeps hb5 (Nat.le_refl _)).one k hlt
          injection hv0 with hv0
          subst hv0
          have hc2 := fun nd => ArgB.str (w := w5.drewN nd) hv5.arg
          have hput := fun nd => Lib.hid (put_closed q c 64 _ v (w5.drewN nd) (QS.tn hq5 ((Tn.refl [] w5).drewN nd) (by simp) (by simp)))
          obtain ⟨Av, kv, rfl, hrv⟩ := hv5.arg
          go_wp2_with fail
          go_quiet ((go_at_call 11; exact Calls.quiet_of_same ((hput _).out.mono (fun _ _ h => ⟨h.1, h.2.symm⟩))))
          go_wp2
          go_roundw
          case rel => exact ⟨k + 1, _, by omega, by go_num, hq5, hbt.tn (t5.drewN nq) hnb, below_drewN hb5 nq⟩
          case measure => simp [intOf]; omega
        · obtain rfl : k = l.length := by omega
          have hlt2 : ¬ (l.length : Int) < (l.length : Int) := by omega
          have hz0 : bufk.size = 0 := by rw [hbuf4.1]; simp
          have hE := EmptyQ.of0 hq4 hz0
          go_wp2_with ((with_reducible refine (take_e _ _ hE).mono ?_))
          go_ret
          exact ⟨rfl, hb4⟩
end Go.Proofs.Ytfkhkifgcjpfnaa
