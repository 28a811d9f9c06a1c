/- Queues: Move. -/
import Derived.Test.YtfkhkifgcjpfnaaQuB
import Derived.LaidEqlPtr
set_option linter.unusedVariables false
namespace Go.Proofs.Ytfkhkifgcjpfnaa
open Go.Conc Go.RowKit

theorem q_info : ∃ j, Try.prog.info? 49 = some j ∧ j.size = 2 := by
  have h : (Try.prog.info? 49).map (·.size) = some 2 := by kernel_rfl
  obtain ⟨i, hi, hb⟩ := Option.map_eq_some_iff.1 h
  exact ⟨i, hi, hb⟩
theorem ptr_same (a : Addr) (w : World) : (binOp .eql 23 (.pointer (some a)) (.pointer (some a))).run Try.prog w = .ok (.bool true) w := by
  obtain ⟨j, hj, _⟩ := q_info
  exact run_eql_ptr_same w a Try.underlying23 hj
theorem ptr_other {q c cap q' c' cap' : Nat} {cl cl' : Bool} {buf buf' : Array Value} {w : World} (h : QS w q c cap cl buf) (h' : QS w q' c' cap' cl' buf') (hne : q ≠ q') : (binOp .eql 23 (.pointer (some ⟨q, 0, none⟩)) (.pointer (some ⟨q', 0, none⟩))).run Try.prog w = .ok (.bool false) w := by
  obtain ⟨j, hj, hs⟩ := q_info
  obtain ⟨_, _, h1, _⟩ := h
  obtain ⟨_, _, h2, _⟩ := h'
  exact run_eql_ptr_other w Try.underlying23 hj (by omega) (by intro e; injection e with e; exact hne e) h1 h2
theorem move_same (p : Value) (w : World) (q : Nat) (hp : p = .pointer (some ⟨q, 0, none⟩)) :
    Calls Try.prog 13 #[p, p] w fun e w' => e = .returned (.bool false) ∧ w = w' := by
  subst hp
  have hcmp := ptr_same ⟨q, 0, none⟩ w
  go_enter Try.func13, Try.ntmps13
  go_wp2
  go_ret
  exact ⟨rfl, rfl⟩

/-- What takes nothing: the nil queue, a closed one, a full one. -/
def Refuses (w : World) (v : Value) : Prop := v = .pointer none ∨ ∃ q c cap cl buf, v = .pointer (some ⟨q, 0, none⟩) ∧ QS w q c cap cl buf ∧ (cl = true ∨ buf.size = cap)
theorem refuses_t (v : Value) (w : World) (h : Refuses w v) : Calls Try.prog 18 #[v] w fun e w' => e = .returned (.bool true) ∧ Below w.heap.size w w' := by
  rcases h with rfl | ⟨q, c, cap, cl, buf, rfl, hq, h⟩
  · exact refuses_nil w
  · cases cl with
    | true => exact refuses_closed q c cap buf w hq
    | false =>
      rcases h with h | h
      · cases h
      · refine (refuses_open q c cap buf w hq).mono ?_
        rintro e w' ⟨rfl, hb⟩
        exact ⟨ret_bool (by simp [h]), hb⟩
theorem move_refused (a : Addr) (v : Value) (w : World) (hcmp : (binOp .eql 23 (.pointer (some a)) v).run Try.prog w = .ok (.bool false) w) (h : Refuses w v) :
    Calls Try.prog 13 #[.pointer (some a), v] w fun e w' => e = .returned (.bool false) ∧ Below w.heap.size w w' := by
  go_enter Try.func13, Try.ntmps13
  go_wp2_with ((with_reducible refine (refuses_t v _ h).mono ?_))
  rintro _ w1 ⟨rfl, hb⟩
  go_wp2
  go_ret
  exact ⟨rfl, hb⟩
theorem move_empty (a q2 c2 cap2 : Nat) (buf2 : Array Value) (w : World) (hne : a ≠ q2) (hcmp : (binOp .eql 23 (.pointer (some ⟨a, 0, none⟩)) (.pointer (some ⟨q2, 0, none⟩))).run Try.prog w = .ok (.bool false) w) (ha : EmptyQ w (.pointer (some ⟨a, 0, none⟩))) (h2 : QS w q2 c2 cap2 false buf2) (hroom : buf2.size < cap2) :
    Calls Try.prog 13 #[.pointer (some ⟨a, 0, none⟩), .pointer (some ⟨q2, 0, none⟩)] w fun e w' => e = .returned (.bool false) ∧ Below w.heap.size w w' := by
  have hd : decide (buf2.size = cap2) = false := by simp; omega
  have hw := refuses_open q2 c2 cap2 buf2 w h2
  rw [hd] at hw
  go_enter Try.func13, Try.ntmps13
  go_wp2_with ((with_reducible refine hw.mono ?_))
  rintro _ w1 ⟨rfl, hb⟩
  have ha1 := ha.below hb
  go_wp2_with ((with_reducible refine (take_e _ _ ha1).mono ?_))
  rintro _ w2 ⟨rfl, rfl⟩
  go_wp2
  go_ret
  exact ⟨rfl, hb⟩
theorem move_ok (q1 c1 cap1 q2 c2 cap2 : Nat) (cl1 : Bool) (buf1 buf2 : Array Value) (l : List UInt8) (S : Nat → Prop) (w : World) (h1 : QS w q1 c1 cap1 cl1 buf1) (hs : 0 < buf1.size) (h2 : QS w q2 c2 cap2 false buf2) (hroom : buf2.size < cap2) (hq : q1 ≠ q2) (hc : c1 ≠ c2) (hl : Elem S w (buf1.getD 0 undef) l) (hlen : l.length ≤ 140737488355328) :
    Calls Try.prog 13 #[.pointer (some ⟨q1, 0, none⟩), .pointer (some ⟨q2, 0, none⟩)] w fun e w' => e = .returned (.bool true) ∧ ∃ v, Elem (fun b => w.heap.size ≤ b) w' v l ∧ QS w' q1 c1 cap1 cl1 (buf1.extract 1 buf1.size) ∧ QS w' q2 c2 cap2 false (buf2.push v) ∧ Tn [c1, c2] w w' := by
  have hd : decide (buf2.size = cap2) = false := by simp; omega
  have hw := refuses_open q2 c2 cap2 buf2 w h2
  rw [hd] at hw
  have hcmp := ptr_other h1 h2 hq
  go_enter Try.func13, Try.ntmps13
  go_wp2_with ((with_reducible refine hw.mono ?_))
  rintro _ w1 ⟨rfl, hb⟩
  have k1 := h1.below hb h1.ltq h1.ltc
  have k2 := h2.below hb h2.ltq h2.ltc
  have kl := hl.below hb
  generalize hv : buf1.getD 0 undef = v0 at kl
  go_wp2_with ((with_reducible refine (take_some q1 c1 cap1 cl1 buf1 _ k1 hs).mono ?_))
  rintro _ w2 ⟨rfl, m1, hg⟩
  have t2 := Tn.of_grown hg
  have m2 := k2.tn t2 (by simp; exact (k2.apart k1)) (by simp; exact Ne.symm hc)
  have ml := kl.tn t2 (by intro x hx; simp at hx; subst hx; exact .inl k1.nbc)
  rw [hv]
  obtain ⟨A, k, rfl, hr⟩ := ml.rd
  go_wp2_with ((with_reducible refine (put_room q2 c2 cap2 buf2 A l k _ m2 hroom hr hlen).mono ?_))
  rintro _ w3 ⟨rfl, v, hv3, n2, hg3⟩
  go_wp2
  go_ret
  have t3 := Tn.of_grown hg3
  have tb : Tn [c1, c2] w w2 := ((Tn.of_below hb).mono (by simp)).trans (t2.mono (by simp))
  refine ⟨rfl, v, hv3.mono (fun b hb' => Nat.le_trans tb.size hb'), m1.tn t3 ?_ ?_, n2, tb.trans (t3.mono (by simp))⟩
  · simp; exact m1.apart m2
  · simp; exact hc
end Go.Proofs.Ytfkhkifgcjpfnaa
