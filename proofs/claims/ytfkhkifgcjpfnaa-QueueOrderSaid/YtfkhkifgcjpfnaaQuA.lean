/- Queues: what each function does. -/
import Derived.Test.YtfkhkifgcjpfnaaCh
import Derived.Test.YtfkhkifgcjpfnaaShelf
set_option linter.unusedVariables false
namespace Go.Proofs.Ytfkhkifgcjpfnaa
open Go.Conc Go.RowKit

/-- 'bytes.Clone'. -/
theorem clone_e (A : Option Addr) (l : List UInt8) (c : Nat) (w : World) (hr : Rd w A l) (hl : l.length ≤ 140737488355328) :
    Calls Try.prog 17 #[.slice A l.length c] w fun e w' => ∃ v, e = .returned v ∧ Elem (fun b => w.heap.size ≤ b) w' v l ∧ Below w.heap.size w w' := by
  rcases A with _ | a
  · have h0 : l = [] := by
      rcases Nat.eq_zero_or_pos l.length with h0 | h0
      · exact List.eq_nil_of_length_eq_zero h0
      · obtain ⟨b, o, h, _⟩ := hr h0
        cases h
    subst h0
    refine (Try.bytes_Clone_nil 0 c w).mono ?_
    rintro e w' ⟨rfl, rfl⟩
    exact ⟨_, rfl, ⟨none, 0, rfl, Nat.le_refl _, Nat.zero_le _, TB.nil, fun x h => absurd h (by simp)⟩, Below.refl _ _⟩
  · refine (Try.bytes_Clone_at a l.length c (l.map fun x => (x.toNat : Int)) w (by simp) (by omega) ?_).mono ?_
    · intro i hi
      obtain ⟨b, o, hA, _, hc⟩ := hr (by omega)
      injection hA with hA
      subst hA
      rw [addp, hc i hi]
      simp [List.getD, hi]
    · rintro e w' ⟨v, rfl, hown, _, hb⟩
      have e1 : (l.map fun x => (x.toNat : Int)).map (Value.int .u8) = Lib.byteCells l := by simp [Lib.byteCells]
      rw [e1] at hown
      refine ⟨v, rfl, ?_, hb⟩
      obtain ⟨A, cap, h1, h2, h3, h4⟩ := TB.of_own hown
      refine ⟨A, cap, h1, h2, h3, h4, fun x _ hx => ?_⟩
      rcases hown.2 with ⟨h5, _⟩ | ⟨g, cap', cur, h5, hg, _⟩
      · rw [h1] at h5
        injection h5 with h5
        rw [hx] at h5
        cases h5
      · rw [h1] at h5
        injection h5 with h5
        rw [hx] at h5
        injection h5 with h5
        subst h5
        exact hg

set_option maxRecDepth 100000 in
set_option maxHeartbeats 1000000 in
theorem put_room (q c cap : Nat) (buf : Array Value) (A : Option Addr) (l : List UInt8) (k : Nat) (w : World) (hq : QS w q c cap false buf) (hroom : buf.size < cap) (hr : Rd w A l) (hl : l.length ≤ 140737488355328) :
    Calls Try.prog 11 #[.pointer (some ⟨q, 0, none⟩), .slice A l.length k] w fun e w' => e = .returned (.bool true) ∧ ∃ v, Elem (fun b => w.heap.size ≤ b) w' v l ∧ QS w' q c cap false (buf.push v) ∧ w.grownBy w' (some c) := by
  refine calls_of_loneTo fun cs => ?_
  have e : Frame.enter Try.prog 11 #[.pointer (some ⟨q, 0, none⟩), .slice A l.length k] .normal = (base 11).at ⟨#[.pointer (some ⟨q, 0, none⟩), .slice A l.length k, undef, undef, undef, undef, undef, undef, undef, undef, undef, undef, undef, undef, undef, undef, undef, undef, undef, undef, undef, undef], []⟩ [.code (Try.f11.body.getD .skip)] := by
    simp [Frame.enter, Frame.at, Try.func11, base, Try.f11]
  rw [e]
  simp only [Try.f11, Option.getD_some]
  have c0 := hq.cell0
  have c1 := hq.cell1
  refine lone_seq (lone_code fun K hK => ?_)
  go_wp2
  refine lone_seq (lone_code fun K hK => ?_)
  go_wp2
  refine lone_seq (lone_code fun K hK => ?_)
  go_wp2_with ((with_reducible refine (clone_e _ _ _ _ hr hl).mono ?_))
  rintro _ w1 ⟨v, rfl, hv, hb⟩
  go_wp2
  have hq1 := hq.grown (row := none) (grown_of_below hb) (by simp) (by simp)
  have hq2 := hq1
  obtain ⟨s, r, g1, g3⟩ := hq1
  refine lone_seq (lone_region ?_)
  simp only [List.size_toArray, List.length_cons, List.length_nil, Nat.reduceAdd, Nat.zero_add, List.range, List.range.loop]
  refine LoneTo.step (step_lone_select_send_room (c := c) (v := v) (z' := .slice none 0 0) (cap := cap) (buf := buf) (s := s) (r := r) (tm := false)
    (stepG_comm (cases := #[scase c v (.slice none 0 0)]) (blocking := false) (shape := .select) (w' := w1) rfl rfl (by decide) (by simp [go_sem, execOp, scase, Act.eval])) g3 hroom) ?_
  rw [Frame.finish_at]
  walk_nrm
  refine LoneTo.goes (n := 4) ?_
  s_op
  s_op
  s_c stepG_region_end
  s_stop
  refine lone_tail rfl rfl Try.func11 (by intro _ h; simp at h) ?_
  go_wp2
  go_ret
  have g4 := grown_setChan (buf := buf.push v) (cap := cap) (cl := false) (s := s + 1) (r := r) (tm := false) (w := w1) hq2.ltc
  exact ⟨rfl, v, hv.chan g4 g3, hq2.setChan _ _ _, grown_trans (grown_of_below hb) g4⟩

set_option maxRecDepth 100000 in
set_option maxHeartbeats 1000000 in
theorem put_full (q c cap : Nat) (buf : Array Value) (A : Option Addr) (l : List UInt8) (k : Nat) (w : World) (hq : QS w q c cap false buf) (hroom : cap ≤ buf.size) (hr : Rd w A l) (hl : l.length ≤ 140737488355328) :
    Calls Try.prog 11 #[.pointer (some ⟨q, 0, none⟩), .slice A l.length k] w fun e w' => e = .returned (.bool false) ∧ Below w.heap.size w w' := by
  refine calls_of_loneTo fun cs => ?_
  have e : Frame.enter Try.prog 11 #[.pointer (some ⟨q, 0, none⟩), .slice A l.length k] .normal = (base 11).at ⟨#[.pointer (some ⟨q, 0, none⟩), .slice A l.length k, undef, undef, undef, undef, undef, undef, undef, undef, undef, undef, undef, undef, undef, undef, undef, undef, undef, undef, undef, undef], []⟩ [.code (Try.f11.body.getD .skip)] := by
    simp [Frame.enter, Frame.at, Try.func11, base, Try.f11]
  rw [e]
  simp only [Try.f11, Option.getD_some]
  have c0 := hq.cell0
  have c1 := hq.cell1
  refine lone_seq (lone_code fun K hK => ?_)
  go_wp2
  refine lone_seq (lone_code fun K hK => ?_)
  go_wp2
  refine lone_seq (lone_code fun K hK => ?_)
  go_wp2_with ((with_reducible refine (clone_e _ _ _ _ hr hl).mono ?_))
  rintro _ w1 ⟨v, rfl, hv, hb⟩
  go_wp2
  have hq1 := hq.grown (row := none) (grown_of_below hb) (by simp) (by simp)
  have hq2 := hq1
  obtain ⟨s, r, g1, g3⟩ := hq1
  refine lone_seq (lone_region ?_)
  simp only [List.size_toArray, List.length_cons, List.length_nil, Nat.reduceAdd, Nat.zero_add, List.range, List.range.loop]
  refine LoneTo.step (step_lone_select_send_full (c := c) (v := v) (z' := .slice none 0 0) (cap := cap) (buf := buf) (s := s) (r := r) (tm := false)
    (stepG_comm (cases := #[scase c v (.slice none 0 0)]) (blocking := false) (shape := .select) (w' := w1) rfl rfl (by decide) (by simp [go_sem, execOp, scase, Act.eval])) g3 hroom) ?_
  rw [Frame.finish_at]
  walk_nrm
  refine LoneTo.goes (n := 4) ?_
  s_op
  s_op
  s_c stepG_region_end
  s_stop
  refine lone_tail rfl rfl Try.func11 (by intro _ h; simp at h) ?_
  go_wp2
  go_ret
  exact ⟨rfl, hb⟩

set_option maxRecDepth 100000 in
set_option maxHeartbeats 1000000 in
theorem take_some (q c cap : Nat) (cl : Bool) (buf : Array Value) (w : World) (hq : QS w q c cap cl buf) (hsome : 0 < buf.size) :
    Calls Try.prog 14 #[.pointer (some ⟨q, 0, none⟩)] w fun e w' => e = .returned (.tuple #[buf.getD 0 undef, .bool true]) ∧ QS w' q c cap cl (buf.extract 1 buf.size) ∧ w.grownBy w' (some c) := by
  refine calls_of_loneTo fun cs => ?_
  have e : Frame.enter Try.prog 14 #[.pointer (some ⟨q, 0, none⟩)] .normal = (base 14).at ⟨#[.pointer (some ⟨q, 0, none⟩), undef, undef, undef, undef, undef, undef, undef, undef, undef, undef, undef, undef, undef, undef, undef], []⟩ [.code (Try.f14.body.getD .skip)] := by
    simp [Frame.enter, Frame.at, Try.func14, base, Try.f14]
  rw [e]
  simp only [Try.f14, Option.getD_some]
  have c0 := hq.cell0
  have c1 := hq.cell1
  refine lone_seq (lone_code fun K hK => ?_)
  go_wp2
  refine lone_seq (lone_code fun K hK => ?_)
  go_wp2
  refine lone_seq (lone_code fun K hK => ?_)
  go_wp2
  have hq2 := hq
  obtain ⟨s, r, g1, g3⟩ := hq
  refine lone_seq (lone_region ?_)
  simp only [List.size_toArray, List.length_cons, List.length_nil, Nat.reduceAdd, Nat.zero_add, List.range, List.range.loop]
  refine LoneTo.step (step_lone_select_recv_buf (c := c) (z := .slice none 0 0) (cap := cap) (buf := buf) (closed := false) (s := s) (r := r) (tm := false)
    (stepG_comm (cases := #[rcase c (.slice none 0 0)]) (blocking := false) (shape := .select) (w' := w) rfl rfl (by decide) (by simp [go_sem, execOp, rcase, Act.eval])) g3 hsome) ?_
  rw [Frame.finish_at]
  walk_nrm
  refine LoneTo.goes (n := 4) ?_
  s_op
  s_op
  s_c stepG_region_end
  s_stop
  refine lone_tail rfl rfl Try.func14 (by intro _ h; simp at h) ?_
  go_wp2
  go_ret2
  exact ⟨ret_tup2 (by simp [Array.getD, hsome]) rfl, hq2.setChan _ _ _, grown_setChan hq2.ltc _ _ _ _ _ _⟩

set_option maxRecDepth 100000 in
set_option maxHeartbeats 1000000 in
theorem take_none (q c cap : Nat) (cl : Bool)  (w : World) (hq : QS w q c cap cl #[]) :
    Calls Try.prog 14 #[.pointer (some ⟨q, 0, none⟩)] w fun e w' => e = .returned (.tuple #[.slice none 0 0, .bool false]) ∧ w = w' := by
  refine calls_of_loneTo fun cs => ?_
  have e : Frame.enter Try.prog 14 #[.pointer (some ⟨q, 0, none⟩)] .normal = (base 14).at ⟨#[.pointer (some ⟨q, 0, none⟩), undef, undef, undef, undef, undef, undef, undef, undef, undef, undef, undef, undef, undef, undef, undef], []⟩ [.code (Try.f14.body.getD .skip)] := by
    simp [Frame.enter, Frame.at, Try.func14, base, Try.f14]
  rw [e]
  simp only [Try.f14, Option.getD_some]
  have c0 := hq.cell0
  have c1 := hq.cell1
  refine lone_seq (lone_code fun K hK => ?_)
  go_wp2
  refine lone_seq (lone_code fun K hK => ?_)
  go_wp2
  refine lone_seq (lone_code fun K hK => ?_)
  go_wp2
  have hq2 := hq
  obtain ⟨s, r, g1, g3⟩ := hq
  refine lone_seq (lone_region ?_)
  simp only [List.size_toArray, List.length_cons, List.length_nil, Nat.reduceAdd, Nat.zero_add, List.range, List.range.loop]
  refine LoneTo.step (step_lone_select_default (c := c) (z := .slice none 0 0) (cap := cap)  (s := s) (r := r) (tm := false)
    (stepG_comm (cases := #[rcase c (.slice none 0 0)]) (blocking := false) (shape := .select) (w' := w) rfl rfl (by decide) (by simp [go_sem, execOp, rcase, Act.eval])) g3) ?_
  rw [Frame.finish_at]
  walk_nrm
  refine LoneTo.goes (n := 4) ?_
  s_op
  s_op
  s_c stepG_region_end
  s_stop
  refine lone_tail rfl rfl Try.func14 (by intro _ h; simp at h) ?_
  go_wp2
  go_ret2
  exact ⟨rfl, rfl⟩

set_option maxRecDepth 100000 in
set_option maxHeartbeats 1000000 in
theorem put_closed (q c cap : Nat) (buf : Array Value) (b : Value) (w : World) (hq : QS w q c cap true buf) :
    Calls Try.prog 11 #[.pointer (some ⟨q, 0, none⟩), b] w fun e w' => e = .returned (.bool false) ∧ w = w' := by
  have c0 := hq.cell0
  have c1 := hq.cell1
  go_enter Try.func11, Try.ntmps11
  go_wp2
  go_ret
  exact ⟨rfl, rfl⟩

set_option maxRecDepth 100000 in
set_option maxHeartbeats 1000000 in
theorem put_nil (b : Value) (w : World) :
    Calls Try.prog 11 #[.pointer none, b] w fun e w' => e = .returned (.bool false) ∧ w = w' := by
  go_enter Try.func11, Try.ntmps11
  go_wp2
  go_ret
  exact ⟨rfl, rfl⟩

set_option maxRecDepth 100000 in
set_option maxHeartbeats 1000000 in
theorem take_nil  (w : World) :
    Calls Try.prog 14 #[.pointer none] w fun e w' => e = .returned (.tuple #[.slice none 0 0, .bool false]) ∧ w = w' := by
  go_enter Try.func14, Try.ntmps14
  go_wp2
  go_ret2
  exact ⟨rfl, rfl⟩

set_option maxRecDepth 100000 in
set_option maxHeartbeats 1000000 in
theorem len_q (q c cap : Nat) (cl : Bool) (buf : Array Value) (w : World) (hq : QS w q c cap cl buf) :
    Calls Try.prog 16 #[.pointer (some ⟨q, 0, none⟩)] w fun e w' => e = .returned (.int .i64 (buf.size : Int)) ∧ w = w' := by
  have c0 := hq.cell0
  have c1 := hq.cell1
  obtain ⟨_, _, _, g3⟩ := id hq
  have hlen := fun ty => run_len_chan (P := Try.prog) 47 ty Try.underlying47 g3
  have hcap := fun ty => run_cap_chan (P := Try.prog) 47 ty Try.underlying47 g3
  go_enter Try.func16, Try.ntmps16
  go_wp2
  go_ret
  exact ⟨rfl, rfl⟩

set_option maxRecDepth 100000 in
set_option maxHeartbeats 1000000 in
theorem len_nil  (w : World) :
    Calls Try.prog 16 #[.pointer none] w fun e w' => e = .returned (.int .i64 0) ∧ w = w' := by
  go_enter Try.func16, Try.ntmps16
  go_wp2
  go_ret
  exact ⟨rfl, rfl⟩

set_option maxRecDepth 100000 in
set_option maxHeartbeats 1000000 in
theorem closed_q (q c cap : Nat) (cl : Bool) (buf : Array Value) (w : World) (hq : QS w q c cap cl buf) :
    Calls Try.prog 15 #[.pointer (some ⟨q, 0, none⟩)] w fun e w' => e = .returned (.bool cl) ∧ w = w' := by
  have c0 := hq.cell0
  have c1 := hq.cell1
  go_enter Try.func15, Try.ntmps15
  go_wp2
  go_ret
  exact ⟨rfl, rfl⟩

set_option maxRecDepth 100000 in
set_option maxHeartbeats 1000000 in
theorem closed_nil  (w : World) :
    Calls Try.prog 15 #[.pointer none] w fun e w' => e = .returned (.bool false) ∧ w = w' := by
  go_enter Try.func15, Try.ntmps15
  go_wp2
  go_ret
  exact ⟨rfl, rfl⟩

set_option maxRecDepth 100000 in
set_option maxHeartbeats 1000000 in
theorem close_q (q c cap : Nat) (cl : Bool) (buf : Array Value) (w : World) (hq : QS w q c cap cl buf) :
    Calls Try.prog 12 #[.pointer (some ⟨q, 0, none⟩)] w fun e w' => e = .returned (.tuple #[]) ∧ w' = w.setCell ⟨q, 1, none⟩ (.bool true) := by
  have c0 := hq.cell0
  have c1 := hq.cell1
  have c2 := hq.frozen1
  go_enter Try.func12, Try.ntmps12
  go_wp2
  skip
  exact ⟨rfl, .tuple #[], by simp [results, Try.results12], rfl, rfl⟩

end Go.Proofs.Ytfkhkifgcjpfnaa
