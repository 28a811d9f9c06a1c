/- Queues: New, refuses, Move, Ready. -/
import Derived.Test.YtfkhkifgcjpfnaaQuA
set_option linter.unusedVariables false
namespace Go.Proofs.Ytfkhkifgcjpfnaa
open Go.Conc Go.RowKit

theorem info_bs : ∃ i, Try.prog.info? 27 = some i ∧ i.bytes = 24 := by
  have h : (Try.prog.info? 27).map (·.bytes) = some 24 := by kernel_rfl
  obtain ⟨i, hi, hb⟩ := Option.map_eq_some_iff.1 h
  exact ⟨i, hi, hb⟩
theorem mk_chan (n : Nat) (hn : n ≤ 64) (w : World) : (Instr.makeChan 47 (.int .i64 (n : Int))).run Try.prog w = .ok (.chan (some w.heap.size)) (w.alloc (.chan n #[] false 0 0 false)) := by
  obtain ⟨i, hi, hb⟩ := info_bs
  exact run_makeChan (P := Try.prog) (w := w) Try.underlying47 hi .i64 n (by omega) (by rw [hb]; omega)

theorem new_bad (r : Int) (w : World) (hr : r < 1 ∨ 64 < r) :
    Calls Try.prog 9 #[.int .i64 r] w fun e w' => e = .returned (.tuple #[.pointer none, .int .i64 1]) ∧ w = w' := by
  by_cases h1 : r < 1
  · go_enter Try.func9, Try.ntmps9
    go_wp2
    go_ret2
    exact ⟨rfl, rfl⟩
  · have h2 : 64 < r := by omega
    go_enter Try.func9, Try.ntmps9
    go_wp2
    go_ret2
    exact ⟨rfl, rfl⟩

theorem new_ok (n : Nat) (w : World) (h1 : 1 ≤ n) (h2 : n ≤ 64) :
    Calls Try.prog 9 #[.int .i64 (n : Int)] w fun e w' => ∃ q c, e = .returned (.tuple #[.pointer (some ⟨q, 0, none⟩), .int .i64 0]) ∧ QS w' q c n false #[] ∧ w.heap.size ≤ q ∧ w.heap.size ≤ c ∧ Below w.heap.size w w' := by
  have hmk := mk_chan n h2
  have e1 : (1 : Int) ≤ (n : Int) := by omega
  have e2 : (n : Int) ≤ 64 := by omega
  go_enter Try.func9, Try.ntmps9
  go_wp2
  go_ret2
  refine ⟨w.heap.size + 1, w.heap.size, rfl, ⟨0, 0, ?_, ?_⟩, by omega, by omega, ?_⟩
  · rw [show w.heap.size + 1 = (w.alloc (.chan n #[] false 0 0 false)).heap.size by simp]
    exact heap_alloc_new _ _
  · rw [Below.heap_alloc _ _ _ (by simp)]
    exact heap_alloc_new w _
  · exact ((Below.refl _ w).alloc (Nat.le_refl _) _).alloc (by simp) _

theorem refuses_nil (w : World) : Calls Try.prog 18 #[.pointer none] w fun e w' => e = .returned (.bool true) ∧ Below w.heap.size w w' := by
  go_enter Try.func18, Try.ntmps18
  go_wp2_with fail
  go_quiet (fail)
  go_wp2
  go_ret
  exact ⟨rfl, below_drewN (Below.refl _ w) _⟩
theorem refuses_closed (q c cap : Nat) (buf : Array Value) (w : World) (hq : QS w q c cap true buf) : Calls Try.prog 18 #[.pointer (some ⟨q, 0, none⟩)] w fun e w' => e = .returned (.bool true) ∧ Below w.heap.size w w' := by
  have c0 := hq.cell0
  have c1 := hq.cell1
  go_enter Try.func18, Try.ntmps18
  go_wp2_with fail
  go_quiet (fail)
  go_wp2
  go_ret
  exact ⟨rfl, below_drewN (Below.refl _ w) _⟩
theorem refuses_open (q c cap : Nat) (buf : Array Value) (w : World) (hq : QS w q c cap false buf) : Calls Try.prog 18 #[.pointer (some ⟨q, 0, none⟩)] w fun e w' => e = .returned (.bool (decide (buf.size = cap))) ∧ Below w.heap.size w w' := by
  have c0 := hq.cell0
  have c1 := hq.cell1
  obtain ⟨_, _, _, g3⟩ := id hq
  have hlen := fun nd ty => run_len_chan (P := Try.prog) (w := w.drewN nd) 47 ty Try.underlying47 g3
  have hcap := fun nd ty => run_cap_chan (P := Try.prog) (w := w.drewN nd) 47 ty Try.underlying47 g3
  by_cases h : buf.size = cap
  · have hd := eq_t h
    go_enter Try.func18, Try.ntmps18
    go_wp2_with fail
    go_quiet (fail)
    go_wp2
    go_ret
    exact ⟨ret_bool (by simp [h]), below_drewN (Below.refl _ w) _⟩
  · have hd := eq_f h
    go_enter Try.func18, Try.ntmps18
    go_wp2_with fail
    go_quiet (fail)
    go_wp2
    go_ret
    exact ⟨ret_bool (by simp [h]), below_drewN (Below.refl _ w) _⟩

/-- What has nothing: the nil queue, an empty one. -/
def EmptyQ (w : World) (v : Value) : Prop := v = .pointer none ∨ ∃ q c cap cl, v = .pointer (some ⟨q, 0, none⟩) ∧ QS w q c cap cl #[]
theorem EmptyQ.below {w w' : World} {v : Value} (h : EmptyQ w v) (hb : Below w.heap.size w w') : EmptyQ w' v := by
  rcases h with h | ⟨q, c, cap, cl, h, hq⟩
  · exact .inl h
  · exact .inr ⟨q, c, cap, cl, h, hq.below hb hq.ltq hq.ltc⟩
theorem take_e (v : Value) (w : World) (h : EmptyQ w v) : Calls Try.prog 14 #[v] w fun e w' => e = .returned (.tuple #[.slice none 0 0, .bool false]) ∧ w = w' := by
  rcases h with rfl | ⟨q, c, cap, cl, rfl, hq⟩
  · exact take_nil w
  · exact take_none q c cap cl w hq

set_option maxHeartbeats 1000000 in
theorem ready_at (b o n m k q c cap : Nat) (cl : Bool) (buf : Array Value) (V : Nat → Value) (w : World) (hm : m < n) (hn : n ≤ 100) (hV : ∀ i, i < n → w.cell? ⟨b, o + i, none⟩ = some (V i)) (he : ∀ i, i < m → EmptyQ w (V i)) (hv : V m = .pointer (some ⟨q, 0, none⟩)) (hq : QS w q c cap cl buf) (hsome : 0 < buf.size) :
    Calls Try.prog 10 #[.slice (some ⟨b, o, none⟩) n k] w fun e w' => e = .returned (.tuple #[.int .i64 (m : Int), buf.getD 0 undef, .bool true]) ∧ QS w' q c cap cl (buf.extract 1 buf.size) ∧ Tn [c] w w' := by
  replace hV := Lib.hid hV
  go_enter Try.func10, Try.ntmps10
  go_wp2
  go_loopw [11] (fun i wr => ∃ j : Nat, j ≤ m ∧ i = .int .i64 j ∧ wr = w) (fun i _ => n - (intOf i).toNat)
  case atStart => exact ⟨0, Nat.zero_le _, rfl, rfl⟩
  case round =>
    obtain ⟨j, hj, rfl, rfl⟩ := hrel
    have hc := hV.out j (by omega)
    have hlt : (j : Int) < (n : Int) := by omega
    by_cases hjm : j = m
    · subst hjm
      rw [hv] at hc
      go_wp2_with ((with_reducible refine (take_some q c cap cl buf _ hq hsome).mono ?_))
      rintro _ w2 ⟨rfl, hq2, hg2⟩
      go_wp2
      go_ret3
      exact ⟨ret_tup3 rfl (by simp [Array.getD, hsome]) rfl, hq2, Tn.of_grown hg2⟩
    · have he1 := he j (by omega)
      generalize V j = vj at hc he1
      go_wp2_with ((with_reducible refine (take_e vj _ he1).mono ?_))
      rintro _ w2 ⟨rfl, rfl⟩
      go_wp2
      go_roundw
      case rel => exact ⟨j + 1, by omega, by go_num, trivial⟩
      case measure => simp [intOf]; omega
set_option maxHeartbeats 1000000 in
theorem ready_no (A : Option Addr) (n k : Nat) (V : Nat → Value) (w : World) (hn : n ≤ 100) (hA : 0 < n → ∃ b o, A = some ⟨b, o, none⟩ ∧ ∀ i, i < n → w.cell? ⟨b, o + i, none⟩ = some (V i)) (he : ∀ i, i < n → EmptyQ w (V i)) :
    Calls Try.prog 10 #[.slice A n k] w fun e w' => e = .returned (.tuple #[.int .i64 0, .slice none 0 0, .bool false]) ∧ w = w' := by
  replace hA := Lib.hid hA
  go_enter Try.func10, Try.ntmps10
  go_wp2
  go_loopw [11] (fun i wr => ∃ j : Nat, j ≤ n ∧ i = .int .i64 j ∧ wr = w) (fun i _ => n - (intOf i).toNat)
  case atStart => exact ⟨0, Nat.zero_le _, rfl, rfl⟩
  case round =>
    obtain ⟨j, hj, rfl, rfl⟩ := hrel
    by_cases hlt' : j < n
    · have hlt : (j : Int) < (n : Int) := by omega
      obtain ⟨b, o, rfl, hV⟩ := hA.out (by omega)
      have hc := hV j hlt'
      have he1 := he j (by omega)
      replace hV := Lib.hid hV
      generalize V j = vj at hc he1
      go_wp2_with ((with_reducible refine (take_e vj _ he1).mono ?_))
      rintro _ w2 ⟨rfl, rfl⟩
      go_wp2
      go_roundw
      case rel => exact ⟨j + 1, by omega, by go_num, trivial⟩
      case measure => simp [intOf]; omega
    · obtain rfl : j = n := by omega
      have hlt : ¬ (j : Int) < (j : Int) := by omega
      go_wp2
      go_ret3
      exact ⟨rfl, rfl⟩
end Go.Proofs.Ytfkhkifgcjpfnaa
