/- SeqAll's walk. -/
import Derived.Test.YtpojoglbkpgdjaaDoorSqQ
import Derived.Test.YtpojoglbkpgdjaaDoorArg
import Derived.Test.YtpojoglbkpgdjaaDoorAwkKnW
set_option linter.unusedVariables false
namespace Go.Proofs.YtpojoglbkpgdjaaDoor
open Go.RowKit

theorem fold_max_le : ∀ (l : List Int) (a : Int), a ≤ l.foldl max a
  | [], a => by simp
  | x :: l, a => by
    rw [List.foldl_cons]
    have := fold_max_le l (max a x)
    omega
theorem fold_max_mem : ∀ (l : List Int) (a x : Int), x ∈ l → x ≤ l.foldl max a
  | y :: l, a, x, h => by
    rw [List.foldl_cons]
    rcases List.mem_cons.1 h with rfl | h
    · have := fold_max_le l (max a x)
      omega
    · exact fold_max_mem l _ x h
theorem maxOf_mem (l : List Int) (x : Int) (h : x ∈ l) : x ≤ Lib.maxOf l := fold_max_mem l _ x h
theorem pick_all (l : List Int) (h : ∀ x ∈ l, 1 ≤ x) : pickF [(1, 0)] l = l := by
  unfold pickF
  rw [List.filter_eq_self]
  intro x hx
  have h1 := h x hx
  have h2 := maxOf_mem l x hx
  have hv : validF [(1, 0)] = true := by decide
  unfold hasF
  rw [hv, decide_eq_true h1]
  simp only [List.any_cons, List.any_nil, Bool.or_false, Bool.true_and]
  unfold hitF actF
  simp
  omega

set_option maxRecDepth 100000 in
theorem longs_eq (A A2 : Option Addr) (l : List Int) (c1 c2 : Nat) (w : World) (h1 : RdR IntR 1 w A l) (h2 : RdR IntR 1 w A2 l) (hl1 : l.length ≤ c1) (hc1 : c1 ≤ maxLen) (hl2 : l.length ≤ c2) (hc2 : c2 ≤ maxLen) :
    Calls Tryd.prog 8 #[.slice A l.length c1, .slice A2 l.length c2] w fun e w' => e = .returned (.bool true) ∧ Below w.heap.size w w' := by
  have hm : c1 ≤ 9223372036854775807 := hc1
  have hne : ((l.length : Int) != (l.length : Int)) = false := by simp
  go_enter Tryd.func8, Tryd.ntmps8
  go_wp2
  go_loopw [5] (fun i wr => ∃ k : Nat, k ≤ l.length ∧ i = .int .i64 (k : Int) ∧ (∃ n, wr = w.drewN n)) (fun i _ => l.length - (intOf i).toNat)
  case atStart => exact ⟨0, Nat.zero_le _, rfl, 0, rfl⟩
  case round =>
    obtain ⟨k, hk, rfl, hw⟩ := hrel
    by_cases hlt : k < l.length
    · have e1 : (k : Int) < (l.length : Int) := by omega
      obtain ⟨b, o, rfl, hb, _⟩ := id h1 (by omega)
      obtain ⟨b2, o2, rfl, hb2, _⟩ := id h2 (by omega)
      have d1 := int_cell h1 k hlt
      have d2 := int_cell h2 k hlt
      obtain ⟨nn, rfl⟩ := hw
      generalize l[k] = x at d1 d2
      have hxx : (x != x) = false := by simp
      have d1' : (w.drewN nn).cell? ⟨b, o + k, none⟩ = some (.int .i64 x) := d1
      have d2' : (w.drewN nn).cell? ⟨b2, o2 + k, none⟩ = some (.int .i64 x) := d2
      clear h1 h2
      go_wp2_with fail
      go_quiet (fail)
      go_wp2
      go_roundw
      case rel => exact ⟨k + 1, by omega, by go_num, _, rfl⟩
      case measure => simp [intOf]; omega
    · obtain rfl : k = l.length := by omega
      obtain ⟨nn, rfl⟩ := hw
      go_wp2
      go_ret
      exact ⟨rfl, below_drewN (Below.refl _ w) _⟩

theorem int_r {H : Type} {enc : TypeId × Value → H} {w : World} {base : Nat} {sp : Nat → Bool} {held : Bool} {fuel : Nat} {cs : List Value} {y : DataW H × List MemPlace} (h : DataW.trod enc Tryd.prog w base sp held fuel 2 cs = some y) (hz : ∀ n ∈ y.1.weights Tryd.prog 2, n ≤ reachBytes) : ∃ x, IntR w cs x := by
  obtain ⟨n, rfl, _, _⟩ := DataW.trod_int Tryd.underlying2 h
  exact ⟨n, rfl⟩
def PickPost (w : World) (l : List Int) (e : Ending) (w' : World) : Prop := ∃ v, e = .returned v ∧ SlR IntR 2 1 w' w.heap.size v l ∧ Below w.heap.size w w'
theorem pick_star (A2 : Option Addr) (c2 : Nat) (A : Option Addr) (l : List Int) (cap : Nat) (w : World) (hr : RdR SpR 2 w A2 [(1, 0)]) (h1 : 1 ≤ c2) (h2 : c2 ≤ maxLen) (hl : RdR IntR 1 w A l) (hlc : l.length ≤ cap) (hcm : cap ≤ maxLen) (h60 : l.length ≤ 60) (hp : pickF [(1, 0)] l = l) :
    Calls Tryd.prog 9 #[.agg #[.slice A2 1 c2], .slice A l.length cap] w (PickPost w l) := by
  have h := pick_any A2 [(1, 0)] c2 A l cap w hr h1 h2 hl hlc hcm (by omega)
  rw [hp] at h
  exact h

set_option maxRecDepth 100000 in
set_option maxHeartbeats 1000000 in
theorem all_walk (A : Option Addr) (l : List Int) (cap : Nat) (w : World) (hr : RdR IntR 1 w A l) (hlc : l.length ≤ cap) (hcm : cap ≤ maxLen)
    (hm : ∃ m, w.cell? ⟨0, 0, none⟩ = some (.int .i64 m)) (hg : 0 < w.heap.size) :
    Calls Tryd.prog 4 #[.slice A l.length cap] w fun e w' => e = .returned (.bool true) ∧ Below w.heap.size w w' := by
  have hmm : MaxLenIs w := hm
  have hcm' : cap ≤ 9223372036854775807 := hcm
  clear hm hg
  go_enter Tryd.func4, Tryd.ntmps4
  go_wp2_with ((with_reducible refine (awkWalk _).mono ?_))
  rintro _ w1 ⟨rfl, hb1⟩
  have hs1 := hb1.size
  by_cases h60 : 60 < l.length
  · have h60' : (60 : Int) < (l.length : Int) := by omega
    go_wp2
    go_ret
    exact ⟨rfl, hb1⟩
  have h60' : ¬ (60 : Int) < (l.length : Int) := by omega
  go_wp2
  go_loopw [3] (fun i wr => ∃ k : Nat, k ≤ l.length ∧ i = .int .i64 (k : Int) ∧ Below w.heap.size w wr ∧ ∀ j (hj : j < l.length), j < k → 1 ≤ l[j]) (fun i _ => l.length - (intOf i).toNat)
  case atStart => exact ⟨0, Nat.zero_le _, rfl, hb1, fun j hj h => absurd h (Nat.not_lt_zero _)⟩
  case round =>
    obtain ⟨k, hk, rfl, hB, hall⟩ := hrel
    have HA := Lib.hid hall
    clear hall
    have hsz := hB.size
    by_cases hlt : k < l.length
    · have e1 : (k : Int) < (l.length : Int) := by omega
      obtain ⟨b, o, rfl, hb, _⟩ := id hr (by omega)
      have d := int_cell hr k hlt
      rw [← hB.cell (p := ⟨b, o + k, none⟩) hb] at d
      have HX := Lib.hid (show ∀ x, x = l[k] → 1 ≤ x → ∀ j (hj : j < l.length), j < k + 1 → 1 ≤ l[j] from fun x hx h1 j hj hjk => by
        by_cases hjk2 : j < k
        · exact HA.out j hj hjk2
        · obtain rfl : j = k := by omega
          omega)
      obtain ⟨x, hx⟩ : ∃ x, x = l[k] := ⟨_, rfl⟩
      rw [← hx] at d
      have HE := Lib.hid hx
      clear hx hr
      by_cases t1 : x < 1
      · go_wp2
        go_ret
        exact ⟨rfl, hB⟩
      by_cases t2 : 4294967295 < x
      · have t1' : ¬ x < 1 := t1
        go_wp2
        go_ret
        exact ⟨rfl, hB⟩
      go_wp2
      go_roundw
      case rel => exact ⟨k + 1, by omega, by go_num, hB, HX.out x HE.out (by omega)⟩
      case measure => simp [intOf]; omega
    · obtain rfl : k = l.length := by omega
      have hall : ∀ x ∈ l, 1 ≤ x := fun x hx => by
        obtain ⟨j, hj, rfl⟩ := List.getElem_of_mem hx
        exact HA.out j hj hj
      have hp := pick_all l hall
      have HP := Lib.hid hp
      clear hp hall HA
      go_wp2_with ((with_reducible refine (parse_star _ (hmm.below hB)).mono ?_))
      rintro _ w2 ⟨A2, c2, rfl, hr2, hc2, hm2, hb2⟩
      have hB2 := hB.trans (hb2.mono hsz)
      have hsz2 := hB2.size
      have hrl := hr.below IntR.keeps hB2 (Nat.le_refl _)
      have hpick := fun W (hW : Below w2.heap.size w2 W) => pick_star A2 c2 A l cap W (hr2.below SpR.keeps hW (Nat.le_refl _)) hc2 hm2 (hrl.below IntR.keeps hW (Nat.le_refl _)) hlc hcm (by omega) HP.out
      have hal := (Below.refl w2.heap.size w2).alloc (Nat.le_refl _) (.cells #[.slice A2 1 c2] 24)
      go_wp2_with ((with_reducible refine (hpick _ hal).mono ?_))
      rintro _ w3 ⟨v, rfl, hs3, hb3⟩
      obtain ⟨A3, c3, rfl, h31, h32, hr3⟩ := hs3.rdq (by decide)
      have hb23 := hal.trans (hb3.mono hal.size)
      have hB3 := hB2.trans (hb23.mono hsz2)
      have hlong := longs_eq A3 A l c3 cap w3 hr3 (hrl.below IntR.keeps hb23 (Nat.le_refl _)) h31 h32 hlc hcm
      go_wp2_with ((with_reducible refine hlong.mono ?_))
      rintro _ w4 ⟨rfl, hb4⟩
      go_wp2
      go_ret
      exact ⟨rfl, hB3.trans (hb4.mono hB3.size)⟩
end Go.Proofs.YtpojoglbkpgdjaaDoor
