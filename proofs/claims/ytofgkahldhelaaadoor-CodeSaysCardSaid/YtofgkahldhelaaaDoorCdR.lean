/- The reference: crlf, nibble. -/
import Derived.Test.YtofgkahldhelaaaDoorCdJ
import Derived.Test.YtofgkahldhelaaaDoorCdK
import Derived.Test.YtofgkahldhelaaaDoorCdLnA
set_option linter.unusedVariables false
namespace Go.Proofs.YtofgkahldhelaaaDoor
open Go.RowKit

theorem lineEnd_two (c d : UInt8) (r : List UInt8) : lineEnd (c :: d :: r) = (decide (c.toNat = 13) && decide (d.toNat = 10)) := by
  rw [lineEnd, Bool.eq_iff_iff]
  simp
  constructor
  · rintro ⟨rfl, rfl⟩
    exact ⟨rfl, rfl⟩
  · rintro ⟨h1, h2⟩
    exact ⟨UInt8.toNat_inj.1 h1, UInt8.toNat_inj.1 h2⟩
theorem lineEnd_short (l : List UInt8) (h : l.length ≤ 1) : lineEnd l = false := by
  match l, h with
  | [], _ => rfl
  | [c], _ => simp [lineEnd]
  | _ :: _ :: _, h => simp at h
set_option maxHeartbeats 1000000 in
theorem crlf_r (A : Option Addr) (l : List UInt8) (n c k : Nat) (z : Int) (w : World) (hn : l.length = n) (hz : z = (k : Int)) (hr : Rd w A l) (hk : k ≤ 1099511627776) :
    Calls Tryd.prog 20 #[.slice A n c, .int .i64 z] w fun e w' => e = .returned (.bool (lineEnd (l.drop k))) ∧ w = w' := by
  subst hn hz
  by_cases h1 : k + 1 < l.length
  · have h1' : (k : Int) + 1 < (l.length : Int) := by omega
    have hkl : (k : Int) < (l.length : Int) := by omega
    obtain ⟨b, o, rfl, hb, hc⟩ := hr (by omega)
    have hc1 := hc k (by omega)
    have hc2 := hc (k + 1) h1
    have e : l.drop k = l[k] :: l[k + 1] :: l.drop (k + 2) := by
      rw [List.drop_eq_getElem_cons (by omega : k < l.length), List.drop_eq_getElem_cons h1]
    rw [e, lineEnd_two]
    clear e hc hr
    generalize l[k] = x at hc1 ⊢
    generalize l[k + 1] = y at hc2 ⊢
    have hx8 := x.toNat_lt
    have hy8 := y.toNat_lt
    by_cases hx : x.toNat = 13
    · have t1 : ((x.toNat : Int) == 13) = true := eq_t hx
      by_cases hy : y.toNat = 10
      · have t2 : ((y.toNat : Int) == 10) = true := eq_t hy
        rw [decide_eq_true hx, decide_eq_true hy]
        clear hx hy
        go_enter Tryd.func20, Tryd.ntmps20
        go_wp2
        go_ret
        exact ⟨rfl, rfl⟩
      · have t2 : ((y.toNat : Int) == 10) = false := eq_f hy
        rw [decide_eq_true hx, decide_eq_false hy]
        clear hx hy
        go_enter Tryd.func20, Tryd.ntmps20
        go_wp2
        go_ret
        exact ⟨rfl, rfl⟩
    · have t1 : ((x.toNat : Int) == 13) = false := eq_f hx
      rw [decide_eq_false hx]
      clear hx
      go_enter Tryd.func20, Tryd.ntmps20
      go_wp2
      go_ret
      exact ⟨rfl, rfl⟩
  · have h1' : ¬ (k : Int) + 1 < (l.length : Int) := by omega
    rw [lineEnd_short _ (by rw [List.length_drop]; omega)]
    go_enter Tryd.func20, Tryd.ntmps20
    go_wp2
    go_ret
    exact ⟨rfl, rfl⟩
theorem nib_tab : ∀ n : Fin 256, hexZ (UInt8.ofNat n.val) = (if 48 ≤ n.val ∧ n.val ≤ 57 then (n.val : Int) - 48 else if 65 ≤ n.val ∧ n.val ≤ 70 then (n.val : Int) - 65 + 10 else if 97 ≤ n.val ∧ n.val ≤ 102 then (n.val : Int) - 97 + 10 else -1) := by decide +kernel
set_option maxHeartbeats 1000000 in
theorem nib_r (c : UInt8) (w : World) : Calls Tryd.prog 23 #[.int .u8 (c.toNat : Int)] w fun e w' => e = .returned (.int .i64 (hexZ c)) ∧ w = w' := by
  have h8 := c.toNat_lt
  have key := nib_tab ⟨c.toNat, h8⟩
  have ec : UInt8.ofNat c.toNat = c := by simp
  simp only [ec] at key
  rcases (by omega : c.toNat < 48 ∨ (48 ≤ c.toNat ∧ c.toNat ≤ 57) ∨ (58 ≤ c.toNat ∧ c.toNat < 65) ∨ (65 ≤ c.toNat ∧ c.toNat ≤ 70) ∨ (71 ≤ c.toNat ∧ c.toNat < 97) ∨ (97 ≤ c.toNat ∧ c.toNat ≤ 102) ∨ 103 ≤ c.toNat) with h | h | h | h | h | h | h
  · rw [if_neg (by omega), if_neg (by omega), if_neg (by omega)] at key
    have t1 : ¬ (48 : Int) ≤ (c.toNat : Int) := by omega
    have t2 : ¬ (65 : Int) ≤ (c.toNat : Int) := by omega
    have t3 : ¬ (97 : Int) ≤ (c.toNat : Int) := by omega
    rw [key]
    clear key h
    go_enter Tryd.func23, Tryd.ntmps23
    go_wp2
    go_ret
    exact ⟨rfl, rfl⟩
  · rw [if_pos (by omega)] at key
    have t1 : (48 : Int) ≤ (c.toNat : Int) := by omega
    have t2 : (c.toNat : Int) ≤ 57 := by omega
    rw [key]
    clear key h
    go_enter Tryd.func23, Tryd.ntmps23
    go_wp2
    go_ret
    exact ⟨rfl, rfl⟩
  · rw [if_neg (by omega), if_neg (by omega), if_neg (by omega)] at key
    have t1 : (48 : Int) ≤ (c.toNat : Int) := by omega
    have t2 : ¬ (c.toNat : Int) ≤ 57 := by omega
    have t3 : ¬ (65 : Int) ≤ (c.toNat : Int) := by omega
    have t4 : ¬ (97 : Int) ≤ (c.toNat : Int) := by omega
    rw [key]
    clear key h
    go_enter Tryd.func23, Tryd.ntmps23
    go_wp2
    go_ret
    exact ⟨rfl, rfl⟩
  · rw [if_neg (by omega), if_pos (by omega)] at key
    have t1 : (48 : Int) ≤ (c.toNat : Int) := by omega
    have t2 : ¬ (c.toNat : Int) ≤ 57 := by omega
    have t3 : (65 : Int) ≤ (c.toNat : Int) := by omega
    have t4 : (c.toNat : Int) ≤ 70 := by omega
    rw [key]
    clear key h
    go_enter Tryd.func23, Tryd.ntmps23
    go_wp2
    go_ret
    exact ⟨rfl, rfl⟩
  · rw [if_neg (by omega), if_neg (by omega), if_neg (by omega)] at key
    have t1 : (48 : Int) ≤ (c.toNat : Int) := by omega
    have t2 : ¬ (c.toNat : Int) ≤ 57 := by omega
    have t3 : (65 : Int) ≤ (c.toNat : Int) := by omega
    have t4 : ¬ (c.toNat : Int) ≤ 70 := by omega
    have t5 : ¬ (97 : Int) ≤ (c.toNat : Int) := by omega
    rw [key]
    clear key h
    go_enter Tryd.func23, Tryd.ntmps23
    go_wp2
    go_ret
    exact ⟨rfl, rfl⟩
  · rw [if_neg (by omega), if_neg (by omega), if_pos (by omega)] at key
    have t1 : (48 : Int) ≤ (c.toNat : Int) := by omega
    have t2 : ¬ (c.toNat : Int) ≤ 57 := by omega
    have t3 : (65 : Int) ≤ (c.toNat : Int) := by omega
    have t4 : ¬ (c.toNat : Int) ≤ 70 := by omega
    have t5 : (97 : Int) ≤ (c.toNat : Int) := by omega
    have t6 : (c.toNat : Int) ≤ 102 := by omega
    rw [key]
    clear key h
    go_enter Tryd.func23, Tryd.ntmps23
    go_wp2
    go_ret
    exact ⟨rfl, rfl⟩
  · rw [if_neg (by omega), if_neg (by omega), if_neg (by omega)] at key
    have t1 : (48 : Int) ≤ (c.toNat : Int) := by omega
    have t2 : ¬ (c.toNat : Int) ≤ 57 := by omega
    have t3 : (65 : Int) ≤ (c.toNat : Int) := by omega
    have t4 : ¬ (c.toNat : Int) ≤ 70 := by omega
    have t5 : (97 : Int) ≤ (c.toNat : Int) := by omega
    have t6 : ¬ (c.toNat : Int) ≤ 102 := by omega
    rw [key]
    clear key h
    go_enter Tryd.func23, Tryd.ntmps23
    go_wp2
    go_ret
    exact ⟨rfl, rfl⟩
end Go.Proofs.YtofgkahldhelaaaDoor
