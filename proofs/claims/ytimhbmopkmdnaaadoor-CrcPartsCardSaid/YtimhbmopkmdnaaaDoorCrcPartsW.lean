/- The walk of the law CrcParts. -/
import Derived.Test.YtimhbmopkmdnaaaDoorCrcPartsA
import Derived.Test.YtimhbmopkmdnaaaDoorCrcPartsN
set_option linter.unusedVariables false
namespace Go.Proofs.YtimhbmopkmdnaaaDoor.parts
open Go.RowKit

theorem Rd.take {w : World} {A : Option Addr} {l : List UInt8} (h : Rd w A l) (k : Nat) : Rd w A (l.take k) := fun hp => by
  have hk : 0 < l.length := by simp at hp; omega
  obtain ⟨b, o, hA, hb, hc⟩ := h hk
  refine ⟨b, o, hA, hb, fun i hi => ?_⟩
  have hi' : i < l.length := by simp at hi; omega
  rw [hc i hi', List.getElem_take]
theorem Rd.drop {w : World} {a : Addr} {l : List UInt8} (h : Rd w (some a) l) (k : Nat) : Rd w (some (a.add k)) (l.drop k) := fun hp => by
  have hk : 0 < l.length := by simp at hp; omega
  obtain ⟨b, o, hA, hb, hc⟩ := h hk
  injection hA with hA
  subst hA
  refine ⟨b, o + k, by unfold Addr.add; split <;> simp_all, hb, fun i hi => ?_⟩
  have hi' : k + i < l.length := by simp at hi; omega
  rw [List.getElem_drop, ← hc (k + i) hi', Nat.add_assoc]

set_option maxHeartbeats 2000000 in
theorem walk (A : Option Addr) (l : List UInt8) (c : Nat) (at_ : Int) (w : World) (hr : Rd w A l) (hc : l.length ≤ c) (_hm : c ≤ maxLen) (hw : (Lit.int .i64 at_).wf = true) (ht : Steps w) (hp : 0 < w.heap.size) :
    Calls Tryd.prog 6 #[.slice A l.length c, .int .i64 at_] w fun e w' => e = .returned (.bool true) ∧ Below w.heap.size w w' := by
  have HT := Lib.hid ht
  clear ht
  by_cases h1 : (300 : Int) < (l.length : Int)
  · go_enter Tryd.func6, Tryd.ntmps6
    go_wp2_with (go_at_call 7; refine (awake_any _ HT.out hp).mono ?_; rintro e w1 ⟨rfl, b1⟩)
    go_ret
    exact ⟨rfl, b1⟩
  by_cases h2 : at_ < 0
  · go_enter Tryd.func6, Tryd.ntmps6
    go_wp2_with (go_at_call 7; refine (awake_any _ HT.out hp).mono ?_; rintro e w1 ⟨rfl, b1⟩)
    go_ret
    exact ⟨rfl, b1⟩
  by_cases h3 : (l.length : Int) < at_
  · go_enter Tryd.func6, Tryd.ntmps6
    go_wp2_with (go_at_call 7; refine (awake_any _ HT.out hp).mono ?_; rintro e w1 ⟨rfl, b1⟩)
    go_ret
    exact ⟨rfl, b1⟩
  obtain ⟨k, rfl⟩ := Int.eq_ofNat_of_zero_le (by omega : 0 ≤ at_)
  have hk : k ≤ l.length := by omega
  rcases A with _ | a
  · have hl0 : l = [] := by
      rcases Nat.eq_zero_or_pos l.length with h0 | h0
      · exact List.eq_nil_of_length_eq_zero h0
      · obtain ⟨b, o, h, _⟩ := hr h0
        cases h
    subst hl0
    obtain rfl : k = 0 := by simpa using hk
    exact parts_none c w HT hp
  · have hs : crcAdd (crcAdd 0 (l.take k)) (l.drop k) = crcAdd 0 l := by rw [crcAdd_append, List.take_append_drop]
    refine parts_some a l (l.take k) (l.drop k) c k l.length w hr (Rd.take hr k) _ rfl ?_ rfl (by show _ = _; simp; omega) (by show _ = _; simp) hc (by omega) hk (crcAdd 0 (l.take k)) (crcAdd 0 l) rfl hs hs rfl (crcAdd_lt 0 _ (by decide)) HT hp
    split
    · rename_i hck
      have hnil : l.drop k = [] := List.drop_eq_nil_of_le (by omega)
      rw [hnil]
      exact Rd.nil
    · exact Rd.drop hr k
end Go.Proofs.YtimhbmopkmdnaaaDoor.parts
