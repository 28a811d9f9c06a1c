/- Decode; literals; what 'awake' answers. -/
import Derived.Test.YtofgkahldhelaaaDoorCdI
set_option linter.unusedVariables false
namespace Go.Proofs.YtofgkahldhelaaaDoor
open Go.RowKit

/-- A value that reads as these bytes. -/
def RdV (w : World) (v : Value) (l : List UInt8) : Prop := ∃ A k, v = .slice A l.length k ∧ l.length ≤ k ∧ Rd w A l
theorem RdV.own {w : World} {B : Nat} {v : Value} {l : List UInt8} (h : w.ownsRow B 5 1 v l.length (Lib.byteCells l)) : RdV w v l := by
  obtain ⟨A, k, h1, h2, h3⟩ := Bts.of_own h
  exact ⟨A, k, h1, h2, h3⟩
theorem RdV.below {w w' : World} {v : Value} {l : List UInt8} (h : RdV w v l) (hb : Below w.heap.size w w') : RdV w' v l := by
  obtain ⟨A, k, h1, h2, h3⟩ := h
  exact ⟨A, k, h1, h2, h3.below hb⟩
theorem RdV.str {w : World} {v : Value} {l : List UInt8} (h : RdV w v l) (s : ByteArray) (hs : l = s.data.toList) : (convert 22 9 v).run Tryd.prog w = .ok (.string s) w := by
  obtain ⟨A, k, rfl, _, hr⟩ := h
  have e : (⟨l.toArray⟩ : ByteArray) = s := by rw [hs]
  rcases A with _ | a
  · have h0 : l = [] := by
      rcases Nat.eq_zero_or_pos l.length with h0 | h0
      · exact List.eq_nil_of_length_eq_zero h0
      · obtain ⟨b, o, h, _⟩ := hr h0
        cases h
    rw [← e]
    subst h0
    exact Lib.run_convert_nil_bytes w 22 9 5 k Tryd.underlying22 Tryd.underlying5 Tryd.underlying9
  · rw [← e]
    refine run_convert_bytes_back w 22 9 5 a k l Tryd.underlying22 Tryd.underlying5 Tryd.underlying9 fun j hj => ?_
    obtain ⟨b, o, hA, _, hc⟩ := hr (by omega)
    injection hA with hA
    subst hA
    rw [addp0]
    exact hc j hj
theorem clone_r (A : Option Addr) (l : List UInt8) (n c : Nat) (w : World) (hn : l.length = n) (hr : Rd w A l) (hl : l.length ≤ 1000000) :
    Calls Tryd.prog 25 #[.slice A n c] w fun e w' => ∃ v, e = .returned v ∧ RdV w' v l ∧ Below w.heap.size w w' := by
  subst hn
  rcases A with _ | a
  · have h0 : l = [] := by
      rcases Nat.eq_zero_or_pos l.length with h0 | h0
      · exact List.eq_nil_of_length_eq_zero h0
      · obtain ⟨b, o, h, _⟩ := hr h0
        cases h
    subst h0
    refine (Tryd.bytes_Clone_nil 0 c w).mono ?_
    rintro e w' ⟨rfl, rfl⟩
    exact ⟨_, rfl, ⟨none, 0, rfl, Nat.le_refl _, Rd.nil⟩, Below.refl _ _⟩
  · refine (Tryd.bytes_Clone_at a l.length c (l.map fun x => (x.toNat : Int)) w (by simp) (by omega) ?_).mono ?_
    · intro i hi
      obtain ⟨b, o, hA, _, hc⟩ := hr (by omega)
      injection hA with hA
      subst hA
      rw [addp0, hc i hi]
      simp [List.getD, hi]
    · rintro e w' ⟨v, rfl, hown, _, hb⟩
      have e1 : (l.map fun x => (x.toNat : Int)).map (Value.int .u8) = Lib.byteCells l := by simp [Lib.byteCells]
      rw [e1] at hown
      exact ⟨v, rfl, RdV.own hown, hb⟩
theorem base64_n (A : Option Addr) (l : List UInt8) (n c : Nat) (w : World) (hn : l.length = n) (hr : Rd w A l) (hl : l.length ≤ 1000000) (hc : l.length ≤ c) :
    Calls Tryd.prog 7 #[.slice A n c] w fun e w' => ∃ v, e = .returned v ∧ RdV w' v (b64 0 l) ∧ Below w.heap.size w w' := by
  subst hn
  refine (base64_e A l c w hr hl hc).mono ?_
  rintro e w' ⟨v, rfl, h1, h2⟩
  exact ⟨v, rfl, RdV.own h1, h2⟩
theorem quoted_n (A : Option Addr) (l : List UInt8) (n c : Nat) (w : World) (hn : l.length = n) (hr : Rd w A l) (hl : l.length ≤ 1000000) (hc : l.length ≤ c) :
    Calls Tryd.prog 9 #[.slice A n c] w fun e w' => ∃ v, e = .returned v ∧ RdV w' v (quo 0 l) ∧ Below w.heap.size w w' := by
  subst hn
  refine (quoted_e A l c w hr hl hc).mono ?_
  rintro e w' ⟨v, rfl, h1, h2⟩
  exact ⟨v, rfl, RdV.own h1, h2⟩
theorem fromq_n (A : Option Addr) (l : List UInt8) (n c : Nat) (w : World) (hn : l.length = n) (hr : Rd w A l) (hl : l.length ≤ 1000000) (hc : l.length ≤ c) :
    Calls Tryd.prog 11 #[.slice A n c] w fun e w' => ∃ v, e = .returned v ∧ RdV w' v (fq l) ∧ Below w.heap.size w w' := by
  subst hn
  refine (fromq_e A l c w hr hl hc).mono ?_
  rintro e w' ⟨v, rfl, h1, _, h2⟩
  exact ⟨v, rfl, RdV.own h1, h2⟩
theorem from64_some (A : Option Addr) (l o : List UInt8) (n c : Nat) (w : World) (hn : l.length = n) (ho : fromB64 l = some o) (hr : Rd w A l) (hl : l.length ≤ 1000000) (hc : l.length ≤ c) :
    Calls Tryd.prog 5 #[.slice A n c] w fun e w' => ∃ v, e = .returned (.tuple #[v, .int .i64 0]) ∧ RdV w' v o ∧ Below w.heap.size w w' := by
  subst hn
  refine (from64_e A l c w hr hl hc).mono ?_
  rintro e w' ⟨h1, h2⟩
  unfold FbPost at h1
  rw [ho] at h1
  obtain ⟨v, rfl, h3⟩ := h1
  exact ⟨v, rfl, RdV.own h3, h2⟩
theorem from64_none (A : Option Addr) (l : List UInt8) (n c : Nat) (w : World) (hn : l.length = n) (ho : fromB64 l = none) (hr : Rd w A l) (hl : l.length ≤ 1000000) (hc : l.length ≤ c) :
    Calls Tryd.prog 5 #[.slice A n c] w fun e w' => e = .returned (.tuple #[.slice none 0 0, .int .i64 3]) ∧ Below w.heap.size w w' := by
  subst hn
  refine (from64_e A l c w hr hl hc).mono ?_
  rintro e w' ⟨h1, h2⟩
  unfold FbPost at h1
  rw [ho] at h1
  exact ⟨h1, h2⟩
abbrev name64 : ByteArray := ⟨#[98, 97, 115, 101, 54, 52]⟩
abbrev nameQ : ByteArray := ⟨#[113, 117, 111, 116, 101, 100, 45, 112, 114, 105, 110, 116, 97, 98, 108, 101]⟩
def decF (how l : List UInt8) : List UInt8 :=
  if alikeB name64.data.toList how then (match fromB64 l with | some o => o | none => l)
  else if alikeB nameQ.data.toList how then fq l else l
set_option maxHeartbeats 1000000 in
theorem decode_n (how : ByteArray) (A : Option Addr) (l : List UInt8) (n c : Nat) (w : World) (hh : how.size ≤ maxLen) (hn : l.length = n) (hr : Rd w A l) (hl : l.length ≤ 1000000) (hc : l.length ≤ c) :
    Calls Tryd.prog 13 #[.string how, .slice A n c] w fun e w' => ∃ v, e = .returned v ∧ RdV w' v (decF how.data.toList l) ∧ Below w.heap.size w w' := by
  have h1 := alike_e name64 how w (by decide) hh
  by_cases ha : alikeB name64.data.toList how.data.toList = true
  · rw [ha] at h1
    replace h1 := Lib.hid h1
    cases ho : fromB64 l with
    | some o =>
      have e : decF how.data.toList l = o := by
        unfold decF
        rw [if_pos ha, ho]
      rw [e]
      have h2 := Lib.hid (from64_some A l o n c w hn ho hr hl hc)
      clear e ha ho hn
      go_enter Tryd.func13, Tryd.ntmps13
      go_wp2_with ((with_reducible refine h1.out.mono ?_))
      first | (rintro _ w1 ⟨rfl, rfl⟩; go_wp2_with ((with_reducible refine h2.out.mono ?_))) | (with_reducible refine h2.out.mono ?_)
      first | (rintro _ w2 v rfl hv hb) | (rintro _ w2 ⟨v, rfl, hv, hb⟩)
      go_wp2
      go_ret
      exact ⟨v, rfl, hv, hb⟩
    | none =>
      have e : decF how.data.toList l = l := by
        unfold decF
        rw [if_pos ha, ho]
      rw [e]
      have h2 := Lib.hid (from64_none A l n c w hn ho hr hl hc)
      have hn2 := Lib.hid hn
      clear e ha ho hn
      go_enter Tryd.func13, Tryd.ntmps13
      go_wp2_with ((with_reducible refine h1.out.mono ?_))
      first | (rintro _ w1 ⟨rfl, rfl⟩; go_wp2_with ((with_reducible refine h2.out.mono ?_))) | (with_reducible refine h2.out.mono ?_)
      first | (rintro _ w2 rfl hb) | (rintro _ w2 ⟨rfl, hb⟩)
      have h3 := Lib.hid (clone_r A l n c w2 hn2.out (hr.below hb) hl)
      go_wp2_with ((with_reducible refine h3.out.mono ?_))
      first | (rintro _ w3 v rfl hv hb2) | (rintro _ w3 ⟨v, rfl, hv, hb2⟩)
      go_wp2
      go_ret
      exact ⟨v, rfl, hv, hb.trans (hb2.mono hb.size)⟩
  · have ha' : alikeB name64.data.toList how.data.toList = false := by simpa using ha
    rw [ha'] at h1
    replace h1 := Lib.hid h1
    have h4 := alike_e nameQ how w (by decide) hh
    by_cases hq : alikeB nameQ.data.toList how.data.toList = true
    · rw [hq] at h4
      replace h4 := Lib.hid h4
      have e : decF how.data.toList l = fq l := by
        unfold decF
        rw [if_neg ha, if_pos hq]
      rw [e]
      have h2 := Lib.hid (fromq_n A l n c w hn hr hl hc)
      clear e ha ha' hq hn
      go_enter Tryd.func13, Tryd.ntmps13
      go_wp2_with (first | (with_reducible refine h1.out.mono ?_) | (with_reducible refine h4.out.mono ?_) | (with_reducible refine h2.out.mono ?_))
      first | (rintro _ w1 ⟨rfl, rfl⟩; go_wp2_with ((with_reducible refine h4.out.mono ?_))) | skip
      first | (rintro _ w1 ⟨rfl, rfl⟩; go_wp2_with ((with_reducible refine h2.out.mono ?_))) | skip
      first | (rintro _ w2 v rfl hv hb) | (rintro _ w2 ⟨v, rfl, hv, hb⟩)
      go_wp2
      go_ret
      exact ⟨v, rfl, hv, hb⟩
    · have hq' : alikeB nameQ.data.toList how.data.toList = false := by simpa using hq
      rw [hq'] at h4
      replace h4 := Lib.hid h4
      have e : decF how.data.toList l = l := by
        unfold decF
        rw [if_neg ha, if_neg hq]
      rw [e]
      have h2 := Lib.hid (clone_r A l n c w hn hr hl)
      clear e ha ha' hq hq' hn
      go_enter Tryd.func13, Tryd.ntmps13
      go_wp2_with (first | (with_reducible refine h1.out.mono ?_) | (with_reducible refine h4.out.mono ?_) | (with_reducible refine h2.out.mono ?_))
      first | (rintro _ w1 ⟨rfl, rfl⟩; go_wp2_with ((with_reducible refine h4.out.mono ?_))) | skip
      first | (rintro _ w1 ⟨rfl, rfl⟩; go_wp2_with ((with_reducible refine h2.out.mono ?_))) | skip
      first | (rintro _ w2 v rfl hv hb) | (rintro _ w2 ⟨v, rfl, hv, hb⟩)
      go_wp2
      go_ret
      exact ⟨v, rfl, hv, hb⟩
/-- A literal's row. -/
theorem lit_rd (w : World) (l : List UInt8) (fz : Nat × Nat) : Rd (w.alloc (.cells (l.map fun b => Value.int .u8 (b.toNat : Int)).toArray 5 fz)) (some ⟨w.heap.size, 0, none⟩) l := fun _ =>
  ⟨w.heap.size, 0, rfl, by simp [World.alloc, -World.alloc_eq], fun i hi => by simp [World.cell?, World.alloc, -World.alloc_eq, hi]⟩
theorem lit_conv (w : World) (C : Array Value) (n c : Nat) : (convert 22 22 (.slice (some ⟨w.heap.size, 0, none⟩) n c)).run Tryd.prog (w.alloc (.cells C 5)) = .ok (.slice (some ⟨w.heap.size, 0, none⟩) n c) (w.alloc (.cells C 5 (C.size, C.size + 1))) :=
  Lib.run_convert_bytes_const w 22 5 C n c Tryd.underlying22 Tryd.underlying5

theorem kb1 : fromB64 [89, 87, 32, 74, 106, 13, 10] = some [97, 98, 99] := by decide +kernel
theorem kb2 : b64 0 [97, 98, 99] = (⟨#[89, 87, 74, 106, 13, 10]⟩ : ByteArray).data.toList := by decide +kernel
theorem kb3 : quo 0 [97, 61, 98] = (⟨#[97, 61, 51, 68, 98]⟩ : ByteArray).data.toList := by decide +kernel

set_option maxRecDepth 100000 in
set_option maxHeartbeats 1000000 in
theorem awake_t (w : World) : Calls Tryd.prog 4 #[] w fun e w' => e = .returned (.bool true) ∧ Below w.heap.size w w' := by
  have hlit := lit_conv
  go_enter Tryd.func4, Tryd.ntmps4
  go_wp2_with ((with_reducible refine (from64_some (some ⟨w.heap.size, 0, none⟩) [89, 87, 32, 74, 106, 13, 10] [97, 98, 99] 7 7 _ rfl kb1 ?_ (by decide) (by decide)).mono ?_))
  · exact lit_rd w [89, 87, 32, 74, 106, 13, 10] _
  first | (rintro _ w1 v1 rfl hv1 hb1) | (rintro _ w1 ⟨v1, rfl, hv1, hb1⟩)
  have b1 := (below_one4 w _).trans (hb1.mono (by simp))
  have s1 := b1.size
  go_wp2_with ((with_reducible refine (base64_n (some ⟨w1.heap.size, 0, none⟩) [97, 98, 99] 3 3 _ rfl ?_ (by decide) (by decide)).mono ?_))
  · exact lit_rd w1 [97, 98, 99] _
  first | (rintro _ w2 v2 rfl hv2 hb2) | (rintro _ w2 ⟨v2, rfl, hv2, hb2⟩)
  have b2 := (below_one4 w1 _).trans (hb2.mono (by simp))
  have c2 := hv2.str _ kb2
  have c1 := (hv1.below b2).str (⟨#[97, 98, 99]⟩ : ByteArray) rfl
  have B2 := b1.trans (b2.mono s1)
  have s2 := B2.size
  go_wp2_with ((with_reducible refine (quoted_n (some ⟨w2.heap.size, 0, none⟩) [97, 61, 98] 3 3 _ rfl ?_ (by decide) (by decide)).mono ?_))
  · exact lit_rd w2 [97, 61, 98] _
  first | (rintro _ w3 v3 rfl hv3 hb3) | (rintro _ w3 ⟨v3, rfl, hv3, hb3⟩)
  have b3 := (below_one4 w2 _).trans (hb3.mono (by simp))
  have c3 := hv3.str _ kb3
  have B3 := B2.trans (b3.mono s2)
  go_wp2
  go_ret
  exact ⟨rfl, B3⟩
end Go.Proofs.YtofgkahldhelaaaDoor
