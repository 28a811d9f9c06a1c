/- What 'plain' answers; the walk of the law HeadFolds. -/
import Derived.Test.YtcigfmnkfelhjaaDoorHdM
import Derived.Test.YtcigfmnkfelhjaaDoorHdG
import Derived.Test.YtcigfmnkfelhjaaDoorAwHKnW
set_option linter.unusedVariables false
namespace Go.Proofs.YtcigfmnkfelhjaaDoor
open Go.RowKit

def okC (nm : Bool) (c : UInt8) : Bool := decide (32 ≤ c.toNat) && decide (c.toNat ≤ 126) && (!nm || (decide (c.toNat ≠ 32) && decide (c.toNat ≠ 58)))
def plainB (nm : Bool) (l : List UInt8) : Bool := l.all (okC nm) && decide (l.length < 100) && (!nm || decide (0 < l.length))
theorem plain_no (nm : Bool) (s : ByteArray) (k : Nat) (h : k < s.size) (hb : okC nm s[k] = false) : plainB nm s.data.toList = false := by
  have hm : s[k] ∈ s.data.toList := by
    have h1 : s.data.toList[k]'(by rw [len_data]; exact h) = s[k] := get_data s k h
    rw [← h1]
    exact List.getElem_mem _
  have ha : s.data.toList.all (okC nm) = false := by
    rw [List.all_eq_false]
    exact ⟨s[k], hm, by rw [hb]; decide⟩
  unfold plainB
  rw [ha]
  rfl
set_option maxHeartbeats 4000000 in
theorem plain_any (nm : Bool) (s : ByteArray) (w : World) (hs : s.size ≤ maxLen) :
    Calls Tryd.prog 11 #[.string s, .bool nm] w fun e w' => e = .returned (.bool (plainB nm s.data.toList)) ∧ w = w' := by
  have hs7 : s.size ≤ 9223372036854775807 := by unfold maxLen at hs; exact hs
  obtain ⟨R, hR⟩ : ∃ R, Hid (plainB nm s.data.toList = R) := ⟨_, rfl⟩
  rw [hR.out]
  cases nm with
  | false =>
    go_enter Tryd.func11, Tryd.ntmps11
    go_wp2
    go_loop [5] (fun i => ∃ k : Nat, k ≤ s.size ∧ i = .int .i64 (k : Int) ∧ Hid ((s.data.toList.take k).all (okC false) = true)) (fun i => s.size - (intOf i).toNat)
    case atStart => exact ⟨0, Nat.zero_le _, rfl, by simp [Hid]⟩
    case round =>
      obtain ⟨k, hk, rfl, HQ⟩ := hrel
      by_cases hlt : k < s.size
      · have e1 : (k : Int) < (s.size : Int) := by omega
        have h8 := (s[k]'hlt).toNat_lt
        by_cases h32 : (s[k]'hlt).toNat < 32
        · have hq := Lib.hid (plain_no false s k hlt (by unfold okC; simp; omega))
          rw [hR.out] at hq
          have t1 : ((s[k]'hlt).toNat : Int) < 32 := by omega
          clear HQ
          go_wp2
          go_ret
          exact ⟨by rw [hq.out]; rfl, rfl⟩
        · by_cases h126 : 126 < (s[k]'hlt).toNat
          · have hq := Lib.hid (plain_no false s k hlt (by unfold okC; simp; omega))
            rw [hR.out] at hq
            have t1 : ¬ ((s[k]'hlt).toNat : Int) < 32 := by omega
            have t2 : (126 : Int) < ((s[k]'hlt).toNat : Int) := by omega
            clear HQ
            go_wp2
            go_ret
            exact ⟨by rw [hq.out]; rfl, rfl⟩
          · have t1 : ¬ ((s[k]'hlt).toNat : Int) < 32 := by omega
            have t2 : ¬ (126 : Int) < ((s[k]'hlt).toNat : Int) := by omega
            have hq : Hid ((s.data.toList.take (k + 1)).all (okC false) = true) := by
              show _ = _
              rw [take_snoc s k hlt, List.all_append, HQ.out]
              simp [okC]
              omega
            clear HQ
            go_wp2
            go_round
            case rel => exact ⟨k + 1, by omega, by go_num, hq⟩
            case measure => simp [intOf]; omega
      · obtain rfl : k = s.size := by omega
        have hq : R = decide (s.size < 100) := by
          have h := HQ.out
          rw [take_all] at h
          rw [← hR.out, plainB, h, len_data]
          simp
        replace hq := Lib.hid hq
        clear HQ
        by_cases h100 : (s.size : Int) < 100
        · go_wp2
          go_ret
          exact ⟨by rw [hq.out, decide_eq_true (by omega)]; rfl, rfl⟩
        · go_wp2
          go_ret
          exact ⟨by rw [hq.out, decide_eq_false (by omega)]; rfl, rfl⟩
  | true =>
    go_enter Tryd.func11, Tryd.ntmps11
    go_wp2
    go_loop [5] (fun i => ∃ k : Nat, k ≤ s.size ∧ i = .int .i64 (k : Int) ∧ Hid ((s.data.toList.take k).all (okC true) = true)) (fun i => s.size - (intOf i).toNat)
    case atStart => exact ⟨0, Nat.zero_le _, rfl, by simp [Hid]⟩
    case round =>
      obtain ⟨k, hk, rfl, HQ⟩ := hrel
      by_cases hlt : k < s.size
      · have e1 : (k : Int) < (s.size : Int) := by omega
        have h8 := (s[k]'hlt).toNat_lt
        by_cases h32 : (s[k]'hlt).toNat < 32
        · have hq := Lib.hid (plain_no true s k hlt (by unfold okC; simp; omega))
          rw [hR.out] at hq
          have t1 : ((s[k]'hlt).toNat : Int) < 32 := by omega
          clear HQ
          go_wp2
          go_ret
          exact ⟨by rw [hq.out]; rfl, rfl⟩
        by_cases h126 : 126 < (s[k]'hlt).toNat
        · have hq := Lib.hid (plain_no true s k hlt (by unfold okC; simp; omega))
          rw [hR.out] at hq
          have t1 : ¬ ((s[k]'hlt).toNat : Int) < 32 := by omega
          have t2 : (126 : Int) < ((s[k]'hlt).toNat : Int) := by omega
          clear HQ
          go_wp2
          go_ret
          exact ⟨by rw [hq.out]; rfl, rfl⟩
        have t1 : ¬ ((s[k]'hlt).toNat : Int) < 32 := by omega
        have t2 : ¬ (126 : Int) < ((s[k]'hlt).toNat : Int) := by omega
        by_cases h3 : (s[k]'hlt).toNat = 32
        · have hq := Lib.hid (plain_no true s k hlt (by unfold okC; simp; omega))
          rw [hR.out] at hq
          have t3 : (((s[k]'hlt).toNat : Int) == 32) = true := by rw [beq_iff_eq]; omega
          clear HQ h3 h32 h126
          go_wp2
          go_ret
          exact ⟨by rw [hq.out]; rfl, rfl⟩
        have t3 : (((s[k]'hlt).toNat : Int) == 32) = false := by rw [beq_eq_false_iff_ne]; omega
        by_cases h5 : (s[k]'hlt).toNat = 58
        · have hq := Lib.hid (plain_no true s k hlt (by unfold okC; simp; omega))
          rw [hR.out] at hq
          have t4 : (((s[k]'hlt).toNat : Int) == 58) = true := by rw [beq_iff_eq]; omega
          clear HQ h3 h5 h32 h126
          go_wp2
          go_ret
          exact ⟨by rw [hq.out]; rfl, rfl⟩
        have t4 : (((s[k]'hlt).toNat : Int) == 58) = false := by rw [beq_eq_false_iff_ne]; omega
        have hq : Hid ((s.data.toList.take (k + 1)).all (okC true) = true) := by
          show _ = _
          rw [take_snoc s k hlt, List.all_append, HQ.out]
          simp [okC]
          omega
        clear HQ h3 h5 h32 h126
        go_wp2
        go_round
        case rel => exact ⟨k + 1, by omega, by go_num, hq⟩
        case measure => simp [intOf]; omega
      · obtain rfl : k = s.size := by omega
        have hq : R = (decide (s.size < 100) && decide (0 < s.size)) := by
          have h := HQ.out
          rw [take_all] at h
          rw [← hR.out, plainB, h, len_data]
          simp
        replace hq := Lib.hid hq
        clear HQ
        by_cases h100 : (s.size : Int) < 100
        · by_cases h0 : (0 : Int) < (s.size : Int)
          · go_wp2
            go_ret
            exact ⟨by rw [hq.out, decide_eq_true (show s.size < 100 by omega), decide_eq_true (show 0 < s.size by omega)]; rfl, rfl⟩
          · go_wp2
            go_ret
            exact ⟨by rw [hq.out, decide_eq_true (show s.size < 100 by omega), decide_eq_false (show ¬ 0 < s.size by omega)]; rfl, rfl⟩
        · go_wp2
          go_ret
          exact ⟨by rw [hq.out, decide_eq_false (by omega)]; rfl, rfl⟩
theorem plain_facts {nm : Bool} {l : List UInt8} (h : plainB nm l = true) : l.length < 100 ∧ (∀ c ∈ l, okC nm c = true) ∧ (nm = true → 0 < l.length) := by
  unfold plainB at h
  simp only [Bool.and_eq_true, decide_eq_true_eq, Bool.or_eq_true, Bool.not_eq_true', List.all_eq_true] at h
  refine ⟨h.1.2, h.1.1, fun hn => ?_⟩
  rcases h.2 with h2 | h2
  · exact absurd (hn.symm.trans h2) (by decide)
  · exact h2
theorem okC_name {c : UInt8} (h : okC true c = true) : 33 ≤ c.toNat ∧ c.toNat ≤ 126 ∧ c.toNat ≠ 58 := by
  unfold okC at h
  simp at h
  omega
theorem okC_text {c : UInt8} (h : okC false c = true) : 32 ≤ c.toNat ∧ c.toNat ≤ 126 := by
  unfold okC at h
  simp at h
  omega
theorem same_self (l : List UInt8) : sameB l l = true := by simp [sameB]
theorem folds_1 (n a b : ByteArray) (hn : plainB true n.data.toList = true) (ha : plainB false a.data.toList = true) (hb : plainB false b.data.toList = true) :
    getF (fieldsF valF (msg1 n.data.toList a.data.toList b.data.toList) (endF (msg1 n.data.toList a.data.toList b.data.toList))) n = (oneV a.data.toList b.data.toList, true) ∧ ∀ f ∈ fieldsF valF (msg1 n.data.toList a.data.toList b.data.toList) (endF (msg1 n.data.toList a.data.toList b.data.toList)), f.name.size ≤ maxLen := by
  have h1 := plain_facts hn
  have h2 := plain_facts ha
  have h3 := plain_facts hb
  obtain ⟨t, ht⟩ := fields_1 n.data.toList a.data.toList b.data.toList ⟨fun e => by have := h1.2.2 rfl; rw [e] at this; simp at this, fun c hc => okC_name (h1.2.1 c hc)⟩ (fun c hc => okC_text (h2.2.1 c hc)) (fun c hc => okC_text (h3.2.1 c hc))
  rw [ht]
  refine ⟨?_, fun f hf => ?_⟩
  · rw [getF, if_pos (same_self _)]
  · rw [List.mem_singleton] at hf
    subst hf
    show n.data.toList.toArray.size ≤ maxLen
    simp only [List.size_toArray]
    unfold maxLen
    omega
theorem folds_2 (n a b : ByteArray) (hn : plainB true n.data.toList = true) (ha : plainB false a.data.toList = true) (hb : plainB false b.data.toList = true) :
    getF (fieldsF valF (msg2 n.data.toList a.data.toList b.data.toList) (endF (msg2 n.data.toList a.data.toList b.data.toList))) n = (oneV a.data.toList b.data.toList, true) ∧ ∀ f ∈ fieldsF valF (msg2 n.data.toList a.data.toList b.data.toList) (endF (msg2 n.data.toList a.data.toList b.data.toList)), f.name.size ≤ maxLen := by
  have h1 := plain_facts hn
  have h2 := plain_facts ha
  have h3 := plain_facts hb
  obtain ⟨t, ht⟩ := fields_2 n.data.toList a.data.toList b.data.toList ⟨fun e => by have := h1.2.2 rfl; rw [e] at this; simp at this, fun c hc => okC_name (h1.2.1 c hc)⟩ (fun c hc => okC_text (h2.2.1 c hc)) (fun c hc => okC_text (h3.2.1 c hc))
  rw [ht]
  refine ⟨?_, fun f hf => ?_⟩
  · rw [getF, if_pos (same_self _)]
  · rw [List.mem_singleton] at hf
    subst hf
    show n.data.toList.toArray.size ≤ maxLen
    simp only [List.size_toArray]
    unfold maxLen
    omega

set_option maxRecDepth 100000 in
set_option maxHeartbeats 4000000 in
theorem folds_walk (n a b : ByteArray) (w : World) (hn : n.size ≤ maxLen) (ha : a.size ≤ maxLen) (hb : b.size ≤ maxLen) (hm : ∃ m, w.cell? ⟨0, 0, none⟩ = some (.int .i64 m)) (hg : 0 < w.heap.size) :
    Calls Tryd.prog 5 #[.string n, .string a, .string b] w fun e w' => e = .returned (.bool true) ∧ Below w.heap.size w w' := by
  have hmm : MaxLenIs w := hm
  have haw := Lib.hid (awkWalk w hm hg)
  have p1 := fun W => plain_any true n W hn
  have p2 := fun W => plain_any false a W ha
  have p3 := fun W => plain_any false b W hb
  have q1 : Hid (plainB true n.data.toList = true → plainB false a.data.toList = true → plainB false b.data.toList = true → n.size < 100 ∧ a.size < 100 ∧ b.size < 100) := fun h1 h2 h3 => by
    have e1 := (plain_facts h1).1
    have e2 := (plain_facts h2).1
    have e3 := (plain_facts h3).1
    rw [len_data] at e1 e2 e3
    exact ⟨e1, e2, e3⟩
  have q2 := Lib.hid (folds_1 n a b)
  have q3 := Lib.hid (folds_2 n a b)
  clear hm hn ha hb
  go_enter Tryd.func5, Tryd.ntmps5
  go_wp2_with fail
  (with_reducible refine haw.out.mono ?_)
  rintro _ w1 ⟨rfl, b1⟩
  obtain ⟨B1, hB1⟩ : ∃ B1, Hid (plainB true n.data.toList = B1) := ⟨_, rfl⟩
  obtain ⟨B2, hB2⟩ : ∃ B2, Hid (plainB false a.data.toList = B2) := ⟨_, rfl⟩
  obtain ⟨B3, hB3⟩ : ∃ B3, Hid (plainB false b.data.toList = B3) := ⟨_, rfl⟩
  rw [hB1.out] at p1
  rw [hB2.out] at p2
  rw [hB3.out] at p3
  go_wp2_with fail
  (with_reducible refine (p1 _).mono ?_)
  rintro _ w2 ⟨rfl, rfl⟩
  cases B1 with
  | false =>
    go_wp2
    go_ret
    exact ⟨rfl, b1⟩
  | true =>
    go_wp2_with fail
    (with_reducible refine (p2 _).mono ?_)
    rintro _ w2 ⟨rfl, rfl⟩
    cases B2 with
    | false =>
      go_wp2
      go_ret
      exact ⟨rfl, b1⟩
    | true =>
      go_wp2_with fail
      (with_reducible refine (p3 _).mono ?_)
      rintro _ w2 ⟨rfl, rfl⟩
      cases B3 with
      | false =>
        go_wp2
        go_ret
        exact ⟨rfl, b1⟩
      | true =>
        obtain ⟨z1, z2, z3⟩ := q1.out hB1.out hB2.out hB3.out
        obtain ⟨r1, r2⟩ := q2.out hB1.out hB2.out hB3.out
        obtain ⟨r3, r4⟩ := q3.out hB1.out hB2.out hB3.out
        clear q1 q2 q3 p1 p2 p3 hB1 hB2 hB3 haw
        obtain ⟨S1, hS1⟩ : ∃ S1, n ++ ⟨#[58, 32]⟩ ++ a ++ ⟨#[32]⟩ ++ b ++ ⟨#[13, 10, 13, 10]⟩ = S1 := ⟨_, rfl⟩
        obtain ⟨S2, hS2⟩ : ∃ S2, n ++ ⟨#[58, 32]⟩ ++ a ++ ⟨#[13, 10, 32]⟩ ++ b ++ ⟨#[13, 10, 13, 10]⟩ = S2 := ⟨_, rfl⟩
        have m1 : S1.data.toList = msg1 n.data.toList a.data.toList b.data.toList := by rw [← hS1]; simp [msg1, ByteArray.data_append]
        have m2 : S2.data.toList = msg2 n.data.toList a.data.toList b.data.toList := by rw [← hS2]; simp [msg2, ByteArray.data_append]
        have l1 : S1.size ≤ 400 := by
          have e : S1.data.toList.length = S1.size := len_data S1
          have e1 : n.data.toList.length = n.size := len_data n
          have e2 : a.data.toList.length = a.size := len_data a
          have e3 : b.data.toList.length = b.size := len_data b
          rw [m1] at e
          simp [msg1, e1, e2, e3] at e
          omega
        have l2 : S2.size ≤ 400 := by
          have e : S2.data.toList.length = S2.size := len_data S2
          have e1 : n.data.toList.length = n.size := len_data n
          have e2 : a.data.toList.length = a.size := len_data a
          have e3 : b.data.toList.length = b.size := len_data b
          rw [m2] at e
          simp [msg2, e1, e2, e3] at e
          omega
        rw [← m1] at r1 r2
        rw [← m2] at r3 r4
        obtain ⟨cap1, C1, hconv1, hcap1, hC1⟩ := conv_bytes (P := Tryd.prog) w1 9 22 5 S1 Tryd.underlying9 Tryd.underlying22 Tryd.underlying5
        have HC1 := Lib.hid hC1
        clear hC1 m1 m2
        generalize oneV a.data.toList b.data.toList = V at *
        have hbt1 : Bts 5 (w1.alloc (.cells C1 5 (C1.size, C1.size + 1))).drew w1.heap.size S1.data.toList := (Bts.new w1 (fun j h => HC1.out j (by rw [len_data] at h; exact h))).drew
        have bc1 : Below w1.heap.size w1 (w1.alloc (.cells C1 5 (C1.size, C1.size + 1))).drew := ((Below.refl _ w1).alloc (Nat.le_refl _) _).drew
        have B1 := b1.trans (bc1.mono b1.size)
        have hG1 := get_w (some ⟨w1.heap.size, 0, none⟩) S1.data.toList cap1 n _ (Rd.of_bts hbt1) (by rw [len_data]; omega) (by rw [len_data]; exact hcap1) (hmm.below B1 hg) (Nat.lt_of_lt_of_le hg B1.size) r2
        rw [r1, len_data] at hG1
        have HG1 := Lib.hid hG1
        replace hS2 := Lib.hid hS2
        clear hbt1 bc1 r1 r2 hG1 HC1
        go_wp2_with fail
        (with_reducible refine HG1.out.mono ?_)
        rintro _ w3 ⟨rfl, b3⟩
        have B3 := B1.trans (b3.mono B1.size)
        obtain ⟨cap2, C2, hconv2, hcap2, hC2⟩ := conv_bytes (P := Tryd.prog) w3 9 22 5 S2 Tryd.underlying9 Tryd.underlying22 Tryd.underlying5
        have hbt2 : Bts 5 (w3.alloc (.cells C2 5 (C2.size, C2.size + 1))).drew w3.heap.size S2.data.toList := (Bts.new w3 (fun j h => hC2 j (by rw [len_data] at h; exact h))).drew
        have bc2 : Below w3.heap.size w3 (w3.alloc (.cells C2 5 (C2.size, C2.size + 1))).drew := ((Below.refl _ w3).alloc (Nat.le_refl _) _).drew
        have B4 := B3.trans (bc2.mono B3.size)
        have hG2 := get_w (some ⟨w3.heap.size, 0, none⟩) S2.data.toList cap2 n _ (Rd.of_bts hbt2) (by rw [len_data]; omega) (by rw [len_data]; exact hcap2) (hmm.below B4 hg) (Nat.lt_of_lt_of_le hg B4.size) r4
        rw [r3, len_data] at hG2
        have HG2 := Lib.hid hG2
        have hS2' := hS2.out
        clear hbt2 bc2 r3 r4 hG2 hC2 HG1 b3 hconv1 hS1
        go_wp2_with fail
        (with_reducible refine HG2.out.mono ?_)
        rintro _ w5 ⟨rfl, b5⟩
        have B5 := B4.trans (b5.mono B4.size)
        clear hS2' hconv2
        go_wp2
        go_ret
        exact ⟨rfl, B5⟩
end Go.Proofs.YtcigfmnkfelhjaaDoor
