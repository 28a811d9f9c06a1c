/- The walk of the law CrcBurst. -/
import Derived.Test.YtabggjlpnhgpjabDoorCrcB
import Derived.Test.YtabggjlpnhgpjabDoorAp
set_option linter.unusedVariables false
namespace Go.Proofs.YtabggjlpnhgpjabDoor
open Go.RowKit

theorem u8Info : (Tryd.prog.info? 5).map (fun i => (i.zero, i.size, i.bytes)) = some (some (.int .u8 0), 1, 1) := by kernel_rfl
theorem own_empty (w : World) (B : Nat) (hB : B ≤ w.heap.size) : (w.alloc (.cells #[] 5)).ownsRow B 5 1 (.slice (some ⟨w.heap.size, 0, none⟩) 0 0) ([] : List UInt8).length (Lib.byteCells []) :=
  World.ownsRow_made w #[] 0 hB (Nat.zero_le _) rfl
/-- A row of bytes that the call owns, as a block of its own. -/
theorem Bts.own {w : World} {B : Nat} {e : TypeId} {v : Value} {l : List UInt8} (h : w.ownsRow B e 1 v l.length (Lib.byteCells l)) (h0 : 0 < l.length) : ∃ g cap, v = .slice (some ⟨g, 0, none⟩) l.length cap ∧ l.length ≤ cap ∧ B ≤ g ∧ Bts e w g l := by
  rcases h.2 with ⟨rfl, h0'⟩ | ⟨g, cap, cur, rfl, hg, hh, hn, hm, hs, ht⟩
  · omega
  · refine ⟨g, cap, rfl, hn, hg, cur, (0, 0), hh, .inr rfl, fun i hi => ?_⟩
    have h2 : (cur.toList.take (l.length * 1))[i]? = (Lib.byteCells l)[i]? := by rw [ht]
    rw [List.getElem?_take_of_lt (by omega)] at h2
    simpa [Lib.byteCells, hi] using h2

theorem bytesN_bit (n e i k : Nat) (h : i < n) (h' : i < (bytesN n e).length) : (bytesN n e)[i].toNat.testBit k = (decide (k < 8) && e.testBit (k + 8 * i)) := by
  rw [bytesN_get n e i h h', show (256 : Nat) = 2 ^ 8 by decide, ← Nat.pow_mul, Nat.testBit_mod_two_pow, Nat.testBit_div_two_pow]
theorem flip_step (l : List UInt8) (e j t : Nat) (hj : j < l.length) (ht : t < 8) (h' : j < (List.zipWith (· ^^^ ·) l (bytesN l.length e)).length) :
    List.zipWith (· ^^^ ·) l (bytesN l.length (e ^^^ 2 ^ (8 * j + t))) = (List.zipWith (· ^^^ ·) l (bytesN l.length e)).set j ((List.zipWith (· ^^^ ·) l (bytesN l.length e))[j] ^^^ UInt8.ofNat (2 ^ t)) := by
  apply List.ext_getElem
  · simp [bytesN_len]
  · intro i h1 h2
    have hi : i < l.length := by simpa [bytesN_len] using h1
    rw [List.getElem_set, List.getElem_zipWith]
    apply UInt8.toNat_inj.1
    apply Nat.eq_of_testBit_eq
    intro k
    have hofs : (UInt8.ofNat (2 ^ t)).toNat = 2 ^ t := by
      have : 2 ^ t < 256 := by
        have := Nat.pow_lt_pow_right (a := 2) (by decide) ht
        simpa using this
      simp [Nat.mod_eq_of_lt this]
    by_cases hji : j = i
    · subst hji
      rw [if_pos rfl, List.getElem_zipWith, UInt8.toNat_xor, UInt8.toNat_xor, UInt8.toNat_xor, Nat.testBit_xor, Nat.testBit_xor, Nat.testBit_xor, bytesN_bit _ _ _ _ hi, bytesN_bit _ _ _ _ hi, Nat.testBit_xor, hofs, Nat.testBit_two_pow, Nat.testBit_two_pow]
      by_cases hk : k < 8
      · have e1 : decide (8 * j + t = k + 8 * j) = decide (t = k) := by congr 1; exact propext ⟨by omega, by omega⟩
        rw [e1]
        simp [hk]
      · have e1 : decide (t = k) = false := by simp; omega
        rw [e1]
        simp [hk]
    · rw [if_neg hji, List.getElem_zipWith, UInt8.toNat_xor, UInt8.toNat_xor, Nat.testBit_xor, Nat.testBit_xor, bytesN_bit _ _ _ _ hi, bytesN_bit _ _ _ _ hi, Nat.testBit_xor, Nat.testBit_two_pow]
      by_cases hk : k < 8
      · have e1 : decide (8 * j + t = k + 8 * i) = false := by simp; omega
        rw [e1]; simp
      · simp [hk]
theorem flip_none (l : List UInt8) : List.zipWith (· ^^^ ·) l (bytesN l.length 0) = l := by
  apply List.ext_getElem
  · simp [bytesN_len]
  · intro i h1 h2
    rw [List.getElem_zipWith]
    apply UInt8.toNat_inj.1
    rw [UInt8.toNat_xor, bytesN_get _ _ _ h2, Nat.zero_div]
    simp
theorem bits_snoc (b k f : Nat) (h : b / 2 ^ k % 2 = 1) : b % 2 ^ (k + 1) * 2 ^ f = (b % 2 ^ k * 2 ^ f) ^^^ 2 ^ (f + k) := by
  have hb : b.testBit k = true := by rw [Nat.testBit_eq_decide_div_mod_eq]; simpa using h
  apply Nat.eq_of_testBit_eq
  intro i
  rw [Nat.testBit_xor, Nat.mul_comm, Nat.testBit_two_pow_mul, Nat.mul_comm (b % 2 ^ k), Nat.testBit_two_pow_mul, Nat.testBit_mod_two_pow, Nat.testBit_mod_two_pow, Nat.testBit_two_pow]
  by_cases h1 : f ≤ i
  · by_cases h2 : i - f = k
    · have e : i = f + k := by omega
      subst e
      simp [hb]
    · have e1 : decide (i - f < k + 1) = decide (i - f < k) := by congr 1; exact propext ⟨by omega, by omega⟩
      have e2 : decide (f + k = i) = false := by simp; omega
      rw [e1, e2]; simp
  · have e2 : decide (f + k = i) = false := by simp; omega
    rw [e2]; simp [h1]
theorem bits_skip (b k f : Nat) (h : ¬ b / 2 ^ k % 2 = 1) : b % 2 ^ (k + 1) * 2 ^ f = b % 2 ^ k * 2 ^ f := by
  have hb : b.testBit k = false := by rw [Nat.testBit_eq_decide_div_mod_eq]; simpa using h
  congr 1
  apply Nat.eq_of_testBit_eq
  intro i
  rw [Nat.testBit_mod_two_pow, Nat.testBit_mod_two_pow]
  by_cases h2 : i = k
  · subst h2; simp [hb]
  · have e1 : decide (i < k + 1) = decide (i < k) := by congr 1; exact propext ⟨by omega, by omega⟩
    rw [e1]
theorem bit_and (b k : Nat) (hb : b < 4294967296) : Go.bits .and .u32 ((b : Int) / 2 ^ k) 1 = ((b / 2 ^ k % 2 : Nat) : Int) := by
  have h := u32_and_nat (b / 2 ^ k) 1 (Nat.lt_of_le_of_lt (Nat.div_le_self _ _) hb) (by decide)
  rw [Nat.and_one_is_mod] at h
  rw [← h]
  congr 1

set_option maxRecDepth 100000 in
set_option maxHeartbeats 2000000 in
theorem burst_walk (A : Option Addr) (l : List UInt8) (c : Nat) (at_ : Int) (bits : Int) (w : World) (hr : Rd w A l) (hc : l.length ≤ c) (_hm : c ≤ maxLen) (hw : (Lit.int .i64 at_).wf = true) (hwb : (Lit.int .u32 bits).wf = true) (ht : Steps w) (hp : 0 < w.heap.size) :
    Calls Tryd.prog 4 #[.slice A l.length c, .int .i64 at_, .int .u32 bits] w fun e w' => e = .returned (.bool true) ∧ Below w.heap.size w w' := by
  have HT := Lib.hid ht
  clear ht
  by_cases h1 : (l.length : Int) < 5
  · go_enter Tryd.func4, Tryd.ntmps4
    go_wp2_with (go_at_call 5; refine (awake_any _ HT.out hp).mono ?_; rintro e w1 ⟨rfl, b1⟩)
    go_ret
    exact ⟨rfl, b1⟩
  by_cases h2 : (300 : Int) < (l.length : Int)
  · go_enter Tryd.func4, Tryd.ntmps4
    go_wp2_with (go_at_call 5; refine (awake_any _ HT.out hp).mono ?_; rintro e w1 ⟨rfl, b1⟩)
    go_ret
    exact ⟨rfl, b1⟩
  by_cases h3 : bits = 0
  · subst h3
    go_enter Tryd.func4, Tryd.ntmps4
    go_wp2_with (go_at_call 5; refine (awake_any _ HT.out hp).mono ?_; rintro e w1 ⟨rfl, b1⟩)
    go_ret
    exact ⟨rfl, b1⟩
  have h3' : (bits == 0) = false := by simp [h3]
  by_cases h4 : at_ < 0
  · go_enter Tryd.func4, Tryd.ntmps4
    go_wp2_with (go_at_call 5; refine (awake_any _ HT.out hp).mono ?_; rintro e w1 ⟨rfl, b1⟩)
    go_ret
    exact ⟨rfl, b1⟩
  have hwi : -9223372036854775808 ≤ at_ ∧ at_ ≤ 9223372036854775807 := by simpa [Lit.wf, IntKind.min, IntKind.max, IntKind.signed, IntKind.bits] using hw
  have hwb : 0 ≤ bits ∧ bits ≤ 4294967295 := by simpa [Lit.wf, IntKind.min, IntKind.max, IntKind.signed, IntKind.bits] using hwb
  obtain ⟨at', rfl⟩ := Int.eq_ofNat_of_zero_le (by omega : 0 ≤ at_)
  obtain ⟨bits, rfl⟩ := Int.eq_ofNat_of_zero_le hwb.1
  have h1' : 5 ≤ l.length := by omega
  have h2' : l.length ≤ 300 := by omega
  obtain ⟨f, HF, hf, hf8, hrem⟩ : ∃ f : Nat, Hid (f = at' % ((l.length - 4) * 8)) ∧ f + 32 ≤ 8 * l.length ∧ f < 2400 ∧ Int.tmod (at' : Int) (((l.length : Int) - 4) * 8) = (f : Int) := by
    have hlt : at' % ((l.length - 4) * 8) < (l.length - 4) * 8 := Nat.mod_lt _ (by omega)
    refine ⟨at' % ((l.length - 4) * 8), rfl, by omega, by omega, ?_⟩
    rw [show ((l.length : Int) - 4) * 8 = (((l.length - 4) * 8 : Nat) : Int) by omega, Int.ofNat_tmod]
  obtain ⟨i0, hi0, hz0, hz1, hz2⟩ := info_parts u8Info
  go_enter Tryd.func4, Tryd.ntmps4
  go_wp2_with fail
  refine (awake_any _ HT.out hp).mono ?_
  rintro e w1 ⟨rfl, b1⟩
  have s1 := b1.size
  have ba := b1.alloc s1 (.cells #[] 5)
  go_wp2_with (at_builtin; refine wpList_append_rd _ rfl _ _ 22 rfl w.heap.size 5 i0 Tryd.underlying22 hi0 hz0 hz1 hz2 _ [] rfl (own_empty w1 w.heap.size s1) A l _ _ rfl rfl (hr.below ba) (by simp; omega) (by simp; omega) ?_)
  intro v2 w2 hown1 g1
  have b2 := ba.grown g1 (by simp; omega) (fun k hk => ((own_empty w1 w.heap.size s1).lt k hk).1)
  have s2 := b2.size
  obtain ⟨g, cap, rfl, hcap, hg, hbt⟩ := Bts.own (l := l) hown1 (by omega)
  go_wp2
  go_loopw [9] (fun i wr => ∃ (k : Nat) (C : List UInt8), k ≤ 32 ∧ i = .int .i64 k ∧ C.length = l.length ∧ Hid (C = List.zipWith (· ^^^ ·) l (bytesN l.length ((bits % 2 ^ k) * 2 ^ f))) ∧ Bts 5 wr g C ∧ Below w.heap.size w wr) (fun i _ => 32 - (intOf i).toNat)
  case atStart =>
    refine ⟨0, l, by omega, rfl, rfl, ?_, hbt, b2⟩
    show _ = _
    rw [Nat.pow_zero, Nat.mod_one, Nat.zero_mul, flip_none]
  case round =>
    obtain ⟨k, C, hk, rfl, hC, HC, hb, hbel⟩ := hrel
    by_cases hlt : k < 32
    · obtain ⟨j, t, hjt, ht8, hj, hq1, hq2, hm1, hm2⟩ : ∃ j t : Nat, f + k = 8 * j + t ∧ t < 8 ∧ j < C.length ∧ ((f : Int) + k) / 8 = j ∧ Int.tdiv ((f : Int) + k) 8 = j ∧ ((f : Int) + k) % 8 = t ∧ Int.tmod ((f : Int) + k) 8 = t := by
        refine ⟨(f + k) / 8, (f + k) % 8, by omega, by omega, by omega, by omega, ?_, by omega, ?_⟩
        · rw [Int.tdiv_eq_ediv_of_nonneg (by omega)]; omega
        · rw [Int.tmod_eq_emod_of_nonneg (by omega)]; omega
      have hcell := hb.cell j hj
      have hfr := hb.frozen j hj
      have hba := bit_and bits k (by omega)
      by_cases hbit : bits / 2 ^ k % 2 = 1
      · rw [hbit] at hba
        have hba : Go.bits .and .u32 ((bits : Int) / 2 ^ k) 1 = 1 := hba
        have hst := hb.set_ j hj (C[j] ^^^ UInt8.ofNat (2 ^ t))
        have hxo : Go.bits .xor .u8 (C[j].toNat : Int) (2 ^ t % 256) = ((C[j] ^^^ UInt8.ofNat (2 ^ t)).toNat : Int) := by
          have := u8_xor_nat C[j].toNat (2 ^ t % 256) C[j].toNat_lt (Nat.mod_lt _ (by decide))
          rw [UInt8.toNat_xor, UInt8.toNat_ofNat', ← this]
          congr 1
        rw [← hxo] at hst
        have HST := Lib.hid hst
        have HXO := Lib.hid hxo
        clear hst hxo
        go_wp2
        go_roundw
        case rel =>
          refine ⟨k + 1, C.set j (C[j] ^^^ UInt8.ofNat (2 ^ t)), by omega, by go_num, by simpa using hC, ?_, HST.out, hbel.setCell (p := ⟨g, j, none⟩) hg _⟩
          show _ = _
          rw [bits_snoc bits k f hbit, hjt, flip_step l _ j t (by omega) ht8 (by simp [bytesN_len]; omega)]
          have h := HC.out
          subst h
          rfl
        case measure => simp [intOf]; omega
      · have h0 : bits / 2 ^ k % 2 = 0 := by omega
        rw [h0] at hba
        have hba : Go.bits .and .u32 ((bits : Int) / 2 ^ k) 1 = 0 := hba
        go_wp2
        go_roundw
        case rel =>
          refine ⟨k + 1, C, by omega, by go_num, hC, ?_, hb, hbel⟩
          show _ = _
          rw [bits_skip bits k f hbit]
          exact HC.out
        case measure => simp [intOf]; omega
    · obtain rfl : k = 32 := by omega
      have hne : crcAdd 0 C ≠ crcAdd 0 l := by
        have h := HC.out
        rw [Nat.mod_eq_of_lt (by omega)] at h
        subst h
        have hx := crcGo_xor l (bytesN l.length (bits * 2 ^ f)) (notN 0) 0 (by rw [bytesN_len])
        rw [Nat.xor_zero] at hx
        have hbu := burst l.length f bits (by omega) (by omega) hf
        intro he
        have he := congrArg notN he
        unfold crcAdd at he
        rw [notN_not, notN_not, hx] at he
        apply hbu
        have := congrArg (crcGo (notN 0) l ^^^ ·) he
        simpa [← Nat.xor_assoc] using this
      have ho1 := of1 (some ⟨g, 0, none⟩) C cap wr (Rd.of_bts hb) (by omega) (HT.out.below hbel hp) (Nat.lt_of_lt_of_le hp hbel.size)
      rw [hC] at ho1
      have hl1 := hbel.size
      have hb2 := hbel.alloc hl1 (.cells #[.slice (some ⟨g, 0, none⟩) l.length cap] 22)
      have hs2 := hb2.size
      have ho2 := of1 A l c _ (hr.below hb2) (by omega) (HT.out.below hb2 hp) (Nat.lt_of_lt_of_le hp hs2)
      rw [show (wr.alloc (.cells #[.slice (some ⟨g, 0, none⟩) l.length cap] 22)).heap.size = wr.heap.size + 1 by simp] at ho2
      have HNE := Lib.hid hne
      have HO1 := Lib.hid ho1
      have HO2 := Lib.hid ho2
      clear hne ho1 ho2
      go_wp2_with fail
      refine HO1.out.mono ?_
      rintro e w3 ⟨rfl, rfl⟩
      go_wp2_with fail
      refine HO2.out.mono ?_
      rintro e w3 ⟨rfl, rfl⟩
      have hne : (((crcAdd 0 C : Nat) : Int) != ((crcAdd 0 l : Nat) : Int)) = true := ne_t HNE.out
      go_wp2
      go_ret
      exact ⟨rfl, hb2.alloc hs2 _⟩
end Go.Proofs.YtabggjlpnhgpjabDoor
