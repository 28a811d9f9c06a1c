/- The walk of the law CrcLinear. -/
import Derived.Test.YtabggjlpnhgpjacDoorCrcB
import Derived.StillTailTactics
import Derived.Deep.OwnRows
set_option linter.unusedVariables false
namespace Go.Proofs.YtabggjlpnhgpjacDoor
open Go.RowKit

theorem u8Info : (Tryd.prog.info? 5).map (fun i => (i.zero, i.size, i.bytes)) = some (some (.int .u8 0), 1, 1) := by kernel_rfl
theorem Rd.cell {w : World} {A : Option Addr} {l : List UInt8} (h : Rd w A l) (k : Nat) (hk : k < l.length) : ∃ g o, A = some ⟨g, o, none⟩ ∧ g < w.heap.size ∧ w.cell? ⟨g, o + k, none⟩ = some (.int .u8 (l[k].toNat : Int)) := by
  obtain ⟨g, o, hA, hg, hc⟩ := h (by omega)
  exact ⟨g, o, hA, hg, hc k hk⟩
theorem World.alloc_size' (w : World) (o : Obj) : (w.alloc o).heap.size = w.heap.size + 1 := by simp
theorem crc_three (a b c x : List UInt8) (hb : b.length = a.length) (hc : c.length = a.length) (hx : x = List.zipWith (· ^^^ ·) (List.zipWith (· ^^^ ·) a b) c) : crcAdd 0 x = crcAdd 0 a ^^^ crcAdd 0 b ^^^ crcAdd 0 c := by
  subst hx
  unfold crcAdd
  have e : notN 0 = (notN 0 ^^^ notN 0) ^^^ notN 0 := by rw [Nat.xor_self, Nat.zero_xor]
  have h1 := crcGo_xor (List.zipWith (· ^^^ ·) a b) c (notN 0 ^^^ notN 0) (notN 0) (by simp; omega)
  rw [← e, crcGo_xor a b _ _ (by omega)] at h1
  rw [h1]
  unfold notN
  generalize crcGo _ a = x
  generalize crcGo _ b = y
  generalize crcGo _ c = z
  rw [show x ^^^ 4294967295 ^^^ (y ^^^ 4294967295) ^^^ (z ^^^ 4294967295) = (x ^^^ y ^^^ z ^^^ 4294967295) ^^^ (4294967295 ^^^ 4294967295) by ac_rfl, Nat.xor_self, Nat.xor_zero]

set_option maxRecDepth 100000 in
set_option maxHeartbeats 2000000 in
theorem linear_walk (A : Option Addr) (la : List UInt8) (c1 : Nat) (B : Option Addr) (lb : List UInt8) (c2 : Nat) (D : Option Addr) (ld : List UInt8) (c3 : Nat) (w : World) (hra : Rd w A la) (hc1 : la.length ≤ c1) (hm1 : c1 ≤ maxLen) (hrb : Rd w B lb) (hc2 : lb.length ≤ c2) (hm2 : c2 ≤ maxLen) (hrd : Rd w D ld) (hc3 : ld.length ≤ c3) (hm3 : c3 ≤ maxLen) (ht : Steps w) (hp : 0 < w.heap.size) :
    Calls Tryd.prog 3 #[.slice A la.length c1, .slice B lb.length c2, .slice D ld.length c3] w fun e w' => e = .returned (.bool true) ∧ Below w.heap.size w w' := by
  have HT := Lib.hid ht
  clear ht
  by_cases h1 : (200 : Int) < (la.length : Int)
  · go_enter Tryd.func3, Tryd.ntmps3
    go_wp2_with (go_at_call 5; refine (awake_any _ HT.out hp).mono ?_; rintro e w1 ⟨rfl, b1⟩)
    go_ret
    exact ⟨rfl, b1⟩
  by_cases h2 : lb.length = la.length
  case neg =>
    have h2' : ((lb.length : Int) != (la.length : Int)) = true := ne_t h2
    go_enter Tryd.func3, Tryd.ntmps3
    go_wp2_with (go_at_call 5; refine (awake_any _ HT.out hp).mono ?_; rintro e w1 ⟨rfl, b1⟩)
    go_ret
    exact ⟨rfl, b1⟩
  by_cases h3 : ld.length = la.length
  case neg =>
    have h3' : ((ld.length : Int) != (la.length : Int)) = true := ne_t h3
    go_enter Tryd.func3, Tryd.ntmps3
    go_wp2_with (go_at_call 5; refine (awake_any _ HT.out hp).mono ?_; rintro e w1 ⟨rfl, b1⟩)
    go_ret
    exact ⟨rfl, b1⟩
  obtain ⟨n, hn⟩ : ∃ n, la.length = n := ⟨_, rfl⟩
  rw [hn] at h1 h2 h3 hc1
  rw [h2] at hc2
  rw [h3] at hc3
  rw [hn, h2, h3]
  have HN := Lib.hid hn
  have HB := Lib.hid h2
  have HD := Lib.hid h3
  clear hn h2 h3
  have hn2 : n ≤ 200 := by omega
  have hmk := run_make_row' (P := Tryd.prog) 22 5 (.int .u8 0) 1 Tryd.underlying22 u8Info rfl .i64 .i64 n (by omega) (by omega)
  go_enter Tryd.func3, Tryd.ntmps3
  go_wp2_with fail
  refine (awake_any _ HT.out hp).mono ?_
  rintro e w1 ⟨rfl, b1⟩
  have s1 := b1.size
  go_wp2
  go_loopw [8] (fun i wr => ∃ (k : Nat) (X : List UInt8), k ≤ n ∧ i = .int .i64 k ∧ Hid (X.length = n) ∧ Hid (∀ j, j < k → X.getD j 0 = la.getD j 0 ^^^ lb.getD j 0 ^^^ ld.getD j 0) ∧ Bts 5 wr w1.heap.size X ∧ Below w.heap.size w wr) (fun i _ => n - (intOf i).toNat)
  case atStart =>
    refine ⟨0, List.replicate n 0, Nat.zero_le _, rfl, by simp [Hid], fun j hj => absurd hj (Nat.not_lt_zero _), ?_, b1.alloc s1 _⟩
    refine ⟨madeCells #[.int .u8 0] n, (0, 0), by simp [World.alloc, -World.alloc_eq], .inr rfl, fun j hj => ?_⟩
    have hj' : j < n := by simpa using hj
    have e : (Array.range n)[j]? = some j := by rw [Array.getElem?_eq_getElem (by simpa using hj')]; simp
    simp [madeCells, e, Nat.mod_one]
  case round =>
    obtain ⟨k, X, hk, rfl, HX, HC, hb, hbel⟩ := hrel
    by_cases hlt : k < n
    · obtain ⟨g1, o1, rfl, hg1, ca⟩ := (hra.below hbel).cell k (by rw [HN.out]; exact hlt)
      obtain ⟨g2, o2, rfl, hg2, cb⟩ := (hrb.below hbel).cell k (by rw [HB.out]; exact hlt)
      obtain ⟨g3, o3, rfl, hg3, cd⟩ := (hrd.below hbel).cell k (by rw [HD.out]; exact hlt)
      have hkX : k < X.length := by rw [HX.out]; exact hlt
      have hf := hb.frozen k hkX
      have cx := hb.cell k hkX
      have HCC : Hid (la.getD k 0 = la[k]'(by rw [HN.out]; exact hlt) ∧ lb.getD k 0 = lb[k]'(by rw [HB.out]; exact hlt) ∧ ld.getD k 0 = ld[k]'(by rw [HD.out]; exact hlt)) := by
        refine ⟨?_, ?_, ?_⟩ <;> simp [List.getD, HN.out, HB.out, HD.out, hlt]
      generalize la[k]'(by rw [HN.out]; exact hlt) = a at *
      generalize lb[k]'(by rw [HB.out]; exact hlt) = b at *
      generalize ld[k]'(by rw [HD.out]; exact hlt) = d at *
      have e1 : bits .xor .u8 (a.toNat : Int) (b.toNat : Int) = (((a ^^^ b).toNat : Nat) : Int) := by rw [UInt8.toNat_xor]; exact u8_xor_nat _ _ a.toNat_lt b.toNat_lt
      have e2 : bits .xor .u8 ((a ^^^ b).toNat : Int) (d.toNat : Int) = (((a ^^^ b ^^^ d).toNat : Nat) : Int) := by rw [UInt8.toNat_xor (a ^^^ b)]; exact u8_xor_nat _ _ (a ^^^ b).toNat_lt d.toNat_lt
      have hst := Lib.hid (hb.set_ k hkX (a ^^^ b ^^^ d))
      obtain ⟨abd, HABD⟩ : ∃ x, Hid (x = a ^^^ b ^^^ d) := ⟨_, rfl⟩
      rw [← HABD.out] at hst e2
      obtain ⟨ab, HAB⟩ : ∃ x, Hid (x = a ^^^ b) := ⟨_, rfl⟩
      rw [← HAB.out] at e1 e2
      go_wp2_with fail
      go_still_tail 17, (by kernel_rfl)
      change wpList _ _ _ _ _ wr.drew
      go_wp2
      go_roundw
      case rel =>
        refine ⟨k + 1, X.set k abd, by omega, by go_num, ?_, ?_, hst.out.drew, ?_⟩
        · show _ = _
          rw [List.length_set]; exact HX.out
        · intro j hj
          by_cases hjk : j = k
          · subst hjk
            obtain ⟨h1, h2, h3⟩ := HCC.out
            rw [h1, h2, h3, HABD.out]
            simp [List.getD, hkX]
          · have := HC.out j (by omega)
            rw [← this]
            simp [List.getD, Ne.symm hjk]
        · exact (hbel.setCell (p := ⟨w1.heap.size, k, none⟩) s1 _).drew
      case measure => simp [intOf]; omega
    · obtain rfl : k = n := by omega
      have hX : X = List.zipWith (· ^^^ ·) (List.zipWith (· ^^^ ·) la lb) ld := by
        have h1 := HX.out
        have h2 := HN.out
        have h3 := HB.out
        have h4 := HD.out
        apply List.ext_getElem
        · simp; omega
        · intro j hj1 hj2
          have := HC.out j (by omega)
          simp only [List.getD, List.getElem?_eq_getElem (show j < X.length by omega), List.getElem?_eq_getElem (show j < la.length by omega), List.getElem?_eq_getElem (show j < lb.length by omega), List.getElem?_eq_getElem (show j < ld.length by omega), Option.getD_some] at this
          rw [this]
          simp
      have hsum := crc_three la lb ld X (by rw [HN.out, HB.out]) (by rw [HN.out, HD.out]) hX
      have z1 := crcAdd_lt 0 la (by decide)
      have z2 := crcAdd_lt 0 lb (by decide)
      have z3 := crcAdd_lt 0 ld (by decide)
      have z4 := Nat.xor_lt_two_pow (n := 32) z1 z2
      have x1 := u32_xor_nat _ _ z1 z2
      have x2 := u32_xor_nat _ _ z4 z3
      have hgp := Nat.lt_of_lt_of_le hp hbel.size
      have ho1 := of1 (some ⟨w1.heap.size, 0, none⟩) X k wr (Rd.of_bts hb) (by rw [HX.out]; omega) (HT.out.below hbel hp) hgp
      rw [HX.out] at ho1
      have hb2 := hbel.alloc hbel.size (.cells #[.slice (some ⟨w1.heap.size, 0, none⟩) k k] 22)
      have ho2 := of1 A la c1 _ (hra.below hb2) (by rw [HN.out]; omega) (HT.out.below hb2 hp) (Nat.lt_of_lt_of_le hp hb2.size)
      rw [HN.out] at ho2
      have hb3 := hb2.alloc hb2.size (.cells #[.slice A k c1] 22)
      have ho3 := of1 B lb c2 _ (hrb.below hb3) (by rw [HB.out]; omega) (HT.out.below hb3 hp) (Nat.lt_of_lt_of_le hp hb3.size)
      rw [HB.out] at ho3
      have hb4 := hb3.alloc hb3.size (.cells #[.slice B k c2] 22)
      have ho4 := of1 D ld c3 _ (hrd.below hb4) (by rw [HD.out]; omega) (HT.out.below hb4 hp) (Nat.lt_of_lt_of_le hp hb4.size)
      rw [HD.out] at ho4
      have hb5 := hb4.alloc hb4.size (.cells #[.slice D k c3] 22)
      simp only [World.alloc_size'] at ho2 ho3 ho4
      rw [hsum] at ho1
      generalize crcAdd 0 la = y1 at *
      generalize crcAdd 0 lb = y2 at *
      generalize crcAdd 0 ld = y3 at *
      have HO1 := Lib.hid ho1
      have HO2 := Lib.hid ho2
      have HO3 := Lib.hid ho3
      have HO4 := Lib.hid ho4
      have HB5 := Lib.hid hb5
      clear ho1 ho2 ho3 ho4 hb2 hb3 hb4 hb5 hX
      go_wp2_with fail
      refine HO1.out.mono ?_
      rintro e w3 ⟨rfl, rfl⟩
      go_wp2_with fail
      refine HO2.out.mono ?_
      rintro e w3 ⟨rfl, rfl⟩
      go_wp2_with fail
      refine HO3.out.mono ?_
      rintro e w3 ⟨rfl, rfl⟩
      go_wp2_with fail
      refine HO4.out.mono ?_
      rintro e w3 ⟨rfl, rfl⟩
      go_wp2
      go_ret
      exact ⟨rfl, HB5.out⟩
end Go.Proofs.YtabggjlpnhgpjacDoor
