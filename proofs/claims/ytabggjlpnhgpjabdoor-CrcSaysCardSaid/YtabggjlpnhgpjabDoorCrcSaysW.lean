/- The reference's checksum, and the walk of the law CrcSays. -/
import Derived.Test.YtabggjlpnhgpjabDoorCrcB
import Derived.Test.YtabggjlpnhgpjabDoorAp
set_option linter.unusedVariables false
namespace Go.Proofs.YtabggjlpnhgpjabDoor.says
open Go.RowKit

theorem u8Info : (Tryd.prog.info? 5).map (fun i => (i.zero, i.size, i.bytes)) = some (some (.int .u8 0), 1, 1) := by kernel_rfl
theorem own_empty (w : World) (B : Nat) (hB : B ≤ w.heap.size) : (w.alloc (.cells #[] 5)).ownsRow B 5 1 (.slice (some ⟨w.heap.size, 0, none⟩) 0 0) ([] : List UInt8).length (Lib.byteCells []) :=
  World.ownsRow_made w #[] 0 hB (Nat.zero_le _) rfl
theorem bsteps_snoc (k n : Nat) : bsteps (k + 1) n = bstep (bsteps k n) := bsteps_add k 1 n
theorem half_bits (x : Nat) (hx : x < 4294967296) (h : x % 2 = 1) : bits .xor .u32 ((x : Int) / 2) 3988292384 = (bstep x : Int) := by
  have e : (x : Int) / 2 = ((x / 2 : Nat) : Int) := by omega
  have h2 := u32_xor_nat (x / 2) 3988292384 (by omega) (by decide)
  rw [e, bstep, if_pos h]
  exact h2

set_option maxHeartbeats 1000000 in
theorem ref_any (sum : Nat) (hs : sum < 4294967296) (A : Option Addr) (l : List UInt8) (c : Nat) (w : World) (hr : Rd w A l) (hl : l.length ≤ 100000000000) :
    Calls Tryd.prog 6 #[.int .u32 (sum : Int), .slice A l.length c] w fun e w' => e = .returned (.int .u32 (crcAdd sum l : Int)) ∧ w = w' := by
  have n0 := notN_bits sum hs
  have nlt := notN_lt sum hs
  go_enter Tryd.func6, Tryd.ntmps6
  go_wp2
  go_loop [5, 6] (fun r i => ∃ (k x : Nat), k ≤ l.length ∧ i = .int .i64 k ∧ r = .int .u32 (x : Int) ∧ x < 4294967296 ∧ Hid (crcGo (notN sum) (l.take k) = x)) (fun _ i => l.length - (intOf i).toNat)
  case atStart => exact ⟨0, notN sum, Nat.zero_le _, rfl, rfl, nlt, rfl⟩
  case round =>
    obtain ⟨k, x, hk, rfl, rfl, hx, HX⟩ := hrel
    by_cases hlt : k < l.length
    · obtain ⟨b, o, rfl, hb, hcell⟩ := hr (by omega)
      have hcell := hcell k hlt
      have hc8 := l[k].toNat_lt
      obtain ⟨a, HA, ha, e1⟩ : ∃ a : Nat, Hid (x ^^^ l[k].toNat = a) ∧ a < 4294967296 ∧ bits .xor .u32 (x : Int) (l[k].toNat : Int) = (a : Int) :=
        ⟨x ^^^ l[k].toNat, rfl, Nat.xor_lt_two_pow (n := 32) hx (by omega), u32_xor_nat _ _ hx (by omega)⟩
      go_wp2
      go_loop [5, 7] (fun r i => ∃ (j y : Nat), j ≤ 8 ∧ i = .int .i64 j ∧ r = .int .u32 (y : Int) ∧ y < 4294967296 ∧ Hid (bsteps j a = y)) (fun _ i => 8 - (intOf i).toNat)
      case atStart => exact ⟨0, a, by omega, rfl, rfl, ha, rfl⟩
      case round =>
        obtain ⟨j, y, hj, rfl, rfl, hy, HY⟩ := hrel
        by_cases hj8 : j < 8
        · by_cases hodd : y % 2 = 1
          · have hp1 : (y : Int) % 2 = 1 := by omega
            have hp2 : Int.tmod (y : Int) 2 = 1 := by rw [Int.tmod_eq_emod_of_nonneg (by omega)]; omega
            obtain ⟨z, HZ, hz, e2⟩ : ∃ z : Nat, Hid (bstep y = z) ∧ z < 4294967296 ∧ bits .xor .u32 ((y : Int) / 2) 3988292384 = (z : Int) := ⟨_, rfl, bstep_lt y hy, half_bits y hy hodd⟩
            go_wp2
            go_round
            case rel =>
              refine ⟨j + 1, z, by omega, by go_num, rfl, hz, ?_⟩
              show _ = _
              rw [bsteps_snoc, HY.out, HZ.out]
            case measure => simp [intOf]; omega
          · have hp1 : (y : Int) % 2 = 0 := by omega
            have hp2 : Int.tmod (y : Int) 2 = 0 := by rw [Int.tmod_eq_emod_of_nonneg (by omega)]; omega
            have hz : bstep y = y / 2 := by rw [bstep, if_neg hodd]
            have HZ := Lib.hid hz
            clear hz
            go_wp2
            go_round
            case rel =>
              refine ⟨j + 1, y / 2, by omega, by go_num, by simp, by omega, ?_⟩
              show _ = _
              rw [bsteps_snoc, HY.out, HZ.out]
            case measure => simp [intOf]; omega
        · obtain rfl : j = 8 := by omega
          go_wp2
          go_round
          case rel =>
            refine ⟨k + 1, y, by omega, by go_num, rfl, hy, ?_⟩
            show _ = _
            rw [take_snoc_l l k hlt, crcGo_snoc, HX.out, addN_eq, HA.out, HY.out]
          case measure => simp [intOf]; omega
    · obtain rfl : k = l.length := by omega
      have n1 := notN_bits x hx
      go_wp2
      go_ret
      refine ⟨ret_int ?_, rfl⟩
      have h := HX.out
      rw [List.take_length] at h
      unfold crcAdd
      rw [h]

set_option maxRecDepth 100000 in
set_option maxHeartbeats 2000000 in
theorem says_walk (A : Option Addr) (la : List UInt8) (c1 : Nat) (B : Option Addr) (lb : List UInt8) (c2 : Nat) (D : Option Addr) (ld : List UInt8) (c3 : Nat) (w : World) (hra : Rd w A la) (hc1 : la.length ≤ c1) (_hm1 : c1 ≤ maxLen) (hn1 : c1 ≤ 140737488351232) (hrb : Rd w B lb) (hc2 : lb.length ≤ c2) (_hm2 : c2 ≤ maxLen) (hn2 : c2 ≤ 140737488351232) (hrd : Rd w D ld) (hc3 : ld.length ≤ c3) (_hm3 : c3 ≤ maxLen) (hn3 : c3 ≤ 140737488351232) (ht : Steps w) (hp : 0 < w.heap.size) :
    Calls Tryd.prog 3 #[.slice A la.length c1, .slice B lb.length c2, .slice D ld.length c3] w fun e w' => e = .returned (.bool true) ∧ Below w.heap.size w w' := by
  have HT := Lib.hid ht
  clear ht
  obtain ⟨i0, hi0, hz0, hz1, hz2⟩ := info_parts u8Info
  by_cases h1 : (500 : Int) < (la.length : Int) + (lb.length : Int) + (ld.length : Int)
  · go_enter Tryd.func3, Tryd.ntmps3
    go_wp2_with (go_at_call 5; refine (awake_any _ HT.out hp).mono ?_; rintro e w1 ⟨rfl, b1⟩)
    go_ret
    exact ⟨rfl, b1⟩
  have l1 : la.length ≤ 500 := by omega
  have l2 : lb.length ≤ 500 := by omega
  have l3 : ld.length ≤ 500 := by omega
  go_enter Tryd.func3, Tryd.ntmps3
  go_wp2_with fail
  refine (awake_any _ HT.out hp).mono ?_
  rintro e w1 ⟨rfl, b1⟩
  have s1 := b1.size
  have ba := b1.alloc s1 (.cells #[] 5)
  go_wp2_with (at_builtin; refine wpList_append_rd _ rfl _ _ 22 rfl w.heap.size 5 i0 Tryd.underlying22 hi0 hz0 hz1 hz2 _ [] rfl (own_empty w1 w.heap.size s1) A la _ _ rfl rfl (hra.below ba) (by simp; omega) (by simp; omega) ?_)
  intro v2 w2 hown2 g2
  have b2 := ba.grown g2 (by simp; omega) (fun k hk => ((own_empty w1 w.heap.size s1).lt k hk).1)
  have s2 := b2.size
  go_wp2_with (at_builtin; refine wpList_append_rd _ rfl _ _ 22 rfl w.heap.size 5 i0 Tryd.underlying22 hi0 hz0 hz1 hz2 _ la rfl hown2 B lb _ _ rfl rfl (hrb.below b2) (by omega) s2 ?_)
  intro v3 w3 hown3 g3
  have b3 := b2.grown g3 s2 (fun k hk => (hown2.lt k hk).1)
  have s3 := b3.size
  obtain ⟨K, HK, hK, hown3⟩ : ∃ K, Hid (K = la ++ lb) ∧ K.length ≤ 1000 ∧ w3.ownsRow w.heap.size 5 1 v3 K.length (Lib.byteCells K) := ⟨la ++ lb, rfl, by simp; omega, by rw [List.length_append]; exact hown3⟩
  go_wp2_with (at_builtin; refine wpList_append_rd _ rfl _ _ 22 rfl w.heap.size 5 i0 Tryd.underlying22 hi0 hz0 hz1 hz2 _ K rfl hown3 D ld _ _ rfl rfl (hrd.below b3) (by omega) s3 ?_)
  intro v4 w4 hown4 g4
  have b4 := b3.grown g4 s3 (fun k hk => (hown3.lt k hk).1)
  have s4 := b4.size
  obtain ⟨L, HL, hL, hown5⟩ : ∃ L, Hid (L = la ++ lb ++ ld) ∧ L.length ≤ 1500 ∧ w4.ownsRow w.heap.size 5 1 v4 L.length (Lib.byteCells L) := ⟨K ++ ld, by rw [HK.out]; rfl, by simp; omega, by rw [List.length_append]; exact hown4⟩
  clear hown2 hown3 hown4
  obtain ⟨A5, c5, rfl, hc5, r5⟩ := Bts.of_own hown5
  have x1 := crcAdd_lt 0 la (by decide)
  have x2 := crcAdd_lt _ lb x1
  have x3 := crcAdd_lt _ ld x2
  have e3 : crcAdd (crcAdd (crcAdd 0 la) lb) ld = crcAdd 0 L := by rw [HL.out, crcAdd_append, crcAdd_append, List.append_assoc]
  have ho0 := Lib.hid (ref_any 0 (by decide) A5 L c5 w4 r5 (by omega))
  have ho1 := of3 A B D la lb ld c1 c2 c3 w4 (hra.below b4) (hrb.below b4) (hrd.below b4) (by omega) (by omega) (by omega) (HT.out.below b4 hp) (Nat.lt_of_lt_of_le hp s4)
  rw [← HL.out] at ho1
  have ho1 := Lib.hid ho1
  have b5 := b4.alloc s4 (.cells #[.slice A la.length c1, .slice B lb.length c2, .slice D ld.length c3] 22)
  have s5 := b5.size
  have ho2 := of1 A la c1 _ (hra.below b5) (by omega) (HT.out.below b5 hp) (Nat.lt_of_lt_of_le hp s5)
  rw [show (w4.alloc (.cells #[.slice A la.length c1, .slice B lb.length c2, .slice D ld.length c3] 22)).heap.size = w4.heap.size + 1 by simp] at ho2
  have b6 := b5.alloc s5 (.cells #[.slice A la.length c1] 22)
  have s6 := b6.size
  have ho3 := add_any _ x1 B lb c2 _ (hrb.below b6) (by omega) (HT.out.below b6 hp)
  have ho4 := add_any _ x2 D ld c3 _ (hrd.below b6) (by omega) (HT.out.below b6 hp)
  have ho5 := add_any 0 (by decide) A la c1 _ (hra.below b6) (by omega) (HT.out.below b6 hp)
  have ho6 := of1 A la c1 _ (hra.below b6) (by omega) (HT.out.below b6 hp) (Nat.lt_of_lt_of_le hp s6)
  rw [show ((w4.alloc (.cells #[.slice A la.length c1, .slice B lb.length c2, .slice D ld.length c3] 22)).alloc (.cells #[.slice A la.length c1] 22)).heap.size = w4.heap.size + 1 + 1 by simp] at ho6
  have b7 := b6.alloc s6 (.cells #[.slice A la.length c1] 22)
  rw [e3] at ho4
  generalize crcAdd (crcAdd 0 la) lb = y2 at *
  generalize crcAdd 0 la = y1 at *
  generalize crcAdd 0 L = y3 at *
  have ho2 := Lib.hid ho2
  have ho3 := Lib.hid ho3
  have ho4 := Lib.hid ho4
  have ho5 := Lib.hid ho5
  have ho6 := Lib.hid ho6
  have b7 := Lib.hid b7
  clear b5 b6 e3
  go_wp2_with fail
  refine ho0.out.mono ?_
  rintro e w5 ⟨rfl, rfl⟩
  go_wp2_with fail
  refine ho1.out.mono ?_
  rintro e w5 ⟨rfl, rfl⟩
  go_wp2_with fail
  refine ho2.out.mono ?_
  rintro e w5 ⟨rfl, rfl⟩
  go_wp2_with fail
  refine ho3.out.mono ?_
  rintro e w5 ⟨rfl, rfl⟩
  go_wp2_with fail
  refine ho4.out.mono ?_
  rintro e w5 ⟨rfl, rfl⟩
  go_wp2_with fail
  refine ho5.out.mono ?_
  rintro e w5 ⟨rfl, rfl⟩
  go_wp2_with fail
  refine ho6.out.mono ?_
  rintro e w5 ⟨rfl, rfl⟩
  go_wp2
  go_ret
  exact ⟨rfl, b7.out⟩
end Go.Proofs.YtabggjlpnhgpjabDoor.says
