/- The reference's From and Big (chapter 5). -/
import Derived.Test.YtjhmdgcfdelbkaaDoorRecT
import Derived.Test.YtjhmdgcfdelbkaaDoorRecD
set_option linter.unusedVariables false
namespace Go.Proofs.YtjhmdgcfdelbkaaDoor
open Go.RowKit

set_option maxHeartbeats 1000000 in
theorem r_from (A : Option Addr) (l : List UInt8) (c : Nat) (w : World) (hr : Rd w A l) (hl : l.length ≤ 8) :
    Calls Tryd.prog 19 #[.slice A l.length c] w fun e w' => e = .returned (.int .u64 (beN l : Int)) ∧ w = w' := by
  go_enter Tryd.func19, Tryd.ntmps19
  go_wp2
  go_loop [3, 4] (fun r i => ∃ (k x : Nat), k ≤ l.length ∧ i = .int .i64 k ∧ r = .int .u64 (x : Int) ∧ Hid (beN (l.take k) = x)) (fun _ i => l.length - (intOf i).toNat)
  case atStart => exact ⟨0, 0, Nat.zero_le _, rfl, rfl, rfl⟩
  case round =>
    obtain ⟨k, x, hk, rfl, rfl, HX⟩ := hrel
    by_cases hlt : k < l.length
    · obtain ⟨b, o, rfl, hb, hcell⟩ := hr (by omega)
      have hcell := hcell k hlt
      have hc8 := l[k].toNat_lt
      have hx : x < 72057594037927936 := by
        have h1 := beN_lt (l.take k)
        rw [HX.out] at h1
        have h2 : (l.take k).length ≤ 7 := by rw [List.length_take]; omega
        have h3 : (256 : Nat) ^ (l.take k).length ≤ 256 ^ 7 := Nat.pow_le_pow_right (by decide) h2
        have h4 : (256 : Nat) ^ 7 = 72057594037927936 := by decide
        omega
      obtain ⟨y, HY, e1⟩ : ∃ y : Nat, Hid (x * 256 + l[k].toNat = y) ∧ bits .or .u64 ((x : Int) * 256) (l[k].toNat : Int) = (y : Int) := by
        refine ⟨_, rfl, ?_⟩
        have h := u64_or_nat (x * 256) l[k].toNat (by omega) (by omega)
        have h2 := Nat.two_pow_add_eq_or_of_lt (i := 8) (b := l[k].toNat) (by simpa using hc8) x
        rw [show (2 : Nat) ^ 8 * x = x * 256 by rw [Nat.mul_comm]] at h2
        rw [← h2] at h
        exact h
      go_wp2
      go_round
      case rel =>
        refine ⟨k + 1, y, by omega, by go_num, rfl, ?_⟩
        show _ = _
        rw [take_snoc_l l k hlt, beN_snoc, HX.out, HY.out]
      case measure => simp [intOf]; omega
    · obtain rfl : k = l.length := by omega
      go_wp2
      go_ret
      refine ⟨ret_int ?_, rfl⟩
      have h := HX.out
      rw [List.take_length] at h
      rw [h]


/-- The i highest of the k bytes of n. -/
theorem be_take (k n i : Nat) (hi : i < k) : (be k n).take (i + 1) = (be k n).take i ++ [UInt8.ofNat (n / 2 ^ (8 * (k - 1 - i)) % 256)] := by
  have hl : i < (be k n).length := by rw [be_len]; exact hi
  rw [List.take_succ_eq_append_getElem hl]
  congr 2
  have h2 : k - 1 - i < (bytesN k n).length := by rw [bytesN_len]; omega
  have e : (be k n)[i] = (bytesN k n)[k - 1 - i] := by
    simp only [be, List.getElem_reverse, bytesN_len]
  rw [e]
  apply UInt8.toNat_inj.1
  rw [bytesN_get k n (k - 1 - i) (by omega) h2, UInt8.toNat_ofNat', Nat.mod_mod, show (256 : Nat) = 2 ^ 8 by decide, ← Nat.pow_mul]

set_option maxRecDepth 100000 in
set_option maxHeartbeats 2000000 in
theorem r_big (B cap n k : Nat) (A : Option Addr) (L : List UInt8) (w : World) (hown : w.ownsRow B 5 1 (.slice A L.length cap) L.length (Lib.byteCells L)) (hB : B ≤ w.heap.size) (hn : n < 18446744073709551616) (hk1 : 1 ≤ k) (hk8 : k ≤ 8) (hL : L.length ≤ 1000000) :
    Calls Tryd.prog 15 #[.slice A L.length cap, .int .u64 (n : Int), .int .i64 (k : Int)] w fun e w' => ∃ A' cap', e = .returned (.slice A' (L ++ be k n).length cap') ∧ w'.ownsRow B 5 1 (.slice A' (L ++ be k n).length cap') (L ++ be k n).length (Lib.byteCells (L ++ be k n)) ∧ Below B w w' := by
  obtain ⟨i0, hi0, hz0, hz1, hz2⟩ := info_parts u8Info
  have hk8' : (k : Int) ≤ 8 := by omega
  go_enter Tryd.func15, Tryd.ntmps15
  go_wp2
  go_loopw [0, 7] (fun v i wr => ∃ (j : Nat) (C : List UInt8), j ≤ k ∧ i = .int .i64 j ∧ C.length ≤ L.length + j ∧ Hid (C = L ++ (be k n).take j) ∧ wr.ownsRow B 5 1 v C.length (Lib.byteCells C) ∧ Below B w wr) (fun _ i _ => k - (intOf i).toNat)
  case atStart => exact ⟨0, L, Nat.zero_le _, rfl, by omega, by simp [Hid], hown, Below.refl _ _⟩
  case round =>
    obtain ⟨j, C, hj, rfl, hC, HC, hI, hb⟩ := hrel
    have hsz := hb.size
    by_cases hlt : j < k
    · have hlt' : (j : Int) < (k : Int) := by omega
      obtain ⟨z, HZ, hz, hz8⟩ : ∃ z : Nat, Hid (z = 8 * (k - 1 - j)) ∧ (8 : Int) * ((k : Int) - 1 - j) = (z : Int) ∧ z < 64 := ⟨8 * (k - 1 - j), rfl, by omega, by omega⟩
      obtain ⟨x, HX, hx⟩ : ∃ x : UInt8, Hid (x = UInt8.ofNat (n / 2 ^ z % 256)) ∧ Hid ((n : Int) / 2 ^ z % 256 = (x.toNat : Int)) := ⟨_, rfl, by
        show _ = _
        rw [UInt8.toNat_ofNat', Nat.mod_mod]
        simp⟩
      have hba := hb.alloc (by omega) (.cells #[.int .u8 ((n : Int) / 2 ^ z % 256)] 5)
      go_wp2_with (at_builtin; refine wpList_append_rd _ rfl _ _ 22 rfl B 5 i0 Tryd.underlying22 hi0 hz0 hz1 hz2 _ C rfl (hI.alloc _) _ [x] _ _ rfl rfl (push_rd_k wr _ x hx.out) (by simp; omega) (by simp; omega) ?_)
      intro v2 w2 hown2 g2
      have b2 := hba.grown g2 (by simp; omega) (fun k hk => (hI.lt k hk).1)
      obtain ⟨C2, HC2, hC2, hown2⟩ : ∃ C2, Hid (C2 = C ++ [x]) ∧ C2.length ≤ C.length + 1 ∧ w2.ownsRow B 5 1 v2 C2.length (Lib.byteCells C2) := ⟨C ++ [x], rfl, by simp, by rw [List.length_append]; exact hown2⟩
      go_wp2
      go_roundw
      case rel =>
        refine ⟨j + 1, C2, by omega, by go_num, by omega, ?_, hown2, b2⟩
        show _ = _
        rw [HC2.out, HC.out, be_take k n j hlt, HX.out, HZ.out, List.append_assoc]
      case measure => simp [intOf]; omega
    · obtain rfl : j = k := by omega
      have hlt' : ¬ (j : Int) < (j : Int) := by omega
      have e : C = L ++ be j n := by rw [HC.out, List.take_of_length_le (by rw [be_len]; exact Nat.le_refl _)]
      obtain ⟨A5, c5, hv, _, _⟩ := Bts.of_own hI
      subst hv
      have HE := Lib.hid e
      have HI := Lib.hid hI
      clear e HC hC hI
      go_wp2
      go_ret
      refine ⟨A5, c5, ?_, ?_, hb⟩
      · rw [List.length_append.symm, ← HE.out]
        rfl
      · rw [List.length_append.symm, ← HE.out]
        exact HI.out
end Go.Proofs.YtjhmdgcfdelbkaaDoor
