/- Package rec: good, Size, appendNumber. -/
import Derived.Test.YtjhmdgcfdelbkaaDoorRecA
set_option linter.unusedVariables false
namespace Go.Proofs.YtjhmdgcfdelbkaaDoor
open Go.RowKit

def be (k n : Nat) : List UInt8 := (bytesN k n).reverse
theorem be_len (k n : Nat) : (be k n).length = k := by simp [be, bytesN_len]
theorem bytesN_snoc (k : Nat) : ∀ n, bytesN (k + 1) n = bytesN k n ++ [UInt8.ofNat (n / 256 ^ k % 256)] := by
  induction k with
  | zero => intro n; simp [bytesN]
  | succ k ih =>
    intro n
    have h := ih (n / 256)
    rw [Nat.div_div_eq_div_mul, ← Nat.pow_succ'] at h
    show UInt8.ofNat (n % 256) :: bytesN (k + 1) (n / 256) = UInt8.ofNat (n % 256) :: (bytesN k (n / 256)) ++ _
    rw [h]
    rfl

def goodB (num : Int) (n : Nat) : Bool := decide (1 ≤ num) && decide (n ≤ 200000)
set_option maxHeartbeats 400000 in
theorem good_any (num : Int) (A : Option Addr) (n c : Nat) (w : World) :
    Calls Tryd.prog 11 #[.agg #[.int .i64 num, .slice A n c]] w fun e w' => e = .returned (.bool (goodB num n)) ∧ Below w.heap.size w w' := by
  have b := (Below.refl w.heap.size w).alloc (Nat.le_refl _) (.cells #[.int .i64 num, .slice A n c] 24)
  by_cases h1 : (1 : Int) ≤ num
  · by_cases h2 : (n : Int) ≤ 200000
    · go_enter Tryd.func11, Tryd.ntmps11
      go_wp2
      go_ret
      exact ⟨ret_bool (by unfold goodB; simp; omega), b⟩
    · go_enter Tryd.func11, Tryd.ntmps11
      go_wp2
      go_ret
      exact ⟨ret_bool (by unfold goodB; simp; omega), b⟩
  · go_enter Tryd.func11, Tryd.ntmps11
    go_wp2
    go_ret
    exact ⟨ret_bool (by unfold goodB; simp; omega), b⟩
def sizeN (num : Int) (n : Nat) : Nat := if goodB num n then 12 + n + 4 else 0
set_option maxHeartbeats 400000 in
theorem size_any (num : Int) (A : Option Addr) (n c : Nat) (w : World) :
    Calls Tryd.prog 12 #[.agg #[.int .i64 num, .slice A n c]] w fun e w' => e = .returned (.int .i64 (sizeN num n : Int)) ∧ Below w.heap.size w w' := by
  have b := (Below.refl w.heap.size w).alloc (Nat.le_refl _) (.cells #[.int .i64 num, .slice A n c] 24)
  have s1 := b.size
  go_enter Tryd.func12, Tryd.ntmps12
  go_wp2_with fail
  refine (good_any num A n c _).mono ?_
  rintro e w1 ⟨rfl, b1⟩
  have b2 := b.trans (b1.mono s1)
  have c1 : w1.cell? ⟨w.heap.size, 1, none⟩ = some (.slice A n c) := (b1.cell (p := ⟨w.heap.size, 1, none⟩) (by simp)).trans (by simp)
  by_cases hg : goodB num n = true
  · rw [hg]
    have hn : (n : Int) ≤ 200000 := by unfold goodB at hg; simp at hg; omega
    have HG := Lib.hid hg
    clear hg
    go_wp2
    go_ret
    exact ⟨ret_int (by unfold sizeN; rw [HG.out]; simp), b2⟩
  · have hg' : goodB num n = false := by simpa using hg
    rw [hg']
    have HG := Lib.hid hg'
    clear hg hg'
    go_wp2
    go_ret
    exact ⟨ret_int (by unfold sizeN; rw [HG.out]; rfl), b2⟩

theorem push_rd_k (w : World) (n : Int) (x : UInt8) (h : n = (x.toNat : Int)) : Rd (w.alloc (.cells #[.int .u8 n] 5)) (some ⟨w.heap.size, 0, none⟩) [x] := by
  subst h
  refine Rd.of_bts (e := 5) ⟨#[.int .u8 (x.toNat : Int)], (0, 0), by simp [World.alloc, -World.alloc_eq], .inr rfl, fun j hj => ?_⟩
  have : j < 1 := hj
  match j, this with
  | 0, _ => rfl

set_option maxRecDepth 100000 in
set_option maxHeartbeats 2000000 in
theorem appnum_any (B cap n k : Nat) (A : Option Addr) (L : List UInt8) (w : World) (hown : w.ownsRow B 5 1 (.slice A L.length cap) L.length (Lib.byteCells L)) (hB : B ≤ w.heap.size) (hn : n < 18446744073709551616) (hk1 : 1 ≤ k) (hk8 : k ≤ 8) (hL : L.length ≤ 1000000) :
    Calls Tryd.prog 13 #[.slice A L.length cap, .int .u64 (n : Int), .int .i64 (k : Int)] w fun e w' => ∃ g' cap', e = .returned (.slice (some ⟨g', 0, none⟩) (L ++ be k n).length cap') ∧ w'.ownsRow B 5 1 (.slice (some ⟨g', 0, none⟩) (L ++ be k n).length cap') (L ++ be k n).length (Lib.byteCells (L ++ be k n)) ∧ Below B w w' := by
  obtain ⟨i0, hi0, hz0, hz1, hz2⟩ := info_parts u8Info
  go_enter Tryd.func13, Tryd.ntmps13
  go_wp2
  go_loopw [0, 1, 11] (fun v x i wr => ∃ (j m : Nat) (C : List UInt8), j ≤ k ∧ i = .int .i64 j ∧ x = .int .u64 (m : Int) ∧ m < 18446744073709551616 ∧ Hid (m = n / 256 ^ j) ∧ C.length ≤ L.length + j ∧ Hid (C = L ++ bytesN j n) ∧ wr.ownsRow B 5 1 v C.length (Lib.byteCells C) ∧ Below B w wr) (fun _ _ i _ => k - (intOf i).toNat)
  case atStart => exact ⟨0, n, L, Nat.zero_le _, rfl, rfl, hn, by simp [Hid], by omega, by simp [Hid, bytesN], hown, Below.refl _ _⟩
  case round =>
    obtain ⟨j, m, C, hj, rfl, rfl, hm, HM, hC, HC, hI, hb⟩ := hrel
    have hsz := hb.size
    by_cases hlt : j < k
    · obtain ⟨x, HX, hx⟩ : ∃ x : UInt8, Hid (x = UInt8.ofNat (m % 256)) ∧ Hid ((m : Int) % 256 = (x.toNat : Int)) := ⟨_, rfl, by show _ = _; rw [UInt8.toNat_ofNat', Nat.mod_mod]; omega⟩
      have hba := hb.alloc (by omega) (.cells #[.int .u8 ((m : Int) % 256)] 5)
      go_wp2_with (at_builtin; refine wpList_append_rd _ rfl _ _ 22 rfl B 5 i0 Tryd.underlying22 hi0 hz0 hz1 hz2 _ C rfl (hI.alloc _) _ [x] _ _ rfl rfl (push_rd_k wr _ x hx.out) (by simp; omega) (by simp; omega) ?_)
      intro v2 w2 hown2 g2
      have b2 := hba.grown g2 (by simp; omega) (fun k hk => (hI.lt k hk).1)
      obtain ⟨C2, HC2, hC2, hown2⟩ : ∃ C2, Hid (C2 = C ++ [x]) ∧ C2.length ≤ C.length + 1 ∧ w2.ownsRow B 5 1 v2 C2.length (Lib.byteCells C2) := ⟨C ++ [x], rfl, by simp, by rw [List.length_append]; exact hown2⟩
      go_wp2
      go_roundw
      case rel =>
        refine ⟨j + 1, m / 256, C2, by omega, by go_num, by simp, by omega, ?_, by omega, ?_, hown2, b2⟩
        · show _ = _
          rw [HM.out, Nat.div_div_eq_div_mul, Nat.pow_succ]
        · show _ = _
          rw [HC2.out, HC.out, bytesN_snoc, HX.out, HM.out, List.append_assoc]
      case measure => simp [intOf]; omega
    · obtain rfl : j = k := by omega
      have hCl : C.length = L.length + j := by rw [HC.out, List.length_append, bytesN_len]
      rcases hI.2 with ⟨_, h0⟩ | ⟨g1, cap1, cur, rfl, _, _, hc1, _⟩
      · omega
      have hrv := reverse_any B g1 L.length cap1 C wr hI (by omega) (by omega) (cap1 - L.length) (by omega)
      have e : C.take L.length ++ (C.drop L.length).reverse = L ++ be j n := by rw [HC.out]; simp [be]
      rw [e] at hrv
      have HR := Lib.hid hrv
      have hcf : ¬ cap1 = L.length := by omega
      have o1 : (L.length : Int) ≤ (C.length : Int) := by omega
      have o2 : (C.length : Int) ≤ (cap1 : Int) := by omega
      have HCL := Lib.hid hCl
      clear hrv hCl e
      go_wp2_with fail
      refine HR.out.mono ?_
      rintro e w3 ⟨rfl, b3, hown3⟩
      go_wp2
      go_ret
      have e2 : (L ++ be j n).length = C.length := by rw [HCL.out, List.length_append, be_len]
      rw [e2]
      exact ⟨g1, cap1, rfl, hown3, hb.trans b3⟩
end Go.Proofs.YtjhmdgcfdelbkaaDoor
