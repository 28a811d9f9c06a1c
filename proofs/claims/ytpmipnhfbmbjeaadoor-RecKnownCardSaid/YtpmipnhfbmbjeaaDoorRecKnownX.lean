/- The walk of the law RecKnown, whole. -/
import Derived.Test.YtpmipnhfbmbjeaaDoorRecKnownW
set_option linter.unusedVariables false
namespace Go.Proofs.YtpmipnhfbmbjeaaDoor
open Go.RowKit

theorem own_empty (w : World) (B : Nat) (hB : B ≤ w.heap.size) : (w.alloc (.cells #[] 5)).ownsRow B 5 1 (.slice (some ⟨w.heap.size, 0, none⟩) 0 0) ([] : List UInt8).length (Lib.byteCells []) :=
  World.ownsRow_made w #[] 0 hB (Nat.zero_le _) rfl
set_option maxRecDepth 100000 in
set_option maxHeartbeats 4000000 in
theorem known_walk (w : World) (ht : Steps w) (hp : 0 < w.heap.size) : Calls Tryd.prog 3 #[] w fun e w' => e = .returned (.bool true) ∧ Below w.heap.size w w' := by
  have kc := fun (w : World) (C : Array Value) (n c g : Nat) (hg : g = w.heap.size) => Joins.run_convert_bytes_const_at (P := Tryd.prog) w 23 5 C n c g hg Tryd.underlying23 Tryd.underlying5
  have HT := Lib.hid ht
  clear ht
  obtain ⟨i0, hi0, hz0, hz1, hz2⟩ := info_parts u8Info
  go_enter Tryd.func3, Tryd.ntmps3
  go_wp2_with fail
  refine (rec_awake w HT.out hp).mono ?_
  rintro e w1 ⟨rfl, b1⟩
  have b1' := b1.alloc b1.size (.cells #[.int .u8 120] 5 (1, 2))
  have h1 := Lib.hid (k_put7 _ 1 _ (row1 w1) (Lib.hid (HT.out.below b1' hp)) (Nat.lt_of_lt_of_le hp b1'.size))
  go_wp2_with fail
  refine h1.out.mono ?_
  rintro e w2 ⟨g, cap, rfl, hP, hcap, c2⟩
  have b2 := b1'.trans (c2.mono b1'.size)
  clear h1 c2 b1 b1'
  go_wp2_with fail
  refine (k_put0 w2).mono ?_
  rintro e w3 ⟨rfl, d3⟩
  go_wp2_with fail
  refine (k_get0 w3).mono ?_
  rintro e w4 ⟨rfl, c4⟩
  have d4 := (d3.trans (c4.mono d3.size)).alloc (Nat.le_trans d3.size c4.size) (.cells #[.int .i64 0, .slice none 0 0] 28)
  clear c4 d3
  have hA := k_getA _ _ (rd_new (w4.alloc (.cells #[.int .i64 0, .slice none 0 0] 28)) [255, 0, 0, 0] #[.int .u8 255, .int .u8 0, .int .u8 0, .int .u8 0] (fun j hj => by
    have : j < 4 := hj
    match j, this with
    | 0, _ => rfl
    | 1, _ => rfl
    | 2, _ => rfl
    | 3, _ => rfl))
  simp only [sizeL] at hA
  have hA := Lib.hid hA
  have d5 := d4.alloc d4.size (.cells #[.int .u8 255, .int .u8 0, .int .u8 0, .int .u8 0] 5)
  go_wp2_with fail
  refine hA.out.mono ?_
  rintro e w6 ⟨rfl, c6⟩
  try simp only [sizeL] at c6
  have d6 := (d5.trans (c6.mono (by have := d5.size; simpa [sizeL] using this))).alloc (Nat.le_trans d5.size c6.size) (.cells #[.int .i64 0, .slice none 0 0] 28)
  clear hA c6 d4 d5
  have hB := k_getB _ _ (rd_new (w6.alloc (.cells #[.int .i64 0, .slice none 0 0] 28)) [0, 0, 0, 0] #[.int .u8 0, .int .u8 0, .int .u8 0, .int .u8 0] (fun j hj => by
    have : j < 4 := hj
    match j, this with
    | 0, _ => rfl
    | 1, _ => rfl
    | 2, _ => rfl
    | 3, _ => rfl))
  simp only [sizeL] at hB
  have hB := Lib.hid hB
  have d7 := d6.alloc d6.size (.cells #[.int .u8 0, .int .u8 0, .int .u8 0, .int .u8 0] 5)
  go_wp2_with fail
  refine hB.out.mono ?_
  rintro e w8 ⟨rfl, c8⟩
  try simp only [sizeL] at c8
  have d8 := (d7.trans (c8.mono (by have := d7.size; simpa [sizeL] using this))).alloc (Nat.le_trans d7.size c8.size) (.cells #[.int .i64 0, .slice none 0 0] 28)
  clear hB c8 d6 d7
  have s8 := d8.size
  have hP1 : Rd w2 (some ⟨g, 1, none⟩) (putR 7 []) := Rd.drop_some hP 1
  have hPl : (putR 7 []).length = 16 := by decide +kernel
  have hY7 : Y7 = (putR 7 []).set 15 ((putR 7 []).getD 15 0 + 1) := rfl
  have hPn : 15 < (putR 7 []).length := by omega
  have hgd : (putR 7 []).getD 15 0 = (putR 7 [])[15] := by simp [List.getD, hPn]
  have d9 := d8.alloc s8 (.cells #[] 5)
  have own0 := own_empty (w8.alloc (.cells #[.int .i64 0, .slice none 0 0] 28)) w2.heap.size d8.size
  simp only [sizeL] at own0
  have o1 : (17 : Int) ≤ (cap : Int) := by omega
  have o2 : ¬ cap = 1 := by omega
  have HP := Lib.hid hP
  have HP1 := Lib.hid hP1
  have HPL := Lib.hid hPl
  have HGD := Lib.hid hgd
  have HY7 := Lib.hid hY7
  clear hP hP1 hPl hgd hY7
  simp only [sizeL] at s8
  go_wp2_with (at_builtin; refine wpList_append_rd _ rfl _ _ 23 rfl w2.heap.size 5 i0 Tryd.underlying23 hi0 hz0 hz1 hz2 _ [] rfl own0 (some ⟨g, 1, none⟩) (putR 7 []) 16 (cap - 1) HPL.out.symm rfl (HP1.out.below d9) (by rw [HPL.out]; decide) (Nat.le_trans d8.size (by simp)) ?_)
  intro vy w10 hown10 g10
  have d10 := d9.grown g10 (Nat.le_trans d8.size (by simp)) (fun k hk => (own0.lt k hk).1)
  have hown10 : w10.ownsRow w2.heap.size 5 1 vy (putR 7 []).length (Lib.byteCells (putR 7 [])) := hown10
  rcases hown10.2 with ⟨_, h0⟩ | ⟨gy, capy, cur, rfl, hgy, _, hcapy, _⟩
  · rw [HPL.out] at h0; omega
  obtain ⟨-, cy, fy⟩ := own_cell hown10 15 hPn
  have hst := own_set hown10 15 hPn ((putR 7 [])[15] + 1)
  have hyy : (((putR 7 [])[15] + 1).toNat : Int) = (((putR 7 [])[15].toNat : Int) + 1) % 256 := by rw [UInt8.toNat_add]; simp
  rw [hyy] at hst
  have e7 : (putR 7 []).set 15 ((putR 7 [])[15] + 1) = Y7 := by rw [HY7.out, HGD.out]
  rw [e7] at hst
  have e8 : Y7.length = 16 := by decide +kernel
  have hst2 := own_rd hst
  rw [e8] at hst2
  have HST := Lib.hid hst2
  rw [HPL.out] at hcapy
  have d11 := d10.setCell (p := ⟨gy, 15, none⟩) hgy (.int .u8 ((((putR 7 [])[15].toNat : Int) + 1) % 256))
  have hlen := HPL.out
  clear hst hst2 e7 e8 hyy own0 d8 d9 g10
  rw [hlen]
  generalize (putR 7 [])[15] = y15 at *
  have b11 := b2.trans (d11.mono b2.size)
  have hC := Lib.hid (k_getC gy capy _ HST.out.1 HST.out.2 (Lib.hid (HT.out.below b11 hp)) (Nat.lt_of_lt_of_le hp b11.size))
  clear hlen
  have o3 : (15 : Int) < 16 := by decide
  go_wp2_with fail
  refine hC.out.mono ?_
  rintro e w12 ⟨rfl, c12⟩
  have d12 := (d11.trans (c12.mono d11.size)).alloc (Nat.le_trans d11.size c12.size) (.cells #[.int .i64 0, .slice none 0 0] 28)
  clear hC c12 HST b11 cy fy hown10 d10
  have b12 := b2.trans (d12.mono b2.size)
  have hS := Lib.hid (k_scan g (cap - 1) _ (HP1.out.below d12) (by omega) (Lib.hid (HT.out.below b12 hp)) (Nat.lt_of_lt_of_le hp b12.size))
  go_wp2_with fail
  refine hS.out.mono ?_
  rintro e w13 ⟨rfl, c13⟩
  have d13 := d12.trans (c13.mono d12.size)
  clear hS c13 d11
  have c0 : w13.cell? ⟨g, 0, none⟩ = some (.int .u8 120) := by
    obtain ⟨b, o, hA, _, hc⟩ := HP.out.below d13 (by simp)
    injection hA with hA
    injection hA with h1 h2
    subst h1 h2
    exact hc 0 (by simp)
  have o4 : (0 : Int) < 17 := by decide
  go_wp2_with fail
  refine (k_size1 _ _ _).mono ?_
  rintro e w14 ⟨rfl, c14⟩
  have d14 := (d13.alloc d13.size (.cells #[.int .u8 97, .int .u8 98, .int .u8 99] 5 (3, 4)))
  have d14 := d14.trans (c14.mono d14.size)
  go_wp2_with fail
  refine (k_size0 w14).mono ?_
  rintro e w15 ⟨rfl, c15⟩
  have d15 := d14.trans (c15.mono d14.size)
  go_wp2
  go_ret
  exact ⟨rfl, b2.trans (d15.mono b2.size)⟩
end Go.Proofs.YtpmipnhfbmbjeaaDoor
