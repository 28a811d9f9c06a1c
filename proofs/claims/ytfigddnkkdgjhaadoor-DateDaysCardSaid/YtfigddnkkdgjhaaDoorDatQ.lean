/- Package date: Parse. -/
import Derived.Test.YtfigddnkkdgjhaaDoorDatP
import Derived.Test.YtfigddnkkdgjhaaDoorDatV
import Derived.Deep.DeepCutAuto
set_option linter.unusedVariables false
namespace Go.Proofs.YtfigddnkkdgjhaaDoor
open Go.RowKit

def sl (l : List UInt8) (a b : Nat) : List UInt8 := (l.drop a).take (b - a)
theorem bel_next {w wx wy : World} (hb : Below wx.heap.size wx wy) (hB : Bel w wx) : Bel w wy := Below.trans hB (hb.mono (Below.size hB))
theorem bel_alloc {w wx : World} (hB : Bel w wx) (o : Obj) : Bel w (wx.alloc o) := Below.alloc hB (Below.size hB) o
theorem extract_sl (s : ByteArray) (a b : Nat) : (s.extract a b).data.toList = sl s.data.toList a b := by
  simp [sl, ByteArray.data_extract, List.extract_eq_take_drop]
theorem extract_size (s : ByteArray) (a b : Nat) (h : b ≤ s.size) : (s.extract a b).size = b - a := by
  rw [ByteArray.size_extract]; omega
def dayF (l : List UInt8) : Int := if l.getD 0 0 = 32 then valI (sl l 1 2) else valI (sl l 0 2)
def zone0 (l : List UInt8) : Int := 60 * valI (sl l 22 24) + valI (sl l 24 26)
def zoneF (l : List UInt8) : Int := if l.getD 21 0 = 45 then -zone0 l else zone0 l
def fieldsD (l : List UInt8) (r : Int) : DT := ⟨valI (sl l 7 11), r, dayF l, valI (sl l 12 14), valI (sl l 15 17), valI (sl l 18 20), zoneF l⟩
theorem valI_bd (l : List UInt8) (h : l.length ≤ 4) : -1048576 ≤ valI l ∧ valI l ≤ 9999 := by
  unfold valI
  split
  · rename_i hd
    have h1 := numN_lt _ l rfl hd
    have h2 : 10 ^ l.length ≤ 10 ^ 4 := Nat.pow_le_pow_right (by omega) h
    omega
  · omega
theorem sl_len (l : List UInt8) (a b : Nat) : (sl l a b).length ≤ b - a := by unfold sl; rw [List.length_take]; omega
/-- A call of value at a window, its number named. -/
theorem value_at (s : ByteArray) (a b : Nat) (hb : b ≤ s.size) (hab : b - a ≤ 4) : ∃ v : Int, Hid (valI (sl s.data.toList a b) = v) ∧ -1048576 ≤ v ∧ v ≤ 9999 ∧ ∀ w : World, Calls Tryd.prog 23 #[.string (s.extract a b)] w fun e w' => e = .returned (.int .i64 v) ∧ w = w' := by
  have hbd := valI_bd (sl s.data.toList a b) (by have := sl_len s.data.toList a b; omega)
  refine ⟨_, rfl, hbd.1, hbd.2, fun w => ?_⟩
  have h := value_any (s.extract a b) w (by rw [extract_size s a b hb]; omega)
  rw [extract_sl] at h
  exact h
theorem getD_at (s : ByteArray) (k : Nat) (h : k < s.size) : s.data.toList.getD k 0 = s[k] := by
  rw [List.getD, List.getElem?_eq_getElem (by simpa using h)]; rfl

def Unf (w : World) (g : Nat) : Prop := w.frozen? ⟨g, 0, none⟩ = false ∧ w.frozen? ⟨g, 1, none⟩ = false ∧ w.frozen? ⟨g, 2, none⟩ = false ∧ w.frozen? ⟨g, 3, none⟩ = false ∧ w.frozen? ⟨g, 4, none⟩ = false ∧ w.frozen? ⟨g, 5, none⟩ = false ∧ w.frozen? ⟨g, 6, none⟩ = false
theorem two_blocks {w w6 : World} {n0 : Nat} {t u : TypeId} {a0 a1 a2 a3 a4 a5 a6 : Int}
    (b6 : Below (((w.alloc (.cells #[.int .i64 0, .int .i64 0, .int .i64 0, .int .i64 0, .int .i64 0, .int .i64 0, .int .i64 0] t)).alloc (.cells #[.int .i64 a0, .int .i64 a1, .int .i64 a2, .int .i64 a3, .int .i64 a4, .int .i64 a5, .int .i64 a6] u)).drewN n0).heap.size (((w.alloc (.cells #[.int .i64 0, .int .i64 0, .int .i64 0, .int .i64 0, .int .i64 0, .int .i64 0, .int .i64 0] t)).alloc (.cells #[.int .i64 a0, .int .i64 a1, .int .i64 a2, .int .i64 a3, .int .i64 a4, .int .i64 a5, .int .i64 a6] u)).drewN n0) w6) :
    Fld w6 (w.heap.size + 1) a0 a1 a2 a3 a4 a5 a6 ∧ Fld w6 w.heap.size 0 0 0 0 0 0 0 ∧ Unf w6 w.heap.size ∧ Below w.heap.size w w6 := by
  have h1 : Fld (((w.alloc (.cells #[.int .i64 0, .int .i64 0, .int .i64 0, .int .i64 0, .int .i64 0, .int .i64 0, .int .i64 0] t)).alloc (.cells #[.int .i64 a0, .int .i64 a1, .int .i64 a2, .int .i64 a3, .int .i64 a4, .int .i64 a5, .int .i64 a6] u)).drewN n0) (w.heap.size + 1) a0 a1 a2 a3 a4 a5 a6 := by
    have h := Fld.new (w.alloc (.cells #[.int .i64 0, .int .i64 0, .int .i64 0, .int .i64 0, .int .i64 0, .int .i64 0, .int .i64 0] t)) u a0 a1 a2 a3 a4 a5 a6
    rw [sizeL] at h
    exact h
  have h2 : Fld (((w.alloc (.cells #[.int .i64 0, .int .i64 0, .int .i64 0, .int .i64 0, .int .i64 0, .int .i64 0, .int .i64 0] t)).alloc (.cells #[.int .i64 a0, .int .i64 a1, .int .i64 a2, .int .i64 a3, .int .i64 a4, .int .i64 a5, .int .i64 a6] u)).drewN n0) w.heap.size 0 0 0 0 0 0 0 :=
    (Fld.new w t 0 0 0 0 0 0 0).below (below_drewN ((Below.refl _ _).alloc (Nat.le_refl _) _) n0)
  have h3 : Unf (((w.alloc (.cells #[.int .i64 0, .int .i64 0, .int .i64 0, .int .i64 0, .int .i64 0, .int .i64 0, .int .i64 0] t)).alloc (.cells #[.int .i64 a0, .int .i64 a1, .int .i64 a2, .int .i64 a3, .int .i64 a4, .int .i64 a5, .int .i64 a6] u)).drewN n0) w.heap.size := by
    refine ⟨?_, ?_, ?_, ?_, ?_, ?_, ?_⟩ <;> simp
  have hlt : w.heap.size < (((w.alloc (.cells #[.int .i64 0, .int .i64 0, .int .i64 0, .int .i64 0, .int .i64 0, .int .i64 0, .int .i64 0] t)).alloc (.cells #[.int .i64 a0, .int .i64 a1, .int .i64 a2, .int .i64 a3, .int .i64 a4, .int .i64 a5, .int .i64 a6] u)).drewN n0).heap.size := by simp; omega
  obtain ⟨f0, f1, f2, f3, f4, f5, f6⟩ := h3
  refine ⟨h1.below b6, h2.below b6, ⟨(b6.frozen (p := ⟨w.heap.size, 0, none⟩) hlt).trans f0, (b6.frozen (p := ⟨w.heap.size, 1, none⟩) hlt).trans f1, (b6.frozen (p := ⟨w.heap.size, 2, none⟩) hlt).trans f2, (b6.frozen (p := ⟨w.heap.size, 3, none⟩) hlt).trans f3, (b6.frozen (p := ⟨w.heap.size, 4, none⟩) hlt).trans f4, (b6.frozen (p := ⟨w.heap.size, 5, none⟩) hlt).trans f5, (b6.frozen (p := ⟨w.heap.size, 6, none⟩) hlt).trans f6⟩, ?_⟩
  exact (below_drewN (((Below.refl w.heap.size w).alloc (Nat.le_refl _) _).alloc (by simp) _) n0).trans (b6.mono (by simp; omega))
theorem setCell_drewN (w : World) (n : Nat) (a : Addr) (v : Value) : (w.drewN n).setCell a v = (w.setCell a v).drewN n := rfl
attribute [local go_sem] setCell_drewN
set_option maxRecDepth 100000 in
set_option maxHeartbeats 8000000 in
theorem parse_26 (s : ByteArray) (r : Int) (w : World) (hs : s.size = 26) (hr : MonIs (sl s.data.toList 3 6) r) (hr0 : 0 ≤ r) (hr1 : r ≤ 12) (ht : Pow10 w) (hp : 0 < w.heap.size) (y m d h i s' z n : Int)
    (HR : (fieldsD s.data.toList r = ⟨y, m, d, h, i, s', z⟩ ∧ showF ⟨y, m, d, h, i, s', z⟩ = s.data.toList ∧ n = 0) ∨ (¬ showF (fieldsD s.data.toList r) = s.data.toList ∧ y = 0 ∧ m = 0 ∧ d = 0 ∧ h = 0 ∧ i = 0 ∧ s' = 0 ∧ z = 0 ∧ n = 3)) :
    Calls Tryd.prog 9 #[.string s] w fun e w' => e = .returned (.tuple #[.agg #[.int .i64 y, .int .i64 m, .int .i64 d, .int .i64 h, .int .i64 i, .int .i64 s', .int .i64 z], .int .i64 n]) ∧ Below w.heap.size w w' := by
  obtain ⟨v1, H1, l1, u1, c1⟩ := value_at s 7 11 (by omega) (by omega)
  obtain ⟨v2, H2, l2, u2, c2⟩ := value_at s 0 2 (by omega) (by omega)
  obtain ⟨v3, H3, l3, u3, c3⟩ := value_at s 12 14 (by omega) (by omega)
  obtain ⟨v4, H4, l4, u4, c4⟩ := value_at s 15 17 (by omega) (by omega)
  obtain ⟨v5, H5, l5, u5, c5⟩ := value_at s 18 20 (by omega) (by omega)
  obtain ⟨v6, H6, l6, u6, c6⟩ := value_at s 22 24 (by omega) (by omega)
  obtain ⟨v7, H7, l7, u7, c7⟩ := value_at s 24 26 (by omega) (by omega)
  obtain ⟨v8, H8, l8, u8, c8⟩ := value_at s 1 2 (by omega) (by omega)
  have cm : ∀ W : World, Calls Tryd.prog 24 #[.string (s.extract 3 6)] W fun e w' => e = .returned (.int .i64 r) ∧ ∃ n, w' = W.drewN n := fun W => month_any (s.extract 3 6) r W (by rw [extract_size s 3 6 (by omega)]) (by rw [extract_sl]; exact hr)
  have HT := Lib.hid ht
  clear hr ht
  have e1 : IntKind.i64.wrap (60 * v6) = 60 * v6 := IntWalk.i64_in _ (by omega)
  have e2 : IntKind.i64.wrap (60 * v6 + v7) = 60 * v6 + v7 := IntWalk.i64_in _ (by omega)
  have hlen : ((s.size : Int) != 26) = false := by simp [hs]
  have q0 : 0 < s.size := by omega
  have q21 : 21 < s.size := by omega
  have w1 : (2 : Int) ≤ (s.size : Int) := by omega
  have w2 : (6 : Int) ≤ (s.size : Int) := by omega
  have w3 : (11 : Int) ≤ (s.size : Int) := by omega
  have w4 : (14 : Int) ≤ (s.size : Int) := by omega
  have w5 : (17 : Int) ≤ (s.size : Int) := by omega
  have w6 : (20 : Int) ≤ (s.size : Int) := by omega
  have w7 : (24 : Int) ≤ (s.size : Int) := by omega
  have w8 : (26 : Int) ≤ (s.size : Int) := by omega
  have w9 : (0 : Int) < (s.size : Int) := by omega
  have w10 : (21 : Int) < (s.size : Int) := by omega
  have HS := Lib.hid hs
  clear hs
  go_enter Tryd.func9, Tryd.ntmps9
  go_upto_region 3 with (fail)
  go_cut [4] (fun s4 wx => s4 = .pointer (some ⟨w.heap.size + 1, 0, none⟩) ∧ ∃ n, wx = ((w.alloc (.cells #[.int .i64 0, .int .i64 0, .int .i64 0, .int .i64 0, .int .i64 0, .int .i64 0, .int .i64 0] 24)).alloc (.cells #[.int .i64 v1, .int .i64 r, .int .i64 v2, .int .i64 v3, .int .i64 v4, .int .i64 v5, .int .i64 (60 * v6 + v7)] 24)).drewN n)
  case first =>
    go_region_held3 (fun _ => True) (trivial) (first
      | (go_at_call 24; (with_reducible refine (cm _).mono ?_); rintro e w5 ⟨rfl, n5, rfl⟩)
      | (go_at_call 23; (with_reducible refine (c1 _).mono ?_); rintro e w5 ⟨rfl, rfl⟩)
      | (go_at_call 23; (with_reducible refine (c2 _).mono ?_); rintro e w5 ⟨rfl, rfl⟩)
      | (go_at_call 23; (with_reducible refine (c3 _).mono ?_); rintro e w5 ⟨rfl, rfl⟩)
      | (go_at_call 23; (with_reducible refine (c4 _).mono ?_); rintro e w5 ⟨rfl, rfl⟩)
      | (go_at_call 23; (with_reducible refine (c5 _).mono ?_); rintro e w5 ⟨rfl, rfl⟩)
      | (go_at_call 23; (with_reducible refine (c6 _).mono ?_); rintro e w5 ⟨rfl, rfl⟩)
      | (go_at_call 23; (with_reducible refine (c7 _).mono ?_); rintro e w5 ⟨rfl, rfl⟩))
    all_goals
      go_wp2_with fail
      go_meet
      exact ⟨rfl, _, rfl⟩
  case rest =>
    obtain ⟨rfl, n0, rfl⟩ := hcut
    obtain ⟨A, HA⟩ : ∃ A : List UInt8, showF (fieldsD s.data.toList r) = A := ⟨_, rfl⟩
    have hsh : ∀ D Z : Int, fieldsD s.data.toList r = ⟨v1, r, D, v3, v4, v5, Z⟩ → ∀ W, Below w.heap.size w W → Calls Tryd.prog 13 #[.agg #[.int .i64 v1, .int .i64 r, .int .i64 D, .int .i64 v3, .int .i64 v4, .int .i64 v5, .int .i64 Z]] W fun e w' => e = .returned (.string ⟨A.toArray⟩) ∧ Below W.heap.size W w' := fun D Z hf W hW => by
      have h := show_any v1 r D v3 v4 v5 Z W (HT.out.below hW hp) (Nat.lt_of_lt_of_le hp hW.size)
      rw [← hf, HA] at h
      exact h
    have HSH := Lib.hid hsh
    have HRR := Lib.hid HR
    have HAA := Lib.hid HA
    clear hsh HR HA
    by_cases h0 : s[0].toNat = 32
    · have t0 : ((s[0].toNat : Int) == 32) = true := by rw [beq_iff_eq]; omega
      have hd : dayF s.data.toList = v8 := by
        unfold dayF
        rw [getD_at s 0 q0, if_pos (UInt8.toNat_inj.1 h0)]
        exact H8.out
      by_cases h21 : s[21].toNat = 45
      · have t21 : ((s[21].toNat : Int) == 45) = true := by rw [beq_iff_eq]; omega
        have hz : zoneF s.data.toList = -(60 * v6 + v7) := by
          unfold zoneF zone0
          rw [getD_at s 21 q21, if_pos (UInt8.toNat_inj.1 h21), H6.out, H7.out]
        have HF : Hid (fieldsD s.data.toList r = ⟨v1, r, v8, v3, v4, v5, -(60 * v6 + v7)⟩) := by
          show _ = _
          unfold fieldsD
          rw [hd, hz, H1.out, H3.out, H4.out, H5.out]
        have hst : ∀ o : Obj, Below w.heap.size w ((((w.alloc (.cells #[.int .i64 0, .int .i64 0, .int .i64 0, .int .i64 0, .int .i64 0, .int .i64 0, .int .i64 0] 24)).alloc o).drewN n0)) := fun o => below_drewN (((Below.refl w.heap.size w).alloc (Nat.le_refl _) _).alloc (by simp) o) n0
        have HST := Lib.hid hst
        clear hst hd hz h0 h21
        go_wp2_with (go_at_call 23; (with_reducible refine (c8 _).mono ?_); rintro e w5 ⟨rfl, rfl⟩)
        refine (HSH.out _ _ HF.out _ (HST.out _)).mono ?_
        rintro e w6 ⟨rfl, b6⟩
        obtain ⟨⟨k0, k1, k2, k3, k4, k5, k6⟩, ⟨g0, g1, g2, g3, g4, g5, g6⟩, ⟨f0, f1, f2, f3, f4, f5, f6⟩, b7⟩ := two_blocks b6
        clear b6
        go_wp2
        · have hq : (!A == s.toList) = true := by assumption
          rw [toList_data] at hq
          have hq2 : ¬ A = s.data.toList := by simpa using hq
          rcases HRR.out with ⟨r1, r2, r3⟩ | ⟨-, rfl, rfl, rfl, rfl, rfl, rfl, rfl, rfl⟩
          · exact absurd (by rw [← HAA.out, r1]; exact r2) hq2
          · refine bodyPost_ret (v := .tuple #[.agg #[.int .i64 0, .int .i64 0, .int .i64 0, .int .i64 0, .int .i64 0, .int .i64 0, .int .i64 0], .int .i64 3]) (by simp [results, Tryd.results9, go_sem, g0, g1, g2, g3, g4, g5, g6]) rfl ⟨rfl, ((((((b7.setCell (p := ⟨w.heap.size, 0, none⟩) (Nat.le_refl _) _).setCell (p := ⟨w.heap.size, 1, none⟩) (Nat.le_refl _) _).setCell (p := ⟨w.heap.size, 2, none⟩) (Nat.le_refl _) _).setCell (p := ⟨w.heap.size, 3, none⟩) (Nat.le_refl _) _).setCell (p := ⟨w.heap.size, 4, none⟩) (Nat.le_refl _) _).setCell (p := ⟨w.heap.size, 5, none⟩) (Nat.le_refl _) _).setCell (p := ⟨w.heap.size, 6, none⟩) (Nat.le_refl _) _⟩
        · have hq : (!A == s.toList) = false := by assumption
          rw [toList_data] at hq
          have hq2 : A = s.data.toList := by simpa using hq
          rcases HRR.out with ⟨r1, r2, r3⟩ | ⟨r1, -, -, -, -, -, -, -, -⟩
          · refine bodyPost_ret (v := .tuple #[.agg #[.int .i64 v1, .int .i64 r, .int .i64 (v8), .int .i64 v3, .int .i64 v4, .int .i64 v5, .int .i64 (-(60 * v6 + v7))], .int .i64 0]) (by simp [results, Tryd.results9, go_sem, g0, g1, g2, g3, g4, g5, g6]) rfl ⟨?_, ((((((b7.setCell (p := ⟨w.heap.size, 0, none⟩) (Nat.le_refl _) _).setCell (p := ⟨w.heap.size, 1, none⟩) (Nat.le_refl _) _).setCell (p := ⟨w.heap.size, 2, none⟩) (Nat.le_refl _) _).setCell (p := ⟨w.heap.size, 3, none⟩) (Nat.le_refl _) _).setCell (p := ⟨w.heap.size, 4, none⟩) (Nat.le_refl _) _).setCell (p := ⟨w.heap.size, 5, none⟩) (Nat.le_refl _) _).setCell (p := ⟨w.heap.size, 6, none⟩) (Nat.le_refl _) _⟩
            have hh := r1.symm.trans HF.out
            injection hh with i1 i2 i3 i4 i5 i6 i7
            rw [i1, i2, i3, i4, i5, i6, i7, r3]
          · exact absurd (HAA.out.trans hq2) r1
      · have t21 : ((s[21].toNat : Int) == 45) = false := by rw [beq_eq_false_iff_ne]; omega
        have hz : zoneF s.data.toList = 60 * v6 + v7 := by
          unfold zoneF zone0
          rw [getD_at s 21 q21, if_neg (fun h => h21 (by rw [h]; rfl)), H6.out, H7.out]
        have HF : Hid (fieldsD s.data.toList r = ⟨v1, r, v8, v3, v4, v5, 60 * v6 + v7⟩) := by
          show _ = _
          unfold fieldsD
          rw [hd, hz, H1.out, H3.out, H4.out, H5.out]
        have hst : ∀ o : Obj, Below w.heap.size w ((((w.alloc (.cells #[.int .i64 0, .int .i64 0, .int .i64 0, .int .i64 0, .int .i64 0, .int .i64 0, .int .i64 0] 24)).alloc o).drewN n0)) := fun o => below_drewN (((Below.refl w.heap.size w).alloc (Nat.le_refl _) _).alloc (by simp) o) n0
        have HST := Lib.hid hst
        clear hst hd hz h0 h21
        go_wp2_with (go_at_call 23; (with_reducible refine (c8 _).mono ?_); rintro e w5 ⟨rfl, rfl⟩)
        refine (HSH.out _ _ HF.out _ (HST.out _)).mono ?_
        rintro e w6 ⟨rfl, b6⟩
        obtain ⟨⟨k0, k1, k2, k3, k4, k5, k6⟩, ⟨g0, g1, g2, g3, g4, g5, g6⟩, ⟨f0, f1, f2, f3, f4, f5, f6⟩, b7⟩ := two_blocks b6
        clear b6
        go_wp2
        · have hq : (!A == s.toList) = true := by assumption
          rw [toList_data] at hq
          have hq2 : ¬ A = s.data.toList := by simpa using hq
          rcases HRR.out with ⟨r1, r2, r3⟩ | ⟨-, rfl, rfl, rfl, rfl, rfl, rfl, rfl, rfl⟩
          · exact absurd (by rw [← HAA.out, r1]; exact r2) hq2
          · refine bodyPost_ret (v := .tuple #[.agg #[.int .i64 0, .int .i64 0, .int .i64 0, .int .i64 0, .int .i64 0, .int .i64 0, .int .i64 0], .int .i64 3]) (by simp [results, Tryd.results9, go_sem, g0, g1, g2, g3, g4, g5, g6]) rfl ⟨rfl, ((((((b7.setCell (p := ⟨w.heap.size, 0, none⟩) (Nat.le_refl _) _).setCell (p := ⟨w.heap.size, 1, none⟩) (Nat.le_refl _) _).setCell (p := ⟨w.heap.size, 2, none⟩) (Nat.le_refl _) _).setCell (p := ⟨w.heap.size, 3, none⟩) (Nat.le_refl _) _).setCell (p := ⟨w.heap.size, 4, none⟩) (Nat.le_refl _) _).setCell (p := ⟨w.heap.size, 5, none⟩) (Nat.le_refl _) _).setCell (p := ⟨w.heap.size, 6, none⟩) (Nat.le_refl _) _⟩
        · have hq : (!A == s.toList) = false := by assumption
          rw [toList_data] at hq
          have hq2 : A = s.data.toList := by simpa using hq
          rcases HRR.out with ⟨r1, r2, r3⟩ | ⟨r1, -, -, -, -, -, -, -, -⟩
          · refine bodyPost_ret (v := .tuple #[.agg #[.int .i64 v1, .int .i64 r, .int .i64 (v8), .int .i64 v3, .int .i64 v4, .int .i64 v5, .int .i64 (60 * v6 + v7)], .int .i64 0]) (by simp [results, Tryd.results9, go_sem, g0, g1, g2, g3, g4, g5, g6]) rfl ⟨?_, ((((((b7.setCell (p := ⟨w.heap.size, 0, none⟩) (Nat.le_refl _) _).setCell (p := ⟨w.heap.size, 1, none⟩) (Nat.le_refl _) _).setCell (p := ⟨w.heap.size, 2, none⟩) (Nat.le_refl _) _).setCell (p := ⟨w.heap.size, 3, none⟩) (Nat.le_refl _) _).setCell (p := ⟨w.heap.size, 4, none⟩) (Nat.le_refl _) _).setCell (p := ⟨w.heap.size, 5, none⟩) (Nat.le_refl _) _).setCell (p := ⟨w.heap.size, 6, none⟩) (Nat.le_refl _) _⟩
            have hh := r1.symm.trans HF.out
            injection hh with i1 i2 i3 i4 i5 i6 i7
            rw [i1, i2, i3, i4, i5, i6, i7, r3]
          · exact absurd (HAA.out.trans hq2) r1
    · have t0 : ((s[0].toNat : Int) == 32) = false := by rw [beq_eq_false_iff_ne]; omega
      have hd : dayF s.data.toList = v2 := by
        unfold dayF
        rw [getD_at s 0 q0, if_neg (fun h => h0 (by rw [h]; rfl))]
        exact H2.out
      by_cases h21 : s[21].toNat = 45
      · have t21 : ((s[21].toNat : Int) == 45) = true := by rw [beq_iff_eq]; omega
        have hz : zoneF s.data.toList = -(60 * v6 + v7) := by
          unfold zoneF zone0
          rw [getD_at s 21 q21, if_pos (UInt8.toNat_inj.1 h21), H6.out, H7.out]
        have HF : Hid (fieldsD s.data.toList r = ⟨v1, r, v2, v3, v4, v5, -(60 * v6 + v7)⟩) := by
          show _ = _
          unfold fieldsD
          rw [hd, hz, H1.out, H3.out, H4.out, H5.out]
        have hst : ∀ o : Obj, Below w.heap.size w ((((w.alloc (.cells #[.int .i64 0, .int .i64 0, .int .i64 0, .int .i64 0, .int .i64 0, .int .i64 0, .int .i64 0] 24)).alloc o).drewN n0)) := fun o => below_drewN (((Below.refl w.heap.size w).alloc (Nat.le_refl _) _).alloc (by simp) o) n0
        have HST := Lib.hid hst
        clear hst hd hz h0 h21
        go_wp2_with (go_at_call 23; (with_reducible refine (c8 _).mono ?_); rintro e w5 ⟨rfl, rfl⟩)
        refine (HSH.out _ _ HF.out _ (HST.out _)).mono ?_
        rintro e w6 ⟨rfl, b6⟩
        obtain ⟨⟨k0, k1, k2, k3, k4, k5, k6⟩, ⟨g0, g1, g2, g3, g4, g5, g6⟩, ⟨f0, f1, f2, f3, f4, f5, f6⟩, b7⟩ := two_blocks b6
        clear b6
        go_wp2
        · have hq : (!A == s.toList) = true := by assumption
          rw [toList_data] at hq
          have hq2 : ¬ A = s.data.toList := by simpa using hq
          rcases HRR.out with ⟨r1, r2, r3⟩ | ⟨-, rfl, rfl, rfl, rfl, rfl, rfl, rfl, rfl⟩
          · exact absurd (by rw [← HAA.out, r1]; exact r2) hq2
          · refine bodyPost_ret (v := .tuple #[.agg #[.int .i64 0, .int .i64 0, .int .i64 0, .int .i64 0, .int .i64 0, .int .i64 0, .int .i64 0], .int .i64 3]) (by simp [results, Tryd.results9, go_sem, g0, g1, g2, g3, g4, g5, g6]) rfl ⟨rfl, ((((((b7.setCell (p := ⟨w.heap.size, 0, none⟩) (Nat.le_refl _) _).setCell (p := ⟨w.heap.size, 1, none⟩) (Nat.le_refl _) _).setCell (p := ⟨w.heap.size, 2, none⟩) (Nat.le_refl _) _).setCell (p := ⟨w.heap.size, 3, none⟩) (Nat.le_refl _) _).setCell (p := ⟨w.heap.size, 4, none⟩) (Nat.le_refl _) _).setCell (p := ⟨w.heap.size, 5, none⟩) (Nat.le_refl _) _).setCell (p := ⟨w.heap.size, 6, none⟩) (Nat.le_refl _) _⟩
        · have hq : (!A == s.toList) = false := by assumption
          rw [toList_data] at hq
          have hq2 : A = s.data.toList := by simpa using hq
          rcases HRR.out with ⟨r1, r2, r3⟩ | ⟨r1, -, -, -, -, -, -, -, -⟩
          · refine bodyPost_ret (v := .tuple #[.agg #[.int .i64 v1, .int .i64 r, .int .i64 (v2), .int .i64 v3, .int .i64 v4, .int .i64 v5, .int .i64 (-(60 * v6 + v7))], .int .i64 0]) (by simp [results, Tryd.results9, go_sem, g0, g1, g2, g3, g4, g5, g6]) rfl ⟨?_, ((((((b7.setCell (p := ⟨w.heap.size, 0, none⟩) (Nat.le_refl _) _).setCell (p := ⟨w.heap.size, 1, none⟩) (Nat.le_refl _) _).setCell (p := ⟨w.heap.size, 2, none⟩) (Nat.le_refl _) _).setCell (p := ⟨w.heap.size, 3, none⟩) (Nat.le_refl _) _).setCell (p := ⟨w.heap.size, 4, none⟩) (Nat.le_refl _) _).setCell (p := ⟨w.heap.size, 5, none⟩) (Nat.le_refl _) _).setCell (p := ⟨w.heap.size, 6, none⟩) (Nat.le_refl _) _⟩
            have hh := r1.symm.trans HF.out
            injection hh with i1 i2 i3 i4 i5 i6 i7
            rw [i1, i2, i3, i4, i5, i6, i7, r3]
          · exact absurd (HAA.out.trans hq2) r1
      · have t21 : ((s[21].toNat : Int) == 45) = false := by rw [beq_eq_false_iff_ne]; omega
        have hz : zoneF s.data.toList = 60 * v6 + v7 := by
          unfold zoneF zone0
          rw [getD_at s 21 q21, if_neg (fun h => h21 (by rw [h]; rfl)), H6.out, H7.out]
        have HF : Hid (fieldsD s.data.toList r = ⟨v1, r, v2, v3, v4, v5, 60 * v6 + v7⟩) := by
          show _ = _
          unfold fieldsD
          rw [hd, hz, H1.out, H3.out, H4.out, H5.out]
        have hst : ∀ o : Obj, Below w.heap.size w ((((w.alloc (.cells #[.int .i64 0, .int .i64 0, .int .i64 0, .int .i64 0, .int .i64 0, .int .i64 0, .int .i64 0] 24)).alloc o).drewN n0)) := fun o => below_drewN (((Below.refl w.heap.size w).alloc (Nat.le_refl _) _).alloc (by simp) o) n0
        have HST := Lib.hid hst
        clear hst hd hz h0 h21
        go_wp2_with (go_at_call 23; (with_reducible refine (c8 _).mono ?_); rintro e w5 ⟨rfl, rfl⟩)
        refine (HSH.out _ _ HF.out _ (HST.out _)).mono ?_
        rintro e w6 ⟨rfl, b6⟩
        obtain ⟨⟨k0, k1, k2, k3, k4, k5, k6⟩, ⟨g0, g1, g2, g3, g4, g5, g6⟩, ⟨f0, f1, f2, f3, f4, f5, f6⟩, b7⟩ := two_blocks b6
        clear b6
        go_wp2
        · have hq : (!A == s.toList) = true := by assumption
          rw [toList_data] at hq
          have hq2 : ¬ A = s.data.toList := by simpa using hq
          rcases HRR.out with ⟨r1, r2, r3⟩ | ⟨-, rfl, rfl, rfl, rfl, rfl, rfl, rfl, rfl⟩
          · exact absurd (by rw [← HAA.out, r1]; exact r2) hq2
          · refine bodyPost_ret (v := .tuple #[.agg #[.int .i64 0, .int .i64 0, .int .i64 0, .int .i64 0, .int .i64 0, .int .i64 0, .int .i64 0], .int .i64 3]) (by simp [results, Tryd.results9, go_sem, g0, g1, g2, g3, g4, g5, g6]) rfl ⟨rfl, ((((((b7.setCell (p := ⟨w.heap.size, 0, none⟩) (Nat.le_refl _) _).setCell (p := ⟨w.heap.size, 1, none⟩) (Nat.le_refl _) _).setCell (p := ⟨w.heap.size, 2, none⟩) (Nat.le_refl _) _).setCell (p := ⟨w.heap.size, 3, none⟩) (Nat.le_refl _) _).setCell (p := ⟨w.heap.size, 4, none⟩) (Nat.le_refl _) _).setCell (p := ⟨w.heap.size, 5, none⟩) (Nat.le_refl _) _).setCell (p := ⟨w.heap.size, 6, none⟩) (Nat.le_refl _) _⟩
        · have hq : (!A == s.toList) = false := by assumption
          rw [toList_data] at hq
          have hq2 : A = s.data.toList := by simpa using hq
          rcases HRR.out with ⟨r1, r2, r3⟩ | ⟨r1, -, -, -, -, -, -, -, -⟩
          · refine bodyPost_ret (v := .tuple #[.agg #[.int .i64 v1, .int .i64 r, .int .i64 (v2), .int .i64 v3, .int .i64 v4, .int .i64 v5, .int .i64 (60 * v6 + v7)], .int .i64 0]) (by simp [results, Tryd.results9, go_sem, g0, g1, g2, g3, g4, g5, g6]) rfl ⟨?_, ((((((b7.setCell (p := ⟨w.heap.size, 0, none⟩) (Nat.le_refl _) _).setCell (p := ⟨w.heap.size, 1, none⟩) (Nat.le_refl _) _).setCell (p := ⟨w.heap.size, 2, none⟩) (Nat.le_refl _) _).setCell (p := ⟨w.heap.size, 3, none⟩) (Nat.le_refl _) _).setCell (p := ⟨w.heap.size, 4, none⟩) (Nat.le_refl _) _).setCell (p := ⟨w.heap.size, 5, none⟩) (Nat.le_refl _) _).setCell (p := ⟨w.heap.size, 6, none⟩) (Nat.le_refl _) _⟩
            have hh := r1.symm.trans HF.out
            injection hh with i1 i2 i3 i4 i5 i6 i7
            rw [i1, i2, i3, i4, i5, i6, i7, r3]
          · exact absurd (HAA.out.trans hq2) r1
end Go.Proofs.YtfigddnkkdgjhaaDoor
