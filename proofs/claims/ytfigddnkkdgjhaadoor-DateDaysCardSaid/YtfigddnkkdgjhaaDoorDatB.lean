/- Package date: Good, Unix, two. -/
import Derived.Test.YtfigddnkkdgjhaaDoorDatA
import Derived.Test.YtfigddnkkdgjhaaDoorRefI
import Derived.Deep.RegionHeld3
set_option linter.unusedVariables false
namespace Go.Proofs.YtfigddnkkdgjhaaDoor
open Go.RowKit

theorem quietS {P : Program} {f : FuncId} {args : Array Value} {w : World} {v : Value} (h : Calls P f args w fun e w' => e = .returned v ∧ w = w') : Calls P f args w fun e w' => e = .returned v ∧ w' = w :=
  h.mono fun _ _ ⟨h1, h2⟩ => ⟨h1, h2.symm⟩
theorem within_t {n a b : Int} (w : World) (h : inB n a b = true) : Calls Tryd.prog 26 #[.int .i64 n, .int .i64 a, .int .i64 b] w fun e w' => e = .returned (.bool true) ∧ w' = w :=
  (within_any n a b w).mono fun _ _ ⟨h1, h2⟩ => ⟨by rw [h1, h], h2.symm⟩
theorem within_f {n a b : Int} (w : World) (h : inB n a b = false) : Calls Tryd.prog 26 #[.int .i64 n, .int .i64 a, .int .i64 b] w fun e w' => e = .returned (.bool false) ∧ w' = w :=
  (within_any n a b w).mono fun _ _ ⟨h1, h2⟩ => ⟨by rw [h1, h], h2.symm⟩
theorem inB_t {n a b : Int} (h : inB n a b = true) : a ≤ n ∧ n ≤ b := of_decide_eq_true h
theorem good_eq (y m d h i s z : Int) : goodB ⟨y, m, d, h, i, s, z⟩ = (inB y 1970 9999 && inB m 1 12 && inB d 1 (dim y m) && inB h 0 23 && inB i 0 59 && inB s 0 59 && inB z (-1439) 1439) := by
  rw [Bool.eq_iff_iff]
  simp [goodB, inB]
  omega
theorem dim_call {y m D : Int} (w : World) (h : inB y 1970 9999 = true) (hD : Hid (dim y m = D)) : Calls Tryd.prog 37 #[.int .i64 y, .int .i64 m] w fun e w' => e = .returned (.int .i64 D) ∧ w' = w := by
  have := inB_t h
  have hc := daysIn_any y m w (by omega) (by omega)
  rw [hD.out] at hc
  exact quietS hc

set_option maxRecDepth 100000 in
set_option maxHeartbeats 2000000 in
theorem good_any (y m d h i s z : Int) (w : World) : Calls Tryd.prog 18 #[.agg #[.int .i64 y, .int .i64 m, .int .i64 d, .int .i64 h, .int .i64 i, .int .i64 s, .int .i64 z]] w fun e w' => e = .returned (.bool (goodB ⟨y, m, d, h, i, s, z⟩)) ∧ Below w.heap.size w w' := by
  have b := (Below.refl w.heap.size w).alloc (Nat.le_refl _) (.cells #[.int .i64 y, .int .i64 m, .int .i64 d, .int .i64 h, .int .i64 i, .int .i64 s, .int .i64 z] 24)
  obtain ⟨D, HD⟩ : ∃ D, Hid (dim y m = D) := ⟨_, rfl⟩
  have HG : Hid (goodB ⟨y, m, d, h, i, s, z⟩ = (inB y 1970 9999 && inB m 1 12 && inB d 1 D && inB h 0 23 && inB i 0 59 && inB s 0 59 && inB z (-1439) 1439)) := by
    show _ = _
    rw [good_eq, HD.out]
  rw [HG.out]
  clear HG
  cases h1 : inB y 1970 9999
  rotate_left
  cases h2 : inB m 1 12
  rotate_left
  cases h3 : inB d 1 D
  rotate_left
  cases h4 : inB h 0 23
  rotate_left
  cases h5 : inB i 0 59
  rotate_left
  cases h6 : inB s 0 59
  rotate_left
  cases h7 : inB z (-1439) 1439
  all_goals
    go_enter Tryd.func18, Tryd.ntmps18
    go_wp2
    go_quiet ((first | (go_at_call 26; exact Calls.quiet_of_same (within_f _ ‹_›)) | (go_at_call 26; exact Calls.quiet_of_same (within_t _ ‹_›)) | (go_at_call 37; exact Calls.quiet_of_same (dim_call _ h1 HD))))
    go_wp2
    go_ret
    exact ⟨rfl, below_drewN b _⟩

/-- The seven fields in a block. -/
def Fld (w : World) (g : Nat) (y m d h i s z : Int) : Prop :=
  w.cell? ⟨g, 0, none⟩ = some (.int .i64 y) ∧ w.cell? ⟨g, 1, none⟩ = some (.int .i64 m) ∧ w.cell? ⟨g, 2, none⟩ = some (.int .i64 d) ∧ w.cell? ⟨g, 3, none⟩ = some (.int .i64 h) ∧ w.cell? ⟨g, 4, none⟩ = some (.int .i64 i) ∧ w.cell? ⟨g, 5, none⟩ = some (.int .i64 s) ∧ w.cell? ⟨g, 6, none⟩ = some (.int .i64 z)
theorem Fld.below {w w1 : World} {g : Nat} {y m d h i s z : Int} (hf : Fld w g y m d h i s z) (hb : Below w.heap.size w w1) : Fld w1 g y m d h i s z := by
  obtain ⟨h0, h1, h2, h3, h4, h5, h6⟩ := hf
  have hg := World.block_lt_of_cell? w _ h0
  exact ⟨(hb.cell (p := ⟨g, 0, none⟩) hg).trans h0, (hb.cell (p := ⟨g, 1, none⟩) hg).trans h1, (hb.cell (p := ⟨g, 2, none⟩) hg).trans h2, (hb.cell (p := ⟨g, 3, none⟩) hg).trans h3, (hb.cell (p := ⟨g, 4, none⟩) hg).trans h4, (hb.cell (p := ⟨g, 5, none⟩) hg).trans h5, (hb.cell (p := ⟨g, 6, none⟩) hg).trans h6⟩
theorem Fld.new (w : World) (t : TypeId) (y m d h i s z : Int) : Fld (w.alloc (.cells #[.int .i64 y, .int .i64 m, .int .i64 d, .int .i64 h, .int .i64 i, .int .i64 s, .int .i64 z] t)) w.heap.size y m d h i s z := by
  refine ⟨?_, ?_, ?_, ?_, ?_, ?_, ?_⟩ <;> simp

theorem daysTo_call {y m d h i s z : Int} (w : World) (hg : goodB ⟨y, m, d, h, i, s, z⟩ = true) {N : Int} (hN : Hid (dayN y m d = N)) : Calls Tryd.prog 25 #[.int .i64 y, .int .i64 m, .int .i64 d] w fun e w' => e = .returned (.int .i64 N) ∧ w' = w := by
  have hp := good_parts hg
  simp only at hp
  have := dim_lo y m
  have hc := daysTo_any y m d w (by omega) (by omega) (by omega) (by omega) (by omega) (by omega)
  rw [hN.out] at hc
  exact quietS hc
theorem daysTo_of {y m d h i s z : Int} (w : World) (hg : goodB ⟨y, m, d, h, i, s, z⟩ = true) {N : Int} (hN : Hid (dayN y m d = N)) : Calls Tryd.prog 25 #[.int .i64 y, .int .i64 m, .int .i64 d] w fun e w' => e = .returned (.int .i64 N) ∧ w' = w := daysTo_call w hg hN

set_option maxRecDepth 100000 in
set_option maxHeartbeats 2000000 in
theorem unix_any (y m d h i s z : Int) (w : World) : Calls Tryd.prog 12 #[.agg #[.int .i64 y, .int .i64 m, .int .i64 d, .int .i64 h, .int .i64 i, .int .i64 s, .int .i64 z]] w fun e w' => e = .returned (.int .i64 (unixF ⟨y, m, d, h, i, s, z⟩)) ∧ Below w.heap.size w w' := by
  have b := (Below.refl w.heap.size w).alloc (Nat.le_refl _) (.cells #[.int .i64 y, .int .i64 m, .int .i64 d, .int .i64 h, .int .i64 i, .int .i64 s, .int .i64 z] 24)
  have s1 := b.size
  cases hg : goodB ⟨y, m, d, h, i, s, z⟩
  · have hc := good_any y m d h i s z (w.alloc (.cells #[.int .i64 y, .int .i64 m, .int .i64 d, .int .i64 h, .int .i64 i, .int .i64 s, .int .i64 z] 24))
    rw [hg] at hc
    have HG := Lib.hid hg
    have HC := Lib.hid hc
    clear hg hc
    go_enter Tryd.func12, Tryd.ntmps12
    go_wp2_with fail
    refine HC.out.mono ?_
    rintro e w1 ⟨rfl, b1⟩
    go_wp2
    go_ret
    exact ⟨ret_int (by unfold unixF; rw [HG.out]; rfl), b.trans (b1.mono s1)⟩
  · have hc := good_any y m d h i s z (w.alloc (.cells #[.int .i64 y, .int .i64 m, .int .i64 d, .int .i64 h, .int .i64 i, .int .i64 s, .int .i64 z] 24))
    rw [hg] at hc
    have hp := good_parts hg
    simp only at hp
    have hdb := day_bounds y m d hp.1 hp.2.1 hp.2.2.1 hp.2.2.2.1 hp.2.2.2.2.1 hp.2.2.2.2.2.1
    obtain ⟨N, hN⟩ : ∃ N, dayN y m d = N := ⟨_, rfl⟩
    rw [hN] at hdb
    have HN := Lib.hid hN
    have hcall := fun W => Lib.hid (daysTo_call W hg HN)
    have HU : Hid (unixF ⟨y, m, d, h, i, s, z⟩ = ((N * 24 + h) * 60 + i - z) * 60 + s) := by
      show _ = _
      unfold unixF unixI
      rw [hg, ← hN]
      rfl
    have HC := Lib.hid hc
    have hF := Fld.new w 24 y m d h i s z
    rw [HU.out]
    clear HU hg hc hN
    obtain ⟨p1, p2, p3, p4, p5, p6, p7, p8, p9, p10, p11, p12, p13, p14⟩ := hp
    obtain ⟨n1, n2⟩ := hdb
    clear p6
    have e1 : IntKind.i64.wrap (N * 24) = N * 24 := IntWalk.i64_in _ (by omega)
    have e2 : IntKind.i64.wrap (N * 24 + h) = N * 24 + h := IntWalk.i64_in _ (by omega)
    have e3 : IntKind.i64.wrap ((N * 24 + h) * 60) = (N * 24 + h) * 60 := IntWalk.i64_in _ (by omega)
    have e4 : IntKind.i64.wrap ((N * 24 + h) * 60 + i) = (N * 24 + h) * 60 + i := IntWalk.i64_in _ (by omega)
    have e5 : IntKind.i64.wrap ((N * 24 + h) * 60 + i - z) = (N * 24 + h) * 60 + i - z := IntWalk.i64_in _ (by omega)
    have e6 : IntKind.i64.wrap (((N * 24 + h) * 60 + i - z) * 60) = ((N * 24 + h) * 60 + i - z) * 60 := IntWalk.i64_in _ (by omega)
    have e7 : IntKind.i64.wrap (((N * 24 + h) * 60 + i - z) * 60 + s) = ((N * 24 + h) * 60 + i - z) * 60 + s := IntWalk.i64_in _ (by omega)
    go_enter Tryd.func12, Tryd.ntmps12
    go_wp2_with fail
    refine HC.out.mono ?_
    rintro e w1 ⟨rfl, b1⟩
    obtain ⟨c0, c1, c2, c3, c4, c5, c6⟩ := hF.below b1
    go_wp2
    go_quiet ((go_at_call 25; exact Calls.quiet_of_same (hcall _).out))
    go_wp2
    go_ret
    exact ⟨rfl, below_drewN (b.trans (b1.mono s1)) _⟩
end Go.Proofs.YtfigddnkkdgjhaaDoor
