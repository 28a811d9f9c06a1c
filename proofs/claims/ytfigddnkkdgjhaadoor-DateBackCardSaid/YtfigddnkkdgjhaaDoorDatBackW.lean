/- The walk of the law DateBack. -/
import Derived.Test.YtfigddnkkdgjhaaDoorDatOrdW
import Derived.Test.YtfigddnkkdgjhaaDoorDatF
set_option linter.unusedVariables false
namespace Go.Proofs.YtfigddnkkdgjhaaDoor
open Go.RowKit

theorem showF_size (t : DT) : (showF t).length ≤ 1000 := by
  unfold showF
  cases h : goodB t
  · exact Nat.zero_le _
  · rw [show (if true = true then showL t else []) = showL t from rfl, (fields_show t h).1]; omega
/-- Parse of what Show wrote. -/
theorem parse_show (y m d h i s z : Int) (hg : goodB ⟨y, m, d, h, i, s, z⟩ = true) {w w1 : World} (HT : Hid (Pow10 w)) (hp : 0 < w.heap.size) (b : Below w.heap.size w w1) {L : List UInt8} (hL : showF ⟨y, m, d, h, i, s, z⟩ = L) :
    Calls Tryd.prog 9 #[.string ⟨L.toArray⟩] w1 fun e w' => e = .returned (.tuple #[.agg #[.int .i64 y, .int .i64 m, .int .i64 d, .int .i64 h, .int .i64 i, .int .i64 s, .int .i64 z], .int .i64 0]) ∧ Below w1.heap.size w1 w' := by
  obtain ⟨f1, f2, f3, f4⟩ := fields_show _ hg
  rw [hL] at f4
  rw [← f4] at f1 f2 f3
  have hp' := good_parts hg
  simp only at hp' f2 f3
  exact parse_26 ⟨L.toArray⟩ m w1 f1 f2 (by omega) (by omega) (HT.out.below b hp) (Nat.lt_of_lt_of_le hp b.size) y m d h i s z 0 (.inl ⟨f3, hL, rfl⟩)
theorem eq_tt {a b : Int} (h : a = b) : (a == b) = true := by simp [h]
set_option maxRecDepth 100000 in
set_option maxHeartbeats 4000000 in
theorem back_walk (u z : Int) (w : World) (hu : (Lit.int .i64 u).wf = true) (hz : (Lit.int .i64 z).wf = true) (ht : Pow10 w) (hp : 0 < w.heap.size) :
    Calls Tryd.prog 5 #[.int .i64 u, .int .i64 z] w fun e w' => e = .returned (.bool true) ∧ Below w.heap.size w w' := by
  have H0 := Lib.hid (date_awake w ht hp)
  have HT := Lib.hid ht
  obtain ⟨y, m, d, h, i, s, zz, n, HN, hc1⟩ := of_any u z hu
  clear ht hz
  rcases HN.out with ⟨rfl, H1⟩ | ⟨rfl, -, rfl, rfl, rfl, rfl, rfl, rfl, rfl⟩
  · have hub := of_decide_eq_true (of_ok H1)
    obtain ⟨y2, m2, d2', h2, i2, s2, zz2, n2, HN2, hc2⟩ := of_any (u + 1) z (by simp [Lit.wf, IntKind.min, IntKind.max, IntKind.signed, IntKind.bits]; omega)
    obtain ⟨g1, g2, g3⟩ := H1
    simp only at g2
    obtain rfl : zz = z := g2
    obtain ⟨L, hL⟩ : ∃ L, showF ⟨y, m, d, h, i, s, zz⟩ = L := ⟨_, rfl⟩
    have hU : unixF ⟨y, m, d, h, i, s, zz⟩ = u := by unfold unixF; rw [g1]; exact g3
    have HG := Lib.hid g1
    have HU := Lib.hid hU
    have HL := Lib.hid hL
    obtain ⟨ub1, ub2, ub3, ub4⟩ := hub
    have ub5 : -100000 ≤ u := by omega
    have ub6 : u ≤ 300000000000 := by omega
    have hsb : 0 ≤ s ∧ s ≤ 59 := by have := good_parts g1; simp only at this; omega
    obtain ⟨sb1, sb2⟩ := hsb
    have HNN := Lib.hid g3
    clear hu g1 g3 hL hU HN
    go_enter Tryd.func5, Tryd.ntmps5
    go_wp2_with fail
    refine H0.out.mono ?_
    rintro e w1 ⟨rfl, b1⟩
    go_wp2_with fail
    refine (hc1 _).mono ?_
    rintro e w2 ⟨rfl, b2⟩
    have c2 := b1.trans (b2.mono b1.size)
    have c2 := c2.alloc c2.size (.cells #[.int .i64 y, .int .i64 m, .int .i64 d, .int .i64 h, .int .i64 i, .int .i64 s, .int .i64 zz] 24)
    have hF := Fld.new w2 24 y m d h i s zz
    have hsz : w2.heap.size < (w2.alloc (.cells #[.int .i64 y, .int .i64 m, .int .i64 d, .int .i64 h, .int .i64 i, .int .i64 s, .int .i64 zz] 24)).heap.size := by simp
    have hsh := Lib.hid (show_at y m d h i s zz HT hp c2 HL.out)
    go_wp2_with fail
    refine hsh.out.mono ?_
    rintro e w3 ⟨rfl, b3⟩
    have c3 := c2.trans (b3.mono c2.size)
    have hF := hF.below b3
    clear hsh b1 b2 b3 c2
    have hpr := Lib.hid (parse_show y m d h i s zz HG.out HT hp c3 HL.out)
    go_wp2_with fail
    refine hpr.out.mono ?_
    rintro e w4 ⟨rfl, b4⟩
    have c4 := c3.trans (b4.mono c3.size)
    have hF := hF.below b4
    have c5 := c4.alloc c4.size (.cells #[.int .i64 y, .int .i64 m, .int .i64 d, .int .i64 h, .int .i64 i, .int .i64 s, .int .i64 zz] 24)
    have hX := Fld.new w4 24 y m d h i s zz
    have hF := hF.below (w1 := w4.alloc (.cells #[.int .i64 y, .int .i64 m, .int .i64 d, .int .i64 h, .int .i64 i, .int .i64 s, .int .i64 zz] 24)) ((Below.refl _ _).alloc (Nat.le_refl _) _)
    clear hpr b4 c3 c4
    go_wp2_with fail
    refine (hc2 _).mono ?_
    rintro e w5 ⟨rfl, b5⟩
    have c6 := c5.trans (b5.mono c5.size)
    have hF := hF.below b5
    have hX := hX.below b5
    have c7 := c6.alloc c6.size (.cells #[.int .i64 y2, .int .i64 m2, .int .i64 d2', .int .i64 h2, .int .i64 i2, .int .i64 s2, .int .i64 zz2] 24)
    have hY := Fld.new w5 24 y2 m2 d2' h2 i2 s2 zz2
    have hF := hF.below (w1 := w5.alloc (.cells #[.int .i64 y2, .int .i64 m2, .int .i64 d2', .int .i64 h2, .int .i64 i2, .int .i64 s2, .int .i64 zz2] 24)) ((Below.refl _ _).alloc (Nat.le_refl _) _)
    have hX := hX.below (w1 := w5.alloc (.cells #[.int .i64 y2, .int .i64 m2, .int .i64 d2', .int .i64 h2, .int .i64 i2, .int .i64 s2, .int .i64 zz2] 24)) ((Below.refl _ _).alloc (Nat.le_refl _) _)
    clear b5 c5 c6
    have HF := Lib.hid hF
    obtain ⟨k0, k1, k2, k3, k4, k5, k6⟩ := hF
    have hgd := Lib.hid (good_at (w1 := w5.alloc (.cells #[.int .i64 y2, .int .i64 m2, .int .i64 d2', .int .i64 h2, .int .i64 i2, .int .i64 s2, .int .i64 zz2] 24)) y m d h i s zz (c := true) HG.out)
    go_wp2_with fail
    refine hgd.out.mono ?_
    rintro e w6 ⟨rfl, b6⟩
    clear k0 k1 k2 k3 k4 k5 k6 hgd
    have c8 := c7.trans (b6.mono c7.size)
    have hF := HF.out.below b6
    have hX := hX.below b6
    have hY := hY.below b6
    clear HF c7 b6
    have HF := Lib.hid hF
    obtain ⟨k0, k1, k2, k3, k4, k5, k6⟩ := hF
    have hun := Lib.hid (unix_at (w1 := w6) y m d h i s zz (n := u) HU.out)
    go_wp2_with fail
    refine hun.out.mono ?_
    rintro e w7 ⟨rfl, b7⟩
    clear k0 k1 k2 k3 k4 k5 k6 hun
    have c9 := c8.trans (b7.mono c8.size)
    have hF := HF.out.below b7
    have hX := hX.below b7
    have hY := hY.below b7
    clear HF c8 b7
    have HY := Lib.hid hY
    obtain ⟨k0, k1, k2, k3, k4, k5, k6⟩ := hF
    obtain ⟨j0, j1, j2, j3, j4, j5, j6⟩ := hX
    obtain ⟨l0, l1, l2, l3, l4, l5, l6⟩ := hY
    rcases HN2.out with ⟨rfl, H2⟩ | ⟨rfl, -, rfl, rfl, rfl, rfl, rfl, rfl, rfl⟩
    · have hU2 : unixF ⟨y2, m2, d2', h2, i2, s2, zz2⟩ = u + 1 := by unfold unixF; rw [H2.1]; exact H2.2.2
      have hs2 := unix_sec HG.out H2.1 (by rw [H2.2.2, HNN.out])
      simp only at hs2
      have hs3 : (s2 == (s + 1) % 60) = true := by simp [hs2]
      have hun2 := Lib.hid (unix_at (w1 := w7) y2 m2 d2' h2 i2 s2 zz2 (n := u + 1) hU2)
      clear H2 hU2 HN2 hs2
      go_wp2_with fail
      refine hun2.out.mono ?_
      rintro e w8 ⟨rfl, b8⟩
      clear l0 l1 l2 l3 l4 l5 l6 j0 j1 j2 j3 j4 j6
      have kk := (b8.cell (p := ⟨w2.heap.size, 5, none⟩) (World.block_lt_of_cell? w7 _ k5)).trans k5
      obtain ⟨l0, l1, l2, l3, l4, l5, l6⟩ := HY.out.below b8
      clear k0 k1 k2 k3 k4 k5 k6
      go_wp2
      go_ret
      exact ⟨rfl, c9.trans (b8.mono c9.size)⟩
    · clear HN2
      go_wp2
      go_ret
      exact ⟨rfl, c9⟩
  · clear HN hu
    go_enter Tryd.func5, Tryd.ntmps5
    go_wp2_with fail
    refine H0.out.mono ?_
    rintro e w1 ⟨rfl, b1⟩
    go_wp2_with fail
    refine (hc1 _).mono ?_
    rintro e w2 ⟨rfl, b2⟩
    have c2 := b1.trans (b2.mono b1.size)
    go_wp2
    go_ret
    exact ⟨rfl, c2.alloc c2.size _⟩
end Go.Proofs.YtfigddnkkdgjhaaDoor
