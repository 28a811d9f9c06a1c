/- The walk of the law DateDays. -/
import Derived.Test.YtfigddnkkdgjhaaDoorDatDay
import Derived.Test.YtfigddnkkdgjhaaDoorDatF
import Derived.Test.YtfigddnkkdgjhaaDoorDatOrdW
import Derived.Test.YtfigddnkkdgjhaaDoorDatDaysW
set_option linter.unusedVariables false
namespace Go.Proofs.YtfigddnkkdgjhaaDoor
open Go.RowKit

theorem ba_of (l : List UInt8) : ∃ L : ByteArray, Hid (L.data.toList = l) := ⟨⟨l.toArray⟩, rfl⟩
set_option maxRecDepth 100000 in
set_option maxHeartbeats 1000000 in
theorem days_walk (n : Int) (w : World) (hn : (Lit.int .i64 n).wf = true) (ht : Pow10 w) (hp : 0 < w.heap.size) :
    Calls Tryd.prog 7 #[.int .i64 n] w fun e w' => e = .returned (.bool true) ∧ Below w.heap.size w w' := by
  have H0 := Lib.hid (date_awake w ht hp)
  have HT := Lib.hid ht
  clear ht hn
  by_cases h0 : n < 0
  · go_enter Tryd.func7, Tryd.ntmps7
    go_wp2_with fail
    refine H0.out.mono ?_
    rintro e w1 ⟨rfl, b1⟩
    go_wp2
    go_ret
    exact ⟨rfl, b1⟩
  · by_cases h1 : 2000000 < n
    · go_enter Tryd.func7, Tryd.ntmps7
      go_wp2_with fail
      refine H0.out.mono ?_
      rintro e w1 ⟨rfl, b1⟩
      go_wp2
      go_ret
      exact ⟨rfl, b1⟩
    · obtain ⟨y, m, d, HA, hA⟩ := midnight n (by omega) (by omega)
      obtain ⟨y2, m2, d2', HB, hB⟩ := midnight (n + 1) (by omega) (by omega)
      obtain ⟨LA, hLA⟩ : ∃ LA : ByteArray, Hid (LA.data.toList = wordL (showL ⟨y, m, d, 0, 0, 0, 0⟩)) := ba_of _
      obtain ⟨LB, hLB⟩ : ∃ LB : ByteArray, Hid (LB.data.toList = wordL (showL ⟨y2, m2, d2', 0, 0, 0, 0⟩)) := ba_of _
      have hda := day_word _ HA.1
      have hdb := day_word _ HB.1
      simp only at hda hdb
      rw [hA, ← hLA.out] at hda
      rw [hB, ← hLB.out] at hdb
      have HDA := Lib.hid (fun W => day_any LA n 0 W (.inl ⟨rfl, hda⟩))
      have HDB := Lib.hid (fun W => day_any LB (n + 1) 0 W (.inl ⟨rfl, hdb⟩))
      have HGA := Lib.hid HA
      have HGB := Lib.hid HB
      have l0 : 0 ≤ n := by omega
      have l1 : n ≤ 2000000 := by omega
      clear HA HB hA hB hda hdb
      go_enter Tryd.func7, Tryd.ntmps7
      go_wp2_with fail
      refine H0.out.mono ?_
      rintro e w1 ⟨rfl, b1⟩
      go_wp2_with fail
      (with_reducible refine (of_yes _ y m d 0 0 0 0 _ HGA.out).mono ?_)
      rintro e w2 ⟨rfl, b2⟩
      have c2 := b1.trans (b2.mono b1.size)
      have c2 := c2.alloc c2.size (.cells #[.int .i64 y, .int .i64 m, .int .i64 d, .int .i64 0, .int .i64 0, .int .i64 0, .int .i64 0] 24)
      have K1 := Lib.hid (Fld.new w2 24 y m d 0 0 0 0)
      clear b1 b2
      go_wp2_with fail
      (with_reducible refine (of_yes _ y2 m2 d2' 0 0 0 0 _ HGB.out).mono ?_)
      rintro e w3 ⟨rfl, b3⟩
      have c3 := c2.trans (b3.mono c2.size)
      have c3 := c3.alloc c3.size (.cells #[.int .i64 y2, .int .i64 m2, .int .i64 d2', .int .i64 0, .int .i64 0, .int .i64 0, .int .i64 0] 24)
      have K1 := Fld.step (Fld.step K1 b3) ((Below.refl w3.heap.size w3).alloc (Nat.le_refl _) (.cells #[.int .i64 y2, .int .i64 m2, .int .i64 d2', .int .i64 0, .int .i64 0, .int .i64 0, .int .i64 0] 24))
      have K2 := Lib.hid (Fld.new w3 24 y2 m2 d2' 0 0 0 0)
      clear c2 b3
      obtain ⟨k0, k1, k2, k3, k4, k5, k6⟩ := K1.out
      have hq := Lib.hid (word_any y m d 0 0 0 0 HT hp c3 HGA.out.1 hLA)
      go_wp2_with fail
      refine hq.out.mono ?_
      rintro e w4 ⟨rfl, b4⟩
      have c4 := c3.trans (b4.mono c3.size)
      have K2 := Fld.step K2 b4
      clear hq b4 c3 k0 k1 k2 k3 k4 k5 k6 K1
      go_wp2_with fail
      (with_reducible refine (HDA.out _).mono ?_)
      rintro e w5 ⟨rfl, b5⟩
      have c5 := c4.trans (b5.mono c4.size)
      have K2 := Fld.step K2 b5
      clear b5 c4
      obtain ⟨k0, k1, k2, k3, k4, k5, k6⟩ := K2.out
      have hq := Lib.hid (word_any y2 m2 d2' 0 0 0 0 HT hp c5 HGB.out.1 hLB)
      go_wp2_with fail
      refine hq.out.mono ?_
      rintro e w6 ⟨rfl, b6⟩
      have c6 := c5.trans (b6.mono c5.size)
      clear hq b6 c5 k0 k1 k2 k3 k4 k5 k6 K2
      go_wp2_with fail
      (with_reducible refine (HDB.out _).mono ?_)
      rintro e w7 ⟨rfl, b7⟩
      go_wp2
      go_ret
      exact ⟨rfl, c6.trans (b7.mono c6.size)⟩
end Go.Proofs.YtfigddnkkdgjhaaDoor
