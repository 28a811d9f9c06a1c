/- Package date: Day. -/
import Derived.Test.YtfigddnkkdgjhaaDoorDatQ
import Derived.Test.YtfigddnkkdgjhaaDoorDatAw
set_option linter.unusedVariables false
namespace Go.Proofs.YtfigddnkkdgjhaaDoor
open Go.RowKit

theorem alloc_drewN (w : World) (n : Nat) (o : Obj) : (w.drewN n).alloc o = (w.alloc o).drewN n := rfl
attribute [local go_sem] setCell_drewN alloc_drewN
/-- A day's text, the leading zero put in, that has a day; the day's number. -/
def DayT (l : List UInt8) (v : Int) : Prop := l.length = 11 ∧ l.getD 2 0 = 45 ∧ l.getD 6 0 = 45 ∧ ∃ r, MonIs (sl l 3 6) r ∧ goodB ⟨valI (sl l 7 11), r, valI (sl l 0 2), 0, 0, 0, 0⟩ = true ∧ v = dayN (valI (sl l 7 11)) r (valI (sl l 0 2))
def padL (l : List UInt8) : List UInt8 := if l.length = 10 then 48 :: l else l
/-- What Day answers. -/
def DayR (l : List UInt8) (v n : Int) : Prop := (n = 0 ∧ DayT (padL l) v) ∨ (n = 3 ∧ v = 0 ∧ ¬ ∃ v, DayT (padL l) v)
theorem dayR_exists (l : List UInt8) : ∃ v n, DayR l v n := by
  by_cases h : ∃ v, DayT (padL l) v
  · obtain ⟨v, hv⟩ := h
    exact ⟨v, 0, .inl ⟨rfl, hv⟩⟩
  · exact ⟨0, 3, .inr ⟨rfl, rfl, h⟩⟩
theorem dayT_uniq {l : List UInt8} {v u : Int} (hv : DayT l v) (hu : DayT l u) : v = u := by
  obtain ⟨_, _, _, r, h1, _, h2⟩ := hv
  obtain ⟨_, _, _, q, h3, _, h4⟩ := hu
  rw [h2, h4, mon_uniq h1 h3]
theorem dayR_uniq {l : List UInt8} {v n u m : Int} (h : DayR l v n) (g : DayR l u m) : v = u ∧ n = m := by
  rcases h with ⟨rfl, h⟩ | ⟨rfl, rfl, h⟩
  · rcases g with ⟨rfl, g⟩ | ⟨rfl, rfl, g⟩
    · exact ⟨dayT_uniq h g, rfl⟩
    · exact absurd ⟨_, h⟩ g
  · rcases g with ⟨rfl, g⟩ | ⟨rfl, rfl, g⟩
    · exact absurd ⟨_, g⟩ h
    · exact ⟨rfl, rfl⟩
theorem pad_list (s : ByteArray) (h : s.size = 10) : ((⟨#[48]⟩ : ByteArray) ++ s).data.toList = padL s.data.toList := by
  unfold padL
  rw [len_data, if_pos h]
  simp [ByteArray.data_append]
theorem pad_same (s : ByteArray) (h : ¬ s.size = 10) : s.data.toList = padL s.data.toList := by
  unfold padL
  rw [len_data, if_neg h]

set_option maxHeartbeats 1000000 in
theorem day_bad (s : ByteArray) (w : World) (h10 : ¬ s.size = 10) (h11 : ¬ s.size = 11) :
    Calls Tryd.prog 11 #[.string s] w fun e w' => e = .returned (.tuple #[.int .i64 0, .int .i64 3]) ∧ Below w.heap.size w w' := by
  have e1 : ((s.size : Int) == 10) = false := by rw [beq_eq_false_iff_ne]; omega
  have e2 : ((s.size : Int) != 11) = true := by rw [bne_iff_ne]; omega
  clear h10 h11
  go_enter Tryd.func11, Tryd.ntmps11
  go_wp2
  go_ret2
  exact ⟨rfl, Below.refl _ _⟩

set_option maxRecDepth 100000 in
set_option maxHeartbeats 4000000 in
theorem day_10 (s T : ByteArray) (v n : Int) (w : World) (hs : s.size = 10) (hcat : (⟨#[48]⟩ : ByteArray) ++ s = T) (hT : T.size = 11) (HR : DayR s.data.toList v n) :
    Calls Tryd.prog 11 #[.string s] w fun e w' => e = .returned (.tuple #[.int .i64 v, .int .i64 n]) ∧ Below w.heap.size w w' := by
  have e1 : ((s.size : Int) == 10) = true := by simp [hs]
  have e2 : (9223372036854775807 < 1 + s.size) = False := by simp; omega
  have e3 : (IntKind.i64.max < 1 + (s.size : Int)) = False := by simp [IntKind.max, IntKind.bits, IntKind.signed]; omega
  have hpl : T.data.toList = padL s.data.toList := by rw [← hcat]; exact pad_list s hs
  have HSS := Lib.hid hs
  clear hs
  have q2 : 2 < T.size := by omega
  have q6 : 6 < T.size := by omega
  have w1 : (2 : Int) ≤ (T.size : Int) := by omega
  have w2 : (6 : Int) ≤ (T.size : Int) := by omega
  have w3 : (7 : Int) ≤ (T.size : Int) := by omega
  have w4 : (2 : Int) < (T.size : Int) := by omega
  have w5 : (6 : Int) < (T.size : Int) := by omega
  have et : ((T.size : Int) != 11) = false := by simp [hT]
  obtain ⟨v1, H1, l1, u1, c1⟩ := value_at T 7 T.size (by omega) (by omega)
  rw [hT] at H1
  obtain ⟨v2, H2, l2, u2, c2⟩ := value_at T 0 2 (by omega) (by omega)
  obtain ⟨r, hr, r0, r1⟩ := mon_exists (sl T.data.toList 3 6)
  have cm : ∀ W : World, Calls Tryd.prog 24 #[.string (T.extract 3 6)] W fun e w' => e = .returned (.int .i64 r) ∧ ∃ n, w' = W.drewN n := fun W => month_any (T.extract 3 6) r W (by rw [extract_size T 3 6 (by omega)]) (by rw [extract_sl]; exact hr)
  have g2 := getD_at T 2 q2
  have g6 := getD_at T 6 q6
  have lT : T.data.toList.length = 11 := by rw [len_data, hT]
  have HRR := Lib.hid HR
  have HTT := Lib.hid hT
  have HL := Lib.hid lT
  have HM := Lib.hid hr
  have HG2 := Lib.hid g2
  have HG6 := Lib.hid g6
  have HPL := Lib.hid hpl
  clear HR hT lT hr g2 g6 hpl
  by_cases h2 : T[2].toNat = 45
  · by_cases h6 : T[6].toNat = 45
    · have t2 : ((T[2].toNat : Int) != 45) = false := by rw [bne_eq_false_iff_eq]; omega
      have t6 : ((T[6].toNat : Int) != 45) = false := by rw [bne_eq_false_iff_eq]; omega
      have b2 : T.data.toList.getD 2 0 = 45 := by rw [HG2.out]; exact UInt8.toNat_inj.1 h2
      have b6 : T.data.toList.getD 6 0 = 45 := by rw [HG6.out]; exact UInt8.toNat_inj.1 h6
      have HB := Lib.hid (And.intro b2 b6)
      clear h2 h6 b2 b6
      cases hg : goodB ⟨v1, r, v2, 0, 0, 0, 0⟩
      · have hno : ¬ ∃ v, DayT (padL s.data.toList) v := by
          rintro ⟨x, _, _, _, q, hq, hgq, _⟩
          rw [← HPL.out] at hq hgq
          obtain rfl := mon_uniq HM.out hq
          rw [H1.out, H2.out, hg] at hgq
          exact absurd hgq (by decide)
        rcases HRR.out with ⟨_, hd⟩ | ⟨rfl, rfl, _⟩
        · exact absurd ⟨_, hd⟩ hno
        have HGO := Lib.hid hg
        clear hno hg
        go_enter Tryd.func11, Tryd.ntmps11
        go_upto_region 5 with (fail)
        go_cut [4] (fun s4 wx => s4 = .pointer (some ⟨w.heap.size, 0, none⟩) ∧ ∃ n, wx = (w.alloc (.cells #[.int .i64 v1, .int .i64 r, .int .i64 v2, .int .i64 0, .int .i64 0, .int .i64 0, .int .i64 0] 24)).drewN n)
        case first =>
          go_region_held3 (fun _ => True) (trivial) (first
          | (go_at_call 24; (with_reducible refine (cm _).mono ?_); rintro e w5 ⟨rfl, n5, rfl⟩)
          | (go_at_call 23; (with_reducible refine (c1 _).mono ?_); rintro e w5 ⟨rfl, rfl⟩)
          | (go_at_call 23; (with_reducible refine (c2 _).mono ?_); rintro e w5 ⟨rfl, rfl⟩))
          all_goals
            go_wp2_with fail
            go_meet
            exact ⟨rfl, _, rfl⟩
        case rest =>
          obtain ⟨rfl, n0, rfl⟩ := hcut
          go_wp2_with fail
          refine (good_at (w1 := _) v1 r v2 0 0 0 0 (c := false) HGO.out).mono ?_
          rintro e w6 ⟨rfl, b6⟩
          go_wp2
          go_ret2
          exact ⟨rfl, (below_drewN ((Below.refl w.heap.size w).alloc (Nat.le_refl _) _) n0).trans (b6.mono (by simp))⟩
      · have hyes : DayT (padL s.data.toList) (dayN v1 r v2) := by
          rw [← HPL.out]
          refine ⟨HL.out, HB.out.1, HB.out.2, r, HM.out, ?_, ?_⟩
          · rw [H1.out, H2.out]; exact hg
          · rw [H1.out, H2.out]
        have hres : v = dayN v1 r v2 ∧ n = 0 := dayR_uniq HRR.out (.inl ⟨rfl, hyes⟩)
        obtain ⟨hv, rfl⟩ := hres
        have HV : Hid (dayN v1 r v2 = v) := hv.symm
        have hgp := good_parts hg
        simp only at hgp
        have hdb := day_bounds v1 r v2 hgp.1 hgp.2.1 hgp.2.2.1 hgp.2.2.2.1 hgp.2.2.2.2.1 hgp.2.2.2.2.2.1
        rw [← hv] at hdb
        have HGO := Lib.hid hg
        clear hyes hg hv hgp HRR
        go_enter Tryd.func11, Tryd.ntmps11
        go_upto_region 5 with (fail)
        go_cut [4] (fun s4 wx => s4 = .pointer (some ⟨w.heap.size, 0, none⟩) ∧ ∃ n, wx = (w.alloc (.cells #[.int .i64 v1, .int .i64 r, .int .i64 v2, .int .i64 0, .int .i64 0, .int .i64 0, .int .i64 0] 24)).drewN n)
        case first =>
          go_region_held3 (fun _ => True) (trivial) (first
          | (go_at_call 24; (with_reducible refine (cm _).mono ?_); rintro e w5 ⟨rfl, n5, rfl⟩)
          | (go_at_call 23; (with_reducible refine (c1 _).mono ?_); rintro e w5 ⟨rfl, rfl⟩)
          | (go_at_call 23; (with_reducible refine (c2 _).mono ?_); rintro e w5 ⟨rfl, rfl⟩))
          all_goals
            go_wp2_with fail
            go_meet
            exact ⟨rfl, _, rfl⟩
        case rest =>
          obtain ⟨rfl, n0, rfl⟩ := hcut
          go_wp2_with fail
          refine (good_at (w1 := _) v1 r v2 0 0 0 0 (c := true) HGO.out).mono ?_
          rintro e w6 ⟨rfl, b6⟩
          have hF : Fld ((w.alloc (.cells #[.int .i64 v1, .int .i64 r, .int .i64 v2, .int .i64 0, .int .i64 0, .int .i64 0, .int .i64 0] 24)).drewN n0) w.heap.size v1 r v2 0 0 0 0 := Fld.new w 24 v1 r v2 0 0 0 0
          obtain ⟨k0, k1, k2, k3, k4, k5, k6⟩ := hF.below b6
          clear hF
          have b7 := (below_drewN ((Below.refl w.heap.size w).alloc (Nat.le_refl _) (.cells #[.int .i64 v1, .int .i64 r, .int .i64 v2, .int .i64 0, .int .i64 0, .int .i64 0, .int .i64 0] 24)) n0).trans (b6.mono (by simp))
          clear b6
          go_wp2_with (go_at_call 25; (with_reducible refine (daysTo_call _ HGO.out HV).mono ?_); rintro e w5 ⟨rfl, rfl⟩)
          go_ret2
          exact ⟨rfl, b7⟩
    · have t2 : ((T[2].toNat : Int) != 45) = false := by rw [bne_eq_false_iff_eq]; omega
      have t6 : ((T[6].toNat : Int) != 45) = true := by rw [bne_iff_ne]; omega
      have hno : ¬ ∃ v, DayT (padL s.data.toList) v := by
        rintro ⟨x, _, _, h, _⟩
        rw [← HPL.out, HG6.out] at h
        exact h6 (by rw [h]; rfl)
      rcases HRR.out with ⟨_, hd⟩ | ⟨rfl, rfl, _⟩
      · exact absurd ⟨_, hd⟩ hno
      clear h2 h6 hno
      go_enter Tryd.func11, Tryd.ntmps11
      go_wp2
      go_ret2
      exact ⟨rfl, Below.refl _ _⟩
  · have t2 : ((T[2].toNat : Int) != 45) = true := by rw [bne_iff_ne]; omega
    have hno : ¬ ∃ v, DayT (padL s.data.toList) v := by
      rintro ⟨x, _, h, _⟩
      rw [← HPL.out, HG2.out] at h
      exact h2 (by rw [h]; rfl)
    rcases HRR.out with ⟨_, hd⟩ | ⟨rfl, rfl, _⟩
    · exact absurd ⟨_, hd⟩ hno
    clear h2 hno
    go_enter Tryd.func11, Tryd.ntmps11
    go_wp2
    go_ret2
    exact ⟨rfl, Below.refl _ _⟩

set_option maxRecDepth 100000 in
set_option maxHeartbeats 4000000 in
theorem day_11 (T : ByteArray) (v n : Int) (w : World)  (hT : T.size = 11) (HR : DayR T.data.toList v n) :
    Calls Tryd.prog 11 #[.string T] w fun e w' => e = .returned (.tuple #[.int .i64 v, .int .i64 n]) ∧ Below w.heap.size w w' := by
  have e1 : ((T.size : Int) == 10) = false := by simp [hT]
  have hpl : T.data.toList = padL T.data.toList := pad_same T (by omega)
  have q2 : 2 < T.size := by omega
  have q6 : 6 < T.size := by omega
  have w1 : (2 : Int) ≤ (T.size : Int) := by omega
  have w2 : (6 : Int) ≤ (T.size : Int) := by omega
  have w3 : (7 : Int) ≤ (T.size : Int) := by omega
  have w4 : (2 : Int) < (T.size : Int) := by omega
  have w5 : (6 : Int) < (T.size : Int) := by omega
  have et : ((T.size : Int) != 11) = false := by simp [hT]
  obtain ⟨v1, H1, l1, u1, c1⟩ := value_at T 7 T.size (by omega) (by omega)
  rw [hT] at H1
  obtain ⟨v2, H2, l2, u2, c2⟩ := value_at T 0 2 (by omega) (by omega)
  obtain ⟨r, hr, r0, r1⟩ := mon_exists (sl T.data.toList 3 6)
  have cm : ∀ W : World, Calls Tryd.prog 24 #[.string (T.extract 3 6)] W fun e w' => e = .returned (.int .i64 r) ∧ ∃ n, w' = W.drewN n := fun W => month_any (T.extract 3 6) r W (by rw [extract_size T 3 6 (by omega)]) (by rw [extract_sl]; exact hr)
  have g2 := getD_at T 2 q2
  have g6 := getD_at T 6 q6
  have lT : T.data.toList.length = 11 := by rw [len_data, hT]
  have HRR := Lib.hid HR
  have HTT := Lib.hid hT
  have HL := Lib.hid lT
  have HM := Lib.hid hr
  have HG2 := Lib.hid g2
  have HG6 := Lib.hid g6
  have HPL := Lib.hid hpl
  clear HR hT lT hr g2 g6 hpl
  by_cases h2 : T[2].toNat = 45
  · by_cases h6 : T[6].toNat = 45
    · have t2 : ((T[2].toNat : Int) != 45) = false := by rw [bne_eq_false_iff_eq]; omega
      have t6 : ((T[6].toNat : Int) != 45) = false := by rw [bne_eq_false_iff_eq]; omega
      have b2 : T.data.toList.getD 2 0 = 45 := by rw [HG2.out]; exact UInt8.toNat_inj.1 h2
      have b6 : T.data.toList.getD 6 0 = 45 := by rw [HG6.out]; exact UInt8.toNat_inj.1 h6
      have HB := Lib.hid (And.intro b2 b6)
      clear h2 h6 b2 b6
      cases hg : goodB ⟨v1, r, v2, 0, 0, 0, 0⟩
      · have hno : ¬ ∃ v, DayT (padL T.data.toList) v := by
          rintro ⟨x, _, _, _, q, hq, hgq, _⟩
          rw [← HPL.out] at hq hgq
          obtain rfl := mon_uniq HM.out hq
          rw [H1.out, H2.out, hg] at hgq
          exact absurd hgq (by decide)
        rcases HRR.out with ⟨_, hd⟩ | ⟨rfl, rfl, _⟩
        · exact absurd ⟨_, hd⟩ hno
        have HGO := Lib.hid hg
        clear hno hg
        go_enter Tryd.func11, Tryd.ntmps11
        go_upto_region 5 with (fail)
        go_cut [4] (fun s4 wx => s4 = .pointer (some ⟨w.heap.size, 0, none⟩) ∧ ∃ n, wx = (w.alloc (.cells #[.int .i64 v1, .int .i64 r, .int .i64 v2, .int .i64 0, .int .i64 0, .int .i64 0, .int .i64 0] 24)).drewN n)
        case first =>
          go_region_held3 (fun _ => True) (trivial) (first
          | (go_at_call 24; (with_reducible refine (cm _).mono ?_); rintro e w5 ⟨rfl, n5, rfl⟩)
          | (go_at_call 23; (with_reducible refine (c1 _).mono ?_); rintro e w5 ⟨rfl, rfl⟩)
          | (go_at_call 23; (with_reducible refine (c2 _).mono ?_); rintro e w5 ⟨rfl, rfl⟩))
          all_goals
            go_wp2_with fail
            go_meet
            exact ⟨rfl, _, rfl⟩
        case rest =>
          obtain ⟨rfl, n0, rfl⟩ := hcut
          go_wp2_with fail
          refine (good_at (w1 := _) v1 r v2 0 0 0 0 (c := false) HGO.out).mono ?_
          rintro e w6 ⟨rfl, b6⟩
          go_wp2
          go_ret2
          exact ⟨rfl, (below_drewN ((Below.refl w.heap.size w).alloc (Nat.le_refl _) _) n0).trans (b6.mono (by simp))⟩
      · have hyes : DayT (padL T.data.toList) (dayN v1 r v2) := by
          rw [← HPL.out]
          refine ⟨HL.out, HB.out.1, HB.out.2, r, HM.out, ?_, ?_⟩
          · rw [H1.out, H2.out]; exact hg
          · rw [H1.out, H2.out]
        have hres : v = dayN v1 r v2 ∧ n = 0 := dayR_uniq HRR.out (.inl ⟨rfl, hyes⟩)
        obtain ⟨hv, rfl⟩ := hres
        have HV : Hid (dayN v1 r v2 = v) := hv.symm
        have hgp := good_parts hg
        simp only at hgp
        have hdb := day_bounds v1 r v2 hgp.1 hgp.2.1 hgp.2.2.1 hgp.2.2.2.1 hgp.2.2.2.2.1 hgp.2.2.2.2.2.1
        rw [← hv] at hdb
        have HGO := Lib.hid hg
        clear hyes hg hv hgp HRR
        go_enter Tryd.func11, Tryd.ntmps11
        go_upto_region 5 with (fail)
        go_cut [4] (fun s4 wx => s4 = .pointer (some ⟨w.heap.size, 0, none⟩) ∧ ∃ n, wx = (w.alloc (.cells #[.int .i64 v1, .int .i64 r, .int .i64 v2, .int .i64 0, .int .i64 0, .int .i64 0, .int .i64 0] 24)).drewN n)
        case first =>
          go_region_held3 (fun _ => True) (trivial) (first
          | (go_at_call 24; (with_reducible refine (cm _).mono ?_); rintro e w5 ⟨rfl, n5, rfl⟩)
          | (go_at_call 23; (with_reducible refine (c1 _).mono ?_); rintro e w5 ⟨rfl, rfl⟩)
          | (go_at_call 23; (with_reducible refine (c2 _).mono ?_); rintro e w5 ⟨rfl, rfl⟩))
          all_goals
            go_wp2_with fail
            go_meet
            exact ⟨rfl, _, rfl⟩
        case rest =>
          obtain ⟨rfl, n0, rfl⟩ := hcut
          go_wp2_with fail
          refine (good_at (w1 := _) v1 r v2 0 0 0 0 (c := true) HGO.out).mono ?_
          rintro e w6 ⟨rfl, b6⟩
          have hF : Fld ((w.alloc (.cells #[.int .i64 v1, .int .i64 r, .int .i64 v2, .int .i64 0, .int .i64 0, .int .i64 0, .int .i64 0] 24)).drewN n0) w.heap.size v1 r v2 0 0 0 0 := Fld.new w 24 v1 r v2 0 0 0 0
          obtain ⟨k0, k1, k2, k3, k4, k5, k6⟩ := hF.below b6
          clear hF
          have b7 := (below_drewN ((Below.refl w.heap.size w).alloc (Nat.le_refl _) (.cells #[.int .i64 v1, .int .i64 r, .int .i64 v2, .int .i64 0, .int .i64 0, .int .i64 0, .int .i64 0] 24)) n0).trans (b6.mono (by simp))
          clear b6
          go_wp2_with (go_at_call 25; (with_reducible refine (daysTo_call _ HGO.out HV).mono ?_); rintro e w5 ⟨rfl, rfl⟩)
          go_ret2
          exact ⟨rfl, b7⟩
    · have t2 : ((T[2].toNat : Int) != 45) = false := by rw [bne_eq_false_iff_eq]; omega
      have t6 : ((T[6].toNat : Int) != 45) = true := by rw [bne_iff_ne]; omega
      have hno : ¬ ∃ v, DayT (padL T.data.toList) v := by
        rintro ⟨x, _, _, h, _⟩
        rw [← HPL.out, HG6.out] at h
        exact h6 (by rw [h]; rfl)
      rcases HRR.out with ⟨_, hd⟩ | ⟨rfl, rfl, _⟩
      · exact absurd ⟨_, hd⟩ hno
      clear h2 h6 hno
      go_enter Tryd.func11, Tryd.ntmps11
      go_wp2
      go_ret2
      exact ⟨rfl, Below.refl _ _⟩
  · have t2 : ((T[2].toNat : Int) != 45) = true := by rw [bne_iff_ne]; omega
    have hno : ¬ ∃ v, DayT (padL T.data.toList) v := by
      rintro ⟨x, _, h, _⟩
      rw [← HPL.out, HG2.out] at h
      exact h2 (by rw [h]; rfl)
    rcases HRR.out with ⟨_, hd⟩ | ⟨rfl, rfl, _⟩
    · exact absurd ⟨_, hd⟩ hno
    clear h2 hno
    go_enter Tryd.func11, Tryd.ntmps11
    go_wp2
    go_ret2
    exact ⟨rfl, Below.refl _ _⟩

theorem day_any (s : ByteArray) (v n : Int) (w : World) (HR : DayR s.data.toList v n) :
    Calls Tryd.prog 11 #[.string s] w fun e w' => e = .returned (.tuple #[.int .i64 v, .int .i64 n]) ∧ Below w.heap.size w w' := by
  by_cases h10 : s.size = 10
  · exact day_10 s _ v n w h10 rfl (by rw [ByteArray.size_append]; show 1 + s.size = 11; omega) HR
  · by_cases h11 : s.size = 11
    · exact day_11 s v n w h11 HR
    · have hno : ¬ ∃ v, DayT (padL s.data.toList) v := by
        rintro ⟨x, h, _⟩
        rw [← pad_same s h10, len_data] at h
        exact h11 h
      rcases HR with ⟨_, hd⟩ | ⟨rfl, rfl, _⟩
      · exact absurd ⟨_, hd⟩ hno
      exact day_bad s w h10 h11
end Go.Proofs.YtfigddnkkdgjhaaDoor
