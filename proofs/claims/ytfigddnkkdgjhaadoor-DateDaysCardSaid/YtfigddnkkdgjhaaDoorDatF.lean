/- Dates: what Show writes is read again: mathematics. -/
import Derived.Test.YtfigddnkkdgjhaaDoorDatQ
set_option linter.unusedVariables false
namespace Go.Proofs.YtfigddnkkdgjhaaDoor

theorem d2_fin : ∀ n : Fin 100, valI (d2 ((n.val : Nat) : Int)) = ((n.val : Nat) : Int) ∧ (d2 ((n.val : Nat) : Int)).all digB = true ∧ numN (d2 ((n.val : Nat) : Int)) = n.val := by decide +kernel
theorem d2_val (n : Int) (h0 : 0 ≤ n) (h1 : n ≤ 99) : valI (d2 n) = n := by
  have h := (d2_fin ⟨n.toNat, by omega⟩).1
  rw [show (((⟨n.toNat, by omega⟩ : Fin 100).val : Nat) : Int) = n by simp; omega] at h
  exact h
theorem d2_list (n : Int) : ∃ a b, d2 n = [a, b] ∧ a = UInt8.ofNat (48 + (n / 10).toNat) := ⟨_, _, rfl, rfl⟩
theorem itoa4 (y : Int) (h0 : 1970 ≤ y) (h1 : y ≤ 9999) : ∃ a b c d : Nat, a ≤ 9 ∧ b ≤ 9 ∧ c ≤ 9 ∧ d ≤ 9 ∧ Lib.itoa y = [UInt8.ofNat (48 + a), UInt8.ofNat (48 + b), UInt8.ofNat (48 + c), UInt8.ofNat (48 + d)] ∧ ((a * 1000 + b * 100 + c * 10 + d : Nat) : Int) = y := by
  obtain ⟨u, rfl⟩ : ∃ u : Nat, y = (u : Int) := ⟨y.toNat, by omega⟩
  rw [Lib.itoa_nonneg]
  refine ⟨u / 1000, u / 100 % 10, u / 10 % 10, u % 10, by omega, by omega, by omega, by omega, ?_, by omega⟩
  rw [Lib.decDigits, dif_neg (by omega), Lib.decDigits, dif_neg (by omega), Lib.decDigits_two (by omega) (by omega)]
  have e1 : u / 10 / 10 / 10 = u / 1000 := by omega
  have e2 : u / 10 / 10 % 10 = u / 100 % 10 := by omega
  rw [e1, e2]
  rfl
theorem digv (a : Nat) (h : a ≤ 9) : (UInt8.ofNat (48 + a)).toNat = 48 + a := by rw [UInt8.toNat_ofNat', Nat.mod_eq_of_lt (by omega)]
theorem digb (a : Nat) (h : a ≤ 9) : digB (UInt8.ofNat (48 + a)) = true := by unfold digB; rw [digv a h]; simp; omega
theorem val4 (a b c d : Nat) (ha : a ≤ 9) (hb : b ≤ 9) (hc : c ≤ 9) (hd : d ≤ 9) : valI [UInt8.ofNat (48 + a), UInt8.ofNat (48 + b), UInt8.ofNat (48 + c), UInt8.ofNat (48 + d)] = ((a * 1000 + b * 100 + c * 10 + d : Nat) : Int) := by
  unfold valI
  have h : [UInt8.ofNat (48 + a), UInt8.ofNat (48 + b), UInt8.ofNat (48 + c), UInt8.ofNat (48 + d)].all digB = true := by
    simp only [List.all_cons, List.all_nil, digb a ha, digb b hb, digb c hc, digb d hd, Bool.and_self]
  rw [h]
  simp only [numN, List.foldl_cons, List.foldl_nil, digv a ha, digv b hb, digv c hc, digv d hd, if_true]
  omega
theorem day_text (d : Int) (h0 : 1 ≤ d) (h1 : d ≤ 31) : ∃ a b, dayL d = [a, b] ∧ (if a = 32 then valI [b] else valI [a, b]) = d := by
  have : ∀ n : Fin 31, ∃ a b, dayL ((n.val : Nat) + 1 : Int) = [a, b] ∧ (if a = 32 then valI [b] else valI [a, b]) = ((n.val : Nat) + 1 : Int) := by
    intro n
    have h : (dayL ((n.val : Nat) + 1 : Int)).length = 2 ∧ (if (dayL ((n.val : Nat) + 1 : Int)).getD 0 0 = 32 then valI [(dayL ((n.val : Nat) + 1 : Int)).getD 1 0] else valI [(dayL ((n.val : Nat) + 1 : Int)).getD 0 0, (dayL ((n.val : Nat) + 1 : Int)).getD 1 0]) = ((n.val : Nat) + 1 : Int) := by
      revert n; decide +kernel
    obtain ⟨h2, h3⟩ := h
    match hq : dayL ((n.val : Nat) + 1 : Int), h2, h3 with
    | [a, b], _, h3 => exact ⟨a, b, rfl, h3⟩
  have h := this ⟨(d - 1).toNat, by omega⟩
  rw [show (((⟨(d - 1).toNat, by omega⟩ : Fin 31).val : Nat) + 1 : Int) = d by simp; omega] at h
  exact h
theorem same_refl (l : List UInt8) : sameB l l = true := by simp [sameB]
theorem fields_show (t : DT) (h : goodB t = true) : (showL t).length = 26 ∧ MonIs (sl (showL t) 3 6) t.m ∧ fieldsD (showL t) t.m = t ∧ showF t = showL t := by
  obtain ⟨p1, p2, p3, p4, p5, p6, p7, p8, p9, p10, p11, p12, p13, p14⟩ := good_parts h
  have hdl := dim_lo t.y t.m
  obtain ⟨a, b, hd, hdv⟩ := day_text t.d p5 (by omega)
  obtain ⟨y1, y2, y3, y4, g1, g2, g3, g4, hy, hyv⟩ := itoa4 t.y p1 p2
  have hm := (mon_letters t.m p3 p4).2
  obtain ⟨m1, m2, m3, hm3⟩ : ∃ m1 m2 m3, monL t.m = [m1, m2, m3] := by
    match hq : monL t.m, hm with
    | [x, y, z], _ => exact ⟨x, y, z, rfl⟩
  have hh := d2_val t.h p7 (by omega)
  have hi := d2_val t.i p9 (by omega)
  have hs := d2_val t.s p11 (by omega)
  obtain ⟨h1, h2, eh, -⟩ := d2_list t.h
  obtain ⟨i1, i2, ei, -⟩ := d2_list t.i
  obtain ⟨s1, s2, es, -⟩ := d2_list t.s
  obtain ⟨Z, hZ, hZ0, hZ1⟩ : ∃ Z, (if t.z < 0 then -t.z else t.z) = Z ∧ 0 ≤ Z ∧ Z ≤ 1439 := ⟨_, rfl, by split <;> omega, by split <;> omega⟩
  have hz1 := d2_val (Z / 60) (by omega) (by omega)
  have hz2 := d2_val (Z % 60) (by omega) (by omega)
  obtain ⟨z1, z2, ez1, -⟩ := d2_list (Z / 60)
  obtain ⟨z3, z4, ez2, -⟩ := d2_list (Z % 60)
  rw [eh] at hh
  rw [ei] at hi
  rw [es] at hs
  rw [ez1] at hz1
  rw [ez2] at hz2
  obtain ⟨sg, hsg, hsv⟩ : ∃ sg : UInt8, (if t.z < 0 then [45] else [43] : List UInt8) = [sg] ∧ (if sg = 45 then -Z else Z) = t.z := by
    by_cases hz : t.z < 0
    · refine ⟨45, by rw [if_pos hz], ?_⟩
      rw [if_pos rfl, ← hZ, if_pos hz]; omega
    · refine ⟨43, by rw [if_neg hz], ?_⟩
      rw [if_neg (by decide), ← hZ, if_neg hz]
  have e : showL t = [a, b, 45, m1, m2, m3, 45, UInt8.ofNat (48 + y1), UInt8.ofNat (48 + y2), UInt8.ofNat (48 + y3), UInt8.ofNat (48 + y4), 32, h1, h2, 58, i1, i2, 58, s1, s2, 32, sg, z1, z2, z3, z4] := by
    unfold showL
    rw [hd, hm3, hy, eh, ei, es, hsg, hZ, ez1, ez2]
    rfl
  have hsf : showF t = showL t := by unfold showF; rw [h]; rfl
  refine ⟨by rw [e]; rfl, ?_, ?_, hsf⟩
  · rw [e]
    show MonIs [m1, m2, m3] t.m
    rw [← hm3]
    exact .inl ⟨p3, p4, same_refl _⟩
  · rw [e]
    have f1 : fieldsD [a, b, 45, m1, m2, m3, 45, UInt8.ofNat (48 + y1), UInt8.ofNat (48 + y2), UInt8.ofNat (48 + y3), UInt8.ofNat (48 + y4), 32, h1, h2, 58, i1, i2, 58, s1, s2, 32, sg, z1, z2, z3, z4] t.m = ⟨valI [UInt8.ofNat (48 + y1), UInt8.ofNat (48 + y2), UInt8.ofNat (48 + y3), UInt8.ofNat (48 + y4)], t.m, if a = 32 then valI [b] else valI [a, b], valI [h1, h2], valI [i1, i2], valI [s1, s2], if sg = 45 then -(60 * valI [z1, z2] + valI [z3, z4]) else 60 * valI [z1, z2] + valI [z3, z4]⟩ := rfl
    rw [f1, val4 _ _ _ _ g1 g2 g3 g4, hyv, hdv, hh, hi, hs, hz1, hz2, show 60 * (Z / 60) + Z % 60 = Z by omega, hsv]
end Go.Proofs.YtfigddnkkdgjhaaDoor
