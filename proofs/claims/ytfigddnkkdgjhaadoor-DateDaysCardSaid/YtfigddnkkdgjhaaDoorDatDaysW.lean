/- The walk of the law DateDays. -/
import Derived.Test.YtfigddnkkdgjhaaDoorDatDay
import Derived.Test.YtfigddnkkdgjhaaDoorDatF
import Derived.Test.YtfigddnkkdgjhaaDoorDatOrdW
import Derived.Test.YtfigddnkkdgjhaaDoorDatKnownW
set_option linter.unusedVariables false
namespace Go.Proofs.YtfigddnkkdgjhaaDoor
open Go.RowKit

def wordL (l : List UInt8) : List UInt8 := if l.getD 0 0 = 32 then sl l 1 11 else sl l 0 11
theorem val1 (b : UInt8) : valI [48, b] = valI [b] := by
  unfold valI
  have h : [48, b].all digB = [b].all digB := by simp [digB]
  rw [h]
  simp [numN]
theorem day_word (t : DT) (h : goodB t = true) : DayT (padL (wordL (showL t))) (dayN t.y t.m t.d) := by
  obtain ⟨p1, p2, p3, p4, p5, p6, p7, p8, p9, p10, p11, p12, p13, p14⟩ := good_parts h
  have hdl := dim_lo t.y t.m
  obtain ⟨a, b, hd, hdv⟩ := day_text t.d p5 (by omega)
  obtain ⟨y1, y2, y3, y4, g1, g2, g3, g4, hy, hyv⟩ := itoa4 t.y p1 p2
  have hm := (mon_letters t.m p3 p4).2
  obtain ⟨m1, m2, m3, hm3⟩ : ∃ m1 m2 m3, monL t.m = [m1, m2, m3] := by
    match hq : monL t.m, hm with
    | [x, y, z], _ => exact ⟨x, y, z, rfl⟩
  obtain ⟨R, e⟩ : ∃ R, showL t = a :: b :: 45 :: m1 :: m2 :: m3 :: 45 :: UInt8.ofNat (48 + y1) :: UInt8.ofNat (48 + y2) :: UInt8.ofNat (48 + y3) :: UInt8.ofNat (48 + y4) :: R := by
    unfold showL
    rw [hd, hm3, hy]
    exact ⟨_, rfl⟩
  have hgood : goodB ⟨t.y, t.m, t.d, 0, 0, 0, 0⟩ = true := by unfold goodB; simp; omega
  have key : ∀ l0 l1 : UInt8, valI [l0, l1] = t.d → DayT [l0, l1, 45, m1, m2, m3, 45, UInt8.ofNat (48 + y1), UInt8.ofNat (48 + y2), UInt8.ofNat (48 + y3), UInt8.ofNat (48 + y4)] (dayN t.y t.m t.d) := by
    intro l0 l1 hv
    have e1 : valI (sl [l0, l1, 45, m1, m2, m3, 45, UInt8.ofNat (48 + y1), UInt8.ofNat (48 + y2), UInt8.ofNat (48 + y3), UInt8.ofNat (48 + y4)] 7 11) = t.y := (val4 _ _ _ _ g1 g2 g3 g4).trans hyv
    have e2 : valI (sl [l0, l1, 45, m1, m2, m3, 45, UInt8.ofNat (48 + y1), UInt8.ofNat (48 + y2), UInt8.ofNat (48 + y3), UInt8.ofNat (48 + y4)] 0 2) = t.d := hv
    refine ⟨rfl, rfl, rfl, t.m, ?_, ?_, ?_⟩
    · show MonIs [m1, m2, m3] t.m
      rw [← hm3]
      exact .inl ⟨p3, p4, same_refl _⟩
    · rw [e1, e2]; exact hgood
    · rw [e1, e2]
  rw [e]
  by_cases ha : a = 32
  · rw [if_pos ha] at hdv
    have hw : padL (wordL (a :: b :: 45 :: m1 :: m2 :: m3 :: 45 :: UInt8.ofNat (48 + y1) :: UInt8.ofNat (48 + y2) :: UInt8.ofNat (48 + y3) :: UInt8.ofNat (48 + y4) :: R)) = [48, b, 45, m1, m2, m3, 45, UInt8.ofNat (48 + y1), UInt8.ofNat (48 + y2), UInt8.ofNat (48 + y3), UInt8.ofNat (48 + y4)] := by
      unfold wordL
      rw [if_pos (show List.getD (a :: b :: 45 :: m1 :: m2 :: m3 :: 45 :: UInt8.ofNat (48 + y1) :: UInt8.ofNat (48 + y2) :: UInt8.ofNat (48 + y3) :: UInt8.ofNat (48 + y4) :: R) 0 0 = 32 from ha)]
      rfl
    rw [hw]
    exact key 48 b ((val1 b).trans hdv)
  · rw [if_neg ha] at hdv
    have hw : padL (wordL (a :: b :: 45 :: m1 :: m2 :: m3 :: 45 :: UInt8.ofNat (48 + y1) :: UInt8.ofNat (48 + y2) :: UInt8.ofNat (48 + y3) :: UInt8.ofNat (48 + y4) :: R)) = [a, b, 45, m1, m2, m3, 45, UInt8.ofNat (48 + y1), UInt8.ofNat (48 + y2), UInt8.ofNat (48 + y3), UInt8.ofNat (48 + y4)] := by
      unfold wordL
      rw [if_neg (show ¬ List.getD (a :: b :: 45 :: m1 :: m2 :: m3 :: 45 :: UInt8.ofNat (48 + y1) :: UInt8.ofNat (48 + y2) :: UInt8.ofNat (48 + y3) :: UInt8.ofNat (48 + y4) :: R) 0 0 = 32 from ha)]
      rfl
    rw [hw]
    exact key a b hdv

set_option maxHeartbeats 1000000 in
theorem word_any (y m d h i s z : Int) {w w1 : World} (HT : Hid (Pow10 w)) (hp : 0 < w.heap.size) (b : Below w.heap.size w w1) (hg : goodB ⟨y, m, d, h, i, s, z⟩ = true) {L : ByteArray} (hL : Hid (L.data.toList = wordL (showL ⟨y, m, d, h, i, s, z⟩))) :
    Calls Tryd.prog 22 #[.agg #[.int .i64 y, .int .i64 m, .int .i64 d, .int .i64 h, .int .i64 i, .int .i64 s, .int .i64 z]] w1 fun e w' => e = .returned (.string L) ∧ Below w1.heap.size w1 w' := by
  obtain ⟨f1, -, -, f4⟩ := fields_show _ hg
  obtain ⟨A, hA⟩ : ∃ A : ByteArray, A = ⟨(showL ⟨y, m, d, h, i, s, z⟩).toArray⟩ := ⟨_, rfl⟩
  have hsz : A.size = 26 := by rw [hA]; exact f1
  have hAl : A.data.toList = showL ⟨y, m, d, h, i, s, z⟩ := by rw [hA]
  have b1 := b.alloc b.size (.cells #[.int .i64 y, .int .i64 m, .int .i64 d, .int .i64 h, .int .i64 i, .int .i64 s, .int .i64 z] 24)
  have hsh := show_at y m d h i s z HT hp b1 f4
  rw [show (⟨(showL ⟨y, m, d, h, i, s, z⟩).toArray⟩ : ByteArray) = A from hA.symm] at hsh
  have HS := Lib.hid hsh
  have bb := (Below.refl w1.heap.size w1).alloc (Nat.le_refl _) (.cells #[.int .i64 y, .int .i64 m, .int .i64 d, .int .i64 h, .int .i64 i, .int .i64 s, .int .i64 z] 24)
  have q0 : 0 < A.size := by omega
  have o1 : ¬ (A.size : Int) < 11 := by omega
  have o2 : (11 : Int) ≤ (A.size : Int) := by omega
  have o3 : (0 : Int) < (A.size : Int) := by omega
  have hgd := Lib.hid (getD_at A 0 q0)
  have HAL := Lib.hid hAl
  clear hsh hsz hA hAl f4 f1
  by_cases h0 : A[0].toNat = 32
  · have t0 : ((A[0].toNat : Int) == 32) = true := by rw [beq_iff_eq]; omega
    have hres : L = A.extract 1 11 := by
      apply ByteArray.ext
      apply Array.ext'
      rw [hL.out, extract_sl, ← HAL.out]
      unfold wordL
      rw [hgd.out, if_pos (UInt8.toNat_inj.1 h0)]
    have HR := Lib.hid hres
    clear h0 hres
    go_enter Tryd.func22, Tryd.ntmps22
    go_wp2_with fail
    refine HS.out.mono ?_
    rintro e w2 ⟨rfl, b2⟩
    go_wp2
    go_ret
    exact ⟨ret_str HR.out.symm, bb.trans (b2.mono bb.size)⟩
  · have t0 : ((A[0].toNat : Int) == 32) = false := by rw [beq_eq_false_iff_ne]; omega
    have hres : L = A.extract 0 11 := by
      apply ByteArray.ext
      apply Array.ext'
      rw [hL.out, extract_sl, ← HAL.out]
      unfold wordL
      rw [hgd.out, if_neg (fun h => h0 (by rw [h]; rfl))]
    have HR := Lib.hid hres
    clear h0 hres
    go_enter Tryd.func22, Tryd.ntmps22
    go_wp2_with fail
    refine HS.out.mono ?_
    rintro e w2 ⟨rfl, b2⟩
    go_wp2
    go_ret
    exact ⟨ret_str HR.out.symm, bb.trans (b2.mono bb.size)⟩

/-- A day's date at midnight in UTC. -/
theorem midnight (n : Int) (h0 : 0 ≤ n) (h1 : n ≤ 2000001) : ∃ y m d, OfIs (n * 86400) 0 ⟨y, m, d, 0, 0, 0, 0⟩ ∧ dayN y m d = n := by
  have hok : ofOk (n * 86400) 0 = true := by unfold ofOk; simp; omega
  obtain ⟨⟨y, m, d, h, i, s, z⟩, H⟩ := of_exists _ _ hok
  obtain ⟨P1, P2, P3, P4⟩ := of_parts (show OfIs (n * 86400) 0 ⟨y, m, d, h, i, s, 0⟩ by have := H.2.1; simp only at this; subst this; exact H)
  have hz : z = 0 := H.2.1
  have e1 : (n * 86400 + 0 * 60) % 86400 = 0 := by omega
  have e2 : (n * 86400 + 0 * 60) / 86400 = n := by omega
  rw [e1] at P2 P3 P4
  rw [e2] at P1
  subst hz
  have hh : h = 0 := by omega
  have hi : i = 0 := by omega
  have hs : s = 0 := by omega
  subst hh hi hs
  exact ⟨y, m, d, H, P1.2.2.2.2.2.2⟩

end Go.Proofs.YtfigddnkkdgjhaaDoor
