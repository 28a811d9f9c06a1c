/- Package date: value, alike, month. -/
import Derived.Test.YtfigddnkkdgjhaaDoorDatT
set_option linter.unusedVariables false
namespace Go.Proofs.YtfigddnkkdgjhaaDoor
open Go.RowKit

/-- What value reads: digits, or a number that no date has. -/
def valI (l : List UInt8) : Int := if l.all digB then (numN l : Int) else -1048576
set_option maxHeartbeats 400000 in
theorem value_any (s : ByteArray) (w : World) (hs : s.size ≤ 9) :
    Calls Tryd.prog 23 #[.string s] w fun e w' => e = .returned (.int .i64 (valI s.data.toList)) ∧ w = w' := by
  go_enter Tryd.func23, Tryd.ntmps23
  go_wp2
  go_loop [3, 7] (fun n i => ∃ k : Nat, k ≤ s.size ∧ i = .int .i64 k ∧ n = .int .i64 (numN (s.data.toList.take k) : Int) ∧ Hid ((s.data.toList.take k).all digB = true)) (fun _ i => s.size - (intOf i).toNat)
  case atStart => exact ⟨0, Nat.zero_le _, rfl, rfl, rfl⟩
  case round =>
    obtain ⟨k, hk, rfl, rfl, HA⟩ := hrel
    by_cases hlt : k < s.size
    · have hb9 := numN_small (s.data.toList.take k) (by rw [List.length_take]; omega) HA.out
      have hns := Lib.hid (numN_snoc (s.data.toList.take k) s[k])
      have hts := Lib.hid (take_snoc s k hlt)
      by_cases hd : digB s[k] = true
      · have hr := of_decide_eq_true hd
        obtain ⟨hr1, hr2⟩ := hr
        have t1 : ¬ (s[k].toNat : Int) < 48 := by omega
        have t2 : ¬ (57 : Int) < (s[k].toNat : Int) := by omega
        have HD := Lib.hid hd
        clear hd
        generalize hN : numN (s.data.toList.take k) = N at *
        have HN := Lib.hid hN
        clear hN
        go_wp2
        go_round
        case rel =>
          refine ⟨k + 1, by omega, by go_num, ?_, ?_⟩
          · rw [hts.out, hns.out]
            congr 1
            omega
          · show _ = _
            rw [hts.out, List.all_append, HA.out]
            simpa using HD.out
        case measure => simp [intOf]; omega
      · have hno : valI s.data.toList = -1048576 := by
          have hd' : digB s[k] = false := by simpa using hd
          have hm : s[k] ∈ s.data.toList := mem_at s k hlt
          have : s.data.toList.all digB = false := by rw [List.all_eq_false]; exact ⟨_, hm, by simp [hd']⟩
          unfold valI
          rw [this]
          rfl
        have HNO := Lib.hid hno
        have hd2 : s[k].toNat < 48 ∨ 57 < s[k].toNat := by
          have : ¬ (48 ≤ s[k].toNat ∧ s[k].toNat ≤ 57) := fun h => hd (decide_eq_true h)
          omega
        clear hd hno
        by_cases h1 : (s[k].toNat : Int) < 48
        · clear hd2
          go_wp2
          go_ret
          exact ⟨ret_int HNO.out.symm, rfl⟩
        · have h2 : (57 : Int) < (s[k].toNat : Int) := by omega
          clear hd2
          go_wp2
          go_ret
          exact ⟨ret_int HNO.out.symm, rfl⟩
    · obtain rfl : k = s.size := by omega
      go_wp2
      go_ret
      refine ⟨ret_int ?_, rfl⟩
      have h := HA.out
      rw [take_all] at h
      unfold valI
      rw [h, take_all]
      rfl

/-- Alike in the sense of date.alike: with bit 5 set. -/
def or32 (c : UInt8) : UInt8 := c ||| 32
def alikeB (a b : List UInt8) : Bool := decide (a.map or32 = (b.take a.length).map or32)
theorem or32_fin : ∀ n : Fin 256, bits .or .u8 ((n.val : Nat) : Int) 32 = ((or32 (UInt8.ofNat n.val)).toNat : Int) := by decide +kernel
theorem or32_bits (c : UInt8) : bits .or .u8 (c.toNat : Int) 32 = ((or32 c).toNat : Int) := by
  have h := or32_fin ⟨c.toNat, c.toNat_lt⟩
  simpa using h
theorem alike_no (s t : ByteArray) (k : Nat) (h1 : k < s.size) (h2 : k < t.size) (hb : ¬ or32 s[k] = or32 t[k]) : alikeB s.data.toList t.data.toList = false := by
  simp only [alikeB, decide_eq_false_iff_not]
  intro h
  have e := congrArg (fun l => l[k]?) h
  simp only [List.getElem?_map] at e
  rw [List.getElem?_eq_getElem (by simpa using h1), List.getElem?_take_of_lt (by rw [len_data]; exact h1), List.getElem?_eq_getElem (by simpa using h2)] at e
  simp only [Option.map_some, Option.some.injEq, get_data] at e
  exact hb e
set_option maxHeartbeats 1000000 in
theorem alike_any (s t : ByteArray) (w : World) (hs : s.size ≤ 100) (ht : s.size ≤ t.size) (htm : t.size ≤ 1000000) :
    Calls Tryd.prog 40 #[.string s, .string t] w fun e w' => e = .returned (.bool (alikeB s.data.toList t.data.toList)) ∧ ∃ n, w' = w.drewN n := by
  go_enter Tryd.func40, Tryd.ntmps40
  go_wp2
  go_loopw [8] (fun i wr => ∃ k : Nat, k ≤ s.size ∧ i = .int .i64 k ∧ (∃ n, wr = w.drewN n) ∧ Hid ((s.data.toList.take k).map or32 = (t.data.toList.take k).map or32)) (fun i _ => s.size - (intOf i).toNat)
  case atStart => exact ⟨0, Nat.zero_le _, rfl, ⟨0, rfl⟩, by simp [Hid]⟩
  case round =>
    obtain ⟨k, hk, rfl, hw, HA⟩ := hrel
    by_cases hlt : k < s.size
    · have hkt : k < t.size := by omega
      have e1 : (k : Int) < (s.size : Int) := by omega
      have e2 : (k : Int) < (t.size : Int) := by omega
      have e3 : (0 : Int) ≤ (k : Int) := by omega
      have o1 := or32_bits s[k]
      have o2 := or32_bits t[k]
      by_cases hb : or32 s[k] = or32 t[k]
      · have hb2 : (((or32 s[k]).toNat : Int) != ((or32 t[k]).toNat : Int)) = false := by rw [hb]; simp
        have HB := Lib.hid hb
        clear hb
        go_wp2_with fail
        go_quiet (fail)
        go_wp2
        go_roundw
        case rel =>
          refine ⟨k + 1, by omega, by go_num, ?_, ?_⟩
          · obtain ⟨n, rfl⟩ := hw
            exact ⟨n + _, World.drewN_drewN _ _ _⟩
          · show _ = _
            rw [take_snoc s k hlt, take_snoc t k hkt]
            simp only [List.map_append, List.map_cons, List.map_nil]
            rw [HB.out]
            exact congrArg (· ++ _) HA.out
        case measure => simp [intOf]; omega
      · have hb2 := toNat_ne hb
        have HB := Lib.hid hb
        clear hb
        go_wp2_with fail
        go_quiet (fail)
        go_wp2
        go_ret
        obtain ⟨n, rfl⟩ := hw
        exact ⟨ret_bool (alike_no s t k hlt hkt HB.out).symm, n + _, World.drewN_drewN _ _ _⟩
    · obtain rfl : k = s.size := by omega
      go_wp2
      go_ret
      refine ⟨ret_bool ?_, hw⟩
      have h := HA.out
      rw [take_all] at h
      unfold alikeB
      rw [h, len_data]
      simp

def mletters : List UInt8 := [74, 97, 110, 70, 101, 98, 77, 114, 65, 112, 121, 117, 108, 103, 83, 79, 99, 116, 78, 111, 118, 68]
theorem letter_fin : ∀ c ∈ mletters, ∀ n : Fin 256, (or32 c = or32 (UInt8.ofNat n.val)) = (smallU c = smallU (UInt8.ofNat n.val)) := by
  have h : (mletters.all fun c => (List.range 256).all fun n => decide (or32 c = or32 (UInt8.ofNat n)) == decide (smallU c = smallU (UInt8.ofNat n))) = true := by decide +kernel
  intro c hc n
  rw [List.all_eq_true] at h
  have h1 := h c hc
  rw [List.all_eq_true] at h1
  have h2 := h1 n.val (List.mem_range.2 n.isLt)
  have h3 := of_decide_eq_true (p := decide (or32 c = or32 (UInt8.ofNat n.val)) = decide (smallU c = smallU (UInt8.ofNat n.val))) (by simpa using h2)
  exact propext (by constructor <;> intro hh <;> simp_all)
theorem letter_alike (c b : UInt8) (hc : c ∈ mletters) : (or32 c = or32 b) = (smallU c = smallU b) := by
  have h := letter_fin c hc ⟨b.toNat, b.toNat_lt⟩
  simpa using h
theorem alike_same (a b : List UInt8) (ha : ∀ c ∈ a, c ∈ mletters) (hl : a.length = b.length) : alikeB a b = sameB a b := by
  unfold alikeB sameB foldL
  rw [hl, List.take_length]
  rw [Bool.eq_iff_iff]
  simp only [decide_eq_true_eq]
  induction a generalizing b with
  | nil => cases b with
    | nil => simp
    | cons => simp at hl
  | cons x a ih => cases b with
    | nil => simp at hl
    | cons y b =>
      have h1 := letter_alike x y (ha x (by simp))
      have h2 := ih b (fun c hc => ha c (by simp [hc])) (by simpa using hl)
      simp only [List.map_cons, List.cons.injEq, h1, h2]

/-- The months in order, and what month finds. -/
def MonIs (l : List UInt8) (r : Int) : Prop := (1 ≤ r ∧ r ≤ 12 ∧ sameB (monL r) l = true) ∨ (r = 0 ∧ ∀ j : Int, 1 ≤ j → j ≤ 12 → sameB (monL j) l = false)
theorem mon_letters_fin : ∀ i : Fin 12, (∀ c ∈ monL ((i.val : Int) + 1), c ∈ mletters) ∧ (monL ((i.val : Int) + 1)).length = 3 := by decide +kernel
theorem mon_letters (j : Int) (h1 : 1 ≤ j) (h2 : j ≤ 12) : (∀ c ∈ monL j, c ∈ mletters) ∧ (monL j).length = 3 := by
  obtain ⟨b, hb⟩ : ∃ b : Fin 12, (b.val : Int) + 1 = j := ⟨⟨(j - 1).toNat, by omega⟩, by simp; omega⟩
  rw [← hb]
  exact mon_letters_fin b
theorem mon_dist_fin : ∀ i j : Fin 12, foldL (monL ((i.val : Int) + 1)) = foldL (monL ((j.val : Int) + 1)) → i = j := by decide +kernel
theorem mon_dist (i j : Int) (h1 : 1 ≤ i) (h2 : i ≤ 12) (h3 : 1 ≤ j) (h4 : j ≤ 12) (h : foldL (monL i) = foldL (monL j)) : i = j := by
  obtain ⟨a, ha⟩ : ∃ a : Fin 12, (a.val : Int) + 1 = i := ⟨⟨(i - 1).toNat, by omega⟩, by simp; omega⟩
  obtain ⟨b, hb⟩ : ∃ b : Fin 12, (b.val : Int) + 1 = j := ⟨⟨(j - 1).toNat, by omega⟩, by simp; omega⟩
  rw [← ha, ← hb] at h
  have := mon_dist_fin a b h
  rw [← ha, ← hb, this]
theorem mon_uniq {l : List UInt8} {r q : Int} (hr : MonIs l r) (hq : MonIs l q) : r = q := by
  rcases hr with ⟨a1, a2, a3⟩ | ⟨rfl, ha⟩
  · rcases hq with ⟨b1, b2, b3⟩ | ⟨rfl, hb⟩
    · simp only [sameB, decide_eq_true_eq] at a3 b3
      exact mon_dist r q a1 a2 b1 b2 (a3.trans b3.symm)
    · rw [hb r a1 a2] at a3; exact absurd a3 (by decide)
  · rcases hq with ⟨b1, b2, b3⟩ | ⟨rfl, hb⟩
    · rw [ha q b1 b2] at b3; exact absurd b3 (by decide)
    · rfl
theorem mon_exists (l : List UInt8) : ∃ r, MonIs l r ∧ 0 ≤ r ∧ r ≤ 12 := by
  by_cases h : ∃ r : Int, 1 ≤ r ∧ r ≤ 12 ∧ sameB (monL r) l = true
  · obtain ⟨r, h1, h2, h3⟩ := h
    exact ⟨r, .inl ⟨h1, h2, h3⟩, by omega, h2⟩
  · refine ⟨0, .inr ⟨rfl, fun j h1 h2 => ?_⟩, by omega, by omega⟩
    cases hs : sameB (monL j) l
    · rfl
    · exact absurd ⟨j, h1, h2, hs⟩ h

set_option maxHeartbeats 1000000 in
theorem month_any (s : ByteArray) (r : Int) (w : World) (hs : s.size = 3) (H : MonIs s.data.toList r) :
    Calls Tryd.prog 24 #[.string s] w fun e w' => e = .returned (.int .i64 r) ∧ ∃ n, w' = w.drewN n := by
  have HM := Lib.hid H
  have hcall : ∀ (j : Int), 1 ≤ j → j ≤ 12 → ∀ (b : Bool), Hid (sameB (monL j) s.data.toList = b) → ∀ W : World, Calls Tryd.prog 40 #[.string ((⟨#[74, 97, 110, 70, 101, 98, 77, 97, 114, 65, 112, 114, 77, 97, 121, 74, 117, 110, 74, 117, 108, 65, 117, 103, 83, 101, 112, 79, 99, 116, 78, 111, 118, 68, 101, 99]⟩ : ByteArray).extract (3 * j - 3).toNat (3 * j).toNat), .string s] W fun e w' => e = .returned (.bool b) ∧ ∃ n, w' = W.drewN n := by
    intro j j1 j2 b hb W
    rw [mon_cut j j1 j2]
    obtain ⟨hl, hl3⟩ := mon_letters j j1 j2
    have hz : (⟨(monL j).toArray⟩ : ByteArray).size = 3 := hl3
    have h := alike_any ⟨(monL j).toArray⟩ s W (by omega) (by omega) (by omega)
    have e : alikeB (monL j) s.data.toList = b := by rw [alike_same _ _ hl (by rw [hl3, len_data, hs]), hb.out]
    rw [show (⟨(monL j).toArray⟩ : ByteArray).data.toList = monL j from rfl, e] at h
    exact h
  have HS := Lib.hid hs
  clear hs H
  go_enter Tryd.func24, Tryd.ntmps24
  go_wp2
  go_loopw [3] (fun i wr => ∃ k : Int, 1 ≤ k ∧ k ≤ 13 ∧ i = .int .i64 k ∧ (∃ n, wr = w.drewN n) ∧ Hid (∀ j : Int, 1 ≤ j → j < k → sameB (monL j) s.data.toList = false)) (fun i _ => (13 - intOf i).toNat)
  case atStart => exact ⟨1, by omega, by omega, rfl, ⟨0, rfl⟩, fun j h1 h2 => absurd h2 (by omega)⟩
  case round =>
    obtain ⟨k, k1, k2, rfl, hw, HA⟩ := hrel
    by_cases hlt : k ≤ 12
    · have e3 : 3 ≤ 3 * k := by omega
      have e4 : 3 * k - 3 ≤ 3 * k := by omega
      have e5 : 3 * k ≤ 36 := by omega
      have e6 : 0 ≤ 3 * k := by omega
      have e7 : max (3 * k) 0 = 3 * k := by omega
      obtain ⟨b, hb⟩ : ∃ b, sameB (monL k) s.data.toList = b := ⟨_, rfl⟩
      have HB := Lib.hid hb
      have hc := hcall k k1 hlt b HB
      clear hb
      cases b
      · go_wp2_with (go_at_call 40; refine (hc _).mono ?_; rintro e w' ⟨rfl, n', rfl⟩)
        go_roundw
        case rel =>
          refine ⟨k + 1, by omega, by omega, rfl, ?_, ?_⟩
          · obtain ⟨n, rfl⟩ := hw
            exact ⟨n + _, World.drewN_drewN _ _ _⟩
          · intro j j1 j2
            by_cases hj : j < k
            · exact HA.out j j1 hj
            · obtain rfl : j = k := by omega
              exact HB.out
        case measure => simp [intOf]; omega
      · have hr : r = k := mon_uniq HM.out (.inl ⟨k1, hlt, HB.out⟩)
        have HR := Lib.hid hr
        clear hr
        go_wp2_with (go_at_call 40; refine (hc _).mono ?_; rintro e w' ⟨rfl, n', rfl⟩)
        go_ret
        obtain ⟨n, rfl⟩ := hw
        exact ⟨ret_int HR.out.symm, n + _, World.drewN_drewN _ _ _⟩
    · have hr : r = 0 := mon_uniq HM.out (.inr ⟨rfl, fun j j1 j2 => HA.out j j1 (by omega)⟩)
      have HR := Lib.hid hr
      clear hr
      go_wp2
      go_ret
      exact ⟨ret_int HR.out.symm, hw⟩
end Go.Proofs.YtfigddnkkdgjhaaDoor
