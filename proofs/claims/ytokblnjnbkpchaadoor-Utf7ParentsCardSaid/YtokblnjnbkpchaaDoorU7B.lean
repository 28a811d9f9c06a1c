/- Package utf7: Parent, Good. -/
import Derived.Test.YtokblnjnbkpchaaDoorU7A
import Derived.Test.YtokblnjnbkpchaaDoorShelf
import Derived.Test.YtokblnjnbkpchaaDoorVShelf
set_option linter.unusedVariables false
namespace Go.Proofs.YtokblnjnbkpchaaDoor
open Go.RowKit

theorem at_bang (s : ByteArray) (j : Nat) (h : j < s.size) : s.data[j]! = s.data.toList.getD j 0 := by
  rw [getElem!_pos s.data j h, getD_str s j h]
  rfl
theorem last_none (s : ByteArray) (h : (47 : UInt8) ∉ s.data.toList) : Lib.lastIndexByte s 47 = -1 := by
  rcases Lib.lastIndexByte_spec s 47 with ⟨h1, _⟩ | ⟨i, hi, _, h2, _⟩
  · exact h1
  · rw [getElem!_pos s.data i hi] at h2
    exact absurd (show (47 : UInt8) ∈ s.data.toList by
      have : s.data[i] = 47 := UInt8.toNat_inj.1 (by have : ((47 : UInt8).toNat : Int) = 47 := rfl; omega)
      rw [← this]
      exact Array.mem_toList_iff.2 (Array.getElem_mem hi)) h
theorem last_some (s : ByteArray) (p r : List UInt8) (h : s.data.toList = p ++ 47 :: r) (hr : (47 : UInt8) ∉ r) : Lib.lastIndexByte s 47 = (p.length : Int) := by
  have hsz : s.size = p.length + 1 + r.length := by
    have := len_data s
    rw [h] at this
    simp at this
    omega
  have hat : s.data[p.length]! = 47 := by rw [at_bang s _ (by omega), h, getD_at]
  rcases Lib.lastIndexByte_spec s 47 with ⟨_, h1⟩ | ⟨i, hi, h1, h2, h3⟩
  · have := h1 p.length (by omega)
    rw [hat] at this
    exact absurd rfl this
  · rw [h1]
    rcases Nat.lt_trichotomy i p.length with hl | he | hg
    · have := h3 p.length hl (by omega)
      rw [hat] at this
      exact absurd rfl this
    · rw [he]
    · obtain ⟨m, rfl⟩ : ∃ m, i = p.length + 1 + m := ⟨i - p.length - 1, by omega⟩
      have hm : m < r.length := by omega
      have e : s.data[p.length + 1 + m]! = r[m] := by
        rw [at_bang s _ hi, h, List.getD_eq_getElem?_getD, List.getElem?_append_right (by omega), show p.length + 1 + m - p.length = m + 1 by omega, List.getElem?_cons_succ, List.getElem?_eq_getElem hm]
        rfl
      rw [e] at h2
      exact absurd (show (47 : UInt8) ∈ r by
        have : r[m] = 47 := UInt8.toNat_inj.1 (by have : ((47 : UInt8).toNat : Int) = 47 := rfl; omega)
        rw [← this]
        exact List.getElem_mem hm) hr
theorem last_split : ∀ (l : List UInt8), (47 : UInt8) ∉ l ∨ ∃ p r, l = p ++ 47 :: r ∧ (47 : UInt8) ∉ r
  | [] => .inl (by simp)
  | x :: l => by
    rcases last_split l with h | ⟨p, r, rfl, h⟩
    · by_cases hx : x = 47
      · exact .inr ⟨[], l, by rw [hx]; rfl, h⟩
      · exact .inl (by simp [h, Ne.symm hx])
    · exact .inr ⟨x :: p, r, rfl, h⟩

theorem parent_none (s : ByteArray) (w : World) (hs : s.size ≤ 1000000) (h : (47 : UInt8) ∉ s.data.toList) :
    Calls Tryd.prog 8 #[.string s] w fun e w' => e = .returned (.tuple #[.string ⟨#[]⟩, .bool false]) ∧ w' = w := by
  have hc := fun W => Tryd.strings_LastIndexByte s 47 (by omega) W
  rw [last_none s h] at hc
  clear h
  go_enter Tryd.func8, Tryd.ntmps8
  go_wp2_with ((with_reducible refine (hc _).mono ?_))
  rintro _ w1 ⟨rfl, rfl⟩
  go_wp2
  go_ret2
  exact ⟨rfl, rfl⟩
theorem parent_some (s : ByteArray) (p r : List UInt8) (w : World) (hs : s.size ≤ 1000000) (h : s.data.toList = p ++ 47 :: r) (hr : (47 : UInt8) ∉ r) :
    Calls Tryd.prog 8 #[.string s] w fun e w' => e = .returned (.tuple #[.string ⟨p.toArray⟩, .bool true]) ∧ w' = w := by
  have hc := fun W => Tryd.strings_LastIndexByte s 47 (by omega) W
  rw [last_some s p r h hr] at hc
  have hsz : s.size = p.length + 1 + r.length := by
    have := len_data s
    rw [h] at this
    simp at this
    omega
  have he : s.extract 0 p.length = ⟨p.toArray⟩ := by
    apply ByteArray.ext
    rw [ByteArray.data_extract]
    apply Array.toList_inj.1
    rw [Array.toList_extract, h]
    simp
  have HE := Lib.hid he
  have e1 : ¬ (p.length : Int) < 0 := by omega
  have e2 : (p.length : Int) ≤ (s.size : Int) := by omega
  clear h he
  go_enter Tryd.func8, Tryd.ntmps8
  go_wp2_with ((with_reducible refine (hc _).mono ?_))
  go_ret2
  exact ⟨ret_tup2 (by rw [HE.out]; rfl) rfl, rfl⟩

def U7E (w : World) : Prop := Lib.Utf8Tabs 0 1 w ∧ ∃ m, w.cell? ⟨2, 0, none⟩ = some (.int .i64 m)
theorem U7E.below {w W : World} (h : U7E w) (hb : Below w.heap.size w W) : U7E W := by
  obtain ⟨h1, m, h2⟩ := h
  exact ⟨Utf8Tabs_below h1 hb, m, (hb.cell (p := ⟨2, 0, none⟩) (World.block_lt_of_cell? w _ h2)).trans h2⟩
theorem valid_c (s : ByteArray) (w : World) (hs : s.size ≤ 1000000) (he : U7E w) : Calls Tryd.prog 12 #[.string s] w fun e w' => e = .returned (.bool (Lib.validD s.data.toList)) ∧ Below w.heap.size w w' :=
  Any.utf8_ValidString Tryd.vld s w (by omega) he.1
theorem contains_c (s : ByteArray) (w : World) (hs : s.size ≤ 1000000) (he : U7E w) : Calls Tryd.prog 13 #[.string s, .string ⟨#[47, 47]⟩] w fun e w' => e = .returned (.bool (Lib.contains s.data.toList [47, 47])) ∧ w' = w := by
  obtain ⟨_, m, hm⟩ := he
  exact Tryd.strings_Contains s ⟨#[47, 47]⟩ m w (by omega) hm
theorem goodF_parts (l : List UInt8) (h0 : l.length ≠ 0) (h1 : l.length ≤ 100) : goodF l = (Lib.validD l && l.all byteG && !(l.head? == some 47) && !(l.getLast? == some 47) && !Lib.contains l [47, 47]) := by
  unfold goodF
  rw [decide_eq_true ⟨h0, h1⟩, Bool.true_and]

set_option maxRecDepth 100000 in
set_option maxHeartbeats 1000000 in
theorem good_any (s : ByteArray) (w : World) (hs : s.size ≤ 1000000) (he : U7E w) :
    Calls Tryd.prog 6 #[.string s] w fun e w' => e = .returned (.bool (goodF s.data.toList)) ∧ Below w.heap.size w w' := by
  by_cases h0 : s.size = 0
  · have hr : goodF s.data.toList = false := by unfold goodF; rw [len_data, h0]; rfl
    have e1 := str_isnil h0
    rw [hr]
    clear hr h0
    go_enter Tryd.func6, Tryd.ntmps6
    go_wp2
    go_ret
    exact ⟨rfl, Below.refl _ _⟩
  have e1 := str_some h0
  by_cases h1 : 100 < s.size
  · have hr : goodF s.data.toList = false := by unfold goodF; rw [len_data, decide_eq_false (by omega)]; rfl
    have e2 : (100 : Int) < (s.size : Int) := by omega
    rw [hr]
    clear hr h0
    go_enter Tryd.func6, Tryd.ntmps6
    go_wp2
    go_ret
    exact ⟨rfl, Below.refl _ _⟩
  have e2 : ¬ (100 : Int) < (s.size : Int) := by omega
  have hgp := goodF_parts s.data.toList (by rw [len_data]; exact h0) (by rw [len_data]; omega)
  have hv := valid_c s w hs he
  have hcc := fun W (hW : Below w.heap.size w W) => contains_c s W hs (he.below hW)
  cases hq : Lib.validD s.data.toList with
  | false =>
    have hr : goodF s.data.toList = false := by rw [hgp, hq]; rfl
    rw [hq] at hv
    rw [hr]
    clear hr hgp hq
    go_enter Tryd.func6, Tryd.ntmps6
    go_wp2_with ((with_reducible refine hv.mono ?_))
    first | (rintro _ w1 rfl b1) | (rintro _ w1 ⟨rfl, b1⟩)
    go_wp2
    go_ret
    exact ⟨rfl, b1⟩
  | true =>
    rw [hq] at hv
    rw [hq, Bool.true_and] at hgp
    have HG := Lib.hid hgp
    clear hgp hq
    generalize Lib.contains s.data.toList [47, 47] = cb at hcc HG
    have hpos : 0 < s.size := by omega
    go_enter Tryd.func6, Tryd.ntmps6
    go_wp2_with ((with_reducible refine hv.mono ?_))
    first | (rintro _ w1 rfl b1) | (rintro _ w1 ⟨rfl, b1⟩)
    go_wp2
    go_loopw [19] (fun i wr => ∃ k : Nat, k ≤ s.size ∧ i = .int .i64 (k : Int) ∧ wr = w1 ∧ Hid ((s.data.toList.take k).all byteG = true)) (fun i _ => s.size - (intOf i).toNat)
    case atStart => exact ⟨0, Nat.zero_le _, rfl, rfl, rfl⟩
    case round =>
      obtain ⟨k, hk, rfl, rfl, HA⟩ := hrel
      by_cases hlt : k < s.size
      · have e3 : (k : Int) < (s.size : Int) := by omega
        have HT := Lib.hid (take_snoc s k hlt)
        have HM : Hid (s[k] ∈ s.data.toList) := by
          show _
          rw [← getD_str s k hlt, List.getD_eq_getElem?_getD, List.getElem?_eq_getElem (by rw [len_data]; exact hlt)]
          exact List.getElem_mem _
        have HB : Hid (byteG s[k] = !(decide (s[k].toNat < 32) || s[k] == 127 || s[k] == 42 || s[k] == 37)) := rfl
        have hbad : byteG s[k] = false → goodF s.data.toList = false := fun h => by
          rw [HG.out]
          have : s.data.toList.all byteG = false := List.all_eq_false.2 ⟨_, HM.out, by simp [h]⟩
          rw [this]
          rfl
        have HX := Lib.hid hbad
        have heq : ∀ c : UInt8, (s[k] == c) = ((s[k].toNat : Int) == (c.toNat : Int)) := fun c => by
          rw [Bool.eq_iff_iff, beq_iff_eq, beq_iff_eq]
          constructor
          · intro h; rw [h]
          · intro h; exact UInt8.toNat_inj.1 (by omega)
        have HE := Lib.hid heq
        clear hbad heq
        by_cases t1 : (s[k].toNat : Int) < 32
        · have hb : byteG s[k] = false := by rw [HB.out, decide_eq_true (by omega)]; rfl
          have hr := Lib.hid (HX.out hb)
          clear hb
          go_wp2
          go_ret
          exact ⟨by rw [hr.out]; rfl, b1⟩
        cases t2 : ((s[k].toNat : Int) == 127) with
        | true =>
          have hb : byteG s[k] = false := by rw [HB.out, HE.out 127]; simp [t2]
          have hr := Lib.hid (HX.out hb)
          clear hb
          go_wp2
          go_ret
          exact ⟨by rw [hr.out]; rfl, b1⟩
        | false =>
        cases t3 : ((s[k].toNat : Int) == 42) with
        | true =>
          have hb : byteG s[k] = false := by rw [HB.out, HE.out 42]; simp [t3]
          have hr := Lib.hid (HX.out hb)
          clear hb
          go_wp2
          go_ret
          exact ⟨by rw [hr.out]; rfl, b1⟩
        | false =>
        cases t4 : ((s[k].toNat : Int) == 37) with
        | true =>
          have hb : byteG s[k] = false := by rw [HB.out, HE.out 37]; simp [t4]
          have hr := Lib.hid (HX.out hb)
          clear hb
          go_wp2
          go_ret
          exact ⟨by rw [hr.out]; rfl, b1⟩
        | false =>
          have hb : byteG s[k] = true := by rw [HB.out, HE.out 127, HE.out 42, HE.out 37, decide_eq_false (by omega)]; simp [t2, t3, t4]
          have HR := Lib.hid hb
          clear hb
          go_wp2
          go_roundw
          case rel => exact ⟨k + 1, by omega, by go_num, (by first | rfl | trivial), by show _ = _; rw [HT.out, List.all_append, HA.out]; simp [HR.out]⟩
          case measure => simp [intOf]; omega
      · obtain rfl : k = s.size := by omega
        have hal : s.data.toList.all byteG = true := by have h := HA.out; rwa [take_all] at h
        have hhd : (s.data.toList.head? == some 47) = ((s[0].toNat : Int) == 47) := by
          rw [List.head?_eq_getElem?, List.getElem?_eq_getElem (by rw [len_data]; exact hpos), Bool.eq_iff_iff, beq_iff_eq, beq_iff_eq, Option.some_inj]
          constructor
          · intro h; have h2 : s[0] = 47 := h; rw [h2]; rfl
          · intro h; exact UInt8.toNat_inj.1 (by have h2 : (s.data.toList[0]'(by rw [len_data]; exact hpos)) = s[0] := rfl; rw [h2]; have : (47 : UInt8).toNat = 47 := rfl; omega)
        have hlt9 : s.size - 1 < s.size := by omega
        have hlst : (s.data.toList.getLast? == some 47) = ((s[s.size - 1].toNat : Int) == 47) := by
          have hll : s.data.toList.getLast? = some s[s.size - 1] := by
            rw [List.getLast?_eq_getElem?, len_data, List.getElem?_eq_getElem (by rw [len_data]; exact hlt9)]
            rfl
          rw [hll, Bool.eq_iff_iff, beq_iff_eq, beq_iff_eq, Option.some_inj]
          constructor
          · intro h; rw [h]; rfl
          · intro h; exact UInt8.toNat_inj.1 (by have : (47 : UInt8).toNat = 47 := rfl; omega)
        have hres : goodF s.data.toList = (!((s[0].toNat : Int) == 47) && !((s[s.size - 1].toNat : Int) == 47) && !cb) := by
          rw [HG.out, hal, hhd, hlst, Bool.true_and]
        have HR := Lib.hid hres
        have e5 : (0 : Int) < (s.size : Int) := by omega
        have e6 : (s.size : Int) - 1 = ((s.size - 1 : Nat) : Int) := by omega
        have e7 : ((s.size - 1 : Nat) : Int) < (s.size : Int) := by omega
        clear hal hhd hlst hres
        cases t5 : ((s[0].toNat : Int) == 47) with
        | true =>
          have t6 : ((s[0].toNat : Int) != 47) = false := by simp only [bne, t5, Bool.not_true]
          have HQ := Lib.hid (show goodF s.data.toList = false by rw [HR.out, t5]; rfl)
          go_wp2
          go_ret
          exact ⟨by rw [HQ.out]; rfl, b1⟩
        | false =>
        have t6 : ((s[0].toNat : Int) != 47) = true := by simp only [bne, t5, Bool.not_false]
        cases t7 : ((s[s.size - 1].toNat : Int) == 47) with
        | true =>
          have t8 : ((s[s.size - 1].toNat : Int) != 47) = false := by simp only [bne, t7, Bool.not_true]
          have HQ := Lib.hid (show goodF s.data.toList = false by rw [HR.out, t5, t7]; rfl)
          go_wp2
          go_ret
          exact ⟨by rw [HQ.out]; rfl, b1⟩
        | false =>
          have t8 : ((s[s.size - 1].toNat : Int) != 47) = true := by simp only [bne, t7, Bool.not_false]
          have HQ := Lib.hid (show goodF s.data.toList = !cb by rw [HR.out, t5, t7]; rfl)
          go_wp2_with ((with_reducible refine (hcc _ b1).mono ?_))
          first | (rintro _ w2 rfl rfl) | (rintro _ w2 ⟨rfl, rfl⟩) | skip
          go_wp2
          go_ret
          exact ⟨by rw [HQ.out]; rfl, b1⟩
end Go.Proofs.YtokblnjnbkpchaaDoor
