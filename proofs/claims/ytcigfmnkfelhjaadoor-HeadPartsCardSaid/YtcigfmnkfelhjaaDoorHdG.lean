/- octet.Same (from XOctA, XOctB); head.Get; what the laws' 'plain' answers. -/
import Derived.Test.YtcigfmnkfelhjaaDoorHdD
import Derived.Test.YtcigfmnkfelhjaaDoorMa
import Derived.BigQuiet
set_option linter.unusedVariables false
namespace Go.Proofs.YtcigfmnkfelhjaaDoor
open Go.RowKit

theorem small_any (c : UInt8) (w : World) : Calls Tryd.prog 28 #[.int .u8 (c.toNat : Int)] w fun e w' => e = .returned (.int .u8 ((smallU c).toNat : Int)) ∧ w = w' := by
  have hc := c.toNat_lt
  go_enter Tryd.func28, Tryd.ntmps28
  go_wp2
  all_goals
    go_ret
    exact ⟨ret_int (by rw [smallU_toNat]; grind), rfl⟩
theorem quietL {P : Program} {f : FuncId} {args : Array Value} {w : World} {v : Value} (h : Calls P f args w fun e w' => e = .returned v ∧ w = w') : Calls P f args w fun e w' => e = .returned v ∧ w' = w :=
  h.mono fun _ _ ⟨he, hw⟩ => ⟨he, hw.symm⟩

set_option maxHeartbeats 400000 in
theorem same_any (s t : ByteArray) (w : World) (hs : s.size ≤ maxLen) :
    Calls Tryd.prog 21 #[.string s, .string t] w fun e w' => e = .returned (.bool (sameB s.data.toList t.data.toList)) ∧ ∃ n, w' = w.drewN n := by
  unfold maxLen at hs
  by_cases hl : s.size = t.size
  · have hl2 : ((s.size : Int) != (t.size : Int)) = false := by simp [hl]
    have HL := Lib.hid hl
    clear hl
    go_enter Tryd.func21, Tryd.ntmps21
    go_wp2
    go_loopw [13] (fun i wr => ∃ k : Nat, k ≤ s.size ∧ i = .int .i64 k ∧ (∃ n, wr = w.drewN n) ∧ foldL (s.data.toList.take k) = foldL (t.data.toList.take k)) (fun i _ => s.size - (intOf i).toNat)
    case atStart => exact ⟨0, Nat.zero_le _, rfl, ⟨0, rfl⟩, by simp⟩
    case round =>
      obtain ⟨k, hk, rfl, hw, hall⟩ := hrel
      have HA := Lib.hid hall
      clear hall
      by_cases hlt : k < s.size
      · have hkt : k < t.size := by have := HL.out; omega
        have e1 : (k : Int) < (s.size : Int) := by omega
        have e2 : (k : Int) < (t.size : Int) := by omega
        by_cases hb : smallU s[k] = smallU t[k]
        · have hb2 : (((smallU s[k]).toNat : Int) != ((smallU t[k]).toNat : Int)) = false := by rw [hb]; simp
          have HB := Lib.hid hb
          clear hb
          go_wp2_with fail
          go_quiet ((go_at_call 28; exact Calls.quiet_of_same (quietL (small_any _ _))))
          go_wp2
          go_roundw
          case rel =>
            refine ⟨k + 1, by omega, by go_num, ?_, ?_⟩
            · obtain ⟨n, rfl⟩ := hw
              exact ⟨n + _, World.drewN_drewN _ _ _⟩
            · rw [take_snoc s k hlt, take_snoc t k hkt]
              simp only [foldL, List.map_append, List.map_cons, List.map_nil]
              rw [HB.out]
              exact congrArg (· ++ _) HA.out
          case measure => simp [intOf]; omega
        · have hb2 := toNat_ne hb
          have HB := Lib.hid hb
          clear hb
          go_wp2_with fail
          go_quiet ((go_at_call 28; exact Calls.quiet_of_same (quietL (small_any _ _))))
          go_wp2
          go_ret
          obtain ⟨n, rfl⟩ := hw
          exact ⟨ret_bool (same_no s t k hlt hkt HB.out).symm, n + _, World.drewN_drewN _ _ _⟩
      · obtain rfl : k = s.size := by omega
        go_wp2
        go_ret
        exact ⟨ret_bool (by
          have h := HA.out
          rw [take_all, HL.out, take_all] at h
          simp [sameB, h]), hw⟩
  · have hl2 : ((s.size : Int) != (t.size : Int)) = true := by rw [bne_iff_ne]; omega
    have HL := Lib.hid hl
    clear hl
    go_enter Tryd.func21, Tryd.ntmps21
    go_wp2
    go_ret
    exact ⟨ret_bool (same_len s t HL.out).symm, 0, rfl⟩

/-- What Get answers, off the fields. -/
def getF : List Fd → ByteArray → ByteArray × Bool
  | [], _ => (⟨#[]⟩, false)
  | f :: r, s => if sameB f.name.data.toList s.data.toList then (f.value, true) else getF r s
set_option maxHeartbeats 4000000 in
theorem get_w (A : Option Addr) (l : List UInt8) (c : Nat) (s : ByteArray) (w : World) (hr : Rd w A l) (hl : l.length ≤ 1000000) (hc : l.length ≤ c) (hm : MaxLenIs w) (hg : 0 < w.heap.size)
    (hnm : ∀ f ∈ fieldsF valF l (endF l), f.name.size ≤ maxLen) :
    Calls Tryd.prog 12 #[.slice A l.length c, .string s] w fun e w' => e = .returned (.tuple #[.string (getF (fieldsF valF l (endF l)) s).1, .bool (getF (fieldsF valF l (endF l)) s).2]) ∧ Below w.heap.size w w' := by
  have HF := Lib.hid (fields_w A l c w hr hl hc hm hg)
  generalize fieldsF valF l (endF l) = F at *
  obtain ⟨rv, rb, hR⟩ : ∃ rv rb, Hid (getF F s = (rv, rb)) := ⟨_, _, rfl⟩
  rw [hR.out]
  dsimp only
  replace hnm := Lib.hid hnm
  clear hr hm
  go_enter Tryd.func12, Tryd.ntmps12
  go_wp2_with fail
  (with_reducible refine HF.out.mono ?_)
  rintro _ w1 ⟨v, rfl, hown, b1⟩
  obtain ⟨A5, cap5, rfl, hc5, hcm5, hA5⟩ := hown.shape
  have hF7 : F.length ≤ 9223372036854775807 := by unfold maxLen at hcm5; omega
  clear HF
  go_wp2
  go_loopw [11] (fun iv wx => ∃ k : Nat, k ≤ F.length ∧ iv = .int .i64 (k : Int) ∧ Hid (getF F s = getF (F.drop k) s) ∧ Below w1.heap.size w1 wx) (fun iv _ => F.length - (intOf iv).toNat)
  case atStart => exact ⟨0, Nat.zero_le _, rfl, rfl, Below.refl _ _⟩
  case round =>
    obtain ⟨k, hk, rfl, HQ, hb⟩ := hrel
    have hB := b1.trans (hb.mono b1.size)
    by_cases hlt : k < F.length
    · have hlt' : (k : Int) < (F.length : Int) := by omega
      obtain ⟨g5, rfl, hg5, _⟩ := hA5 (by omega)
      have hown' := hown.below hb (Nat.le_refl _)
      have hce : ∀ j u, j < 4 → (fdC F[k])[j]? = some u → wr.cell? ⟨g5, k * 4 + j, none⟩ = some u := by
        intro j u hj hu
        have h := (hown'.cell k j hlt hj u hu).1
        rw [Nat.mul_comm 4 k] at h
        exact h
      have hdr : F.drop k = F[k] :: F.drop (k + 1) := List.drop_eq_getElem_cons hlt
      have hsz := hnm.out F[k] (List.getElem_mem hlt)
      rw [hdr] at HQ
      generalize F[k] = x at hce hsz HQ
      obtain ⟨xn, xv, xf, xt⟩ := x
      have d0 := hce 0 _ (by omega) rfl
      have d1 := hce 1 _ (by omega) rfl
      have d2 := hce 2 _ (by omega) rfl
      have d3 := hce 3 _ (by omega) rfl
      rw [Nat.add_zero] at d0
      dsimp only at d0 d1 d2 d3 hsz
      have ba := (Below.refl wr.heap.size wr).alloc (Nat.le_refl _) (.cells #[.string xn, .string xv, .int .i64 (xf : Int), .int .i64 (xt : Int)] 29)
      have hsm := same_any xn s (wr.alloc (.cells #[.string xn, .string xv, .int .i64 (xf : Int), .int .i64 (xt : Int)] 29)) hsz
      by_cases hS : sameB xn.data.toList s.data.toList = true
      · rw [hS] at hsm
        have hq : getF F s = (xv, true) := by rw [HQ.out, getF, if_pos hS]
        rw [hR.out] at hq
        injection hq with h1 h2
        replace h1 := Lib.hid h1
        replace h2 := Lib.hid h2
        have HSM := Lib.hid hsm
        clear hsm hce hdr HQ hS
        go_wp2_with fail
        (with_reducible refine HSM.out.mono ?_)
        rintro _ w9 ⟨rfl, n, rfl⟩
        have z1 : ((wr.alloc (.cells #[.string xn, .string xv, .int .i64 (xf : Int), .int .i64 (xt : Int)] 29)).drewN n).cell? ⟨wr.heap.size, 1, none⟩ = some (.string xv) := by
          show (wr.alloc (.cells #[.string xn, .string xv, .int .i64 (xf : Int), .int .i64 (xt : Int)] 29)).cell? ⟨wr.heap.size, 1, none⟩ = some (.string xv)
          simp
        have hB9 : Below w.heap.size w ((wr.alloc (.cells #[.string xn, .string xv, .int .i64 (xf : Int), .int .i64 (xt : Int)] 29)).drewN n) := below_drewN (hB.trans (ba.mono hB.size)) n
        go_wp2
        go_ret2
        exact ⟨by rw [h1.out, h2.out]; rfl, hB9⟩
      · have hS' : sameB xn.data.toList s.data.toList = false := by simpa using hS
        rw [hS'] at hsm
        have hq : Hid (getF F s = getF (F.drop (k + 1)) s) := by
          show _ = _
          rw [HQ.out, getF, if_neg hS]
        have HSM := Lib.hid hsm
        clear hsm hce hdr HQ hS hS'
        go_wp2_with fail
        (with_reducible refine HSM.out.mono ?_)
        rintro _ w9 ⟨rfl, n, rfl⟩
        have hb9 : Below w1.heap.size w1 ((wr.alloc (.cells #[.string xn, .string xv, .int .i64 (xf : Int), .int .i64 (xt : Int)] 29)).drewN n) := below_drewN (hb.trans (ba.mono hb.size)) n
        go_wp2
        go_roundw
        case rel => exact ⟨k + 1, by omega, by go_num, hq, hb9⟩
        case measure => simp [intOf]; omega
    · obtain rfl : k = F.length := by omega
      have hlt' : ¬ (F.length : Int) < (F.length : Int) := by omega
      have hq : getF F s = (⟨#[]⟩, false) := by rw [HQ.out, List.drop_length]; rfl
      rw [hR.out] at hq
      injection hq with h1 h2
      replace h1 := Lib.hid h1
      replace h2 := Lib.hid h2
      clear HQ
      go_wp2
      go_ret2
      exact ⟨by rw [h1.out, h2.out]; rfl, hB⟩
end Go.Proofs.YtcigfmnkfelhjaaDoor
