/- The reference's Decode. -/
import Derived.Test.YtofgkahldhelaaaDoorCdX
import Derived.Test.YtofgkahldhelaaaDoorCdT
import Derived.Test.YtofgkahldhelaaaDoorFoldR
set_option linter.unusedVariables false
namespace Go.Proofs.YtofgkahldhelaaaDoor
open Go.RowKit

theorem small_low (c : UInt8) : smallU c = lowB c := by
  have key : ∀ n : Fin 256, smallU (UInt8.ofNat n.val) = lowB (UInt8.ofNat n.val) := by decide +kernel
  have h := key ⟨c.toNat, c.toNat_lt⟩
  have e : UInt8.ofNat c.toNat = c := by simp
  simp only [e] at h
  exact h
theorem ba_t {S word : ByteArray} {l : List UInt8} (hl : word.data.toList = l) (h : S = word) : (S.toList == l) = true := by
  subst h
  rw [toList_data, hl]
  exact beq_self_eq_true _
theorem ba_f {S word : ByteArray} {l : List UInt8} (hl : word.data.toList = l) (h : ¬ S = word) : (S.toList == l) = false := by
  rw [toList_data, beq_eq_false_iff_ne]
  intro e
  apply h
  have e2 : S.data = word.data := Array.toList_inj.1 (e.trans hl.symm)
  cases S
  cases word
  exact congrArg ByteArray.mk e2
theorem fold_low (l : List UInt8) : foldL l = l.map lowB := by
  unfold foldL
  exact List.map_congr_left fun c _ => small_low c
theorem fold_is (S word : ByteArray) (l : List UInt8) (h : S = ⟨(foldL l).toArray⟩) : (S = word) ↔ alikeB word.data.toList l = true := by
  subst h
  unfold alikeB
  rw [decide_eq_true_iff, fold_low]
  constructor
  · intro h
    have := congrArg (fun z : ByteArray => z.data.toList) h
    simpa using this
  · intro h
    rw [h]
def DecP (r : List UInt8) (w : World) (e : Ending) (w' : World) : Prop := ∃ v, e = .returned v ∧ RdV w' v r ∧ Below w.heap.size w w'
set_option maxHeartbeats 2000000 in
theorem r_decode (how : ByteArray) (A : Option Addr) (l : List UInt8) (c : Nat) (w : World) (hh : how.size ≤ maxLen) (hr : Rd w A l) (hl : l.length ≤ 1000000) (hc : l.length ≤ c) :
    Calls Tryd.prog 14 #[.string how, .slice A l.length c] w (DecP (decF how.data.toList l) w) := by
  have h1 := r_fold how w hh
  obtain ⟨S, hS⟩ : ∃ S : ByteArray, S = ⟨(foldL how.data.toList).toArray⟩ := ⟨_, rfl⟩
  rw [← hS] at h1
  have i1 := fold_is S name64 _ hS
  have i2 := fold_is S nameQ _ hS
  clear hS
  obtain ⟨R, hR⟩ : ∃ R, R = decF how.data.toList l := ⟨_, rfl⟩
  rw [← hR]
  unfold decF at hR
  have h2 : Hid (∀ V, Below w.heap.size w V → Calls Tryd.prog 6 #[.slice A l.length c] V (F64P (fromB64 l) V)) := fun V hV => r_from64 A l c V (hr.below hV) hl hc
  have h3 : Hid (∀ V, Below w.heap.size w V → Calls Tryd.prog 12 #[.slice A l.length c] V fun e w' => ∃ v, e = .returned v ∧ RdV w' v (fq l) ∧ Below V.heap.size V w') := fun V hV => r_fromq A l l.length c V rfl (hr.below hV) hl hc
  have h4 : Hid (∀ V, Below w.heap.size w V → RdV V (.slice A l.length c) l) := fun V hV => ⟨A, c, rfl, hc, hr.below hV⟩
  replace h1 := Lib.hid h1
  clear hr hh
  by_cases b1 : S = name64
  · rw [if_pos (i1.1 b1)] at hR
    have e1 : (S.toList == [98, 97, 115, 101, 54, 52]) = true := ba_t rfl b1
    clear i1 i2
    clear b1
    generalize fromB64 l = o at h2 hR
    cases o with
    | none =>
      replace hR := Lib.hid hR
      go_enter Tryd.func14, Tryd.ntmps14
      go_wp2_with fail
      (with_reducible refine h1.out.mono ?_)
      rintro e w1 ⟨rfl, ba⟩
      go_wp2_with fail
      (with_reducible refine (h2.out _ ba).mono ?_)
      rintro e w2 ⟨rfl, bb⟩
      have bc := ba.trans (bb.mono ba.size)
      have hv := h4.out _ bc
      go_wp2
      go_ret
      exact ⟨_, rfl, by rw [hR.out]; exact hv, bc⟩
    | some r =>
      replace hR := Lib.hid hR
      go_enter Tryd.func14, Tryd.ntmps14
      go_wp2_with fail
      (with_reducible refine h1.out.mono ?_)
      rintro e w1 ⟨rfl, ba⟩
      go_wp2_with fail
      (with_reducible refine (h2.out _ ba).mono ?_)
      rintro e w2 ⟨⟨v, rfl, hv⟩, bb⟩
      have bc := ba.trans (bb.mono ba.size)
      go_wp2
      go_ret
      exact ⟨_, rfl, by rw [hR.out]; exact hv, bc⟩
  · rw [if_neg (fun h => b1 (i1.2 h))] at hR
    have e1 : (S.toList == [98, 97, 115, 101, 54, 52]) = false := ba_f (word := name64) rfl b1
    by_cases b2 : S = nameQ
    · rw [if_pos (i2.1 b2)] at hR
      clear i1 i2 h2
      have e2 : (S.toList == [113, 117, 111, 116, 101, 100, 45, 112, 114, 105, 110, 116, 97, 98, 108, 101]) = true := ba_t (word := nameQ) rfl b2
      clear b2
      replace hR := Lib.hid hR
      go_enter Tryd.func14, Tryd.ntmps14
      go_wp2_with fail
      (with_reducible refine h1.out.mono ?_)
      rintro e w1 ⟨rfl, ba⟩
      go_wp2_with fail
      (with_reducible refine (h3.out _ ba).mono ?_)
      rintro e w2 ⟨v, rfl, hv, bb⟩
      have bc := ba.trans (bb.mono ba.size)
      go_wp2
      go_ret
      exact ⟨_, rfl, by rw [hR.out]; exact hv, bc⟩
    · rw [if_neg (fun h => b2 (i2.2 h))] at hR
      have e2 : (S.toList == [113, 117, 111, 116, 101, 100, 45, 112, 114, 105, 110, 116, 97, 98, 108, 101]) = false := ba_f (word := nameQ) rfl b2
      clear i1 i2 h2 h3
      replace hR := Lib.hid hR
      go_enter Tryd.func14, Tryd.ntmps14
      go_wp2_with fail
      (with_reducible refine h1.out.mono ?_)
      rintro e w1 ⟨rfl, ba⟩
      have hv := h4.out _ ba
      go_wp2
      go_ret
      exact ⟨_, rfl, by rw [hR.out]; exact hv, ba⟩
end Go.Proofs.YtofgkahldhelaaaDoor
