/- Package utf7: inbox, Parent. -/
import Derived.Test.YtokblnjnbkpchaaDoorU7V
import Derived.Test.YtokblnjnbkpchaaDoorAp
import Derived.Deep.QuietTactic
import Derived.BigQuiet
set_option linter.unusedVariables false
namespace Go.Proofs.YtokblnjnbkpchaaDoor
open Go.RowKit

def inb (l : List UInt8) (k : Nat) : Prop := ∀ j, j < k → l.getD j 0 = inboxN.getD j 0 ∨ l.getD j 0 = inboxN.getD j 0 + 32
theorem inboxB_five (a b c d e : UInt8) : inboxB [a, b, c, d, e] = true ↔ inb [a, b, c, d, e] 5 := by
  unfold inboxB inb
  simp only [Bool.and_eq_true, Bool.or_eq_true, beq_iff_eq]
  constructor
  · rintro ⟨⟨⟨⟨h0, h1⟩, h2⟩, h3⟩, h4⟩ j hj
    match j, hj with
    | 0, _ => exact h0
    | 1, _ => exact h1
    | 2, _ => exact h2
    | 3, _ => exact h3
    | 4, _ => exact h4
  · intro h
    exact ⟨⟨⟨⟨h 0 (by decide), h 1 (by decide)⟩, h 2 (by decide)⟩, h 3 (by decide)⟩, h 4 (by decide)⟩
theorem inboxB_iff (l : List UInt8) (h5 : l.length = 5) : inboxB l = true ↔ inb l 5 := by
  match l, h5 with
  | [a, b, c, d, e], _ => exact inboxB_five a b c d e
def inboxBA : ByteArray := ⟨#[73, 78, 66, 79, 88]⟩
theorem inbox_at : ∀ k : Fin 5, (inboxBA[k.val]'(Nat.lt_of_lt_of_eq k.isLt rfl)) = inboxN.getD k.val 0 ∧ (inboxN.getD k.val 0).toNat ≤ 88 := by decide
theorem getD_str (s : ByteArray) (k : Nat) (h : k < s.size) : s.data.toList.getD k 0 = s[k] := by
  rw [List.getD_eq_getElem?_getD, List.getElem?_eq_getElem (by rw [len_data]; exact h)]
  rfl

set_option maxRecDepth 100000 in
theorem inbox_any (s : ByteArray) (w : World) (hs : s.size ≤ maxLen) :
    Calls Tryd.prog 14 #[.string s] w fun e w' => e = .returned (.string ⟨(inboxF s.data.toList).toArray⟩) ∧ ∃ n, w' = w.drewN n := by
  unfold maxLen at hs
  have hself : (⟨s.data.toList.toArray⟩ : ByteArray) = s := by simp
  by_cases h5 : s.size = 5
  · have hl : s.data.toList.length = 5 := by rw [len_data]; exact h5
    have HI := Lib.hid (inboxB_iff _ hl)
    have hf : ∀ b, inboxB s.data.toList = b → (⟨(inboxF s.data.toList).toArray⟩ : ByteArray) = if b then inboxBA else s := fun b hb => by
      unfold inboxF
      rw [hb]
      cases b
      · exact hself
      · rfl
    have HF := Lib.hid hf
    have hne : ((s.size : Int) != 5) = false := by simp [h5]
    generalize (⟨(inboxF s.data.toList).toArray⟩ : ByteArray) = R at HF ⊢
    clear hf hl hself
    have H5 := Lib.hid h5
    clear h5
    go_enter Tryd.func14, Tryd.ntmps14
    go_wp2
    go_loopw [8] (fun i wr => ∃ k : Nat, k ≤ 5 ∧ i = .int .i64 (k : Int) ∧ (∃ n, wr = w.drewN n) ∧ Hid (inb s.data.toList k)) (fun i _ => 5 - (intOf i).toNat)
    case atStart => exact ⟨0, Nat.zero_le _, rfl, ⟨0, rfl⟩, fun j hj => absurd hj (Nat.not_lt_zero _)⟩
    case round =>
      obtain ⟨k, hk, rfl, ⟨n, rfl⟩, HB⟩ := hrel
      by_cases hlt : k < 5
      · have e1 : (k : Int) < 5 := by omega
        have hks : k < s.size := by rw [H5.out]; exact hlt
        have e2 : (k : Int) < (s.size : Int) := by omega
        have hN := inbox_at ⟨k, hlt⟩
        dsimp only at hN
        have HG := Lib.hid (getD_str s k hks)
        have hk5 : k < (⟨#[73, 78, 66, 79, 88]⟩ : ByteArray).size := hlt
        have hy : (⟨#[73, 78, 66, 79, 88]⟩ : ByteArray)[k] = inboxN.getD k 0 := hN.1
        have h88 : ((⟨#[73, 78, 66, 79, 88]⟩ : ByteArray)[k]).toNat ≤ 88 := by rw [hy]; exact hN.2
        have HY := Lib.hid hy
        have HS : Hid (∀ c, s[k] = c → (c = inboxN.getD k 0 ∨ c = inboxN.getD k 0 + 32) → inb s.data.toList (k + 1)) := fun c hc h j hj => by
          by_cases hjk : j < k
          · exact HB.out j hjk
          · obtain rfl : j = k := by omega
            rw [HG.out, hc]
            exact h
        have HZ : Hid (∀ c, s[k] = c → ¬ (c = inboxN.getD k 0 ∨ c = inboxN.getD k 0 + 32) → inboxB s.data.toList = false) := fun c hc h => by
          cases hq : inboxB s.data.toList with
          | false => rfl
          | true =>
            have := HI.out.1 hq k hlt
            rw [HG.out, hc] at this
            exact absurd this h
        have hc8 := s[k].toNat_lt
        generalize hc : s[k] = c at hc8
        have HC := Lib.hid hc
        have hk' : s.data[k]? = some c := by rw [← hc]; exact Array.getElem?_eq_getElem hks
        clear hN hy
        by_cases t1 : c.toNat = ((⟨#[73, 78, 66, 79, 88]⟩ : ByteArray)[k]).toNat
        · have q1 : ((s[k].toNat : Int) != (((⟨#[73, 78, 66, 79, 88]⟩ : ByteArray)[k]).toNat : Int)) = false := by rw [hc]; simp [t1]
          have HT := Lib.hid t1
          clear t1 hc
          go_wp2_with fail
          go_quiet (fail)
          go_wp2
          go_roundw
          case rel => exact ⟨k + 1, by omega, by go_num, ⟨_, rfl⟩, HS.out c HC.out (.inl (by rw [← HY.out]; exact UInt8.toNat_inj.1 HT.out))⟩
          case measure => simp [intOf]; omega
        · by_cases t2 : c.toNat = ((⟨#[73, 78, 66, 79, 88]⟩ : ByteArray)[k]).toNat + 32
          · have q1 : ((s[k].toNat : Int) != (((⟨#[73, 78, 66, 79, 88]⟩ : ByteArray)[k]).toNat : Int)) = true := by rw [hc]; simp; omega
            have q2 : ((s[k].toNat : Int) != (((⟨#[73, 78, 66, 79, 88]⟩ : ByteArray)[k]).toNat : Int) + 32) = false := by rw [hc]; simp; omega
            have HT := Lib.hid t2
            have H88 := Lib.hid h88
            clear t1 t2 hc
            go_wp2_with fail
            go_quiet (fail)
            go_wp2
            go_roundw
            case rel =>
              refine ⟨k + 1, by omega, by go_num, ⟨_, rfl⟩, HS.out c HC.out (.inr ?_)⟩
              rw [← HY.out]
              apply UInt8.toNat_inj.1
              rw [UInt8.toNat_add, HT.out]
              have := H88.out
              simp
              omega
            case measure => simp [intOf]; omega
          · have q1 : ((s[k].toNat : Int) != (((⟨#[73, 78, 66, 79, 88]⟩ : ByteArray)[k]).toNat : Int)) = true := by rw [hc]; simp; omega
            have q2 : ((s[k].toNat : Int) != (((⟨#[73, 78, 66, 79, 88]⟩ : ByteArray)[k]).toNat : Int) + 32) = true := by rw [hc]; simp; omega
            have hno := HZ.out c HC.out (by
              rw [← HY.out]
              rintro (h | h)
              · exact t1 (by rw [h])
              · apply t2
                rw [h, UInt8.toNat_add]
                simp
                omega)
            have hres := HF.out false hno
            have HR := Lib.hid hres
            clear t1 t2 hc hno hres
            go_wp2_with fail
            go_quiet (fail)
            go_wp2
            go_ret
            rw [HR.out]
            exact ⟨rfl, n + nq, by rw [World.drewN_drewN]⟩
      · obtain rfl : k = 5 := by omega
        have hyes := HF.out true (HI.out.2 HB.out)
        have HR := Lib.hid hyes
        clear hyes
        go_wp2
        go_ret
        rw [HR.out]
        exact ⟨rfl, _, rfl⟩
  · have hb : inboxB s.data.toList = false := by
      cases hq : inboxB s.data.toList with
      | false => rfl
      | true => exact absurd (by rw [← len_data]; exact inboxB_len _ hq) h5
    have hr : (⟨(inboxF s.data.toList).toArray⟩ : ByteArray) = s := by
      unfold inboxF
      rw [hb]
      exact hself
    have hne : ((s.size : Int) != 5) = true := by simp; omega
    rw [hr]
    clear hr hb h5
    go_enter Tryd.func14, Tryd.ntmps14
    go_wp2
    go_ret
    exact ⟨rfl, 0, rfl⟩
end Go.Proofs.YtokblnjnbkpchaaDoor
