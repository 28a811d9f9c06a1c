/- Base64 read, without the blanks. Plain mathematics. -/
import Derived.Test.YtofgkahldhelaaaDoorCdK
set_option linter.unusedVariables false
namespace Go.Proofs.YtofgkahldhelaaaDoor
open Go.RowKit

theorem fbRun_ws (s : St) (c : UInt8) (r : List UInt8) (h : isWs c = true) : fbRun s (c :: r) = fbRun s r := by
  simp [fbRun, fbStep, h]
theorem fbRun_filter : ∀ (l : List UInt8) (s : St), fbRun s l = fbRun s (l.filter fun c => !isWs c)
  | [], s => rfl
  | c :: r, s => by
    by_cases h : isWs c = true
    · rw [fbRun_ws s c r h, List.filter_cons_of_neg (by simp [h])]
      exact fbRun_filter r s
    · rw [List.filter_cons_of_pos (by simp [h])]
      have e : ∀ x, fbRun s (c :: x) = (fbStep s c).bind fun t => fbRun t x := by
        intro x
        simp only [fbRun]
        cases fbStep s c <;> rfl
      rw [e, e]
      congr 1
      funext t
      exact fbRun_filter r t
/-- The same, group by group, of letters without blanks. -/
def gB : List UInt8 → Option (List UInt8)
  | [] => some []
  | c0 :: c1 :: c2 :: c3 :: r =>
    match ung [c0, c1, c2, c3] with
    | none => none
    | some t => if t.length < 3 ∧ r ≠ [] then none else (gB r).map (t ++ ·)
  | _ => none
theorem fbRun_part (o x r : List UInt8) (e : Bool) (c : UInt8) (h : isWs c = false) (hx : x.length + 1 < 4) : fbRun ⟨o, x, e⟩ (c :: r) = fbRun ⟨o, x ++ [c], e⟩ r := by
  simp [fbRun, fbStep, h, hx]
theorem fbRun_group (o r : List UInt8) (e : Bool) (c0 c1 c2 c3 : UInt8) (h0 : isWs c0 = false) (h1 : isWs c1 = false) (h2 : isWs c2 = false) (h3 : isWs c3 = false) :
    fbRun ⟨o, [], e⟩ (c0 :: c1 :: c2 :: c3 :: r) = (match ung [c0, c1, c2, c3] with | none => none | some t => if e then none else fbRun ⟨o ++ t, [], decide (t.length < 3)⟩ r) := by
  rw [fbRun_part o [] _ e c0 h0 (by simp), fbRun_part o _ _ e c1 h1 (by simp), fbRun_part o _ _ e c2 h2 (by simp)]
  simp only [fbRun, fbStep, h3, List.nil_append, List.cons_append]
  cases ung [c0, c1, c2, c3] with
  | none => simp
  | some t => cases e <;> simp
theorem fin_gB : ∀ (n : Nat) (f o : List UInt8) (e : Bool), f.length ≤ n → (∀ c ∈ f, isWs c = false) → fin (fbRun ⟨o, [], e⟩ f) = if e = true ∧ f ≠ [] then none else (gB f).map (o ++ ·)
  | _, [], o, e, _, _ => by simp [fbRun, fin, gB]
  | _, [c0], o, e, _, h => by
    rw [fbRun_part o [] _ e c0 (h c0 (by simp)) (by simp)]
    simp [fbRun, fin, gB]
  | _, [c0, c1], o, e, _, h => by
    rw [fbRun_part o [] _ e c0 (h c0 (by simp)) (by simp), fbRun_part o _ _ e c1 (h c1 (by simp)) (by simp)]
    simp [fbRun, fin, gB]
  | _, [c0, c1, c2], o, e, _, h => by
    rw [fbRun_part o [] _ e c0 (h c0 (by simp)) (by simp), fbRun_part o _ _ e c1 (h c1 (by simp)) (by simp), fbRun_part o _ _ e c2 (h c2 (by simp)) (by simp)]
    simp [fbRun, fin, gB]
  | 0, _ :: _ :: _ :: _ :: _, _, _, h, _ => by simp at h
  | n + 1, c0 :: c1 :: c2 :: c3 :: r, o, e, hn, h => by
    rw [fbRun_group o r e c0 c1 c2 c3 (h c0 (by simp)) (h c1 (by simp)) (h c2 (by simp)) (h c3 (by simp)), gB]
    cases hu : ung [c0, c1, c2, c3] with
    | none => simp [fin]
    | some t =>
      cases e with
      | true => simp [fin]
      | false =>
        have ih := fin_gB n r (o ++ t) (decide (t.length < 3)) (by simp at hn; omega) (fun c hc => h c (by simp [hc]))
        simp only [Bool.false_eq_true, if_false, false_and]
        rw [ih]
        by_cases hc : t.length < 3 ∧ r ≠ []
        · rw [if_pos hc, if_pos ⟨decide_eq_true hc.1, hc.2⟩]
          rfl
        · rw [if_neg hc, if_neg (by intro h2; exact hc ⟨of_decide_eq_true h2.1, h2.2⟩)]
          cases gB r with
          | none => rfl
          | some y => simp
theorem fromB64_gB (l : List UInt8) : fromB64 l = gB (l.filter fun c => !isWs c) := by
  rw [fromB64, fbRun_filter, fin_gB _ _ [] false (Nat.le_refl _) (fun c hc => by simpa using (List.mem_filter.1 hc).2)]
  simp
end Go.Proofs.YtofgkahldhelaaaDoor
