/- Records one behind the other and what Scan finds of them when the bytes are cut: mathematics. -/
import Derived.Test.YtpmipnhfbmbjeaaDoorRecS
import Derived.Test.YtpmipnhfbmbjeaaDoorRecT
set_option linter.unusedVariables false
namespace Go.Proofs.YtpmipnhfbmbjeaaDoor
open turn

theorem beN_lt4 (s : Nat) (h : s < 4294967296) : s < 256 ^ 4 := Nat.lt_of_lt_of_eq h (by decide)
theorem beN_lt8 (s : Nat) (h : s < 9223372036854775808) : s < 256 ^ 8 := Nat.lt_trans h (by decide)
/-- Get at a whole record, whatever follows. -/
theorem get_put (num : Nat) (body r : List UInt8) (hb : body.length ≤ 200000) (h1 : 1 ≤ num) (h2 : num < 9223372036854775808) :
    getSz (putR num body ++ r) = body.length ∧ getNum (putR num body ++ r) = num ∧ getBody (putR num body ++ r) = body ∧ getE (putR num body ++ r) = 0 := by
  have hl := putR_len num body
  have hh := headR_len num body
  have e0 : putR num body ++ r = be 4 body.length ++ (be 8 num ++ (body ++ (be 4 (crcAdd 0 (headR num body)) ++ r))) := by simp [putR, headR]
  have hsz : getSz (putR num body ++ r) = body.length := by
    unfold getSz
    rw [e0, List.take_left' (be_len 4 _), beN_be 4 _ (beN_lt4 _ (by omega))]
  have hnum : getNum (putR num body ++ r) = num := by
    unfold getNum
    rw [e0, List.drop_left' (be_len 4 _), List.take_left' (be_len 8 _), beN_be 8 _ (beN_lt8 _ h2)]
  have hbody : getBody (putR num body ++ r) = body := by
    unfold getBody
    rw [hsz]
    have e1 : putR num body ++ r = (be 4 body.length ++ be 8 num) ++ (body ++ (be 4 (crcAdd 0 (headR num body)) ++ r)) := by simp [putR, headR]
    rw [e1, List.drop_left' (by simp [be_len]), List.take_left]
  refine ⟨hsz, hnum, hbody, ?_⟩
  have hlen : (putR num body ++ r).length = 16 + body.length + r.length := by rw [List.length_append, hl]
  have hE : (putR num body ++ r).take (12 + body.length) = headR num body := by
    rw [putR, List.append_assoc, List.take_left' hh]
  have hD : ((putR num body ++ r).drop (12 + body.length)).take 4 = be 4 (crcAdd 0 (headR num body)) := by
    rw [putR, List.append_assoc, List.drop_left' hh, List.take_left' (be_len 4 _)]
  unfold getE
  rw [hsz, hnum, hE, hD, beN_be 4 _ (beN_lt4 _ (crcAdd_lt 0 _ (by decide)))]
  rw [if_neg (by omega), if_neg (by omega), if_neg (by omega), if_neg (by omega), if_pos rfl]
/-- Get at a record that is cut. -/
theorem get_cut (num : Nat) (body r : List UInt8) (cut : Nat) (hb : body.length ≤ 200000) (hc : cut < 16 + body.length) : ¬ getE ((putR num body ++ r).take cut) = 0 := by
  have hl := putR_len num body
  have hlen : ((putR num body ++ r).take cut).length = cut := by rw [List.length_take, List.length_append, hl]; omega
  intro h
  have h0 := getE_0 h
  by_cases h4 : cut < 4
  · omega
  · have hsz : getSz ((putR num body ++ r).take cut) = body.length := by
      unfold getSz
      rw [List.take_take, Nat.min_eq_left (by omega)]
      have e0 : putR num body ++ r = be 4 body.length ++ (be 8 num ++ (body ++ (be 4 (crcAdd 0 (headR num body)) ++ r))) := by simp [putR, headR]
      rw [e0, List.take_left' (be_len 4 _), beN_be 4 _ (beN_lt4 _ (by omega))]
    rw [hsz, hlen] at h0
    omega

/-- The records of a list of bodies, numbered from n on. -/
def catR : Nat → List (List UInt8) → List UInt8
  | _, [] => []
  | n, x :: xs => putR n x ++ catR (n + 1) xs
def totR : List (List UInt8) → Nat
  | [] => 0
  | x :: xs => 16 + x.length + totR xs
def fitR : List (List UInt8) → Nat → Nat
  | [], _ => 0
  | x :: xs, cut => if 16 + x.length ≤ cut then fitR xs (cut - (16 + x.length)) + 1 else 0
def numR : Nat → List (List UInt8) → List (Int × List UInt8)
  | _, [] => []
  | n, x :: xs => ((n : Int), x) :: numR (n + 1) xs
theorem catR_len : ∀ (n : Nat) (xs : List (List UInt8)), (catR n xs).length = totR xs
  | _, [] => rfl
  | n, x :: xs => by simp only [catR, totR, List.length_append, putR_len, catR_len (n + 1) xs]
theorem catR_snoc : ∀ (n : Nat) (xs : List (List UInt8)) (x : List UInt8), catR n (xs ++ [x]) = catR n xs ++ putR (n + xs.length) x
  | n, [], x => by simp [catR]
  | n, y :: xs, x => by
    simp only [List.cons_append, catR, catR_snoc (n + 1) xs x, List.length_cons, List.append_assoc]
    rw [show n + 1 + xs.length = n + (xs.length + 1) by omega]
theorem totR_snoc : ∀ (xs : List (List UInt8)) (x : List UInt8), totR (xs ++ [x]) = totR xs + (16 + x.length)
  | [], x => by simp [totR]
  | y :: xs, x => by simp only [List.cons_append, totR, totR_snoc xs x]; omega
theorem fitR_snoc : ∀ (xs : List (List UInt8)) (x : List UInt8) (cut : Nat), fitR (xs ++ [x]) cut = if totR (xs ++ [x]) ≤ cut then xs.length + 1 else fitR xs cut
  | [], x, cut => by simp [fitR, totR]
  | y :: xs, x, cut => by
    simp only [List.cons_append, fitR, totR, fitR_snoc xs x, totR_snoc, List.length_cons]
    by_cases h : 16 + y.length ≤ cut
    · rw [if_pos h, if_pos h]
      by_cases h2 : totR xs + (16 + x.length) ≤ cut - (16 + y.length)
      · rw [if_pos h2, if_pos (by omega)]
      · rw [if_neg h2, if_neg (by omega)]
    · rw [if_neg h, if_neg h, if_neg (by omega)]
theorem fitR_le : ∀ (xs : List (List UInt8)) (cut : Nat), fitR xs cut ≤ xs.length
  | [], _ => Nat.le_refl _
  | x :: xs, cut => by
    simp only [fitR, List.length_cons]
    split
    · have := fitR_le xs (cut - (16 + x.length)); omega
    · omega
theorem numR_len : ∀ (n : Nat) (xs : List (List UInt8)), (numR n xs).length = xs.length
  | _, [] => rfl
  | n, x :: xs => by simp [numR, numR_len (n + 1) xs]
theorem numR_get : ∀ (n : Nat) (xs : List (List UInt8)) (i : Nat) (h : i < (numR n xs).length) (h' : i < xs.length), (numR n xs)[i] = (((n + i : Nat) : Int), xs[i])
  | n, x :: xs, 0, _, _ => by simp [numR]
  | n, x :: xs, i + 1, h, h' => by
    simp only [numR, List.getElem_cons_succ]
    rw [numR_get (n + 1) xs i _ (by simpa using h')]
    rw [show n + 1 + i = n + (i + 1) by omega]
  | _, [], i, h, h' => absurd h' (by simp)
theorem scan_cut : ∀ (xs : List (List UInt8)) (n cut : Nat), 1 ≤ n → n + xs.length < 9223372036854775807 → (∀ x ∈ xs, x.length ≤ 200000) →
    scanS ((catR n xs).take cut) (n : Int) = (numR n (xs.take (fitR xs cut)), totR (xs.take (fitR xs cut)))
  | [], n, cut, _, _, _ => by
    simp only [catR, List.take_nil, fitR, numR, totR]
    exact scanS_no _ _ (fun h => absurd h.1 (by decide))
  | x :: xs, n, cut, h1, h2, hx => by
    have hxl := hx x (by simp)
    simp only [catR, fitR]
    simp only [List.length_cons] at h2
    by_cases hc : 16 + x.length ≤ cut
    · rw [if_pos hc]
      have e : (putR n x ++ catR (n + 1) xs).take cut = putR n x ++ (catR (n + 1) xs).take (cut - (16 + x.length)) := by
        rw [List.take_append, putR_len, List.take_of_length_le (by rw [putR_len]; exact hc)]
      obtain ⟨g1, g2, g3, g4⟩ := get_put n x ((catR (n + 1) xs).take (cut - (16 + x.length))) hxl h1 (by omega)
      have hd : (putR n x ++ (catR (n + 1) xs).take (cut - (16 + x.length))).drop (16 + x.length) = (catR (n + 1) xs).take (cut - (16 + x.length)) := List.drop_left' (putR_len n x)
      rw [e, scanS_more _ _ ⟨g4, by rw [g2]⟩ (by omega), g3, hd]
      rw [show (n : Int) + 1 = ((n + 1 : Nat) : Int) by omega, scan_cut xs (n + 1) (cut - (16 + x.length)) (by omega) (by omega) (fun y hy => hx y (by simp [hy]))]
      simp only [List.take_succ_cons, numR, totR]
    · rw [if_neg hc]
      simp only [List.take_zero, numR, totR]
      exact scanS_no _ _ (fun h => get_cut n x _ cut hxl (by omega) h.1)
theorem totR_fit : ∀ (xs : List (List UInt8)) (cut : Nat), totR (xs.take (fitR xs cut)) ≤ cut
  | [], _ => by simp [fitR, totR]
  | x :: xs, cut => by
    simp only [fitR]
    by_cases h : 16 + x.length ≤ cut
    · rw [if_pos h]
      simp only [List.take_succ_cons, totR]
      have := totR_fit xs (cut - (16 + x.length))
      omega
    · rw [if_neg h]
      simp [totR]
theorem totR_take (xs : List (List UInt8)) (k : Nat) (h : k < xs.length) : totR (xs.take (k + 1)) = totR (xs.take k) + (16 + xs[k].length) := by
  rw [List.take_succ_eq_append_getElem h, totR_snoc]
theorem totR_bound : ∀ (xs : List (List UInt8)), (∀ x ∈ xs, x.length ≤ 100) → totR xs ≤ 116 * xs.length
  | [], _ => Nat.le_refl _
  | x :: xs, h => by
    have h1 := h x (by simp)
    have h2 := totR_bound xs (fun y hy => h y (by simp [hy]))
    simp only [totR, List.length_cons]
    omega
end Go.Proofs.YtpmipnhfbmbjeaaDoor
