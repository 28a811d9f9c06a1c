/- Package rec: Get of a record whose number is below 1. -/
import Derived.Test.YtjhmdgcfdelbkaaDoorRecD
import Derived.Test.YtjhmdgcfdelbkaaDoorRecT
import Derived.Laws.BitsLemmas
set_option linter.unusedVariables false
namespace Go.Proofs.YtjhmdgcfdelbkaaDoor
open Go.RowKit
attribute [local go_sem ↓] Go.wp_at_zero Go.wp_at_succ
set_option maxRecDepth 100000 in
set_option maxHeartbeats 4000000 in
theorem get_neg (g o : Nat) (l : List UInt8) (c sz x : Nat) (w : World) (hr : Rd w (some ⟨g, o, none⟩) l) (hc : l.length ≤ c) (hsz : Hid (beN (l.take 4) = sz)) (hsm : sz ≤ 200000) (hsh : 16 + sz ≤ l.length) (hll : l.length ≤ 1000000) (hx : Hid (beN ((l.drop 4).take 8) = x)) (m : Int) (hxm : IntKind.i64.wrap (x : Int) = m) (hm : m < 1) (E F : Nat) (HE : Hid (E = 12 + sz ∧ F = E + 4)) :
    Calls Tryd.prog 7 #[.slice (some ⟨g, o, none⟩) l.length c] w fun e w' => e = .returned (.tuple #[noRec, .int .i64 0, .int .i64 3]) ∧ Below w.heap.size w w' := by
  have h4' : ¬ (l.length : Int) < 4 := by omega
  have b := (Below.refl w.heap.size w).alloc (Nat.le_refl _) (.cells #[.int .i64 0, .slice none 0 0] 24)
  have s1 := b.size
  have hrb := hr.below b
  have hn := number_any _ (l.take 4) c _ (Rd.take hrb 4) (by rw [List.length_take]; omega)
  rw [List.length_take, Nat.min_eq_left (by omega), hsz.out] at hn
  have HN := Lib.hid hn
  have hn2 := number_any _ ((l.drop 4).take 8) (c - 4) _ (Rd.win hrb 4 8) (by rw [List.length_take]; omega)
  rw [List.length_take, List.length_drop, Nat.min_eq_left (by omega), hx.out] at hn2
  have HN2 := Lib.hid hn2
  have hE1 : E = 12 + sz := HE.out.1
  have hF1 : F = E + 4 := HE.out.2
  have e1 : (12 : Int) + (sz : Int) = (E : Int) := by omega
  have e2 : (E : Int) + 4 = (F : Int) := by omega
  have e3 : F - E = 4 := by omega
  have e4 : E - 12 = sz := by omega
  have hEl : E + 4 ≤ l.length := by omega
  have o1 : (4 : Int) ≤ (c : Int) := by omega
  have o2 : ¬ (l.length : Int) < (F : Int) := by omega
  have o3 : (sz : Int) ≤ 200000 := by omega
  have o4 : (12 : Int) ≤ (c : Int) := by omega
  have o5 : (F : Int) ≤ (c : Int) := by omega
  have o6 : ¬ c = 4 := by omega
  have o7 : ¬ c = 12 := by omega
  have o8 : ¬ c = E := by omega
  have p1 : (E : Int) ≤ (F : Int) := by omega
  have p2 : (E : Int) ≤ (c : Int) := by omega
  have p3 : (0 : Int) ≤ (E : Int) := by omega
  have p4 : (12 : Int) ≤ (E : Int) := by omega
  have p5 : decide (m < 1) = true := by simpa using hm
  clear hn hn2 hE1 hF1 hsh
  go_enter Tryd.func7, Tryd.ntmps7
  go_wp2_with fail
  refine HN.out.mono ?_
  rintro e w1 ⟨rfl, rfl⟩
  go_wp2_with fail
  refine HN2.out.mono ?_
  rintro e w1 ⟨rfl, rfl⟩
  go_wp2_with fail
  go_quiet (fail)
  go_wp2
  refine bodyPost_ret (v := .tuple #[noRec, .int .i64 0, .int .i64 3]) (by simp [results, Tryd.results7, noRec, go_sem]) rfl ⟨rfl, ((below_drewN b _).setCell (p := ⟨w.heap.size, 0, none⟩) (Nat.le_refl _) _).setCell (p := ⟨w.heap.size, 1, none⟩) (Nat.le_refl _) _⟩

/-- Get of a record of which one bit behind its length is turned: EFORM. -/
theorem get_turned (g c num j t : Nat) (body : List UInt8) (w : World) (hj4 : 4 ≤ j) (hj : j < (putR num body).length) (ht : t < 8) (hb : body.length ≤ 100) (hr : Rd w (some ⟨g, 0, none⟩) ((putR num body).set j ((putR num body)[j] ^^^ UInt8.ofNat (2 ^ t)))) (hc : (putR num body).length ≤ c) (hst : Steps w) (hp : 0 < w.heap.size) :
    Calls Tryd.prog 7 #[.slice (some ⟨g, 0, none⟩) (putR num body).length c] w fun e w' => e = .returned (.tuple #[.agg #[.int .i64 0, .slice none 0 0], .int .i64 0, .int .i64 3]) ∧ Below w.heap.size w w' := by
  obtain ⟨h1, h2⟩ := turn.putR_turned num body j t hj4 hj ht (by omega)
  have hlen : ((putR num body).set j ((putR num body)[j] ^^^ UInt8.ofNat (2 ^ t))).length = (putR num body).length := List.length_set ..
  have hpl := putR_len num body
  obtain ⟨l, hl⟩ : ∃ l, (putR num body).set j ((putR num body)[j] ^^^ UInt8.ofNat (2 ^ t)) = l := ⟨_, rfl⟩
  simp only [hl] at h1 h2 hlen hr
  rw [← hlen] at hc hpl ⊢
  have hx8 : beN ((l.drop 4).take 8) < 18446744073709551616 := by
    have h := beN_lt ((l.drop 4).take 8)
    rw [List.length_take, List.length_drop, Nat.min_eq_left (by omega)] at h
    exact h
  have hx0 : ∃ x, beN ((l.drop 4).take 8) = x := ⟨_, rfl⟩
  obtain ⟨x, hx⟩ := hx0
  rw [hx] at hx8
  by_cases hc1 : 1 ≤ x ∧ x < 9223372036854775808
  · refine (get_whole g 0 l c body.length x w hr hc h1 (by omega) (by omega) (by omega) hx hc1.1 hc1.2 hst hp _ _ (12 + body.length) (16 + body.length) ⟨rfl, by omega⟩ rfl rfl).mono ?_
    rintro e w' ⟨h3, _, h4⟩
    exact ⟨h3 h2, h4⟩
  · have hm : ∃ m : Int, IntKind.i64.wrap (x : Int) = m ∧ m < 1 := by
      refine ⟨_, rfl, ?_⟩
      rw [IntKind.wrap_i64]
      omega
    obtain ⟨m, hm1, hm2⟩ := hm
    exact get_neg g 0 l c body.length x w hr hc h1 (by omega) (by omega) (by omega) hx m hm1 hm2 (12 + body.length) (16 + body.length) ⟨rfl, by omega⟩
end Go.Proofs.YtjhmdgcfdelbkaaDoor
