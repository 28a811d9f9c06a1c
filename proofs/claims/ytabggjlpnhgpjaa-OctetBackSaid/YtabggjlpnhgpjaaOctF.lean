/- Lines, as a scan; what follows for texts put together. -/
import Derived.Test.YtabggjlpnhgpjaaOctE
import Derived.Test.YtabggjlpnhgpjaaOctAw
import Derived.Test.YtabggjlpnhgpjaaAp
import Derived.Lib.IndexMore
set_option linter.unusedVariables false
namespace Go.Proofs.Ytabggjlpnhgpjaa
open Go.RowKit

def scan : List UInt8 → List UInt8 → List (List UInt8)
  | cur, [] => if cur = [] then [] else [cur]
  | cur, [c] => [cur ++ [c]]
  | cur, c :: d :: r => if c = 13 ∧ d = 10 then (cur ++ [13, 10]) :: scan [] r else scan (cur ++ [c]) (d :: r)
theorem scan_index : ∀ (l cur : List UInt8), (Lib.index l [13, 10] = -1 ∧ scan cur l = if cur ++ l = [] then [] else [cur ++ l]) ∨ (∃ k : Nat, Lib.index l [13, 10] = (k : Int) ∧ k + 2 ≤ l.length ∧ scan cur l = (cur ++ l.take (k + 2)) :: scan [] (l.drop (k + 2)))
  | [], cur => .inl ⟨by simp [Lib.index], by simp [scan]⟩
  | [c], cur => .inl ⟨by simp [Lib.index, List.isPrefixOf], by simp [scan]⟩
  | c :: d :: r, cur => by
    by_cases h : c = 13 ∧ d = 10
    · obtain ⟨rfl, rfl⟩ := h
      exact .inr ⟨0, by simp [Lib.index, List.isPrefixOf], by simp, by simp [scan]⟩
    · have hs : scan cur (c :: d :: r) = scan (cur ++ [c]) (d :: r) := by rw [scan, if_neg h]
      have hpre : ([13, 10] : List UInt8).isPrefixOf (c :: d :: r) = false := by
        simp only [List.isPrefixOf, Bool.and_true, Bool.and_eq_false_iff]
        by_cases hc : c = 13
        · right; simp; intro hd; exact h ⟨hc, hd.symm⟩
        · left; simp; intro hd; exact hc hd.symm
      have hi : Lib.index (c :: d :: r) [13, 10] = if Lib.index (d :: r) [13, 10] == -1 then -1 else Lib.index (d :: r) [13, 10] + 1 := by
        rw [Lib.index, if_neg (by rw [hpre]; simp)]
      rcases scan_index (d :: r) (cur ++ [c]) with ⟨h1, h2⟩ | ⟨k, h1, h2, h3⟩
      · exact .inl ⟨by rw [hi, h1]; rfl, by rw [hs, h2]; simp⟩
      · refine .inr ⟨k + 1, ?_, by simp at h2 ⊢; omega, ?_⟩
        · rw [hi, h1, if_neg (by simp)]; omega
        · rw [hs, h3]; simp
theorem linesL_scan : ∀ (n : Nat) (l : List UInt8), l.length ≤ n → linesL l = scan [] l
  | 0, l, h => by
    obtain rfl : l = [] := List.eq_nil_of_length_eq_zero (by omega)
    rfl
  | n + 1, l, h => by
    by_cases h0 : l = []
    · subst h0; rfl
    · rw [linesL_cons l h0]
      have hp := cutLen_pos l h0
      rw [linesL_scan n _ (by rw [List.length_drop]; omega)]
      rcases scan_index l [] with ⟨h1, h2⟩ | ⟨k, h1, h2, h3⟩
      · have hc : cutLen l = l.length := by unfold cutLen; rw [h1, if_neg (by decide)]
        rw [hc, List.take_length, List.drop_length, h2, List.nil_append, if_neg h0]
        rfl
      · have hc : cutLen l = k + 2 := by unfold cutLen; rw [h1, if_pos (by omega)]; omega
        rw [hc, h3, List.nil_append]
theorem scan_append : ∀ (x cur b : List UInt8), scan cur (x ++ 13 :: 10 :: b) = scan cur (x ++ [13, 10]) ++ scan [] b
  | [], cur, b => by simp [scan]
  | [c], cur, b => by
    simp only [List.cons_append, List.nil_append, scan]
    have : ¬ (c = 13 ∧ (13 : UInt8) = 10) := by intro h; exact absurd h.2 (by decide)
    rw [if_neg this, if_neg this]
    simp
  | c :: d :: x, cur, b => by
    have ih1 := scan_append x [] b
    have ih2 := scan_append (d :: x) (cur ++ [c]) b
    simp only [List.cons_append, scan] at ih2 ⊢
    by_cases h : c = 13 ∧ d = 10
    · rw [if_pos h, if_pos h, ih1]; rfl
    · rw [if_neg h, if_neg h, ih2]
theorem linesL_append (x b : List UInt8) : (linesL (x ++ [13, 10] ++ b)).length = (linesL (x ++ [13, 10])).length + (linesL b).length := by
  rw [linesL_scan _ _ (Nat.le_refl _), linesL_scan _ _ (Nat.le_refl _), linesL_scan _ b (Nat.le_refl _)]
  rw [show x ++ [13, 10] ++ b = x ++ 13 :: 10 :: b by simp, scan_append, List.length_append]
theorem linesL_len (l : List UInt8) : (linesL l).length ≤ l.length := by
  have : ∀ f l, (linesF f l).length ≤ l.length := by
    intro f
    induction f with
    | zero => intro l; simp [linesF]
    | succ f ih =>
      intro l
      rw [linesF]
      split
      · simp
      · rename_i h
        have h1 := ih (l.drop (cutLen l))
        have h2 := cutLen_pos l h
        have h3 := cutLen_le l
        rw [List.length_drop] at h1
        simp
        omega
  exact this _ _
theorem RowsB.shape {w : World} {B : Nat} {v : Value} {ls : List (List UInt8)} (h : RowsB w B v ls) : ∃ A cap, v = .slice A ls.length cap := by
  obtain ⟨vs, h1, _⟩ := h
  rcases h1.2 with ⟨rfl, h0⟩ | ⟨g, cap, cur, rfl, _⟩
  · exact ⟨none, 0, by rw [h0]⟩
  · exact ⟨_, cap, rfl⟩
theorem Bts.new0 {e : TypeId} {l : List UInt8} {C : Array Value} (w : World) (hC : ∀ j (h : j < l.length), C[j]? = some (.int .u8 (l[j].toNat : Int))) : Bts e (w.alloc (.cells C e)) w.heap.size l :=
  ⟨C, (0, 0), by simp [World.alloc, -World.alloc_eq], .inr rfl, hC⟩
theorem crlf_new (w : World) : Bts 5 (w.alloc (.cells #[.int .u8 13, .int .u8 10] 5)) w.heap.size [13, 10] := Bts.new0 w fun j hj => by
  match j, hj with
  | 0, _ => rfl
  | 1, _ => rfl
theorem own_empty (w : World) (B : Nat) (hB : B ≤ w.heap.size) : (w.alloc (.cells #[] 5)).ownsRow B 5 1 (.slice (some ⟨w.heap.size, 0, none⟩) 0 0) ([] : List UInt8).length (Lib.byteCells []) :=
  World.ownsRow_made w #[] 0 hB (Nat.zero_le _) rfl

set_option maxHeartbeats 2000000 in
theorem olines_walk (A0 : Option Addr) (l0 : List UInt8) (c0 : Nat) (A1 : Option Addr) (l1 : List UInt8) (c1 : Nat) (w : World) (r0 : Rd w A0 l0) (hc0 : l0.length ≤ c0) (_m0 : c0 ≤ maxLen) (r1 : Rd w A1 l1) (hc1 : l1.length ≤ c1) (_m1 : c1 ≤ maxLen)
    (hm : ∃ m, w.cell? ⟨0, 0, none⟩ = some (.int .i64 m)) (hg : 0 < w.heap.size) :
    Calls Try.prog 5 #[.slice A0 l0.length c0, .slice A1 l1.length c1] w fun e w' => e = .returned (.bool true) ∧ Below w.heap.size w w' := by
  obtain ⟨i0, hi0, hz0, hz1, hz2⟩ := info_parts u8Info
  by_cases h0 : (200 : Int) < (l0.length : Int)
  · go_enter Try.func5, Try.ntmps5
    go_wp2_with (go_at_call 7; refine (awake_any _).mono ?_; rintro e w1 ⟨rfl, b1⟩)
    go_ret
    exact ⟨rfl, b1⟩
  · by_cases h1 : (200 : Int) < (l1.length : Int)
    · go_enter Try.func5, Try.ntmps5
      go_wp2_with (go_at_call 7; refine (awake_any _).mono ?_; rintro e w1 ⟨rfl, b1⟩)
      go_ret
      exact ⟨rfl, b1⟩
    · have HM := Lib.hid hm
      clear hm
      go_enter Try.func5, Try.ntmps5
      go_wp2_with fail
      refine (awake_any _).mono ?_
      rintro e w1 ⟨rfl, b1⟩
      have s1 := b1.size
      have ba := b1.alloc s1 (.cells #[] 5)
      go_wp2_with (at_builtin; refine wpList_append_rd _ rfl _ _ 30 rfl w.heap.size 5 i0 Try.underlying30 hi0 hz0 hz1 hz2 _ [] rfl (own_empty w1 w.heap.size s1) A0 l0 _ _ rfl rfl (r0.below ba) (by simp; omega) (by simp; omega) ?_)
      intro v1 w2 hown1 g1
      have b2 := ba.grown g1 (by simp; omega) (fun k hk => ((own_empty w1 w.heap.size s1).lt k hk).1)
      have s2 := b2.size
      have bb := b2.alloc s2 (.cells #[.int .u8 13, .int .u8 10] 5)
      have hcr := Rd.of_bts (crlf_new w2)
      go_wp2_with (at_builtin; refine wpList_append_rd _ rfl _ _ 30 rfl w.heap.size 5 i0 Try.underlying30 hi0 hz0 hz1 hz2 _ l0 rfl (hown1.alloc _) _ [13, 10] _ _ rfl rfl hcr (by simp; omega) (by simp; omega) ?_)
      intro v2 w3 hown2 g2
      have b3 := bb.grown g2 (by simp; omega) (fun k hk => (hown1.lt k hk).1)
      have s3 := b3.size
      obtain ⟨L, HL, hL, hown2⟩ : ∃ L, Hid (L = l0 ++ [13, 10]) ∧ L.length ≤ 202 ∧ w3.ownsRow w.heap.size 5 1 v2 L.length (Lib.byteCells L) := ⟨l0 ++ [13, 10], rfl, by simp; omega, by rw [List.length_append]; exact hown2⟩
      obtain ⟨A2, c2, rfl, hc2, r2⟩ := Bts.of_own hown2
      have bc := (Below.refl w3.heap.size w3).alloc (Nat.le_refl _) (.cells #[] 5)
      go_wp2_with (at_builtin; refine wpList_append_rd _ rfl _ _ 30 rfl w3.heap.size 5 i0 Try.underlying30 hi0 hz0 hz1 hz2 _ [] rfl (own_empty w3 w3.heap.size (Nat.le_refl _)) A2 L _ _ rfl rfl (r2.below bc) (by simp; omega) (by simp) ?_)
      intro v4 w4 hown4 g4
      have b4 := bc.grown g4 (by simp) (fun k hk => ((own_empty w3 w3.heap.size (Nat.le_refl _)).lt k hk).1)
      have s4 := b4.size
      have b4w := b3.trans (b4.mono s3)
      go_wp2_with (at_builtin; refine wpList_append_rd _ rfl _ _ 30 rfl w3.heap.size 5 i0 Try.underlying30 hi0 hz0 hz1 hz2 _ L rfl hown4 A1 l1 _ _ rfl rfl (r1.below b4w) (by omega) s4 ?_)
      intro v5 w5 hown5 g5
      have b5 := b4.grown g5 s4 (fun k hk => (hown4.lt k hk).1)
      have s5 := b5.size
      have b5w := b3.trans (b5.mono s3)
      obtain ⟨M, HN, hM, hown5⟩ : ∃ M, Hid (M = L ++ l1) ∧ M.length ≤ 402 ∧ w5.ownsRow w3.heap.size 5 1 v5 M.length (Lib.byteCells M) := ⟨L ++ l1, rfl, by simp; omega, by rw [List.length_append]; exact hown5⟩
      obtain ⟨A5, c5, rfl, hc5, r5⟩ := Bts.of_own hown5
      have hm5 : ∃ m, w5.cell? ⟨0, 0, none⟩ = some (.int .i64 m) := by
        obtain ⟨m, hm⟩ := HM.out
        exact ⟨m, (b5w.cell (p := ⟨0, 0, none⟩) hg).trans hm⟩
      have hl5 := Lib.hid (lines_any A5 M c5 w5 r5 hc5 (by omega) hm5 (by omega))
      go_wp2_with fail
      refine hl5.out.mono ?_
      rintro e w6 ⟨v6, rfl, hr6, b6⟩
      obtain ⟨A6, c6, rfl⟩ := hr6.shape
      have b6' := b5.trans (b6.mono s5)
      have s6 := b6'.size
      have b6w := b3.trans (b6'.mono s3)
      have hm6 : ∃ m, w6.cell? ⟨0, 0, none⟩ = some (.int .i64 m) := by
        obtain ⟨m, hm⟩ := HM.out
        exact ⟨m, (b6w.cell (p := ⟨0, 0, none⟩) hg).trans hm⟩
      have hl6 := Lib.hid (lines_any A2 L c2 w6 (r2.below b6') hc2 (by omega) hm6 (by omega))
      have e1 := linesL_len M
      have e2 := linesL_len L
      have e3 := linesL_len l1
      go_wp2_with fail
      refine hl6.out.mono ?_
      rintro e w7 ⟨v7, rfl, hr7, b7⟩
      obtain ⟨A7, c7, rfl⟩ := hr7.shape
      have b7w := b6w.trans (b7.mono (by omega))
      have s7 := b7w.size
      have hm7 : ∃ m, w7.cell? ⟨0, 0, none⟩ = some (.int .i64 m) := by
        obtain ⟨m, hm⟩ := HM.out
        exact ⟨m, (b7w.cell (p := ⟨0, 0, none⟩) hg).trans hm⟩
      have hl7 := Lib.hid (lines_any A1 l1 c1 w7 (r1.below b7w) hc1 (by omega) hm7 (by omega))
      go_wp2_with fail
      refine hl7.out.mono ?_
      rintro e w8 ⟨v8, rfl, hr8, b8⟩
      obtain ⟨A8, c8, rfl⟩ := hr8.shape
      go_wp2
      go_ret
      refine ⟨ret_bool ?_, b7w.trans (b8.mono s7)⟩
      have h := linesL_append l0 l1
      rw [← HL.out, ← HN.out] at h
      simp
      omega
end Go.Proofs.Ytabggjlpnhgpjaa
