/- Utf7Stars' walk. -/
import Derived.Test.YtokblnjnbkpchaaDoorU7B
import Derived.Test.YtokblnjnbkpchaaDoorU7C
import Derived.Test.YtokblnjnbkpchaaDoorAw8KnW
set_option linter.unusedVariables false
namespace Go.Proofs.YtokblnjnbkpchaaDoor
open Go.RowKit

def BoolPost (b : Bool) (w : World) (e : Ending) (w' : World) : Prop := e = .returned (.bool b) ∧ Below w.heap.size w w'
theorem match_p (p s : ByteArray) (b : Bool) (w : World) (hp : p.size ≤ 1000) (hs : s.size ≤ 1000) (h : matF p.data.toList s.data.toList = b) : Calls Tryd.prog 7 #[.string p, .string s] w (BoolPost b w) := by
  have := match_any p s w hp hs
  rw [h] at this
  exact this
theorem same_p (p : ByteArray) (b : Bool) (w : World) (hp : p.size ≤ 1000) (h : matF p.data.toList inboxN = b) : Calls Tryd.prog 9 #[.string p] w (BoolPost b w) := by
  have hm := fun W => match_p p ⟨#[73, 78, 66, 79, 88]⟩ b W hp (by decide) h
  go_enter Tryd.func9, Tryd.ntmps9
  go_wp2_with ((with_reducible refine (hm _).mono ?_))
  rintro _ w1 ⟨rfl, b1⟩
  go_wp2
  go_ret
  exact ⟨rfl, b1⟩
theorem plus_star (p : ByteArray) : (p ++ ⟨#[42]⟩ : ByteArray).data.toList = p.data.toList ++ [42] := by simp [ByteArray.data_append]
theorem above_all (l : List UInt8) : (l.all fun d => !(d == 47)) = !(decide ((47 : UInt8) ∈ l)) := by
  rw [Bool.eq_iff_iff, List.all_eq_true, Bool.not_eq_true', decide_eq_false_iff_not]
  constructor
  · intro h hm
    have := h 47 hm
    simp at this
  · intro h x hx
    rw [Bool.not_eq_true', beq_eq_false_iff_ne]
    rintro rfl
    exact h hx
def ParPost (b : Bool) (w : World) (e : Ending) (w' : World) : Prop := ∃ q : ByteArray, e = .returned (.tuple #[.string q, .bool b]) ∧ w' = w
theorem parent_p (s : ByteArray) (w : World) (hs : s.size ≤ 1000000) : Calls Tryd.prog 8 #[.string s] w (ParPost (decide ((47 : UInt8) ∈ s.data.toList)) w) := by
  rcases last_split s.data.toList with h | ⟨p, r, h, hr⟩
  · rw [decide_eq_false h]
    exact (parent_none s w hs h).mono fun e w' ⟨h1, h2⟩ => ⟨_, h1, h2⟩
  · rw [decide_eq_true (by rw [h]; simp)]
    exact (parent_some s p r w hs h hr).mono fun e w' ⟨h1, h2⟩ => ⟨_, h1, h2⟩

set_option maxRecDepth 100000 in
set_option maxHeartbeats 2000000 in
theorem stars_walk (p s : ByteArray) (w : World) (hp : p.size ≤ maxLen) (hs : s.size ≤ maxLen) (ht : Lib.Utf8Tabs 0 1 w)
    (hm : ∃ m, w.cell? ⟨2, 0, none⟩ = some (.int .i64 m)) (hg : 2 < w.heap.size) :
    Calls Tryd.prog 3 #[.string p, .string s] w fun e w' => e = .returned (.bool true) ∧ Below w.heap.size w w' := by
  have he : U7E w := ⟨ht, hm⟩
  have haw := aw8Walk w ht hm hg
  unfold maxLen at hp hs
  clear ht hm hg
  by_cases h60 : 60 < p.size
  · have e1 : (60 : Int) < (p.size : Int) := by omega
    go_enter Tryd.func3, Tryd.ntmps3
    go_wp2_with ((with_reducible refine haw.mono ?_))
    first | (rintro _ w1 rfl b1) | (rintro _ w1 ⟨rfl, b1⟩)
    go_wp2
    go_ret
    exact ⟨rfl, b1⟩
  have e1 : ¬ (60 : Int) < (p.size : Int) := by omega
  by_cases h100 : 100 < s.size
  · have e2 : (100 : Int) < (s.size : Int) := by omega
    go_enter Tryd.func3, Tryd.ntmps3
    go_wp2_with ((with_reducible refine haw.mono ?_))
    first | (rintro _ w1 rfl b1) | (rintro _ w1 ⟨rfl, b1⟩)
    go_wp2
    go_ret
    exact ⟨rfl, b1⟩
  have e2 : ¬ (100 : Int) < (s.size : Int) := by omega
  have hgood : ∀ b, goodF s.data.toList = b → ∀ W, Below w.heap.size w W → Calls Tryd.prog 6 #[.string s] W (BoolPost b W) := fun b hb W hW => by
    have := good_any s W (by omega) (he.below hW)
    rw [hb] at this
    exact this
  cases hq : goodF s.data.toList with
  | false =>
    have hgd := hgood false hq
    clear hgood hq
    go_enter Tryd.func3, Tryd.ntmps3
    go_wp2_with ((with_reducible refine haw.mono ?_))
    first | (rintro _ w1 rfl b1) | (rintro _ w1 ⟨rfl, b1⟩)
    go_wp2_with ((with_reducible refine (hgd _ b1).mono ?_))
    rintro _ w2 ⟨rfl, b2⟩
    go_wp2
    go_ret
    exact ⟨rfl, b1.trans (b2.mono b1.size)⟩
  | true =>
    have hgd := hgood true hq
    have hpl := good_plain _ hq
    have m1 := fun W => match_p s s true W (by omega) (by omega) (mat_same _ hpl)
    have m2 := fun W => match_p ⟨#[42]⟩ s true W (by decide) (by omega) (mat_star _)
    have m3 := fun W => match_p ⟨#[42, 42, 42]⟩ s true W (by decide) (by omega) (mat_stars _)
    have m4 := fun W => match_p ⟨#[37]⟩ s _ W (by decide) (by omega) ((mat_pct _).trans (above_all _))
    have pp := fun W => parent_p s W (by omega)
    generalize decide ((47 : UInt8) ∈ s.data.toList) = ab at m4 pp
    have m5 := fun b (hb : matF p.data.toList s.data.toList = b) W => match_p p s b W (by omega) (by omega) hb
    have m6 := fun b (hb : matF (p.data.toList ++ [42]) s.data.toList = b) W => match_p (p ++ ⟨#[42]⟩) s b W (by rw [ByteArray.size_append]; have : (⟨#[42]⟩ : ByteArray).size = 1 := rfl; omega) (by omega) (by rw [plus_star]; exact hb)
    have m7 := fun b (hb : matF p.data.toList inboxN = b) W => same_p p b W (by omega) hb
    have HM := Lib.hid (mat_more p.data.toList s.data.toList)
    clear hgood hq hpl
    have hb1 := fun W (h : Below w.heap.size w W) => h
    go_enter Tryd.func3, Tryd.ntmps3
    go_wp2_with ((with_reducible refine haw.mono ?_))
    first | (rintro _ w1 rfl b1) | (rintro _ w1 ⟨rfl, b1⟩)
    go_wp2_with ((with_reducible refine (hgd _ b1).mono ?_))
    rintro _ w2 ⟨rfl, b2⟩
    have c2 := b1.trans (b2.mono b1.size)
    clear b1 b2
    go_wp2_with ((with_reducible refine (m1 _).mono ?_))
    rintro _ w3 ⟨rfl, b3⟩
    have c3 := c2.trans (b3.mono c2.size)
    clear b3 c2
    go_wp2_with ((with_reducible refine (m2 _).mono ?_))
    rintro _ w4 ⟨rfl, b4⟩
    have c4 := c3.trans (b4.mono c3.size)
    clear b4 c3
    go_wp2_with ((with_reducible refine (m3 _).mono ?_))
    rintro _ w5 ⟨rfl, b5⟩
    have c5 := c4.trans (b5.mono c4.size)
    clear b5 c4
    go_wp2_with ((with_reducible refine (pp _).mono ?_))
    rintro _ w6 ⟨q, rfl, rfl⟩
    go_wp2_with ((with_reducible refine (m4 _).mono ?_))
    rintro _ w7 ⟨rfl, b7⟩
    have c7 := c5.trans (b7.mono c5.size)
    clear b7 c5 m1 m2 m3 m4 pp hgd haw
    have hcat : (9223372036854775807 < p.size + 1) = False := by simp; omega
    have hcat2 : (IntKind.i64.max < (p.size : Int) + 1) = False := by simp [IntKind.max, IntKind.bits, IntKind.signed]; omega
    have key : ∀ ab' : Bool, ab = ab' → ((!ab') == (!ab')) = true := fun a _ => by cases a <;> rfl
    have hab := key ab rfl
    clear key
    cases h5 : matF p.data.toList s.data.toList with
    | false =>
      have n5 := m5 false h5
      clear m5 m6 m7 h5
      cases ab <;> (
        go_wp2_with ((with_reducible refine (n5 _).mono ?_))
        rintro _ w8 ⟨rfl, b8⟩
        go_wp2
        go_ret
        exact ⟨rfl, c7.trans (b8.mono c7.size)⟩)
    | true =>
      have n5 := m5 true h5
      have hmm := HM.out h5
      cases h6 : matF (p.data.toList ++ [42]) s.data.toList with
      | true =>
        have n6 := m6 true h6
        clear m5 m6 m7 h5 h6 hmm
        cases ab <;> (
          go_wp2_with ((with_reducible refine (n5 _).mono ?_))
          rintro _ w8 ⟨rfl, b8⟩
          have c8 := c7.trans (b8.mono c7.size)
          clear b8
          go_wp2_with ((with_reducible refine (n6 _).mono ?_))
          rintro _ w9 ⟨rfl, b9⟩
          go_wp2
          go_ret
          exact ⟨rfl, c8.trans (b9.mono c8.size)⟩)
      | false =>
        have n6 := m6 false h6
        have n7 := m7 true (by
          rcases hmm with h | h
          · rw [h6] at h; cases h
          · exact h)
        clear m5 m6 m7 h5 h6 hmm
        cases ab <;> (
          go_wp2_with ((with_reducible refine (n5 _).mono ?_))
          rintro _ w8 ⟨rfl, b8⟩
          have c8 := c7.trans (b8.mono c7.size)
          clear b8
          go_wp2_with ((with_reducible refine (n6 _).mono ?_))
          rintro _ w9 ⟨rfl, b9⟩
          have c9 := c8.trans (b9.mono c8.size)
          clear b9
          go_wp2_with ((with_reducible refine (n7 _).mono ?_))
          rintro _ w10 ⟨rfl, b10⟩
          go_wp2
          go_ret
          exact ⟨rfl, c9.trans (b10.mono c9.size)⟩)
end Go.Proofs.YtokblnjnbkpchaaDoor
