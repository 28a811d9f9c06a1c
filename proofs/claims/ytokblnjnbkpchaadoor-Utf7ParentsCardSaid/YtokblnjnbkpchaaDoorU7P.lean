/- Utf7Parents' walk. -/
import Derived.Test.YtokblnjnbkpchaaDoorU7S
import Derived.Deep.LoopGhost
set_option linter.unusedVariables false
namespace Go.Proofs.YtokblnjnbkpchaaDoor
open Go.RowKit

theorem plus_sl (p : List UInt8) (c : UInt8) : ((⟨p.toArray⟩ : ByteArray) ++ ⟨#[47, c]⟩ : ByteArray).data.toList = p ++ [47, c] := by simp [ByteArray.data_append]
theorem cut_one (s : ByteArray) (p r : List UInt8) (h : s.data.toList = p ++ 47 :: r) : s.extract 0 (p.length + 1) = (⟨p.toArray⟩ : ByteArray) ++ ⟨#[47]⟩ := by
  apply ByteArray.ext
  apply Array.toList_inj.1
  rw [ByteArray.data_extract, Array.toList_extract, h, ByteArray.data_append]
  simp [List.take_append]
  exact List.take_of_length_le (by omega)
def OwnPar (Y : ByteArray) (w : World) (e : Ending) (w' : World) : Prop := e = .returned (.tuple #[.string Y, .bool true]) ∧ w' = w
def NoPar (w : World) (e : Ending) (w' : World) : Prop := e = .returned (.tuple #[.string ⟨#[]⟩, .bool false]) ∧ w' = w

set_option maxRecDepth 100000 in
set_option maxHeartbeats 2000000 in
theorem parents_walk (s : ByteArray) (w : World) (hs : s.size ≤ maxLen) (ht : Lib.Utf8Tabs 0 1 w)
    (hm : ∃ m, w.cell? ⟨2, 0, none⟩ = some (.int .i64 m)) (hg : 2 < w.heap.size) :
    Calls Tryd.prog 4 #[.string s] w fun e w' => e = .returned (.bool true) ∧ Below w.heap.size w w' := by
  have he : U7E w := ⟨ht, hm⟩
  have haw := aw8Walk w ht hm hg
  unfold maxLen at hs
  clear ht hm hg
  by_cases h100 : 100 < s.size
  · have e2 : (100 : Int) < (s.size : Int) := by omega
    go_enter Tryd.func4, Tryd.ntmps4
    go_wp2_with ((with_reducible refine haw.mono ?_))
    first | (rintro _ w1 rfl b1) | (rintro _ w1 ⟨rfl, b1⟩)
    go_wp2
    go_ret
    exact ⟨rfl, b1⟩
  have e2 : ¬ (100 : Int) < (s.size : Int) := by omega
  have hgood : ∀ (S : ByteArray) b, S.size ≤ 1000 → goodF S.data.toList = b → ∀ W, Below w.heap.size w W → Calls Tryd.prog 6 #[.string S] W (BoolPost b W) := fun S b hS hb W hW => by
    have := good_any S W (by omega) (he.below hW)
    rw [hb] at this
    exact this
  cases hq : goodF s.data.toList with
  | false =>
    have hgd := hgood s false (by omega) hq
    clear hgood hq
    go_enter Tryd.func4, Tryd.ntmps4
    go_wp2_with ((with_reducible refine haw.mono ?_))
    first | (rintro _ w1 rfl b1) | (rintro _ w1 ⟨rfl, b1⟩)
    go_wp2_with ((with_reducible refine (hgd _ b1).mono ?_))
    rintro _ w2 ⟨rfl, b2⟩
    go_wp2
    go_ret
    exact ⟨rfl, b1.trans (b2.mono b1.size)⟩
  | true =>
    have hgd := hgood s true (by omega) hq
    have HQ := Lib.hid hq
    have HGD := Lib.hid hgood
    clear hgood hq
    go_enter Tryd.func4, Tryd.ntmps4
    go_wp2_with ((with_reducible refine haw.mono ?_))
    first | (rintro _ w1 rfl b1) | (rintro _ w1 ⟨rfl, b1⟩)
    go_wp2_with ((with_reducible refine (hgd _ b1).mono ?_))
    rintro _ w2 ⟨rfl, b2⟩
    have c2 := b1.trans (b2.mono b1.size)
    clear b1 b2 hgd haw
    go_wp2
    go_loopg [0, 3] 100 (fun g S i wr => ∃ (k : Nat) (X : ByteArray), k + g = 100 ∧ i = .int .i64 (k : Int) ∧ S = .string X ∧ Hid (goodF X.data.toList = true) ∧ X.size + k ≤ 100 ∧ Below w.heap.size w wr)
    case atStart => exact ⟨0, s, rfl, rfl, rfl, HQ.out, by omega, c2⟩
    case round =>
      obtain ⟨k, X, hk, rfl, rfl, HX, hxk, hB⟩ := hrel
      clear c2 hs h100 e2 HQ
      have hx0 : X.size ≠ 0 := by
        have h := HX.out
        unfold goodF at h
        simp only [Bool.and_eq_true, decide_eq_true_eq] at h
        rw [← len_data]
        exact h.1.1.1.1.1.1
      have e1 : (k : Int) < 100 := by omega
      cases gk with
      | zero => omega
      | succ g =>
        rcases last_split X.data.toList with hn | ⟨p, r, hp, hr⟩
        · have hpar : ∀ W, Calls Tryd.prog 8 #[.string X] W (NoPar W) := fun W => parent_none X W (by omega) hn
          clear hn
          go_wp2_with ((with_reducible refine (hpar _).mono ?_))
          rintro _ w3 ⟨rfl, rfl⟩
          go_wp2
          go_ret
          exact ⟨rfl, hB⟩
        · have hpar : ∀ W, Calls Tryd.prog 8 #[.string X] W (OwnPar ⟨p.toArray⟩ W) := fun W => parent_some X p r W (by omega) hp hr
          have hg1 := HX.out
          rw [hp] at hg1
          obtain ⟨hg2, hp0⟩ := good_above p r hg1 hr
          have hpl := good_plain p hg2
          have hsz : X.size = p.length + 1 + r.length := by
            have := len_data X
            rw [hp] at this
            simp at this
            omega
          have hps : (⟨p.toArray⟩ : ByteArray).size = p.length := by show p.toArray.size = _; simp
          have hcg := HGD.out ⟨p.toArray⟩ true (by rw [hps]; omega) hg2
          have hsz2 : ((⟨p.toArray⟩ : ByteArray) ++ ⟨#[47, 37]⟩ : ByteArray).size ≤ 1000 := by rw [ByteArray.size_append, hps]; have : (⟨#[47, 37]⟩ : ByteArray).size = 2 := rfl; omega
          have hsz3 : ((⟨p.toArray⟩ : ByteArray) ++ ⟨#[47, 42]⟩ : ByteArray).size ≤ 1000 := by rw [ByteArray.size_append, hps]; have : (⟨#[47, 42]⟩ : ByteArray).size = 2 := rfl; omega
          have m1 := fun W => match_p ((⟨p.toArray⟩ : ByteArray) ++ ⟨#[47, 37]⟩) X true W hsz2 (by omega) (by
            rw [plus_sl, hp]
            exact mat_below p r 37 rfl hpl (fun d hd => by
              unfold okW
              have : d ≠ 47 := by rintro rfl; exact hr hd
              simp [this]))
          have m2 := fun W => match_p ((⟨p.toArray⟩ : ByteArray) ++ ⟨#[47, 42]⟩) X true W hsz3 (by omega) (by
            rw [plus_sl, hp]
            exact mat_below p r 42 rfl hpl (fun d hd => rfl))
          have hcut := cut_one X p r hp
          have HG2 : Hid (goodF (⟨p.toArray⟩ : ByteArray).data.toList = true) := hg2
          rw [← hps] at hcut hsz
          generalize (⟨p.toArray⟩ : ByteArray) = Y at *
          clear hp hr hg1 hg2 hp0 hpl hps HGD hx0
          have f1 : ¬ (X.size : Int) ≤ (Y.size : Int) := by omega
          have f2 : (Y.size : Int) + 1 ≤ (X.size : Int) := by omega
          have k1 : (9223372036854775807 < Y.size + 1) = False := by simp; omega
          have k2 : (IntKind.i64.max < (Y.size : Int) + 1) = False := by simp [IntKind.max, IntKind.bits, IntKind.signed]; omega
          have k3 : (9223372036854775807 < Y.size + 2) = False := by simp; omega
          have k4 : (IntKind.i64.max < (Y.size : Int) + 2) = False := by simp [IntKind.max, IntKind.bits, IntKind.signed]; omega
          have HSZ := Lib.hid hsz
          clear hsz
          go_wp2_with ((with_reducible refine (hpar _).mono ?_))
          rintro _ w3 ⟨rfl, rfl⟩
          go_wp2_with ((with_reducible refine (hcg _ hB).mono ?_))
          rintro _ w4 ⟨rfl, b4⟩
          have c4 := hB.trans (b4.mono hB.size)
          clear b4 hB
          go_wp2_with ((with_reducible refine (m1 _).mono ?_))
          rintro _ w5 ⟨rfl, b5⟩
          have c5 := c4.trans (b5.mono c4.size)
          clear b5 c4
          go_wp2_with ((with_reducible refine (m2 _).mono ?_))
          rintro _ w6 ⟨rfl, b6⟩
          have c6 := c5.trans (b6.mono c5.size)
          clear b6 c5
          go_wp2
          go_roundg g
          case measure => omega
          case rel => exact ⟨k + 1, Y, by omega, by go_num, rfl, HG2.out, by have := HSZ.out; omega, c6⟩
end Go.Proofs.YtokblnjnbkpchaaDoor
