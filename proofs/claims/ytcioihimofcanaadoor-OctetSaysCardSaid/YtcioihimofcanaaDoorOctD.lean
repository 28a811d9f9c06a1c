/- Package octet: Unquote; what 'awake' of layer 1 asks. -/
import Derived.Test.YtcioihimofcanaaDoorOctC
set_option linter.unusedVariables false
namespace Go.Proofs.YtcioihimofcanaaDoor
open Go.RowKit

def unqGo : List UInt8 → List UInt8 → Nat → List UInt8 × Nat × Nat
  | [], _, _ => ([], 0, 8)
  | [c], acc, i => if c.toNat = 34 then (acc, i + 1, 0) else if quotableB c = false then ([], 0, 3) else ([], 0, 8)
  | c :: d :: r, acc, i =>
    if c.toNat = 34 then (acc, i + 1, 0)
    else if quotableB c = false then ([], 0, 3)
    else if c.toNat = 92 then (if escapedB d then unqGo r (acc ++ [d]) (i + 2) else ([], 0, 3))
    else unqGo (d :: r) (acc ++ [c]) (i + 1)
def unq : List UInt8 → List UInt8 × Nat × Nat
  | [] => ([], 0, 3)
  | c :: r => if c.toNat = 34 then unqGo r [] 1 else ([], 0, 3)
theorem unqGo_end (c : UInt8) (r acc : List UInt8) (i : Nat) (h : c.toNat = 34) : unqGo (c :: r) acc i = (acc, i + 1, 0) := by
  cases r <;> simp [unqGo, h]
theorem unqGo_bad (c : UInt8) (r acc : List UInt8) (i : Nat) (h : ¬ c.toNat = 34) (hq : quotableB c = false) : unqGo (c :: r) acc i = ([], 0, 3) := by
  cases r <;> simp [unqGo, h, hq]
theorem unqGo_more (c : UInt8) (acc : List UInt8) (i : Nat) (h : c.toNat = 92) (hq : quotableB c = true) : unqGo [c] acc i = ([], 0, 8) := by
  simp [unqGo, h, hq]
theorem unqGo_esc (c d : UInt8) (r acc : List UInt8) (i : Nat) (h : c.toNat = 92) (hq : quotableB c = true) (hd : escapedB d = true) : unqGo (c :: d :: r) acc i = unqGo r (acc ++ [d]) (i + 2) := by
  rw [unqGo]; simp [h, hq, hd]
theorem unqGo_noesc (c d : UInt8) (r acc : List UInt8) (i : Nat) (h : c.toNat = 92) (hq : quotableB c = true) (hd : escapedB d = false) : unqGo (c :: d :: r) acc i = ([], 0, 3) := by
  rw [unqGo]; simp [h, hq, hd]
theorem unqGo_step (c : UInt8) (r acc : List UInt8) (i : Nat) (h : ¬ c.toNat = 34) (hq : quotableB c = true) (h9 : ¬ c.toNat = 92) : unqGo (c :: r) acc i = unqGo r (acc ++ [c]) (i + 1) := by
  cases r with
  | nil => simp [unqGo, h, hq]
  | cons d r => rw [unqGo]; simp [h, hq, h9]
def unqV (p : List UInt8 × Nat × Nat) : Value := .tuple #[.string ⟨p.1.toArray⟩, .int .i64 (p.2.1 : Int), .int .i64 (p.2.2 : Int)]
theorem ret_unq {a b c : Value} {p : List UInt8 × Nat × Nat} (l : List UInt8) (i j : Nat) (h : p = (l, i, j)) (h1 : a = .string ⟨l.toArray⟩) (h2 : b = .int .i64 (i : Int)) (h3 : c = .int .i64 (j : Int)) : Ending.returned (.tuple #[a, b, c]) = .returned (unqV p) := by rw [h, h1, h2, h3]; rfl

set_option maxHeartbeats 1600000 in
theorem unquote_any (s : ByteArray) (w : World) (hs : s.size ≤ 100000000000000) :
    Calls Tryd.prog 7 #[.string s] w fun e w' => e = .returned (unqV (unq s.data.toList)) ∧ Below w.heap.size w w' := by
  by_cases h0 : s.size = 0
  · have e1 := str_isnil h0
    have e2 := str_nil h0
    have E2 := Lib.hid e2
    clear e2 h0
    go_enter Tryd.func7, Tryd.ntmps7
    go_wp2
    go_ret3
    exact ⟨ret_unq [] 0 3 (by rw [E2.out]; rfl) rfl rfl rfl, Below.refl _ _⟩
  · have e1 := str_some h0
    have hp : (0 : Int) < (s.size : Int) := by omega
    have hp2 : 0 < s.size := by omega
    have hcons : s.data.toList = s[0] :: s.data.toList.drop 1 := by
      have := drop_cons s 0 hp2; simpa using this
    have HC := Lib.hid hcons
    clear hcons h0
    by_cases hq0 : s[0].toNat = 34
    · have t0 : ((s[0].toNat : Int) != 34) = false := ne_f hq0
      have hun : unq s.data.toList = unqGo (s.data.toList.drop 1) [] 1 := by
        rw [HC.out]; simp [unq, hq0]
      have HU := Lib.hid hun
      clear hun hq0
      go_enter Tryd.func7, Tryd.ntmps7
      go_wp2
      have f0 : Lib.IsBuilderF 38 5 w.heap.size w.heap.size (Lib.byteCells []) (w.alloc (.cells #[.pointer none, .slice none 0 0] 38)) := Lib.IsBuilderF.of (Lib.fresh_isBuilder 38 5 w)
      have b0 := (Below.refl w.heap.size w).alloc (Nat.le_refl _) (.cells #[.pointer none, .slice none 0 0] 38)
      go_loopw [6] (fun i wr => ∃ (k : Nat) (acc : List UInt8), 1 ≤ k ∧ k ≤ s.size ∧ i = .int .i64 k ∧ acc.length ≤ k ∧ Lib.IsBuilderF 38 5 w.heap.size w.heap.size (Lib.byteCells acc) wr ∧ Below w.heap.size w wr ∧ unq s.data.toList = unqGo (s.data.toList.drop k) acc k) (fun i _ => s.size - (intOf i).toNat)
      case atStart => exact ⟨1, [], Nat.le_refl _, by omega, rfl, by simp, f0, b0, HU.out⟩
      case round =>
        obtain ⟨k, acc, hk1, hk, rfl, hal, hI, hb, hun⟩ := hrel
        have HA := Lib.hid hun
        clear hun
        have hsz := hb.size
        by_cases hlt : k < s.size
        · have hdc := Lib.hid (drop_cons s k hlt)
          by_cases h34 : s[k].toNat = 34
          · have t1 : ((s[k].toNat : Int) == 34) = true := eq_t h34
            have H34 := Lib.hid h34
            clear h34
            go_wp2_with fail
            refine (sbString w.heap.size w.heap.size _ _ hI (by omega)).mono ?_
            rintro e w2 ⟨rfl, b2, -⟩
            go_wp2
            go_ret3
            exact ⟨ret_unq acc (k + 1) 0 (by rw [HA.out, hdc.out, unqGo_end _ _ _ _ H34.out]) rfl rfl rfl, hb.trans b2⟩
          · have t1 : ((s[k].toNat : Int) == 34) = false := eq_f h34
            have H34 := Lib.hid h34
            clear h34
            by_cases hq : quotableB s[k] = true
            · by_cases h92 : s[k].toNat = 92
              · have t2 : ((s[k].toNat : Int) == 92) = true := eq_t h92
                have H92 := Lib.hid h92
                clear h92
                by_cases hend : k + 1 = s.size
                · have t3 : ((k : Int) + 1 == (s.size : Int)) = true := by simp; omega
                  have HE := Lib.hid hend
                  clear hend
                  go_wp2_with (go_at_call 23; refine (quotable_any _ _).mono ?_; rintro e w' ⟨rfl, rfl⟩)
                  go_ret3
                  refine ⟨ret_unq [] 0 8 ?_ rfl rfl rfl, hb⟩
                  rw [HA.out, hdc.out, List.drop_eq_nil_of_le (by rw [len_data]; have := HE.out; omega), unqGo_more _ _ _ H92.out hq]
                · have hlt2 : k + 1 < s.size := by omega
                  have t3 : ((k : Int) + 1 == (s.size : Int)) = false := by simp; omega
                  clear hend
                  have hdc2 := Lib.hid (drop_cons s (k + 1) hlt2)
                  by_cases he : escapedB s[k + 1] = true
                  · go_wp2_with (first | (go_at_call 23; refine (quotable_any _ _).mono ?_; rintro e w' ⟨rfl, rfl⟩) | (go_at_call 24; refine (escaped_any _ _).mono ?_; rintro e w' ⟨rfl, rfl⟩))
                    refine (sbByteL w.heap.size w.heap.size acc s[k + 1] _ hI (by omega) (by omega)).mono ?_
                    rintro e w3 ⟨rfl, g3, b3, -⟩
                    go_wp2
                    go_roundw
                    case rel =>
                      refine ⟨k + 2, acc ++ [s[k + 1]], by omega, by omega, by go_num, by simp; omega, g3, hb.trans b3, ?_⟩
                      rw [HA.out, hdc.out, hdc2.out, unqGo_esc _ _ _ _ _ H92.out hq he]
                    case measure => simp [intOf]; omega
                  · have he' : escapedB s[k + 1] = false := by simpa using he
                    clear he
                    go_wp2_with (first | (go_at_call 23; refine (quotable_any _ _).mono ?_; rintro e w' ⟨rfl, rfl⟩) | (go_at_call 24; refine (escaped_any _ _).mono ?_; rintro e w' ⟨rfl, rfl⟩))
                    go_ret3
                    refine ⟨ret_unq [] 0 3 ?_ rfl rfl rfl, hb⟩
                    rw [HA.out, hdc.out, hdc2.out, unqGo_noesc _ _ _ _ _ H92.out hq he']
              · have t2 : ((s[k].toNat : Int) == 92) = false := eq_f h92
                have H92 := Lib.hid h92
                clear h92
                go_wp2_with (go_at_call 23; refine (quotable_any _ _).mono ?_; rintro e w' ⟨rfl, rfl⟩)
                refine (sbByteL w.heap.size w.heap.size acc s[k] _ hI (by omega) (by omega)).mono ?_
                rintro e w3 ⟨rfl, g3, b3, -⟩
                go_wp2
                go_roundw
                case rel =>
                  refine ⟨k + 1, acc ++ [s[k]], by omega, by omega, by go_num, by simp; omega, g3, hb.trans b3, ?_⟩
                  rw [HA.out, hdc.out, unqGo_step _ _ _ _ H34.out hq H92.out]
                case measure => simp [intOf]; omega
            · have hq' : quotableB s[k] = false := by simpa using hq
              clear hq
              go_wp2_with (go_at_call 23; refine (quotable_any _ _).mono ?_; rintro e w' ⟨rfl, rfl⟩)
              go_ret3
              exact ⟨ret_unq [] 0 3 (by rw [HA.out, hdc.out, unqGo_bad _ _ _ _ H34.out hq']) rfl rfl rfl, hb⟩
        · obtain rfl : k = s.size := by omega
          go_wp2
          go_ret3
          exact ⟨ret_unq [] 0 8 (by rw [HA.out, List.drop_eq_nil_of_le (by simp)]; rfl) rfl rfl rfl, hb⟩
    · have t0 : ((s[0].toNat : Int) != 34) = true := ne_t hq0
      have HQ := Lib.hid hq0
      clear hq0
      go_enter Tryd.func7, Tryd.ntmps7
      go_wp2
      go_ret3
      exact ⟨ret_unq [] 0 3 (by rw [HC.out]; simp [unq, HQ.out]) rfl rfl rfl, Below.refl _ _⟩
end Go.Proofs.YtcioihimofcanaaDoor
