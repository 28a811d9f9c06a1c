/- Package head: nameLength; fields as cells: rows of the call's own. -/
import Derived.Test.YtcigfmnkfelhjaaDoorRow
import Derived.Test.YtcigfmnkfelhjaaDoorPl
set_option linter.unusedVariables false
namespace Go.Proofs.YtcigfmnkfelhjaaDoor
open Go.RowKit

/-- How long the name is that a line begins with. -/
def nlGo : Nat → List UInt8 → Nat
  | _, [] => 0
  | i, c :: r => if c.toNat = 58 then i else if c.toNat < 33 ∨ 126 < c.toNat then 0 else nlGo (i + 1) r
def nl (l : List UInt8) : Nat := nlGo 0 l
theorem nlGo_lt : ∀ (l : List UInt8) (i : Nat), nlGo i l ≠ 0 → i ≤ nlGo i l ∧ nlGo i l < i + l.length
  | [], i, h => absurd rfl h
  | c :: r, i, h => by
    unfold nlGo at h ⊢
    by_cases h1 : c.toNat = 58
    · rw [if_pos h1]
      simp
    · rw [if_neg h1] at h ⊢
      by_cases h2 : c.toNat < 33 ∨ 126 < c.toNat
      · rw [if_pos h2] at h
        exact absurd rfl h
      · rw [if_neg h2] at h ⊢
        have := nlGo_lt r (i + 1) h
        simp only [List.length_cons]
        omega
theorem nl_lt (l : List UInt8) (h : nl l ≠ 0) : nl l < l.length := by
  have := nlGo_lt l 0 h
  unfold nl
  omega
set_option maxHeartbeats 1000000 in
theorem nl_any (A : Option Addr) (l : List UInt8) (c : Nat) (w : World) (hr : Rd w A l) (hl : l.length ≤ 100000000) :
    Calls Tryd.prog 18 #[.slice A l.length c] w fun e w' => e = .returned (.int .i64 (nl l : Int)) ∧ w = w' := by
  go_enter Tryd.func18, Tryd.ntmps18
  go_wp2
  go_loop [7] (fun i => ∃ k : Nat, k ≤ l.length ∧ i = .int .i64 k ∧ Hid (nl l = nlGo k (l.drop k))) (fun i => l.length - (intOf i).toNat)
  case atStart => exact ⟨0, Nat.zero_le _, rfl, rfl⟩
  case round =>
    obtain ⟨k, hk, rfl, HQ⟩ := hrel
    by_cases hlt : k < l.length
    · obtain ⟨b, o, rfl, hb, hcall⟩ := id hr (by omega)
      have hcell := hcall k hlt
      have hd : l.drop k = l[k] :: l.drop (k + 1) := List.drop_eq_getElem_cons hlt
      rw [hd] at HQ
      generalize l[k] = ch at hcell HQ
      clear hd hr hcall
      have h8 := ch.toNat_lt
      have hlt' : (k : Int) < (l.length : Int) := by omega
      by_cases h58 : ch.toNat = 58
      · have hq : nl l = k := by rw [HQ.out, nlGo, if_pos h58]
        have t1 : ((ch.toNat : Int) == 58) = true := by rw [beq_iff_eq]; omega
        replace hq := Lib.hid hq
        clear HQ h58
        go_wp2
        go_ret
        exact ⟨ret_int (by rw [hq.out]), rfl⟩
      · have t1 : ((ch.toNat : Int) == 58) = false := by rw [beq_eq_false_iff_ne]; omega
        by_cases h33 : ch.toNat < 33 ∨ 126 < ch.toNat
        · have hq : nl l = 0 := by rw [HQ.out, nlGo, if_neg h58, if_pos h33]
          replace hq := Lib.hid hq
          clear HQ h58
          by_cases h3 : ch.toNat < 33
          · have t2 : (ch.toNat : Int) < 33 := by omega
            go_wp2
            go_ret
            exact ⟨ret_int (by rw [hq.out]; rfl), rfl⟩
          · have t2 : ¬ (ch.toNat : Int) < 33 := by omega
            have t3 : (126 : Int) < (ch.toNat : Int) := by omega
            go_wp2
            go_ret
            exact ⟨ret_int (by rw [hq.out]; rfl), rfl⟩
        · have hq : nl l = nlGo (k + 1) (l.drop (k + 1)) := by rw [HQ.out, nlGo, if_neg h58, if_neg h33]
          replace hq := Lib.hid hq
          have t2 : ¬ (ch.toNat : Int) < 33 := by omega
          have t3 : ¬ (126 : Int) < (ch.toNat : Int) := by omega
          clear HQ h58 h33
          go_wp2
          go_round
          case rel => exact ⟨k + 1, by omega, by go_num, hq⟩
          case measure => simp [intOf]; omega
    · obtain rfl : k = l.length := by omega
      have hq : nl l = 0 := by rw [HQ.out, List.drop_length]; rfl
      replace hq := Lib.hid hq
      clear HQ
      go_wp2
      go_ret
      exact ⟨ret_int (by rw [hq.out]; rfl), rfl⟩

/-- A field: what its cells hold. -/
structure Fd where
  name : ByteArray
  value : ByteArray
  from_ : Nat
  to_ : Nat
def fdC (x : Fd) : List Value := [.string x.name, .string x.value, .int .i64 (x.from_ : Int), .int .i64 (x.to_ : Int)]
def fdCs : List Fd → List Value
  | [] => []
  | x :: r => fdC x ++ fdCs r
theorem fdCs_len : ∀ xs, (fdCs xs).length = xs.length * 4
  | [] => rfl
  | x :: r => by simp only [fdCs, List.length_append, List.length_cons, fdCs_len r]; simp [fdC]; omega
theorem fdCs_snoc : ∀ (xs : List Fd) (x : Fd), fdCs (xs ++ [x]) = fdCs xs ++ fdC x
  | [], x => by simp [fdCs]
  | y :: r, x => by simp only [List.cons_append, fdCs, fdCs_snoc r x, List.append_assoc]
theorem fdCs_get : ∀ (xs : List Fd) (i j : Nat) (hi : i < xs.length), j < 4 → (fdCs xs)[4 * i + j]? = (fdC xs[i])[j]?
  | [], i, j, hi, _ => absurd hi (by simp)
  | x :: r, 0, j, _, hj => by
    rw [Nat.mul_zero, Nat.zero_add]
    simp only [fdCs]
    rw [List.getElem?_append_left (by simp [fdC]; omega)]
    rfl
  | x :: r, i + 1, j, hi, hj => by
    simp only [fdCs]
    rw [List.getElem?_append_right (by simp [fdC]; omega)]
    have e : 4 * (i + 1) + j - (fdC x).length = 4 * i + j := by simp [fdC]; omega
    rw [e, fdCs_get r i j (by simpa using hi) hj]
    rfl
theorem fdCs_set : ∀ (xs : List Fd) (i j : Nat) (v : Value) (x' : Fd) (hi : i < xs.length), j < 4 → (fdC xs[i]).set j v = fdC x' → (fdCs xs).set (4 * i + j) v = fdCs (xs.set i x')
  | [], i, j, v, x', hi, _, _ => absurd hi (by simp)
  | x :: r, 0, j, v, x', _, hj, h => by
    rw [Nat.mul_zero, Nat.zero_add]
    simp only [fdCs, List.set_cons_zero]
    rw [List.set_append_left _ _ (by simp [fdC]; omega)]
    have h' : (fdC x).set j v = fdC x' := h
    rw [h']
  | x :: r, i + 1, j, v, x', hi, hj, h => by
    simp only [fdCs, List.set_cons_succ]
    rw [List.set_append_right _ _ (by simp [fdC]; omega)]
    have e : 4 * (i + 1) + j - (fdC x).length = 4 * i + j := by simp [fdC]; omega
    rw [e, fdCs_set r i j v x' (by simpa using hi) hj h]
def OwnFd (w : World) (B : Nat) (v : Value) (xs : List Fd) : Prop := w.ownsRow B 29 4 v xs.length (fdCs xs)
theorem fdInfo : (Tryd.prog.info? 29).map (fun i => (i.zero, i.size, i.bytes)) = some (some (.agg #[.string ⟨#[]⟩, .string ⟨#[]⟩, .int .i64 0, .int .i64 0]), 4, 48) := by kernel_rfl
theorem OwnFd.nil (w : World) (B : Nat) : OwnFd w B (.slice none 0 0) [] := World.ownsRow_nil _ _ _ _
theorem OwnFd.below {w w' : World} {B C : Nat} {v : Value} {xs : List Fd} (h : OwnFd w B v xs) (hb : Below C w w') (hC : w.heap.size ≤ C) : OwnFd w' B v xs := ownk_below h hb hC
theorem OwnFd.shape {w : World} {B : Nat} {v : Value} {xs : List Fd} (h : OwnFd w B v xs) : ∃ A cap, v = .slice A xs.length cap ∧ xs.length ≤ cap ∧ cap ≤ maxLen ∧ (0 < xs.length → ∃ g, A = some ⟨g, 0, none⟩ ∧ B ≤ g ∧ g < w.heap.size) := by
  rcases h.2 with ⟨rfl, h0⟩ | ⟨g, cap, cur, rfl, hg, hh, hn, hm, _⟩
  · exact ⟨none, 0, by rw [h0], by omega, Nat.zero_le _, fun h => absurd h (by omega)⟩
  · exact ⟨_, cap, rfl, hn, hm, fun _ => ⟨g, rfl, hg, (Array.getElem?_eq_some_iff.1 hh).1⟩⟩
/-- The cells of field i. -/
theorem OwnFd.cell {w : World} {B g n cap : Nat} {xs : List Fd} (h : OwnFd w B (.slice (some ⟨g, 0, none⟩) n cap) xs) (i j : Nat) (hi : i < xs.length) (hj : j < 4) (u : Value) (hu : (fdC xs[i])[j]? = some u) :
    w.cell? ⟨g, 4 * i + j, none⟩ = some u ∧ w.frozen? ⟨g, 4 * i + j, none⟩ = false := by
  rcases h.2 with ⟨hv, _⟩ | ⟨g', cap', cur, hv, hg, hh, hn, hm, hs, ht⟩
  · cases hv
  · injection hv with e1 e2 e3
    injection e1 with e1
    injection e1 with e1
    subst e1
    have h4 : (cur.toList.take (xs.length * 4))[4 * i + j]? = (fdCs xs)[4 * i + j]? := by rw [ht]
    rw [List.getElem?_take_of_lt (by omega), fdCs_get xs i j hi hj, hu] at h4
    have h5 : cur[4 * i + j]? = some u := by simpa using h4
    exact ⟨by simp [World.cell?, hh, h5], by simp [World.frozen?, hh]⟩
theorem OwnFd.store {w : World} {B g n cap : Nat} {xs : List Fd} (h : OwnFd w B (.slice (some ⟨g, 0, none⟩) n cap) xs) (i j : Nat) (hi : i < xs.length) (hj : j < 4) (u : Value) (x' : Fd) (hu : (fdC xs[i]).set j u = fdC x') :
    OwnFd (w.setCell ⟨g, 4 * i + j, none⟩ u) B (.slice (some ⟨g, 0, none⟩) n cap) (xs.set i x') := by
  refine ⟨by rw [fdCs_len], ?_⟩
  rcases h.2 with ⟨hv, _⟩ | ⟨g', cap', cur, hv, hg, hh, hn, hm, hs, ht⟩
  · cases hv
  · injection hv with e1 e2 e3
    injection e1 with e1
    injection e1 with e1
    subst e1 e2 e3
    refine .inr ⟨g, cap, cur.setIfInBounds (4 * i + j) u, by rw [List.length_set], hg, by simp [World.setCell, Array.getElem?_modify, hh], by rw [List.length_set]; exact hn, hm, by simpa using hs, ?_⟩
    rw [Array.toList_setIfInBounds, List.length_set, List.take_set, ht, fdCs_set xs i j u x' hi hj hu]
end Go.Proofs.YtcigfmnkfelhjaaDoor
