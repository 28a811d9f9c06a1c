/- Letters parted by blanks: plain facts. -/
import Derived.Test.YtofgkahldhelaaaDoorCdJ
set_option linter.unusedVariables false
namespace Go.Proofs.YtofgkahldhelaaaDoor
open Go.RowKit

theorem setCell_drewN (w : World) (n : Nat) (a : Addr) (v : Value) : (w.drewN n).setCell a v = (w.setCell a v).drewN n := rfl
theorem alloc_drewN (w : World) (n : Nat) (o : Obj) : (w.drewN n).alloc o = (w.alloc o).drewN n := rfl
theorem grp_ne (l : List UInt8) : l ≠ [] → grp l ≠ [] := fun h e => by
  have := grp_len l h
  rw [e] at this
  simp at this
theorem grp_len4 (l : List UInt8) : (grp l).length ≤ 4 := by
  by_cases h : l = []
  · subst h
    decide
  · exact Nat.le_of_eq (grp_len l h)
theorem b64_le : ∀ (n : Nat) (l : List UInt8) (col : Nat), l.length ≤ n → (b64 col l).length ≤ 6 * l.length
  | 0, l, col, h => by
    rw [List.eq_nil_of_length_eq_zero (by omega : l.length = 0)]
    simp [b64]
  | n + 1, l, col, h => by
    by_cases h0 : l = []
    · subst h0
      simp [b64]
    · have h1 : 0 < l.length := List.length_pos_iff.2 h0
      rw [b64_step col l h0]
      have h4 := grp_len4 (l.take 3)
      have i1 := b64_le n (l.drop 3) 0 (by rw [List.length_drop]; omega)
      have i2 := b64_le n (l.drop 3) (col + 4) (by rw [List.length_drop]; omega)
      rw [List.length_drop] at i1 i2
      rw [List.length_append]
      split
      · rw [List.length_append]
        simp only [List.length_cons, List.length_nil]
        omega
      · by_cases h3 : 3 ≤ l.length
        · omega
        · rename_i hne
          exact absurd (.inr (List.drop_eq_nil_of_le (by omega))) hne
theorem b64_pos (l : List UInt8) (h : l ≠ []) : 0 < (b64 0 l).length := by
  rw [b64_step 0 l h, List.length_append]
  have := grp_len (l.take 3) (by cases l with
    | nil => exact absurd rfl h
    | cons c r => simp)
  omega
theorem rd_drew {w : World} {A : Option Addr} {l : List UInt8} (h : Rd w A l) (n : Nat) : Rd (w.drewN n) A l := h.below (below_drewN (Below.refl _ _) n)
theorem rd_drew1 {w : World} {A : Option Addr} {l : List UInt8} (h : Rd w A l) : Rd w.drew A l := rd_drew h 1
theorem rd_alloc {w : World} {A : Option Addr} {l : List UInt8} (h : Rd w A l) (o : Obj) : Rd (w.alloc o) A l := h.below (below_one4 w o)
theorem ow_drew {w : World} {B k n : Nat} {e : TypeId} {v : Value} {xs : List Value} (h : w.ownsRow B e k v n xs) (m : Nat) : (w.drewN m).ownsRow B e k v n xs := ownk_below h (below_drewN (Below.refl _ _) m) (Nat.le_refl _)
theorem ow_drew1 {w : World} {B k n : Nat} {e : TypeId} {v : Value} {xs : List Value} (h : w.ownsRow B e k v n xs) : w.drew.ownsRow B e k v n xs := ow_drew h 1
theorem ow_alloc {w : World} {B k n : Nat} {e : TypeId} {v : Value} {xs : List Value} (h : w.ownsRow B e k v n xs) (o : Obj) : (w.alloc o).ownsRow B e k v n xs := ownk_below h (below_one4 w o) (Nat.le_refl _)
theorem ow_empty (w : World) (B : Nat) (e : TypeId) (hB : B ≤ w.heap.size) : (w.alloc (.cells #[] e)).ownsRow B e 1 (.slice (some ⟨w.heap.size, 0, none⟩) 0 0) ([] : List UInt8).length (Lib.byteCells []) := by
  exact ⟨rfl, .inr ⟨w.heap.size, 0, #[], rfl, hB, by simp [World.alloc, -World.alloc_eq], Nat.le_refl _, by decide, rfl, rfl⟩⟩
theorem ow_emptyN (w : World) (B : Nat) (e : TypeId) (b : Nat) (hb : w.heap.size = b) (hB : B ≤ w.heap.size) : (w.alloc (.cells #[] e)).ownsRow B e 1 (.slice (some ⟨b, 0, none⟩) 0 0) ([] : List UInt8).length (Lib.byteCells []) := by
  subst hb
  exact ow_empty w B e hB
theorem lit_rdN (w : World) (l : List UInt8) (b : Nat) (hb : w.heap.size = b) (C : Array Value) (hC : C = (l.map fun b => Value.int .u8 (b.toNat : Int)).toArray) : Rd (w.alloc (.cells C 5)) (some ⟨b, 0, none⟩) l := by
  subst hb hC
  exact lit_rd w l _
theorem below_drew1 {B : Nat} {a w : World} (h : Below B a w) : Below B a w.drew := below_drewN h 1
theorem keep_b {B : Nat} {a w w' : World} {row : Option Nat} {G : Prop} (hg : w.grownBy w' row) (h : Below B a w) (hB : B ≤ w.heap.size) (hr : ∀ k, row = some k → B ≤ k) (next : Below B a w' → G) : G := next (h.grown hg hB hr)
theorem keep_r {w w' : World} {g o : Nat} {l : List UInt8} {row : Option Nat} {G : Prop} (hg : w.grownBy w' row) (h : Rd w (some ⟨g, o, none⟩) l) (hne : row ≠ some g) (next : Rd w' (some ⟨g, o, none⟩) l → G) : G := next (h.grownR hg hne)
end Go.Proofs.YtofgkahldhelaaaDoor
