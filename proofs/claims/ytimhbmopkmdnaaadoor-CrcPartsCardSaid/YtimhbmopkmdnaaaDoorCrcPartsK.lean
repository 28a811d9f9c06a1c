/- What the walk of the law CrcParts uses. -/
import Derived.Test.YtimhbmopkmdnaaaDoorCrcB
import Derived.Deep.RegionHeld3
import Derived.Deep.DrawnRows
set_option linter.unusedVariables false
namespace Go.Proofs.YtimhbmopkmdnaaaDoor.parts
open Go.RowKit

theorem Rd.alloc {w : World} {A : Option Addr} {l : List UInt8} (h : Rd w A l) (o : Obj) : Rd (w.alloc o) A l := h.below ((Below.refl _ _).alloc (Nat.le_refl _) _)
/-- What stays true through the region: what the two halves and the whole read as, the table, and what lay there before the call. -/
def Kept (w : World) (A A1 A2 : Option Addr) (l l1 l2 : List UInt8) (W : World) : Prop := Rd W A l ∧ Rd W A1 l1 ∧ Rd W A2 l2 ∧ Steps W ∧ Below w.heap.size w W
variable {w : World} {A A1 A2 : Option Addr} {l l1 l2 : List UInt8} {W : World}
theorem Kept.alloc (hp : 0 < w.heap.size) (h : Kept w A A1 A2 l l1 l2 W) (o : Obj) : Kept w A A1 A2 l l1 l2 (W.alloc o) := by
  obtain ⟨h1, h2, h3, h4, h5⟩ := h
  have b := h5.alloc h5.size o
  exact ⟨Rd.alloc h1 o, Rd.alloc h2 o, Rd.alloc h3 o, h4.below ((Below.refl W.heap.size W).alloc (Nat.le_refl _) o) (Nat.lt_of_lt_of_le hp h5.size), b⟩
theorem Kept.drew (h : Kept w A A1 A2 l l1 l2 W) : Kept w A A1 A2 l l1 l2 W.drew := by
  obtain ⟨h1, h2, h3, h4, h5⟩ := h
  exact ⟨h1, h2, h3, h4, h5.drew⟩
theorem Kept.drewN (h : Kept w A A1 A2 l l1 l2 W) (n : Nat) : Kept w A A1 A2 l l1 l2 (W.drewN n) := by
  obtain ⟨h1, h2, h3, h4, h5⟩ := h
  exact ⟨h1, h2, h3, h4, below_drewN h5 n⟩
theorem Kept.fold (h : Kept w A A1 A2 l l1 l2 W) : Kept w A A1 A2 l l1 l2 W := h

theorem ofk1 (g : Nat) (n c y : Nat) (hk : Kept w A A1 A2 l l1 l2 W) (hn : l.length = n) (hl : n ≤ 300) (hc : W.cell? ⟨g, 0, none⟩ = some (.slice A n c)) (hy : Hid (crcAdd 0 l = y)) :
    Calls Tryd.prog 9 #[.slice (some ⟨g, 0, none⟩) 1 1] W fun e w' => e = .returned (.int .u32 (y : Int)) ∧ W = w' := by
  subst hn
  rw [← hy.out]
  exact of_any _ [l] 1 _ (fun _ => ⟨g, 0, rfl, fun i hi => by
    have : i < 1 := hi
    match i, this with
    | 0, _ => exact ⟨_, c, hc, hk.1⟩⟩) (by simp) (by intro x hx; simp at hx; subst hx; omega) hk.2.2.2.1
theorem ofk1' (g : Nat) (n c y : Nat) (hk : Kept w A A1 A2 l l1 l2 W) (hn : l1.length = n) (hl : n ≤ 300) (hc : W.cell? ⟨g, 0, none⟩ = some (.slice A1 n c)) (hy : Hid (crcAdd 0 l1 = y)) :
    Calls Tryd.prog 9 #[.slice (some ⟨g, 0, none⟩) 1 1] W fun e w' => e = .returned (.int .u32 (y : Int)) ∧ W = w' := by
  subst hn
  rw [← hy.out]
  exact of_any _ [l1] 1 _ (fun _ => ⟨g, 0, rfl, fun i hi => by
    have : i < 1 := hi
    match i, this with
    | 0, _ => exact ⟨_, c, hc, hk.2.1⟩⟩) (by simp) (by intro x hx; simp at hx; subst hx; omega) hk.2.2.2.1
theorem ofk2 (g : Nat) (n1 n2 c1 c2 y : Nat) (hk : Kept w A A1 A2 l l1 l2 W) (hn1 : l1.length = n1) (hn2 : l2.length = n2) (hl1 : n1 ≤ 300) (hl2 : n2 ≤ 300) (hc1 : W.cell? ⟨g, 0, none⟩ = some (.slice A1 n1 c1)) (hc2 : W.cell? ⟨g, 1, none⟩ = some (.slice A2 n2 c2)) (hy : Hid (crcAdd (crcAdd 0 l1) l2 = y)) :
    Calls Tryd.prog 9 #[.slice (some ⟨g, 0, none⟩) 2 2] W fun e w' => e = .returned (.int .u32 (y : Int)) ∧ W = w' := by
  subst hn1 hn2
  have h := of_any _ [l1, l2] 2 _ (fun _ => ⟨g, 0, rfl, fun i hi => by
    have : i < 2 := hi
    match i, this with
    | 0, _ => exact ⟨_, c1, hc1, hk.2.1⟩
    | 1, _ => exact ⟨_, c2, hc2, hk.2.2.1⟩⟩) (by simp) (by intro x hx; simp at hx; rcases hx with rfl | rfl <;> omega) hk.2.2.2.1
  rw [show crcOf [l1, l2] = y from hy.out] at h
  exact h
theorem ofk3 (g : Nat) (n c y : Nat) (hk : Kept w A A1 A2 l l1 l2 W) (hn : l.length = n) (hl : n ≤ 300) (hc0 : W.cell? ⟨g, 0, none⟩ = some (.slice none 0 0)) (hc : W.cell? ⟨g, 1, none⟩ = some (.slice A n c)) (hc2 : W.cell? ⟨g, 2, none⟩ = some (.slice none 0 0)) (hy : Hid (crcAdd 0 l = y)) :
    Calls Tryd.prog 9 #[.slice (some ⟨g, 0, none⟩) 3 3] W fun e w' => e = .returned (.int .u32 (y : Int)) ∧ W = w' := by
  subst hn
  have h := of_any _ [[], l, []] 3 _ (fun _ => ⟨g, 0, rfl, fun i hi => by
    have : i < 3 := hi
    match i, this with
    | 0, _ => exact ⟨_, 0, hc0, Rd.nil⟩
    | 1, _ => exact ⟨_, c, hc, hk.1⟩
    | 2, _ => exact ⟨_, 0, hc2, Rd.nil⟩⟩) (by simp) (by intro x hx; simp only [List.mem_cons, List.not_mem_nil, or_false] at hx; rcases hx with h | h | h <;> rw [h] <;> first | omega | exact Nat.zero_le _) hk.2.2.2.1
  rw [show crcOf [[], l, []] = y by rw [← hy.out]; show crcAdd (crcAdd (crcAdd 0 []) l) [] = _; rw [crcAdd_nil, crcAdd_nil]] at h
  exact h
theorem addk (s y n c : Nat) (hs : s < 4294967296) (hk : Kept w A A1 A2 l l1 l2 W) (hn : l2.length = n) (hl : n ≤ 300) (hy : Hid (crcAdd s l2 = y)) :
    Calls Tryd.prog 10 #[.int .u32 (s : Int), .slice A2 n c] W fun e w' => e = .returned (.int .u32 (y : Int)) ∧ W = w' := by
  subst hn
  have h := add_any s hs A2 l2 c W hk.2.2.1 (by omega) hk.2.2.2.1
  rw [hy.out] at h
  exact h

set_option linter.unusedSimpArgs false
theorem cellL (w : World) (cs : Array Value) (t : TypeId) (fz : Nat × Nat) (g i : Nat) : (w.alloc (.cells cs t fz)).cell? ⟨g, i, none⟩ = if g = w.heap.size then cs[i]? else w.cell? ⟨g, i, none⟩ := by
  by_cases h : g = w.heap.size
  · rw [if_pos h]; subst h; simp [World.cell?, World.alloc, -World.alloc_eq]
  · rw [if_neg h]; simp [World.cell?, World.alloc, -World.alloc_eq, Array.getElem?_push, h]
theorem drewL (w : World) (p : Addr) : w.drew.cell? p = w.cell? p := rfl
theorem sizeL (w : World) (o : Obj) : (w.alloc o).heap.size = w.heap.size + 1 := by simp
theorem sizeD (w : World) : w.drew.heap.size = w.heap.size := rfl
theorem Kept.bel (h : Kept w A A1 A2 l l1 l2 W) : Below w.heap.size w W := h.2.2.2.2

end Go.Proofs.YtimhbmopkmdnaaaDoor.parts
