/- Package crc: Of, over a slice of slices of bytes; layer 3's 'awake'. -/
import Derived.Test.YtjhmdgcfdelbkaaDoorCrcA
import Derived.Lib.SlBytesConst
import Derived.Lib.SmallJoins
set_option linter.unusedVariables false
namespace Go.Proofs.YtjhmdgcfdelbkaaDoor
open Go.RowKit

/-- A slice of slices of bytes that is only read. -/
def RdRows (w : World) (A : Option Addr) (ls : List (List UInt8)) : Prop :=
  0 < ls.length → ∃ g o, A = some ⟨g, o, none⟩ ∧ ∀ i (h : i < ls.length), ∃ A' c, w.cell? ⟨g, o + i, none⟩ = some (.slice A' ls[i].length c) ∧ Rd w A' ls[i]
theorem RdRows.new (w : World) (vs : Array Value) (t : TypeId) (ls : List (List UInt8)) (h : ∀ i (h : i < ls.length), ∃ A c, vs[i]? = some (.slice A ls[i].length c) ∧ Rd w A ls[i]) : RdRows (w.alloc (.cells vs t)) (some ⟨w.heap.size, 0, none⟩) ls := fun _ =>
  ⟨w.heap.size, 0, rfl, fun i hi => by
    obtain ⟨A, c, hv, hr⟩ := h i hi
    refine ⟨A, c, ?_, hr.below ((Below.refl w.heap.size w).alloc (Nat.le_refl _) _)⟩
    rw [Nat.zero_add]
    simp [World.cell?, World.alloc, -World.alloc_eq, hv]⟩
theorem crcOf_lt (ls : List (List UInt8)) (s : Nat) (h : s < 4294967296) : ls.foldl crcAdd s < 4294967296 := by
  induction ls generalizing s with
  | nil => exact h
  | cons l ls ih => exact ih _ (crcAdd_lt s l h)

set_option maxHeartbeats 1000000 in
theorem of_any (A : Option Addr) (ls : List (List UInt8)) (c : Nat) (w : World) (hr : RdRows w A ls) (hl : ls.length ≤ 1000) (hll : ∀ l ∈ ls, l.length ≤ 100000000000) (ht : Steps w) :
    Calls Tryd.prog 14 #[.slice A ls.length c] w fun e w' => e = .returned (.int .u32 (crcOf ls : Int)) ∧ w = w' := by
  have HT := Lib.hid ht
  have HL := Lib.hid hll
  clear ht hll
  go_enter Tryd.func14, Tryd.ntmps14
  go_wp2
  go_loop [3, 8] (fun r i => ∃ (k x : Nat), k ≤ ls.length ∧ i = .int .i64 k ∧ r = .int .u32 (x : Int) ∧ x < 4294967296 ∧ Hid ((ls.take k).foldl crcAdd 0 = x)) (fun _ i => ls.length - (intOf i).toNat)
  case atStart => exact ⟨0, 0, Nat.zero_le _, rfl, rfl, by decide, rfl⟩
  case round =>
    obtain ⟨k, x, hk, rfl, rfl, hx, HX⟩ := hrel
    by_cases hlt : k < ls.length
    · obtain ⟨g, o, rfl, hcell⟩ := hr (by omega)
      obtain ⟨A', c', hcell, hrd⟩ := hcell k hlt
      go_wp2_with (go_at_call 21; refine (add_any x hx A' ls[k] c' _ hrd (HL.out _ (List.getElem_mem _)) HT.out).mono ?_; rintro e w' ⟨rfl, rfl⟩)
      go_round
      case rel =>
        refine ⟨k + 1, crcAdd x ls[k], by omega, by go_num, rfl, crcAdd_lt x _ hx, ?_⟩
        show _ = _
        rw [List.take_succ_eq_append_getElem hlt, List.foldl_append, HX.out]
        rfl
      case measure => simp [intOf]; omega
    · obtain rfl : k = ls.length := by omega
      go_wp2
      go_ret
      refine ⟨ret_int ?_, rfl⟩
      have h := HX.out
      rw [List.take_length] at h
      unfold crcOf
      rw [h]

theorem row4 (w : World) : Bts 5 (w.alloc (.cells #[.int .u8 49, .int .u8 50, .int .u8 51, .int .u8 52] 5 (4, 5))) w.heap.size [49, 50, 51, 52] := Bts.new w (C := #[.int .u8 49, .int .u8 50, .int .u8 51, .int .u8 52]) (l := [49, 50, 51, 52]) (fun j hj => by
  have : j < 4 := hj
  match j, this with
  | 0, _ => rfl
  | 1, _ => rfl
  | 2, _ => rfl
  | 3, _ => rfl)
theorem row5 (w : World) : Bts 5 (w.alloc (.cells #[.int .u8 53, .int .u8 54, .int .u8 55, .int .u8 56, .int .u8 57] 5 (5, 6))) w.heap.size [53, 54, 55, 56, 57] := Bts.new w (C := #[.int .u8 53, .int .u8 54, .int .u8 55, .int .u8 56, .int .u8 57]) (l := [53, 54, 55, 56, 57]) (fun j hj => by
  have : j < 5 := hj
  match j, this with
  | 0, _ => rfl
  | 1, _ => rfl
  | 2, _ => rfl
  | 3, _ => rfl
  | 4, _ => rfl)


/-- What the bytes of one argument sum to: Of called with one, two, three slices that read. -/
theorem of1 (A : Option Addr) (l : List UInt8) (c : Nat) (w : World) (hr : Rd w A l) (hl : l.length ≤ 100000000000) (ht : Steps w) (hp : 0 < w.heap.size) :
    Calls Tryd.prog 14 #[.slice (some ⟨w.heap.size, 0, none⟩) 1 1] (w.alloc (.cells #[.slice A l.length c] 22)) fun e w' => e = .returned (.int .u32 (crcAdd 0 l : Int)) ∧ w.alloc (.cells #[.slice A l.length c] 22) = w' := by
  have b := (Below.refl w.heap.size w).alloc (Nat.le_refl _) (.cells #[.slice A l.length c] 22)
  have h := of_any _ [l] 1 _ (RdRows.new w #[.slice A l.length c] 22 [l] (fun i hi => by
    have : i < 1 := hi
    match i, this with
    | 0, _ => exact ⟨_, c, rfl, hr⟩)) (by simp) (by intro x hx; simp at hx; subst hx; exact hl) (ht.below b hp)
  exact h
theorem of2 (A B : Option Addr) (l m : List UInt8) (c d : Nat) (w : World) (hr : Rd w A l) (hs : Rd w B m) (hl : l.length ≤ 100000000000) (hm : m.length ≤ 100000000000) (ht : Steps w) (hp : 0 < w.heap.size) :
    Calls Tryd.prog 14 #[.slice (some ⟨w.heap.size, 0, none⟩) 2 2] (w.alloc (.cells #[.slice A l.length c, .slice B m.length d] 22)) fun e w' => e = .returned (.int .u32 (crcAdd 0 (l ++ m) : Int)) ∧ w.alloc (.cells #[.slice A l.length c, .slice B m.length d] 22) = w' := by
  have b := (Below.refl w.heap.size w).alloc (Nat.le_refl _) (.cells #[.slice A l.length c, .slice B m.length d] 22)
  have h := of_any _ [l, m] 2 _ (RdRows.new w #[.slice A l.length c, .slice B m.length d] 22 [l, m] (fun i hi => by
    have : i < 2 := hi
    match i, this with
    | 0, _ => exact ⟨_, c, rfl, hr⟩
    | 1, _ => exact ⟨_, d, rfl, hs⟩)) (by simp) (by intro x hx; simp at hx; rcases hx with rfl | rfl <;> assumption) (ht.below b hp)
  rw [show crcOf [l, m] = crcAdd 0 (l ++ m) from crcAdd_append 0 l m] at h
  exact h
theorem of3 (A B C : Option Addr) (l m n : List UInt8) (c d f : Nat) (w : World) (hr : Rd w A l) (hs : Rd w B m) (hu : Rd w C n) (hl : l.length ≤ 100000000000) (hm : m.length ≤ 100000000000) (hn : n.length ≤ 100000000000) (ht : Steps w) (hp : 0 < w.heap.size) :
    Calls Tryd.prog 14 #[.slice (some ⟨w.heap.size, 0, none⟩) 3 3] (w.alloc (.cells #[.slice A l.length c, .slice B m.length d, .slice C n.length f] 22)) fun e w' => e = .returned (.int .u32 (crcAdd 0 (l ++ m ++ n) : Int)) ∧ w.alloc (.cells #[.slice A l.length c, .slice B m.length d, .slice C n.length f] 22) = w' := by
  have b := (Below.refl w.heap.size w).alloc (Nat.le_refl _) (.cells #[.slice A l.length c, .slice B m.length d, .slice C n.length f] 22)
  have h := of_any _ [l, m, n] 3 _ (RdRows.new w #[.slice A l.length c, .slice B m.length d, .slice C n.length f] 22 [l, m, n] (fun i hi => by
    have : i < 3 := hi
    match i, this with
    | 0, _ => exact ⟨_, c, rfl, hr⟩
    | 1, _ => exact ⟨_, d, rfl, hs⟩
    | 2, _ => exact ⟨_, f, rfl, hu⟩)) (by simp) (by intro x hx; simp at hx; rcases hx with rfl | rfl | rfl <;> assumption) (ht.below b hp)
  rw [show crcOf [l, m, n] = crcAdd 0 (l ++ m ++ n) by rw [← crcAdd_append, ← crcAdd_append]; rfl] at h
  exact h
end Go.Proofs.YtjhmdgcfdelbkaaDoor
