/- Base64: a group of letters. -/
import Derived.Test.YtofgkahldhelaaaDoorCdM
import Derived.Test.YtofgkahldhelaaaDoorApA
import Derived.Test.YtofgkahldhelaaaDoorShelf
import Derived.Lib.SlBytesConst
import Derived.Laws.BitsAllLaws
set_option linter.unusedVariables false
namespace Go.Proofs.YtofgkahldhelaaaDoor
open Go.RowKit

theorem u8Info : (Tryd.prog.info? 5).map (fun i => (i.zero, i.size, i.bytes)) = some (some (.int .u8 0), 1, 1) := by kernel_rfl
/-- The bits of the first k bytes. -/
def vk (l : List UInt8) (k : Nat) : Nat := (if 0 < k then (l.getD 0 0).toNat * 65536 else 0) + (if 1 < k then (l.getD 1 0).toNat * 256 else 0) + (if 2 < k then (l.getD 2 0).toNat else 0)
theorem or_add (i q y : Nat) (hy : y < 2 ^ i) (hq : 2 ^ i * q + y < 4294967296) : bits .or .u32 ((2 ^ i * q : Nat) : Int) (y : Int) = ((2 ^ i * q + y : Nat) : Int) := by
  rw [u32_or_nat (2 ^ i * q) y (by omega) (by omega), ← Nat.two_pow_add_eq_or_of_lt hy q]
theorem and63 (x : Nat) (hx : x < 4294967296) : bits .and .u32 (x : Int) 63 = ((x % 64 : Nat) : Int) := by
  have := u32_and_nat x 63 hx (by decide)
  rw [show (63 : Nat) = 2 ^ 6 - 1 by decide, Nat.and_two_pow_sub_one_eq_mod] at this
  exact this
/-- What is written behind k letters. -/
def gk (l : List UInt8) (k : Nat) : List UInt8 := (grp l).take k ++ List.replicate (4 - k) 61
theorem gk_end (l : List UInt8) (h0 : l ≠ []) (h3 : l.length ≤ 3) : gk l (l.length + 1) = grp l := by
  match l, h0, h3 with
  | [a], _, _ => rfl
  | [a, b], _, _ => rfl
  | [a, b, c], _, _ => rfl
theorem gk_len (l : List UInt8) (k : Nat) (h0 : l ≠ []) (hk : k ≤ 4) : (gk l k).length = 4 := by
  have := grp_len l h0
  simp [gk, this]
  omega
theorem gk_step (l : List UInt8) (k : Nat) (h0 : l ≠ []) (hk : k < 4) : (gk l k).set k ((grp l).getD k 0) = gk l (k + 1) := by
  have hg := grp_len l h0
  have hk' : k < (grp l).length := by omega
  rw [gk, gk, List.set_append_right _ _ (by rw [List.length_take]; omega), List.length_take, Nat.min_eq_left (by omega), Nat.sub_self]
  rw [show 4 - k = (3 - k) + 1 by omega, List.replicate_succ, List.set_cons_zero, List.take_succ_eq_append_getElem hk', List.append_assoc]
  simp [List.getD, hk']
/-- The number of letter k. -/
def gv (l : List UInt8) (k : Nat) : Nat := vk l l.length / 2 ^ (18 - 6 * k) % 64
theorem gv_lett (l : List UInt8) (k : Nat) (h0 : l ≠ []) (h3 : l.length ≤ 3) (hk : k ≤ l.length) : (grp l).getD k 0 = lett (gv l k) := by
  match l, h0, h3 with
  | [a], _, _ =>
    have ha := a.toNat_lt
    simp at hk
    rcases (by omega : k = 0 ∨ k = 1) with rfl | rfl <;> simp [grp, gv, vk] <;> congr 1 <;> omega
  | [a, b], _, _ =>
    have ha := a.toNat_lt
    have hb := b.toNat_lt
    simp at hk
    rcases (by omega : k = 0 ∨ k = 1 ∨ k = 2) with rfl | rfl | rfl <;> simp [grp, gv, vk] <;> congr 1 <;> omega
  | [a, b, c], _, _ =>
    have ha := a.toNat_lt
    have hb := b.toNat_lt
    have hc := c.toNat_lt
    simp at hk
    rcases (by omega : k = 0 ∨ k = 1 ∨ k = 2 ∨ k = 3) with rfl | rfl | rfl | rfl <;> simp [grp, gv, vk] <;> congr 1 <;> omega
theorem vk_lt (l : List UInt8) (k : Nat) : vk l k < 16777216 := by
  have h1 := (l.getD 0 0).toNat_lt
  have h2 := (l.getD 1 0).toNat_lt
  have h3 := (l.getD 2 0).toNat_lt
  unfold vk
  split <;> split <;> split <;> omega
abbrev lettersA : ByteArray := ⟨#[65, 66, 67, 68, 69, 70, 71, 72, 73, 74, 75, 76, 77, 78, 79, 80, 81, 82, 83, 84, 85, 86, 87, 88, 89, 90, 97, 98, 99, 100, 101, 102, 103, 104, 105, 106, 107, 108, 109, 110, 111, 112, 113, 114, 115, 116, 117, 118, 119, 120, 121, 122, 48, 49, 50, 51, 52, 53, 54, 55, 56, 57, 43, 47]⟩
theorem letters_get (v : Nat) (h : v < lettersA.size) : lettersA[v] = lett v := by
  have key : ∀ i : Fin 64, lettersA.data.toList.getD i.val 0 = lett i.val := by decide
  have h' : v < 64 := h
  have := key ⟨v, h'⟩
  rw [← this]
  have h2 : v < lettersA.data.toList.length := h
  simp only [List.getD, List.getElem?_eq_getElem h2, Option.getD_some]
  rfl
theorem Bts.set_eq {e : TypeId} {w : World} {g : Nat} {l : List UInt8} (h : Bts e w g l) (j : Nat) (hj : j < l.length) (x c : UInt8) (hx : x = c) : Bts e (w.setCell ⟨g, j, none⟩ (.int .u8 (x.toNat : Int))) g (l.set j c) := hx ▸ h.set_ j hj c
theorem below_set {B : Nat} {a w : World} (h : Below B a w) {g : Nat} (hg : B ≤ g) (j : Nat) (v : Value) : Below B a (w.setCell ⟨g, j, none⟩ v) := ⟨h.os, h.tape, h.output, by simpa [World.setCell] using h.size, fun k hk => by
  simp only [World.setCell]
  rw [Array.getElem?_modify, if_neg (by omega)]
  exact h.block k hk⟩
theorem below_one4 (w : World) (o : Obj) : Below w.heap.size w (w.alloc o) := (Below.refl w.heap.size w).alloc (Nat.le_refl _) o
/-- '[]byte("====")'. -/
theorem lit4 (w : World) (x0 x1 x2 x3 : Int) : (convert 22 22 (.slice (some ⟨w.heap.size, 0, none⟩) 4 4)).run Tryd.prog (w.alloc (.cells #[.int .u8 x0, .int .u8 x1, .int .u8 x2, .int .u8 x3] 5)) = .ok (.slice (some ⟨w.heap.size, 0, none⟩) 4 4) (w.alloc (.cells #[.int .u8 x0, .int .u8 x1, .int .u8 x2, .int .u8 x3] 5 (4, 5))) :=
  Lib.run_convert_bytes_const w 22 5 #[.int .u8 x0, .int .u8 x1, .int .u8 x2, .int .u8 x3] 4 4 Tryd.underlying22 Tryd.underlying5

set_option maxRecDepth 100000 in
set_option maxHeartbeats 4000000 in
theorem group_e (A : Option Addr) (l : List UInt8) (c : Nat) (w : World) (hr : Rd w A l) (h0 : l ≠ []) (h3 : l.length ≤ 3) (hc : l.length ≤ c) :
    Calls Tryd.prog 17 #[.slice A l.length c] w fun e w' => ∃ g, e = .returned (.slice (some ⟨g, 0, none⟩) 4 4) ∧ Bts 5 w' g (grp l) ∧ w.heap.size ≤ g ∧ Below w.heap.size w w' := by
  have hlit := lit4
  have hp : 0 < l.length := List.length_pos_iff.2 h0
  obtain ⟨b, o, rfl, hb, hcell⟩ := hr hp
  go_enter Tryd.func17, Tryd.ntmps17
  go_wp2
  go_loop [3, 10] (fun x i => ∃ k : Nat, k ≤ l.length ∧ i = .int .i64 k ∧ x = .int .u32 (vk l k : Int)) (fun _ i => l.length - (intOf i).toNat)
  case atStart => exact ⟨0, Nat.zero_le _, rfl, rfl⟩
  case round =>
    obtain ⟨k, hk, rfl, rfl⟩ := hrel
    by_cases hlt : k < l.length
    · have hlt' : (k : Int) < (l.length : Int) := by omega
      have h8 := l[k].toNat_lt
      rcases (by omega : k = 0 ∨ k = 1 ∨ k = 2) with rfl | rfl | rfl
      · have hcc : w.cell? ⟨b, o, none⟩ = _ := hcell 0 hlt
        have e2 : vk l 1 = l[0].toNat * 65536 := by simp [vk, List.getD, hp]
        clear hcell
        generalize l[0] = a at hcc h8 e2
        have eo : bits .or .u32 0 ((a.toNat : Int) * 65536) = (a.toNat : Int) * 65536 := by
          have := u32_or_nat 0 (a.toNat * 65536) (by omega) (by omega)
          rw [Nat.zero_or] at this
          simpa using this
        rw [show vk l 0 = 0 from rfl]
        go_wp2
        go_round
        case rel => exact ⟨1, by omega, rfl, by rw [e2]; simp⟩
        case measure => simp [intOf]; omega
      · have hcc := hcell 1 hlt
        have h80 := (l[0]'hp).toNat_lt
        have e1 : vk l 1 = (l[0]'hp).toNat * 65536 := by simp [vk, List.getD, hp]
        have e2 : vk l 2 = (l[0]'hp).toNat * 65536 + l[1].toNat * 256 := by simp [vk, List.getD, hp, hlt]
        rw [e1]
        clear e1 hcell
        generalize (l[0]'hp) = a0 at *
        generalize l[1] = a at hcc h8 e2
        have eo : bits .or .u32 ((a0.toNat : Int) * 65536) ((a.toNat : Int) * 256) = (a0.toNat : Int) * 65536 + (a.toNat : Int) * 256 := by
          have := or_add 16 a0.toNat (a.toNat * 256) (by omega) (by omega)
          rw [Nat.mul_comm] at this
          simpa using this
        go_wp2
        go_round
        case rel => exact ⟨2, by omega, rfl, by rw [e2]; simp⟩
        case measure => simp [intOf]; omega
      · have hcc := hcell 2 hlt
        have hl1 : 1 < l.length := by omega
        have h80 := (l[0]'hp).toNat_lt
        have h81 := (l[1]'hl1).toNat_lt
        have e1 : vk l 2 = (l[0]'hp).toNat * 65536 + (l[1]'hl1).toNat * 256 := by simp [vk, List.getD, hp, hl1]
        have e2 : vk l 3 = (l[0]'hp).toNat * 65536 + (l[1]'hl1).toNat * 256 + l[2].toNat := by simp [vk, List.getD, hp, hlt, hl1]
        rw [e1]
        clear e1 hcell
        generalize (l[0]'hp) = a0 at *
        generalize (l[1]'hl1) = a1 at *
        generalize l[2] = a at hcc h8 e2
        have eo : bits .or .u32 ((a0.toNat : Int) * 65536 + (a1.toNat : Int) * 256) (a.toNat : Int) = (a0.toNat : Int) * 65536 + (a1.toNat : Int) * 256 + (a.toNat : Int) := by
          have := or_add 8 (a0.toNat * 256 + a1.toNat) a.toNat (by omega) (by omega)
          rw [show 2 ^ 8 * (a0.toNat * 256 + a1.toNat) = a0.toNat * 65536 + a1.toNat * 256 by omega] at this
          simpa using this
        go_wp2
        go_round
        case rel => exact ⟨3, by omega, rfl, by rw [e2]; simp⟩
        case measure => simp [intOf]; omega
    · obtain rfl : k = l.length := by omega
      have hlt' : ¬ (l.length : Int) < (l.length : Int) := by omega
      have hX := vk_lt l l.length
      have hGV : ∀ k, gv l k = vk l l.length / 2 ^ (18 - 6 * k) % 64 := fun _ => rfl
      generalize vk l l.length = X at hX hGV
      have h3' : (l.length : Int) ≤ 3 := by omega
      go_wp2
      go_loopw [29] (fun i wr => ∃ k : Nat, k ≤ l.length + 1 ∧ i = .int .i64 k ∧ Bts 5 wr w.heap.size (gk l k) ∧ Below w.heap.size w wr) (fun i _ => l.length + 1 - (intOf i).toNat)
      case atStart =>
        refine ⟨0, Nat.zero_le _, rfl, ?_, below_one4 w _⟩
        exact Bts.new w (C := #[.int .u8 61, .int .u8 61, .int .u8 61, .int .u8 61]) (fun j h => by
          have hj : j < 4 := h
          rcases (by omega : j = 0 ∨ j = 1 ∨ j = 2 ∨ j = 3) with rfl | rfl | rfl | rfl <;> simp [gk])
      case round =>
        obtain ⟨k, hk, rfl, hB, hb⟩ := hrel
        by_cases hlt : k < l.length + 1
        · have hlt' : (k : Int) < (l.length : Int) + 1 := by omega
          have hgl := gk_len l k h0 (by omega)
          have hf := hB.frozen k (by omega)
          obtain ⟨z, hz⟩ : ∃ z, wr.cell? ⟨w.heap.size, k, none⟩ = some z := ⟨_, hB.cell k (by omega)⟩
          rcases (by omega : k = 0 ∨ k = 1 ∨ k = 2 ∨ k = 3) with rfl | rfl | rfl | rfl
          · obtain ⟨v, hv, hv2, he⟩ : ∃ v : Nat, v < 64 ∧ gv l 0 = v ∧ bits .and .u32 ((X : Int) / 262144) 63 = (v : Int) := ⟨X / 262144 % 64, by omega, by rw [hGV], by have := and63 (X / 262144) (by omega); simpa using this⟩
            have hv' : (v : Int) < 64 := by omega
            go_wp2
            go_roundw
            case rel =>
              refine ⟨1, by omega, rfl, ?_, below_set hb (Nat.le_refl _) _ _⟩
              rw [← gk_step l 0 h0 (by omega), gv_lett l 0 h0 h3 (by omega), hv2]
              exact Bts.set_eq hB 0 (by omega) _ (lett v) (letters_get v hv)
            case measure => first | (simp [intOf]; done) | (simp [intOf]; omega)
          · obtain ⟨v, hv, hv2, he⟩ : ∃ v : Nat, v < 64 ∧ gv l 1 = v ∧ bits .and .u32 ((X : Int) / 4096) 63 = (v : Int) := ⟨X / 4096 % 64, by omega, by rw [hGV], by have := and63 (X / 4096) (by omega); simpa using this⟩
            have hv' : (v : Int) < 64 := by omega
            go_wp2
            go_roundw
            case rel =>
              refine ⟨2, by omega, rfl, ?_, below_set hb (Nat.le_refl _) _ _⟩
              rw [← gk_step l 1 h0 (by omega), gv_lett l 1 h0 h3 (by omega), hv2]
              exact Bts.set_eq hB 1 (by omega) _ (lett v) (letters_get v hv)
            case measure => first | (simp [intOf]; done) | (simp [intOf]; omega)
          · obtain ⟨v, hv, hv2, he⟩ : ∃ v : Nat, v < 64 ∧ gv l 2 = v ∧ bits .and .u32 ((X : Int) / 64) 63 = (v : Int) := ⟨X / 64 % 64, by omega, by rw [hGV], by have := and63 (X / 64) (by omega); simpa using this⟩
            have hv' : (v : Int) < 64 := by omega
            go_wp2
            go_roundw
            case rel =>
              refine ⟨3, by omega, rfl, ?_, below_set hb (Nat.le_refl _) _ _⟩
              rw [← gk_step l 2 h0 (by omega), gv_lett l 2 h0 h3 (by omega), hv2]
              exact Bts.set_eq hB 2 (by omega) _ (lett v) (letters_get v hv)
            case measure => first | (simp [intOf]; done) | (simp [intOf]; omega)
          · obtain ⟨v, hv, hv2, he⟩ : ∃ v : Nat, v < 64 ∧ gv l 3 = v ∧ bits .and .u32 ((X : Int)) 63 = (v : Int) := ⟨X % 64, by omega, by rw [hGV]; simp, by have := and63 (X) (by omega); simpa using this⟩
            have hv' : (v : Int) < 64 := by omega
            go_wp2
            go_roundw
            case rel =>
              refine ⟨4, by omega, rfl, ?_, below_set hb (Nat.le_refl _) _ _⟩
              rw [← gk_step l 3 h0 (by omega), gv_lett l 3 h0 h3 (by omega), hv2]
              exact Bts.set_eq hB 3 (by omega) _ (lett v) (letters_get v hv)
            case measure => first | (simp [intOf]; done) | (simp [intOf]; omega)
        · obtain rfl : k = l.length + 1 := by omega
          have hlt' : ¬ ((l.length + 1 : Nat) : Int) < (l.length : Int) + 1 := by omega
          go_wp2
          go_ret
          rw [gk_end l h0 h3] at hB
          exact ⟨w.heap.size, rfl, hB, Nat.le_refl _, hb⟩
end Go.Proofs.YtofgkahldhelaaaDoor
