/- Package rec: Put. -/
import Derived.Test.YtjhmdgcfdelbkaaDoorRecB
import Derived.Deep.OwnRows
set_option linter.unusedVariables false
namespace Go.Proofs.YtjhmdgcfdelbkaaDoor
open Go.RowKit

def headR (num : Nat) (body : List UInt8) : List UInt8 := be 4 body.length ++ be 8 num ++ body
def putR (num : Nat) (body : List UInt8) : List UInt8 := headR num body ++ be 4 (crcAdd 0 (headR num body))
theorem headR_len (num : Nat) (body : List UInt8) : (headR num body).length = 12 + body.length := by simp [headR, be_len]; omega
theorem putR_len (num : Nat) (body : List UInt8) : (putR num body).length = 16 + body.length := by simp [putR, headR_len, be_len]; omega
theorem Rd.drop_some {w : World} {g : Nat} {l : List UInt8} (h : Rd w (some ⟨g, 0, none⟩) l) (k : Nat) : Rd w (some ⟨g, k, none⟩) (l.drop k) := fun hp => by
  have hk : 0 < l.length := by simp at hp; omega
  obtain ⟨b, o, hA, hb, hc⟩ := h hk
  injection hA with hA
  injection hA with h1 h2
  subst h1 h2
  refine ⟨g, k, rfl, hb, fun i hi => ?_⟩
  have hi' : k + i < l.length := by simp at hi; omega
  rw [List.getElem_drop, ← hc (k + i) hi', Nat.zero_add]

theorem own_mono {w : World} {B C : Nat} {e : TypeId} {v : Value} {n : Nat} {xs : List Value} (h : w.ownsRow B e 1 v n xs) (hC : C ≤ B) : w.ownsRow C e 1 v n xs := by
  refine ⟨h.1, ?_⟩
  rcases h.2 with h | ⟨g, cap, cur, rfl, hg, r⟩
  · exact .inl h
  · exact .inr ⟨g, cap, cur, rfl, Nat.le_trans hC hg, r⟩

set_option maxHeartbeats 400000 in
theorem put_bad (A : Option Addr) (l : List UInt8) (c : Nat) (num : Int) (Ab : Option Addr) (n cb : Nat) (w : World) (hbad : goodB num n = false) :
    Calls Tryd.prog 5 #[.slice A l.length c, .agg #[.int .i64 num, .slice Ab n cb]] w fun e w' => e = .returned (.tuple #[.slice none 0 0, .int .i64 1]) ∧ Below w.heap.size w w' := by
  have b := (Below.refl w.heap.size w).alloc (Nat.le_refl _) (.cells #[.int .i64 num, .slice Ab n cb] 24)
  have s1 := b.size
  have hg := good_any num Ab n cb (w.alloc (.cells #[.int .i64 num, .slice Ab n cb] 24))
  rw [hbad] at hg
  have HG := Lib.hid hg
  clear hg
  go_enter Tryd.func5, Tryd.ntmps5
  go_wp2_with fail
  refine HG.out.mono ?_
  rintro e w1 ⟨rfl, b1⟩
  go_wp2
  go_ret2
  exact ⟨rfl, b.trans (b1.mono s1)⟩

set_option maxRecDepth 100000 in
set_option maxHeartbeats 4000000 in
theorem put_any (A : Option Addr) (l : List UInt8) (c : Nat) (num : Nat) (Ab : Option Addr) (body : List UInt8) (cb : Nat) (w : World) (hr : Rd w A l) (hrb : Rd w Ab body) (hl : l.length ≤ 100000) (hgood : goodB (num : Int) body.length = true) (hnum : num < 9223372036854775808) (ht : Steps w) (hp : 0 < w.heap.size) :
    Calls Tryd.prog 5 #[.slice A l.length c, .agg #[.int .i64 (num : Int), .slice Ab body.length cb]] w fun e w' => ∃ g cap, e = .returned (.tuple #[.slice (some ⟨g, 0, none⟩) (l ++ putR num body).length cap, .int .i64 0]) ∧ w'.ownsRow w.heap.size 5 1 (.slice (some ⟨g, 0, none⟩) (l ++ putR num body).length cap) (l ++ putR num body).length (Lib.byteCells (l ++ putR num body)) ∧ Below w.heap.size w w' := by
  have HT := Lib.hid ht
  clear ht
  obtain ⟨i0, hi0, hz0, hz1, hz2⟩ := info_parts u8Info
  have hbl : body.length ≤ 200000 := by unfold goodB at hgood; simp at hgood; omega
  have hsz : sizeN num body.length = 16 + body.length := by unfold sizeN; rw [if_pos hgood]; omega
  have b0 := (Below.refl w.heap.size w).alloc (Nat.le_refl _) (.cells #[.int .i64 (num : Int), .slice Ab body.length cb] 24)
  have s0 := b0.size
  have hg := good_any num Ab body.length cb (w.alloc (.cells #[.int .i64 (num : Int), .slice Ab body.length cb] 24))
  rw [hgood] at hg
  have HG := Lib.hid hg
  clear hg hgood
  go_enter Tryd.func5, Tryd.ntmps5
  go_wp2_with fail
  refine HG.out.mono ?_
  rintro e w1 ⟨rfl, b1⟩
  clear HG
  have d0 : w1.cell? ⟨w.heap.size, 0, none⟩ = some (.int .i64 (num : Int)) := (b1.cell (p := ⟨w.heap.size, 0, none⟩) (by simp)).trans (by simp)
  have d1 : w1.cell? ⟨w.heap.size, 1, none⟩ = some (.slice Ab body.length cb) := (b1.cell (p := ⟨w.heap.size, 1, none⟩) (by simp)).trans (by simp)
  have b1' := b0.trans (b1.mono s0)
  have s1' : w.heap.size + 1 ≤ w1.heap.size := by have := b1.size; simpa using this
  have hs2 := size_any num Ab body.length cb w1
  rw [hsz] at hs2
  obtain ⟨z, HZ, hz⟩ : ∃ z, Hid (16 + body.length = z) ∧ z ≤ 200016 := ⟨_, rfl, by omega⟩
  rw [HZ.out] at hs2
  have HS := Lib.hid hs2
  have hmk : ∀ W : World, (Instr.makeSlice 22 (.int .i64 0) (.int .i64 ((l.length : Int) + z))).run Tryd.prog W = .ok (.slice (some ⟨W.heap.size, 0, none⟩) 0 (l.length + z)) (W.alloc (.cells (madeCells #[.int .u8 0] (l.length + z)) 5)) := fun W => by
    have h := run_make (P := Tryd.prog) W 22 5 i0 (.int .u8 0) Tryd.underlying22 hi0 hz0 .i64 .i64 0 ((l.length : Int) + z) (Int.le_refl _) (by omega) (by rw [hz2]; omega) (by omega)
    rw [hz1, Nat.mul_one, show ((l.length : Int) + z).toNat = l.length + z by omega] at h
    exact h
  clear hs2 b1 hsz
  go_wp2_with fail
  refine HS.out.mono ?_
  rintro e w2 ⟨rfl, b2⟩
  have b2' := b1'.trans (b2.mono b1'.size)
  have s2' : w.heap.size + 1 ≤ w2.heap.size := Nat.le_trans s1' b2.size
  have d0 : w2.cell? ⟨w.heap.size, 0, none⟩ = some (.int .i64 (num : Int)) := (b2.cell (p := ⟨w.heap.size, 0, none⟩) (by show w.heap.size < _; omega)).trans d0
  have d1 : w2.cell? ⟨w.heap.size, 1, none⟩ = some (.slice Ab body.length cb) := (b2.cell (p := ⟨w.heap.size, 1, none⟩) (by show w.heap.size < _; omega)).trans d1
  clear HS b2 b1' s1'
  have own0 : (w2.alloc (.cells (madeCells #[.int .u8 0] (l.length + z)) 5)).ownsRow (w.heap.size + 1) 5 1 (.slice (some ⟨w2.heap.size, 0, none⟩) 0 (l.length + z)) ([] : List UInt8).length (Lib.byteCells []) :=
    World.ownsRow_made w2 _ (l.length + z) s2' (by unfold maxLen; omega) (by rw [size_madeCells, Nat.mul_one])
  have D0 := Lib.hid d0
  have D1 := Lib.hid d1
  have hp2 := Nat.lt_of_lt_of_le hp b2'.size
  have bx : Below (w.heap.size + 1) w2 (w2.alloc (.cells (madeCells #[.int .u8 0] (l.length + z)) 5)) := (Below.refl _ w2).alloc s2' _
  have ba := b2'.trans (bx.mono (Nat.le_succ _))
  go_wp2_with (at_builtin; refine wpList_append_rd _ rfl _ _ 22 rfl (w.heap.size + 1) 5 i0 Tryd.underlying22 hi0 hz0 hz1 hz2 _ [] rfl own0 A l _ _ rfl rfl (hr.below ba) (by simp; omega) (by simp; omega) ?_)
  intro v3 w3 hown3 g3
  have bB3 := bx.grown g3 (by simp; omega) (fun k hk => (own0.lt k hk).1)
  clear own0 hmk d0 d1 bx ba
  have t3 : Below w.heap.size w w3 := b2'.trans (bB3.mono (Nat.le_succ _))
  have q3 : w.heap.size + 1 ≤ w3.heap.size := Nat.le_trans s2' bB3.size
  have d0 : w3.cell? ⟨w.heap.size, 0, none⟩ = some (.int .i64 (num : Int)) := (bB3.cell (p := ⟨w.heap.size, 0, none⟩) (Nat.lt_succ_self _)).trans D0.out
  have d1 : w3.cell? ⟨w.heap.size, 1, none⟩ = some (.slice Ab body.length cb) := (bB3.cell (p := ⟨w.heap.size, 1, none⟩) (Nat.lt_succ_self _)).trans D1.out
  have hown3 : w3.ownsRow (w.heap.size + 1) 5 1 v3 l.length (Lib.byteCells l) := hown3
  obtain ⟨A3, c3, rfl, hc3, -⟩ := Bts.of_own hown3
  have hA := Lib.hid (appnum_any (w.heap.size + 1) c3 body.length 4 A3 l w3 hown3 q3 (by omega) (by omega) (by omega) (by omega))
  go_wp2_with fail
  refine hA.out.mono ?_
  rintro e w4 ⟨g4, c4, rfl, hown4, b4⟩
  have bB4 := bB3.trans b4
  clear hA hown3 b4 d0 d1
  have t4 : Below w.heap.size w w4 := b2'.trans (bB4.mono (Nat.le_succ _))
  have q4 : w.heap.size + 1 ≤ w4.heap.size := Nat.le_trans s2' bB4.size
  have d0 : w4.cell? ⟨w.heap.size, 0, none⟩ = some (.int .i64 (num : Int)) := (bB4.cell (p := ⟨w.heap.size, 0, none⟩) (Nat.lt_succ_self _)).trans D0.out
  have d1 : w4.cell? ⟨w.heap.size, 1, none⟩ = some (.slice Ab body.length cb) := (bB4.cell (p := ⟨w.heap.size, 1, none⟩) (Nat.lt_succ_self _)).trans D1.out
  obtain ⟨L4, HL4, hL4, hL4', hown4⟩ : ∃ L4, Hid (l ++ be 4 body.length = L4) ∧ L4.length ≤ 100004 ∧ Hid (L4.length = l.length + 4) ∧ w4.ownsRow (w.heap.size + 1) 5 1 (.slice (some ⟨g4, 0, none⟩) L4.length c4) L4.length (Lib.byteCells L4) := ⟨_, rfl, by rw [List.length_append, be_len]; omega, by show _ = _; rw [List.length_append, be_len], hown4⟩
  rw [HL4.out]
  have hA := Lib.hid (appnum_any (w.heap.size + 1) c4 num 8 (some ⟨g4, 0, none⟩) L4 w4 hown4 q4 (by omega) (by omega) (by omega) (by omega))
  go_wp2_with fail
  refine hA.out.mono ?_
  rintro e w5 ⟨g5, c5, rfl, hown5, b5⟩
  have bB5 := bB4.trans b5
  clear hA hown4 b5 d0 d1
  have t5 : Below w.heap.size w w5 := b2'.trans (bB5.mono (Nat.le_succ _))
  have q5 : w.heap.size + 1 ≤ w5.heap.size := Nat.le_trans s2' bB5.size
  have d0 : w5.cell? ⟨w.heap.size, 0, none⟩ = some (.int .i64 (num : Int)) := (bB5.cell (p := ⟨w.heap.size, 0, none⟩) (Nat.lt_succ_self _)).trans D0.out
  have d1 : w5.cell? ⟨w.heap.size, 1, none⟩ = some (.slice Ab body.length cb) := (bB5.cell (p := ⟨w.heap.size, 1, none⟩) (Nat.lt_succ_self _)).trans D1.out
  obtain ⟨L5, HL5, hL5, hL5', hown5⟩ : ∃ L5, Hid (L4 ++ be 8 num = L5) ∧ L5.length ≤ 100012 ∧ Hid (L5.length = l.length + 12) ∧ w5.ownsRow (w.heap.size + 1) 5 1 (.slice (some ⟨g5, 0, none⟩) L5.length c5) L5.length (Lib.byteCells L5) := ⟨_, rfl, by rw [List.length_append, be_len]; omega, by show _ = _; rw [List.length_append, be_len, hL4'.out], hown5⟩
  rw [HL5.out]
  go_wp2_with (at_builtin; refine wpList_append_rd _ rfl _ _ 22 rfl (w.heap.size + 1) 5 i0 Tryd.underlying22 hi0 hz0 hz1 hz2 _ L5 rfl hown5 Ab body _ _ rfl rfl (hrb.below t5) (by omega) q5 ?_)
  intro v6 w6 hown6 g6
  have bB6 := bB5.grown g6 q5 (fun k hk => (hown5.lt k hk).1)
  clear d0 d1
  have t6 : Below w.heap.size w w6 := b2'.trans (bB6.mono (Nat.le_succ _))
  have q6 : w.heap.size + 1 ≤ w6.heap.size := Nat.le_trans s2' bB6.size
  have d0 : w6.cell? ⟨w.heap.size, 0, none⟩ = some (.int .i64 (num : Int)) := (bB6.cell (p := ⟨w.heap.size, 0, none⟩) (Nat.lt_succ_self _)).trans D0.out
  have d1 : w6.cell? ⟨w.heap.size, 1, none⟩ = some (.slice Ab body.length cb) := (bB6.cell (p := ⟨w.heap.size, 1, none⟩) (Nat.lt_succ_self _)).trans D1.out
  obtain ⟨L6, HL6, hL6, hL6', hown6⟩ : ∃ L6, Hid (L5 ++ body = L6) ∧ L6.length ≤ 300012 ∧ Hid (L6.length = l.length + 12 + body.length) ∧ w6.ownsRow (w.heap.size + 1) 5 1 v6 L6.length (Lib.byteCells L6) := ⟨_, rfl, by rw [List.length_append]; omega, by show _ = _; rw [List.length_append, hL5'.out], by rw [List.length_append]; exact hown6⟩
  rcases hown6.2 with ⟨_, h0⟩ | ⟨g7, c6, cur, rfl, _, _, hc6, _⟩
  · have := hL6'.out; omega
  have hLx := hL6'.out
  have hr6 : Rd w6 (some ⟨g7, 0, none⟩) L6 := by
    obtain ⟨A9, c9, h9, _, r9⟩ := Bts.of_own hown6
    injection h9 with h9
    rw [← h9] at r9
    exact r9
  have hD : L6.drop l.length = headR num body := by
    rw [← HL6.out, ← HL5.out, ← HL4.out, headR]
    simp
  have hr7 := Rd.drop_some hr6 l.length
  have ho := of1 (some ⟨g7, l.length, none⟩) (L6.drop l.length) (c6 - l.length) w6 hr7 (by rw [List.length_drop]; omega) (HT.out.below t6 hp) (Nat.lt_of_lt_of_le hp t6.size)
  rw [List.length_drop, hD] at ho
  have hcr := crcAdd_lt 0 (headR num body) (by decide)
  obtain ⟨y, HY⟩ : ∃ y, Hid (crcAdd 0 (headR num body) = y) := ⟨_, rfl⟩
  rw [HY.out] at ho hcr
  have HO := Lib.hid ho
  have o1 : (l.length : Int) ≤ (L6.length : Int) := by omega
  have o2 : (L6.length : Int) ≤ (c6 : Int) := by omega
  have o3 : ¬ c6 = l.length := by omega
  have b7 : Below (w.heap.size + 1) w6 (w6.alloc (.cells #[.slice (some ⟨g7, l.length, none⟩) (L6.length - l.length) (c6 - l.length)] 22)) := (Below.refl _ w6).alloc q6 _
  have bB7 := bB6.trans b7
  have hA := Lib.hid (appnum_any (w.heap.size + 1) c6 y 4 (some ⟨g7, 0, none⟩) L6 _ (hown6.alloc (.cells #[.slice (some ⟨g7, l.length, none⟩) (L6.length - l.length) (c6 - l.length)] 22)) (Nat.le_trans q6 b7.size) (by omega) (by omega) (by omega) (by omega))
  have HLX := Lib.hid hLx
  have HDD := Lib.hid hD
  clear ho hD hLx hr6 hr7 d0 d1 b7
  go_wp2_with fail
  refine HO.out.mono ?_
  rintro e w7 ⟨rfl, rfl⟩
  go_wp2_with fail
  refine hA.out.mono ?_
  rintro e w8 ⟨g8, c8, rfl, hown8, b8⟩
  have bB8 := bB7.trans b8
  have t8 : Below w.heap.size w w8 := b2'.trans (bB8.mono (Nat.le_succ _))
  obtain ⟨L8, HL8, hown8⟩ : ∃ L8, Hid (L6 ++ be 4 y = L8) ∧ w8.ownsRow (w.heap.size + 1) 5 1 (.slice (some ⟨g8, 0, none⟩) L8.length c8) L8.length (Lib.byteCells L8) := ⟨_, rfl, hown8⟩
  rw [HL8.out]
  go_wp2
  go_ret2
  have e : L8 = l ++ putR num body := by
    rw [← HL8.out, putR, HY.out, ← HL6.out, ← HL5.out, ← HL4.out, headR]
    simp
  refine ⟨g8, c8, by rw [← e]; rfl, ?_, t8⟩
  rw [← e]
  exact own_mono hown8 (Nat.le_succ _)
end Go.Proofs.YtjhmdgcfdelbkaaDoor
