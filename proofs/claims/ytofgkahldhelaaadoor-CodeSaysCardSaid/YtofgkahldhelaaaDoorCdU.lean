/- The reference's Base64. -/
import Derived.Test.YtofgkahldhelaaaDoorCdR
set_option linter.unusedVariables false
namespace Go.Proofs.YtofgkahldhelaaaDoor
open Go.RowKit

theorem letters_r (w : World) : Calls Tryd.prog 16 #[] w fun e w' => e = .returned (.string lettersA) ∧ w = w' := by
  go_enter Tryd.func16, Tryd.ntmps16
  go_wp2
  go_ret
  exact ⟨rfl, rfl⟩
theorem grp_pad (l : List UInt8) (j : Nat) (h0 : l ≠ []) (h3 : l.length ≤ 3) (hj : l.length < j) (h4 : j < 4) : (grp l).getD j 0 = 61 := by
  match l, h0, h3, hj with
  | [a], _, _, hj =>
    rcases (by simp at hj; omega : j = 2 ∨ j = 3) with rfl | rfl <;> simp [grp]
  | [a, b], _, _, hj =>
    obtain rfl : j = 3 := by simp at hj; omega
    simp [grp]
  | [a, b, c], _, _, hj => simp at hj; omega
  | _ :: _ :: _ :: _ :: _, _, h3, _ => simp at h3
/-- The number of three bytes after j of them. -/
def pv (a b c : Nat) : Nat → Nat
  | 0 => 0
  | 1 => a
  | 2 => a * 256 + b
  | _ => a * 65536 + b * 256 + c
theorem pv_vk (l : List UInt8) (h3 : l.length ≤ 3) : pv (l.getD 0 0).toNat (l.getD 1 0).toNat (l.getD 2 0).toNat 3 = vk l l.length := by
  match l, h3 with
  | [], _ => rfl
  | [a], _ => simp [pv, vk]
  | [a, b], _ => simp [pv, vk]
  | [a, b, c], _ => simp [pv, vk]
  | _ :: _ :: _ :: _ :: _, h3 => simp at h3

set_option maxRecDepth 100000 in
set_option maxHeartbeats 8000000 in
theorem r_base64 (A : Option Addr) (l : List UInt8) (n c : Nat) (w : World) (hn : l.length = n) (hr : Rd w A l) (hl : l.length ≤ 1000000) (hc : l.length ≤ c) :
    Calls Tryd.prog 8 #[.slice A n c] w fun e w' => ∃ v, e = .returned v ∧ RdV w' v (b64 0 l) ∧ Below w.heap.size w w' := by
  subst hn
  obtain ⟨i0, hi0, hz0, hz1, hz2⟩ := info_parts u8Info
  go_enter Tryd.func8, Tryd.ntmps8
  go_wp2_with ((with_reducible refine (letters_r _).mono ?_))
  first | (with_reducible rintro _ w0 ⟨rfl, rfl⟩; go_wp2) | skip
  go_loopw [3, 5, 6] (fun v nv iv wr => ∃ (k N : Nat) (C : List UInt8), k ≤ l.length + 2 ∧ iv = .int .i64 k ∧ nv = .int .i64 N ∧ N % 4 = 0 ∧ N ≤ 2 * k ∧ C.length ≤ 2 * k ∧ Hid (b64 0 l = C ++ b64 (N % 76) (l.drop k)) ∧ wr.ownsRow w.heap.size 5 1 v C.length (Lib.byteCells C) ∧ Below w.heap.size w wr) (fun _ _ iv _ => l.length + 3 - (intOf iv).toNat)
  case atStart => exact ⟨0, 0, [], by omega, rfl, rfl, rfl, by omega, by simp, rfl, own_none w _ _, Below.refl _ _⟩
  case round =>
    obtain ⟨k, N, C, hk, rfl, rfl, hN4, hN, hC, HQ, hI, hb⟩ := hrel
    have hsz := hb.size
    by_cases hlt : k < l.length
    · have hlt' : (k : Int) < (l.length : Int) := by omega
      have hrw := hr.below hb
      obtain ⟨b, o, rfl, hbb, hcell⟩ := hrw (by omega)
      obtain ⟨x, HX⟩ : ∃ x, Hid (x = (l.drop k).take 3) := ⟨_, Lib.hid rfl⟩
      have hxl : x.length = min 3 (l.length - k) := by rw [HX.out, List.length_take, List.length_drop]
      have hx0 : x ≠ [] := by
        intro e
        rw [e] at hxl
        simp at hxl
        omega
      have hcx : ∀ j, j < 3 → ∀ h : k + j < l.length, wr.cell? ⟨b, o + (k + j), none⟩ = some (.int .u8 ((x.getD j 0).toNat : Int)) := by
        intro j hj h
        rw [hcell (k + j) h]
        have e : x.getD j 0 = l[k + j] := by
          rw [HX.out, List.getD_eq_getElem?_getD, List.getElem?_take_of_lt hj, List.getElem?_drop, List.getElem?_eq_getElem h]
          rfl
        rw [e]
      have hz : ∀ j, j < 3 → ¬ k + j < l.length → x.getD j 0 = 0 := by
        intro j hj h
        rw [List.getD_eq_getElem?_getD, List.getElem?_eq_none (by omega)]
        rfl
      have hpv := Lib.hid (pv_vk x (by omega))
      have hxp : 1 ≤ x.length := List.length_pos_iff.2 hx0
      have c0 := hcx 0 (by omega) (by omega)
      have c1 := hcx 1 (by omega)
      have c2 := hcx 2 (by omega)
      have z1 := hz 1 (by omega)
      have z2 := hz 2 (by omega)
      generalize x.getD 0 0 = a0 at c0 hpv
      generalize x.getD 1 0 = a1 at c1 z1 hpv
      generalize x.getD 2 0 = a2 at c2 z2 hpv
      have h80 := a0.toNat_lt
      have h81 := a1.toNat_lt
      have h82 := a2.toNat_lt
      rw [Nat.add_zero] at c0
      replace c1 := Lib.hid c1
      replace c2 := Lib.hid c2
      replace z1 := Lib.hid z1
      replace z2 := Lib.hid z2
      replace hxl := Lib.hid hxl
      clear hcx hz hcell
      go_wp2
      go_loop [7, 8, 9] (fun v hv kv => ∃ j : Nat, j ≤ 3 ∧ kv = .int .i64 j ∧ hv = .int .i64 ((min j x.length : Nat) : Int) ∧ v = .int .u32 (pv a0.toNat a1.toNat a2.toNat j : Int)) (fun _ _ kv => 3 - (intOf kv).toNat)
      case atStart => exact ⟨0, by omega, rfl, by simp, rfl⟩
      case round =>
        obtain ⟨j, hj, rfl, rfl, rfl⟩ := hrel
        rcases (by omega : j = 0 ∨ j = 1 ∨ j = 2 ∨ j = 3) with rfl | rfl | rfl | rfl
        · rw [show pv a0.toNat a1.toNat a2.toNat 0 = 0 from rfl]
          have eo : bits .or .u32 0 (a0.toNat : Int) = (a0.toNat : Int) := by
            have := or_add 8 0 a0.toNat (by omega) (by omega)
            simpa using this
          go_wp2
          go_round
          case rel => exact ⟨1, by omega, by go_num, by rw [show min 1 x.length = 1 by omega]; go_num, by first | rfl | (simp [pv]; done) | (congr 1; simp [pv])⟩
          case measure => simp [intOf]
        · rw [show pv a0.toNat a1.toNat a2.toNat 1 = a0.toNat from rfl, show min 1 x.length = 1 by omega]
          by_cases hk1 : k + 1 < l.length
          · have hk1' : (k : Int) + 1 < (l.length : Int) := by omega
            have cc := c1.out hk1
            have eo : bits .or .u32 ((a0.toNat : Int) * 256) (a1.toNat : Int) = (a0.toNat : Int) * 256 + (a1.toNat : Int) := by
              have := or_add 8 a0.toNat a1.toNat (by omega) (by omega)
              rw [show 2 ^ 8 * a0.toNat = a0.toNat * 256 by omega] at this
              simpa using this
            have h2 : 2 ≤ x.length := by rw [hxl.out]; omega
            go_wp2
            go_round
            case rel => exact ⟨2, by omega, by go_num, by rw [show min 2 x.length = 2 by omega]; go_num, by first | rfl | (simp [pv]; done) | (congr 1; simp [pv])⟩
            case measure => simp [intOf]
          · have hk1' : ¬ (k : Int) + 1 < (l.length : Int) := by omega
            have e1 := z1.out hk1
            subst e1
            have h2 : x.length = 1 := by rw [hxl.out]; omega
            go_wp2
            go_round
            case rel => exact ⟨2, by omega, by go_num, by rw [show min 2 x.length = 1 by omega], by first | rfl | (simp [pv]; done) | (congr 1; simp [pv])⟩
            case measure => simp [intOf]
        · rw [show pv a0.toNat a1.toNat a2.toNat 2 = a0.toNat * 256 + a1.toNat from rfl]
          by_cases hk1 : k + 2 < l.length
          · have hk1' : (k : Int) + 2 < (l.length : Int) := by omega
            have cc := c2.out hk1
            have eo : bits .or .u32 (((a0.toNat : Int) * 256 + (a1.toNat : Int)) * 256) (a2.toNat : Int) = (a0.toNat : Int) * 65536 + (a1.toNat : Int) * 256 + (a2.toNat : Int) := by
              have := or_add 8 (a0.toNat * 256 + a1.toNat) a2.toNat (by omega) (by omega)
              rw [show 2 ^ 8 * (a0.toNat * 256 + a1.toNat) = (a0.toNat * 256 + a1.toNat) * 256 by omega] at this
              push_cast at this
              rw [this]
              omega
            have h2 : x.length = 3 := by rw [hxl.out]; omega
            rw [show min 2 x.length = 2 by omega]
            go_wp2
            go_round
            case rel => exact ⟨3, by omega, by go_num, by rw [show min 3 x.length = 3 by omega]; go_num, by first | rfl | (simp [pv]; done) | (congr 1; simp [pv])⟩
            case measure => simp [intOf]
          · have hk1' : ¬ (k : Int) + 2 < (l.length : Int) := by omega
            have e1 := z2.out hk1
            subst e1
            have h2 : x.length ≤ 2 := by rw [hxl.out]; omega
            rw [show min 2 x.length = x.length by omega]
            go_wp2
            go_round
            case rel => exact ⟨3, by omega, by go_num, by rw [show min 3 x.length = x.length by omega], by first | rfl | (simp [pv]; omega) | (congr 1; simp [pv]; omega)⟩
            case measure => simp [intOf]
        · rw [hpv.out, show min 3 x.length = x.length by rw [hxl.out]; omega]
          have hX := vk_lt x x.length
          have hGV : ∀ k, gv x k = vk x x.length / 2 ^ (18 - 6 * k) % 64 := fun _ => rfl
          generalize vk x x.length = X at hX hGV
          have hx3 : x.length ≤ 3 := by rw [hxl.out]; omega
          have hgl := grp_len x hx0
          go_wp2
          go_loopw [3, 5, 10] (fun v nv kv wk => ∃ (j : Nat) (D : List UInt8), j ≤ 4 ∧ kv = .int .i64 j ∧ nv = .int .i64 ((N : Int) + (j : Int)) ∧ Hid (D = C ++ (grp x).take j) ∧ D.length ≤ C.length + j ∧ wk.ownsRow w.heap.size 5 1 v D.length (Lib.byteCells D) ∧ Below w.heap.size w wk) (fun _ _ kv _ => 4 - (intOf kv).toNat)
          case atStart => exact ⟨0, C, by omega, rfl, by simp, by simp [Hid], by simp, hI, hb⟩
          case round =>
            obtain ⟨j, D, hj, rfl, rfl, HD, hDl, hID, hbD⟩ := hrel
            have hsD := hbD.size
            by_cases hj4 : j < 4
            · have hj4' : (j : Int) < 4 := by omega
              have hstep : Hid ((grp x).take (j + 1) = (grp x).take j ++ [(grp x).getD j 0]) := by
                show _ = _
                rw [List.take_succ_eq_append_getElem (by omega), List.getD_eq_getElem?_getD, List.getElem?_eq_getElem (by omega : j < (grp x).length)]
                rfl
              by_cases hjh : j ≤ x.length
              · have hjh' : (j : Int) ≤ (x.length : Int) := by omega
                have hgv := gv_lett x j hx0 hx3 hjh
                have hs2 := hstep.out
                rw [hgv] at hs2
                rcases (by omega : j = 0 ∨ j = 1 ∨ j = 2 ∨ j = 3) with rfl | rfl | rfl | rfl
                · obtain ⟨v, hv, hv2, he⟩ : ∃ v : Nat, v < 64 ∧ gv x 0 = v ∧ bits .and .u32 ((X : Int) / 262144) 63 = (v : Int) := ⟨X / 262144 % 64, by omega, by first | (rw [hGV]; done) | (rw [hGV]; simp), by have := and63 (X / 262144) (by omega); simpa using this⟩
                  have hv' : (v : Int) < 64 := by omega
                  rw [hv2, ← letters_get v hv] at hs2
                  replace hstep := Lib.hid hs2
                  clear hs2 hgv
                  go_wp2_with (at_builtin; refine wpList_append_rda _ rfl _ _ 22 rfl w.heap.size 5 i0 Tryd.underlying22 hi0 hz0 hz1 hz2 _ D rfl (ow_alloc hID _) _ [(lettersA[v]'hv)] _ _ rfl rfl (lit_rdN _ [(lettersA[v]'hv)] _ (by simp) _ rfl) (by first | omega | (simp; omega) | (simp; done)) (by first | omega | (simp; omega) | (simp; done)) ?_)
                  intro v4 w4 hown4 hg4 _
                  have hb4 := (hbD.alloc hsD (.cells #[.int .u8 (((lettersA[v]'hv) : UInt8).toNat : Int)] 5)).grown hg4 (by simp; omega) (fun k hk => (hID.lt k hk).1)
                  obtain ⟨D4, HD4, hD4, hown4⟩ : ∃ D4, Hid (D4 = D ++ [(lettersA[v]'hv)]) ∧ D4.length ≤ D.length + 1 ∧ w4.ownsRow w.heap.size 5 1 v4 D4.length (Lib.byteCells D4) := ⟨D ++ [(lettersA[v]'hv)], rfl, by rw [List.length_append]; exact Nat.le_refl _, by first | exact hown4 | (rw [List.length_append]; exact hown4) | simpa using hown4⟩
                  go_wp2
                  go_roundw
                  case rel =>
                    refine ⟨1, D4, by omega, by go_num, by go_num, ?_, by omega, hown4, hb4⟩
                    show _ = _
                    rw [HD4.out, HD.out, hstep.out, List.append_assoc]
                  case measure => first | (simp [intOf]; done) | (simp [intOf]; omega)
                · obtain ⟨v, hv, hv2, he⟩ : ∃ v : Nat, v < 64 ∧ gv x 1 = v ∧ bits .and .u32 ((X : Int) / 4096) 63 = (v : Int) := ⟨X / 4096 % 64, by omega, by first | (rw [hGV]; done) | (rw [hGV]; simp), by have := and63 (X / 4096) (by omega); simpa using this⟩
                  have hv' : (v : Int) < 64 := by omega
                  rw [hv2, ← letters_get v hv] at hs2
                  replace hstep := Lib.hid hs2
                  clear hs2 hgv
                  go_wp2_with (at_builtin; refine wpList_append_rda _ rfl _ _ 22 rfl w.heap.size 5 i0 Tryd.underlying22 hi0 hz0 hz1 hz2 _ D rfl (ow_alloc hID _) _ [(lettersA[v]'hv)] _ _ rfl rfl (lit_rdN _ [(lettersA[v]'hv)] _ (by simp) _ rfl) (by first | omega | (simp; omega) | (simp; done)) (by first | omega | (simp; omega) | (simp; done)) ?_)
                  intro v4 w4 hown4 hg4 _
                  have hb4 := (hbD.alloc hsD (.cells #[.int .u8 (((lettersA[v]'hv) : UInt8).toNat : Int)] 5)).grown hg4 (by simp; omega) (fun k hk => (hID.lt k hk).1)
                  obtain ⟨D4, HD4, hD4, hown4⟩ : ∃ D4, Hid (D4 = D ++ [(lettersA[v]'hv)]) ∧ D4.length ≤ D.length + 1 ∧ w4.ownsRow w.heap.size 5 1 v4 D4.length (Lib.byteCells D4) := ⟨D ++ [(lettersA[v]'hv)], rfl, by rw [List.length_append]; exact Nat.le_refl _, by first | exact hown4 | (rw [List.length_append]; exact hown4) | simpa using hown4⟩
                  go_wp2
                  go_roundw
                  case rel =>
                    refine ⟨2, D4, by omega, by go_num, by go_num, ?_, by omega, hown4, hb4⟩
                    show _ = _
                    rw [HD4.out, HD.out, hstep.out, List.append_assoc]
                  case measure => first | (simp [intOf]; done) | (simp [intOf]; omega)
                · obtain ⟨v, hv, hv2, he⟩ : ∃ v : Nat, v < 64 ∧ gv x 2 = v ∧ bits .and .u32 ((X : Int) / 64) 63 = (v : Int) := ⟨X / 64 % 64, by omega, by first | (rw [hGV]; done) | (rw [hGV]; simp), by have := and63 (X / 64) (by omega); simpa using this⟩
                  have hv' : (v : Int) < 64 := by omega
                  rw [hv2, ← letters_get v hv] at hs2
                  replace hstep := Lib.hid hs2
                  clear hs2 hgv
                  go_wp2_with (at_builtin; refine wpList_append_rda _ rfl _ _ 22 rfl w.heap.size 5 i0 Tryd.underlying22 hi0 hz0 hz1 hz2 _ D rfl (ow_alloc hID _) _ [(lettersA[v]'hv)] _ _ rfl rfl (lit_rdN _ [(lettersA[v]'hv)] _ (by simp) _ rfl) (by first | omega | (simp; omega) | (simp; done)) (by first | omega | (simp; omega) | (simp; done)) ?_)
                  intro v4 w4 hown4 hg4 _
                  have hb4 := (hbD.alloc hsD (.cells #[.int .u8 (((lettersA[v]'hv) : UInt8).toNat : Int)] 5)).grown hg4 (by simp; omega) (fun k hk => (hID.lt k hk).1)
                  obtain ⟨D4, HD4, hD4, hown4⟩ : ∃ D4, Hid (D4 = D ++ [(lettersA[v]'hv)]) ∧ D4.length ≤ D.length + 1 ∧ w4.ownsRow w.heap.size 5 1 v4 D4.length (Lib.byteCells D4) := ⟨D ++ [(lettersA[v]'hv)], rfl, by rw [List.length_append]; exact Nat.le_refl _, by first | exact hown4 | (rw [List.length_append]; exact hown4) | simpa using hown4⟩
                  go_wp2
                  go_roundw
                  case rel =>
                    refine ⟨3, D4, by omega, by go_num, by go_num, ?_, by omega, hown4, hb4⟩
                    show _ = _
                    rw [HD4.out, HD.out, hstep.out, List.append_assoc]
                  case measure => first | (simp [intOf]; done) | (simp [intOf]; omega)
                · obtain ⟨v, hv, hv2, he⟩ : ∃ v : Nat, v < 64 ∧ gv x 3 = v ∧ bits .and .u32 ((X : Int)) 63 = (v : Int) := ⟨X % 64, by omega, by first | (rw [hGV]; done) | (rw [hGV]; simp), by have := and63 (X) (by omega); simpa using this⟩
                  have hv' : (v : Int) < 64 := by omega
                  rw [hv2, ← letters_get v hv] at hs2
                  replace hstep := Lib.hid hs2
                  clear hs2 hgv
                  go_wp2_with (at_builtin; refine wpList_append_rda _ rfl _ _ 22 rfl w.heap.size 5 i0 Tryd.underlying22 hi0 hz0 hz1 hz2 _ D rfl (ow_alloc hID _) _ [(lettersA[v]'hv)] _ _ rfl rfl (lit_rdN _ [(lettersA[v]'hv)] _ (by simp) _ rfl) (by first | omega | (simp; omega) | (simp; done)) (by first | omega | (simp; omega) | (simp; done)) ?_)
                  intro v4 w4 hown4 hg4 _
                  have hb4 := (hbD.alloc hsD (.cells #[.int .u8 (((lettersA[v]'hv) : UInt8).toNat : Int)] 5)).grown hg4 (by simp; omega) (fun k hk => (hID.lt k hk).1)
                  obtain ⟨D4, HD4, hD4, hown4⟩ : ∃ D4, Hid (D4 = D ++ [(lettersA[v]'hv)]) ∧ D4.length ≤ D.length + 1 ∧ w4.ownsRow w.heap.size 5 1 v4 D4.length (Lib.byteCells D4) := ⟨D ++ [(lettersA[v]'hv)], rfl, by rw [List.length_append]; exact Nat.le_refl _, by first | exact hown4 | (rw [List.length_append]; exact hown4) | simpa using hown4⟩
                  go_wp2
                  go_roundw
                  case rel =>
                    refine ⟨4, D4, by omega, by go_num, by go_num, ?_, by omega, hown4, hb4⟩
                    show _ = _
                    rw [HD4.out, HD.out, hstep.out, List.append_assoc]
                  case measure => first | (simp [intOf]; done) | (simp [intOf]; omega)
              · have hjh' : ¬ (j : Int) ≤ (x.length : Int) := by omega
                have hs2 := hstep.out
                rw [grp_pad x j hx0 hx3 (by omega) hj4] at hs2
                replace hstep := Lib.hid hs2
                clear hs2
                go_wp2_with (at_builtin; refine wpList_append_rda _ rfl _ _ 22 rfl w.heap.size 5 i0 Tryd.underlying22 hi0 hz0 hz1 hz2 _ D rfl (ow_alloc hID _) _ [61] _ _ rfl rfl (lit_rdN _ [61] _ (by simp) _ rfl) (by first | omega | (simp; omega) | (simp; done)) (by first | omega | (simp; omega) | (simp; done)) ?_)
                intro v4 w4 hown4 hg4 _
                have hb4 := (hbD.alloc hsD (.cells #[.int .u8 61] 5)).grown hg4 (by simp; omega) (fun k hk => (hID.lt k hk).1)
                obtain ⟨D4, HD4, hD4, hown4⟩ : ∃ D4, Hid (D4 = D ++ [61]) ∧ D4.length ≤ D.length + 1 ∧ w4.ownsRow w.heap.size 5 1 v4 D4.length (Lib.byteCells D4) := ⟨D ++ [61], rfl, by rw [List.length_append]; exact Nat.le_refl _, by first | exact hown4 | (rw [List.length_append]; exact hown4) | simpa using hown4⟩
                go_wp2
                go_roundw
                case rel =>
                  refine ⟨j + 1, D4, by omega, by go_num, by go_num, ?_, by omega, hown4, hb4⟩
                  show _ = _
                  rw [HD4.out, HD.out, hstep.out, List.append_assoc]
                case measure => first | (simp [intOf]; done) | (simp [intOf]; omega)
            · obtain rfl : j = 4 := by omega
              have hj4' : ¬ (4 : Int) < 4 := by omega
              have hDC : D = C ++ grp x := by
                rw [HD.out, ← hgl, List.take_length]
              have hdk : l.drop k ≠ [] := by
                intro e
                have := congrArg List.length e
                rw [List.length_drop] at this
                simp at this
                omega
              have hst := b64_step (N % 76) (l.drop k) hdk
              rw [← HX.out, List.drop_drop] at hst
              by_cases hend : (N + 4) % 76 = 0 ∨ l.length ≤ k + 3
              · have hcond : N % 76 + 4 = 76 ∨ l.drop (k + 3) = [] := by
                  rcases hend with h | h
                  · exact .inl (by omega)
                  · exact .inr (List.drop_eq_nil_of_le h)
                rw [if_pos hcond] at hst
                have h0 : b64 0 (l.drop (k + 3)) = b64 ((N + 4) % 76) (l.drop (k + 3)) := by
                  rcases hend with h | h
                  · rw [h]
                  · rw [List.drop_eq_nil_of_le h]
                    unfold b64
                    rfl
                rw [h0] at hst
                have hst := Lib.hid hst
                have HDC := Lib.hid hDC
                clear hDC
                have hbA := hbD.alloc hsD (.cells #[.int .u8 13, .int .u8 10] 5)
                have close : ∀ v4 w4, w4.ownsRow w.heap.size 5 1 v4 (D ++ [13, 10]).length (Lib.byteCells (D ++ [13, 10])) → Below w.heap.size w w4 → ∃ (k' N' : Nat) (C' : List UInt8), k' ≤ l.length + 2 ∧ (Value.int .i64 ((k : Int) + 3)) = .int .i64 (k' : Int) ∧ (Value.int .i64 ((N : Int) + 4)) = .int .i64 (N' : Int) ∧ N' % 4 = 0 ∧ N' ≤ 2 * k' ∧ C'.length ≤ 2 * k' ∧ Hid (b64 0 l = C' ++ b64 (N' % 76) (l.drop k')) ∧ w4.ownsRow w.heap.size 5 1 v4 C'.length (Lib.byteCells C') ∧ Below w.heap.size w w4 := by
                  intro v4 w4 h1 h2
                  refine ⟨k + 3, N + 4, D ++ [13, 10], by omega, by congr 1, by congr 1, by omega, by omega, ?_, ?_, h1, h2⟩
                  · rw [List.length_append]
                    simp
                    omega
                  · show _ = _
                    rw [HQ.out, hst.out, HDC.out]
                    simp only [List.append_assoc]
                by_cases h76 : (N + 4) % 76 = 0
                · have h76' : (((N : Int) + 4) % 76 == 0) = true := by rw [beq_iff_eq]; omega
                  have h76t : (((N : Int) + 4).tmod 76 == 0) = true := by rw [beq_iff_eq, Int.tmod_eq_emod_of_nonneg (by omega)]; omega
                  go_wp2_with (at_builtin; refine wpList_append_rda _ rfl _ _ 22 rfl w.heap.size 5 i0 Tryd.underlying22 hi0 hz0 hz1 hz2 _ D rfl (ow_alloc hID _) _ [13, 10] _ _ rfl rfl (lit_rdN _ [13, 10] _ (by simp) _ rfl) (by first | omega | (simp; omega) | (simp; done)) (by first | omega | (simp; omega) | (simp; done)) ?_)
                  intro v4 w4 hown4 hg4 _
                  have hb4 := hbA.grown hg4 (by simp; omega) (fun k hk => (hID.lt k hk).1)
                  have hcl := close v4 w4 (by first | exact hown4 | (rw [List.length_append]; exact hown4) | simpa using hown4) hb4
                  go_wp2
                  go_roundw
                  case rel => first | exact hcl | (obtain ⟨k', N', C', g1, g2, g3, g4⟩ := hcl; exact ⟨k', N', C', g1, by rw [← g2]; go_num, by rw [← g3]; go_num, g4⟩)
                  case measure => simp [intOf]; omega
                · have h76' : (((N : Int) + 4) % 76 == 0) = false := by rw [beq_eq_false_iff_ne]; omega
                  have h76t : (((N : Int) + 4).tmod 76 == 0) = false := by rw [beq_eq_false_iff_ne, Int.tmod_eq_emod_of_nonneg (by omega)]; omega
                  have hk3 : (l.length : Int) ≤ (k : Int) + 3 := by omega
                  go_wp2_with (at_builtin; refine wpList_append_rda _ rfl _ _ 22 rfl w.heap.size 5 i0 Tryd.underlying22 hi0 hz0 hz1 hz2 _ D rfl (ow_alloc hID _) _ [13, 10] _ _ rfl rfl (lit_rdN _ [13, 10] _ (by simp) _ rfl) (by first | omega | (simp; omega) | (simp; done)) (by first | omega | (simp; omega) | (simp; done)) ?_)
                  intro v4 w4 hown4 hg4 _
                  have hb4 := hbA.grown hg4 (by simp; omega) (fun k hk => (hID.lt k hk).1)
                  have hcl := close v4 w4 (by first | exact hown4 | (rw [List.length_append]; exact hown4) | simpa using hown4) hb4
                  go_wp2
                  go_roundw
                  case rel => first | exact hcl | (obtain ⟨k', N', C', g1, g2, g3, g4⟩ := hcl; exact ⟨k', N', C', g1, by rw [← g2]; go_num, by rw [← g3]; go_num, g4⟩)
                  case measure => simp [intOf]; omega
              · have hcond : ¬ (N % 76 + 4 = 76 ∨ l.drop (k + 3) = []) := by
                  rintro (h | h)
                  · exact hend (.inl (by omega))
                  · have := congrArg List.length h
                    rw [List.length_drop] at this
                    simp at this
                    omega
                rw [if_neg hcond] at hst
                have e76 : N % 76 + 4 = (N + 4) % 76 := by omega
                rw [e76] at hst
                have hst := Lib.hid hst
                have HDC := Lib.hid hDC
                clear hDC
                have h76' : (((N : Int) + 4) % 76 == 0) = false := by rw [beq_eq_false_iff_ne]; omega
                have h76t : (((N : Int) + 4).tmod 76 == 0) = false := by rw [beq_eq_false_iff_ne, Int.tmod_eq_emod_of_nonneg (by omega)]; omega
                have hk3 : ¬ (l.length : Int) ≤ (k : Int) + 3 := by omega
                go_wp2
                go_roundw
                case rel =>
                  refine ⟨k + 3, N + 4, D, by omega, by go_num, by go_num, by omega, by omega, by omega, ?_, hID, hbD⟩
                  show _ = _
                  rw [HQ.out, hst.out, HDC.out]
                  simp only [List.append_assoc]
                case measure => simp [intOf]; omega
    · have hlt' : ¬ (k : Int) < (l.length : Int) := by omega
      have e : b64 0 l = C := by
        rw [HQ.out, List.drop_eq_nil_of_le (by omega), show b64 (N % 76) [] = [] by unfold b64; rfl, List.append_nil]
      have HE := Lib.hid e
      clear e
      go_wp2
      go_ret
      refine ⟨_, rfl, ?_, hb⟩
      rw [HE.out]
      exact RdV.own hI
end Go.Proofs.YtofgkahldhelaaaDoor
