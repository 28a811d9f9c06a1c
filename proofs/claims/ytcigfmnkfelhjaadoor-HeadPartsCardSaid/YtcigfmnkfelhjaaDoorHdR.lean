/- The walk of the law HeadParts. -/
import Derived.Test.YtcigfmnkfelhjaaDoorHdQ
import Derived.Test.YtcigfmnkfelhjaaDoorLnR
import Derived.Test.YtcigfmnkfelhjaaDoorAwHKnW
import Derived.Test.YtcigfmnkfelhjaaDoorHeld
set_option linter.unusedVariables false
namespace Go.Proofs.YtcigfmnkfelhjaaDoor
open Go.RowKit

theorem sumF_le (l : List UInt8) : ∀ {xs : List Fd} {lo hi : Nat}, Chain l lo xs hi → sumF xs + lo ≤ hi
  | [], lo, hi, h => by
    have h' : lo ≤ hi := h
    simp only [sumF]
    omega
  | f :: r, lo, hi, h => by
    obtain ⟨⟨m, ⟨h1, h2, h3, _⟩, h4⟩, h5⟩ := h
    have ih := sumF_le l h5
    simp only [sumF]
    omega
theorem parts_sum (l : List UInt8) (ns : List ByteArray) {F : List Fd} (h : Chain l 0 F l.length) : (pickF l ns false F).length + (pickF l ns true F).length = 4 + sumF F := by
  have h1 := pk_sum l (pickQ ns true) h (Nat.le_refl _)
  have e : (fun f => !pickQ ns true f) = pickQ ns false := by
    funext f
    unfold pickQ
    cases ns.any (hitN f.name) <;> rfl
  rw [e] at h1
  unfold pickF
  simp only [List.length_append, List.length_cons, List.length_nil]
  omega
theorem ba_snoc (s : ByteArray) (t : List UInt8) : (⟨(s.data.toList ++ t).toArray⟩ : ByteArray) = s ++ ⟨t.toArray⟩ := by
  apply ByteArray.ext
  apply Array.ext'
  simp [ByteArray.data_append]
/-- string(b[f:t]), whatever its capacity. -/
theorem win_str {w : World} {b o : Nat} {l : List UInt8} (h : Rd w (some ⟨b, o, none⟩) l) (lo hi : Nat) (hlh : lo ≤ hi) (hh : hi ≤ l.length) (S : ByteArray) (hS : S = ⟨((l.take hi).drop lo).toArray⟩) (A : Option Addr) (hA : A = some ⟨b, o + lo, none⟩ ∨ hi = lo) (k : Nat) :
    (convert 22 9 (.slice A (hi - lo) k)).run Tryd.prog w = .ok (.string S) w := by
  have hl : ((l.take hi).drop lo).length = hi - lo := by rw [List.length_drop, List.length_take, Nat.min_eq_left hh]
  have hr : Rd w A ((l.take hi).drop lo) := by
    rcases hA with rfl | h0
    · exact (Rd.takeH h hi).dropH lo
    · intro hp
      omega
  have h2 := hr.backs (P := Tryd.prog) 22 9 5 k Tryd.underlying22 Tryd.underlying5 Tryd.underlying9
  rw [hl] at h2
  rw [h2, hS]

set_option maxRecDepth 100000 in
set_option maxHeartbeats 8000000 in
theorem parts_walk (A1 : Option Addr) (l : List UInt8) (c1 : Nat) (A2 : Option Addr) (ns : List ByteArray) (c2 : Nat) (w : World) (h1 : Rd w A1 l) (hc1 : l.length ≤ c1) (hm1 : c1 ≤ maxLen) (hn1 : c1 ≤ 140737488351232) (h2 : RdR StrZ 1 w A2 ns) (hc2 : ns.length ≤ c2) (hm2 : c2 ≤ maxLen) (hm : ∃ m, w.cell? ⟨0, 0, none⟩ = some (.int .i64 m)) (hg : 0 < w.heap.size) :
    Calls Tryd.prog 3 #[.slice A1 l.length c1, .slice A2 ns.length c2] w fun e w' => e = .returned (.bool true) ∧ Below w.heap.size w w' := by
  have hmm : MaxLenIs w := hm
  have haw := Lib.hid (awkWalk w hm hg)
  clear hm
  go_enter Tryd.func3, Tryd.ntmps3
  go_wp2_with fail
  (with_reducible refine haw.out.mono ?_)
  rintro _ w1 ⟨rfl, b1⟩
  by_cases g1 : (1500 : Int) < (l.length : Int)
  · go_wp2
    go_ret
    exact ⟨rfl, b1⟩
  by_cases g2 : (10 : Int) < (ns.length : Int)
  · go_wp2
    go_ret
    exact ⟨rfl, b1⟩
  have hl15 : l.length ≤ 1500 := by omega
  have HF := Lib.hid (fields_w A1 l c1 w1 (h1.below b1) (by omega) hc1 (hmm.below b1 hg) (Nat.lt_of_lt_of_le hg b1.size))
  have HP := Lib.hid (fun (nt : Bool) (W : World) (hW : Below w.heap.size w W) => pick_w A1 l c1 A2 ns c2 nt W (h1.below hW) (by omega) hc1 (h2.below StrZ.keeps hW (Nat.le_refl _)) hc2 hm2 (hmm.below hW hg) (Nat.lt_of_lt_of_le hg hW.size))
  have HCH := Lib.hid (fields_chain valF l (endF l) (endF_le l))
  have HVL := Lib.hid (fields_value valF l (endF l))
  generalize fieldsF valF l (endF l) = F at *
  have HSM := Lib.hid (parts_sum l ns HCH.out)
  have hsF : sumF F ≤ 1500 := by have := sumF_le l HCH.out; omega
  obtain ⟨P1, hP1⟩ : ∃ P, P = pickF l ns false F := ⟨_, rfl⟩
  obtain ⟨P2, hP2⟩ : ∃ P, P = pickF l ns true F := ⟨_, rfl⟩
  have HPf := Lib.hid (fun (W : World) (hW : Below w.heap.size w W) => HP.out false W hW)
  have HPt := Lib.hid (fun (W : World) (hW : Below w.heap.size w W) => HP.out true W hW)
  rw [← hP1] at HPf HSM
  rw [← hP2] at HPt HSM
  clear haw h2 hP1 hP2 HP hm2
  go_wp2_with fail
  (with_reducible refine HF.out.mono ?_)
  rintro _ w2 ⟨v, rfl, hown, b2⟩
  have B2 := b1.trans (b2.mono b1.size)
  obtain ⟨A5, cap5, rfl, hc5, hcm5, hA5⟩ := hown.shape
  have hF7 : F.length ≤ 9223372036854775807 := by unfold maxLen at hcm5; omega
  clear HF b2
  go_wp2_with fail
  (with_reducible refine (HPf.out _ B2).mono ?_)
  rintro _ w3 ⟨v3, rfl, own3, b3⟩
  have B3 := B2.trans (b3.mono B2.size)
  go_wp2_with fail
  (with_reducible refine (HPt.out _ B3).mono ?_)
  rintro _ w4 ⟨v4, rfl, own4, b4⟩
  have B4 := B3.trans (b4.mono B3.size)
  obtain ⟨A3, c3, rfl, _, _⟩ := Bts.of_own own3
  obtain ⟨A4, c4, rfl, _, _⟩ := Bts.of_own own4
  have HOWN := Lib.hid ((hown.below b3 (Nat.le_refl _)).below b4 (Nat.le_refl _))
  have q1 : P1.length ≤ 2000 := by have := HSM.out; omega
  have q2 : P2.length ≤ 2000 := by have := HSM.out; omega
  have HSM2 := HSM
  clear HPf HPt own3 own4 b3 b4 hown HSM
  have hsF2 := Lib.hid hsF
  clear hsF
  go_wp2
  go_loopw [8, 9, 10] (fun nv av iv wx => ∃ (k N T : Nat), k ≤ F.length ∧ iv = .int .i64 (k : Int) ∧ nv = .int .i64 (N : Int) ∧ av = .int .i64 (T : Int) ∧ N ≤ 2000 ∧ T ≤ 1500 ∧ Hid (Chain l T (F.drop k) l.length) ∧ Hid (N + sumF (F.drop k) = 4 + sumF F) ∧ Below w4.heap.size w4 wx) (fun _ _ iv _ => F.length - (intOf iv).toNat)
  case atStart => exact ⟨0, 4, 0, Nat.zero_le _, rfl, rfl, rfl, by omega, by omega, HCH, rfl, Below.refl _ _⟩
  case round =>
    obtain ⟨k, N, T, hk, rfl, rfl, rfl, hN, hT, HC, HS, hb⟩ := hrel
    have BW := B4.trans (hb.mono B4.size)
    by_cases hlt : k < F.length
    · have hlt' : (k : Int) < (F.length : Int) := by omega
      have e0 : (0 : Int) ≤ (k : Int) := by omega
      obtain ⟨g5, rfl, hg5, _⟩ := hA5 (by omega)
      have hown' := HOWN.out.below hb (Nat.le_refl _)
      have hce : ∀ j u, j < 4 → (fdC F[k])[j]? = some u → wr.cell? ⟨g5, k * 4 + j, none⟩ = some u := by
        intro j u hj hu
        have h := (hown'.cell k j hlt hj u hu).1
        rw [Nat.mul_comm 4 k] at h
        exact h
      have hdr : F.drop k = F[k] :: F.drop (k + 1) := List.drop_eq_getElem_cons hlt
      have hval := HVL.out F[k] (List.getElem_mem hlt)
      rw [hdr] at HC HS
      generalize F[k] = x at hce hval HC HS
      obtain ⟨xn, xv, xf, xt⟩ := x
      obtain ⟨⟨m, ⟨hx1, hx2, hx3, hx4, hx5⟩, hx6⟩, HC2⟩ := HC.out
      have HS2 : N + ((xt - xf) + sumF (F.drop (k + 1))) = 4 + sumF F := HS.out
      have d0 := hce 0 _ (by omega) rfl
      have d1 := hce 1 _ (by omega) rfl
      have d2 := hce 2 _ (by omega) rfl
      have d3 := hce 3 _ (by omega) rfl
      rw [Nat.add_zero] at d0
      dsimp only at d0 d1 d2 d3 hx1 hx2 hx3 hx4 hx5 hval HC2
      obtain ⟨S, hS⟩ : ∃ S, S = rawOf l ⟨xn, xv, xf, xt⟩ := ⟨_, rfl⟩
      rw [← hS] at hval
      subst hval
      have hsum := hsF2.out
      have hN2 : N + (xt - xf) ≤ 2000 := by omega
      have HC3 := Lib.hid HC2
      have HS3 : Hid (N + (xt - xf) + sumF (F.drop (k + 1)) = 4 + sumF F) := by show _ = _; omega
      obtain ⟨lo, hlo0, hlo⟩ : ∃ lo : Nat, lo = xf + xn.size + 1 ∧ (xf : Int) + (xn.size : Int) + 1 = (lo : Int) := ⟨_, rfl, by omega⟩
      have hS2 : S = ⟨((l.take xt).drop lo).toArray⟩ := by rw [hS, hlo0]; rfl
      have hnm : xn ++ ⟨#[58]⟩ = ⟨((l.take lo).drop xf).toArray⟩ := by
        have e : (l.take lo).drop xf = xn.data.toList ++ [58] := by
          rw [← hx5, List.drop_take]
          congr 1
          omega
        rw [e, ba_snoc]
      have hxl : xt ≤ l.length := by omega
      have hlx : lo ≤ xt := by omega
      have hSz : S.size ≤ 1000000 := by
        rw [hS2]
        show ((l.take xt).drop lo).toArray.size ≤ 1000000
        simp
        omega
      obtain ⟨bb, oo, rfl, hbb, _⟩ := id h1 (by omega)
      have ba := (Below.refl wr.heap.size wr).alloc (Nat.le_refl _) (.cells #[.string xn, .string (valF S), .int .i64 (xf : Int), .int .i64 (xt : Int)] 29)
      have hrw := ((h1.below BW).below ba)
      have HV0 : Hid (∀ U, BelC (wr.alloc (.cells #[.string xn, .string (valF S), .int .i64 (xf : Int), .int .i64 (xt : Int)] 29)) U → Calls Tryd.prog 9 #[.string S] U fun e w' => e = .returned (.string (valF S)) ∧ Below U.heap.size U w') := fun U hU => value_any S U hSz (hmm.below ((BW.trans (ba.mono BW.size)).trans (Below.mono hU (BW.trans (ba.mono BW.size)).size)) hg) (Nat.lt_of_lt_of_le hg ((BW.trans (ba.mono BW.size)).trans (Below.mono hU (BW.trans (ba.mono BW.size)).size)).size)
      have hb9 := hb.trans (ba.mono hb.size)
      generalize valF S = V at *
      clear hce hdr hown' HC HS HC2 HS2 hS hx5 hsum hlo0
      have hS63 : xn.size ≤ 1500 := by omega
      have o1 : (0 : Int) ≤ (xf : Int) := by omega
      have o2 : (xf : Int) ≤ (lo : Int) := by omega
      have o3 : (lo : Int) ≤ (c1 : Int) := by omega
      have o4 : ¬ c1 = xf := by omega
      have o5 : (0 : Int) ≤ (lo : Int) := by omega
      have o6 : (lo : Int) ≤ (xt : Int) := by omega
      have o7 : (xt : Int) ≤ (c1 : Int) := by omega
      have t1 : ¬ (xf : Int) < (T : Int) := by omega
      have t2 : ¬ (xt : Int) ≤ (xf : Int) := by omega
      have t3 : ¬ (l.length : Int) < (xt : Int) := by omega
      have t4 : ¬ (xn.size : Int) < 1 := by omega
      have t5 : ¬ (l.length : Int) ≤ (xf : Int) + (xn.size : Int) := by omega
      have hwp : IntKind.i64.wrap (IntKind.i64.wrap ((xf : Int) + (xn.size : Int)) + 1) = (lo : Int) := by
        rw [IntWalk.i64_in _ (show -9223372036854775808 ≤ (xf : Int) + (xn.size : Int) ∧ (xf : Int) + (xn.size : Int) ≤ 9223372036854775807 by omega), hlo]
        exact IntWalk.i64_in _ (by omega)
      have hbig1 : (9223372036854775807 < xn.size + 1) = False := by simp; omega
      have hbig2 : (IntKind.i64.max < (xn.size : Int) + 1) = False := by simp [IntKind.max, IntKind.signed, IntKind.bits]; omega
      replace hnm := Lib.hid hnm
      replace hS2 := Lib.hid hS2
      have hA2 : (if c1 = lo then (some ⟨bb, oo, none⟩ : Option Addr) else some ⟨bb, oo + lo, none⟩) = some ⟨bb, oo + lo, none⟩ ∨ xt = lo := by
        by_cases hclo : c1 = lo
        · exact .inr (by omega)
        · exact .inl (if_neg hclo)
      go_upto_region 15 with (fail)
      obtain ⟨G, hG⟩ : ∃ G, G = wr.heap.size := ⟨_, rfl⟩
      obtain ⟨W, hW0⟩ : ∃ W, W = (wr.alloc (.cells #[.string xn, .string V, .int .i64 (xf : Int), .int .i64 (xt : Int)] 29)) := ⟨_, rfl⟩
      have z0 : W.cell? ⟨G, 0, none⟩ = some (.string xn) := by rw [hW0, hG]; simp
      have z1 : W.cell? ⟨G, 1, none⟩ = some (.string V) := by rw [hW0, hG]; simp
      have z2 : W.cell? ⟨G, 2, none⟩ = some (.int .i64 (xf : Int)) := by rw [hW0, hG]; simp
      have z3 : W.cell? ⟨G, 3, none⟩ = some (.int .i64 (xt : Int)) := by rw [hW0, hG]; simp
      have hGW : G < W.heap.size := by rw [hW0, hG]; simp
      rw [← hW0] at ba hrw hb9 HV0
      have HCV1 := Lib.hid (fun (U : World) (hU : BelC W U) => win_str (hrw.below (show Below W.heap.size W U from hU)) xf lo (by omega) (by omega) _ hnm.out (some ⟨bb, oo + xf, none⟩) (.inl rfl) (c1 - xf))
      have HCV2 := Lib.hid (fun (U : World) (hU : BelC W U) => win_str (hrw.below (show Below W.heap.size W U from hU)) lo xt hlx hxl _ hS2.out _ hA2 (c1 - lo))
      have HVV : Hid (∀ U, BelC W U → Calls Tryd.prog 9 #[.string S] U fun e w' => e = .returned (.string V) ∧ Below U.heap.size U w') := HV0.out
      have hb10 : ∀ U, BelC W U → Below w4.heap.size w4 U := fun U hU => hb9.trans (Below.mono hU hb9.size)
      have hB9 : ∀ n, BelC W (W.drewN n) := fun n => below_drewN (Below.refl _ W) n
      have ZB : Hid (∀ w9, Below W.drew.heap.size W.drew w9 → w9.cell? ⟨G, 0, none⟩ = some (.string xn) ∧ w9.cell? ⟨G, 1, none⟩ = some (.string V) ∧ w9.cell? ⟨G, 2, none⟩ = some (.int .i64 (xf : Int)) ∧ w9.cell? ⟨G, 3, none⟩ = some (.int .i64 (xt : Int)) ∧ BelC W w9) := fun w9 h9 =>
        ⟨(h9.cell (p := ⟨G, 0, none⟩) hGW).trans z0, (h9.cell (p := ⟨G, 1, none⟩) hGW).trans z1, (h9.cell (p := ⟨G, 2, none⟩) hGW).trans z2, (h9.cell (p := ⟨G, 3, none⟩) hGW).trans z3, belc_go h9 (hB9 1)⟩
      have HB10 := Lib.hid hb10
      rw [← hW0, ← hG]
      clear hrw hb9 hb10 HV0 ba hA2 hnm hS2 hGW hW0 hG hSz hA5 t1 t2 t3 t4 t5 d0 d1 d2 d3 HOWN
      refine wp_region_held_drew (S := (fun U => U.cell? ⟨G, 0, none⟩ = some (.string xn) ∧ U.cell? ⟨G, 1, none⟩ = some (.string V) ∧ U.cell? ⟨G, 2, none⟩ = some (.int .i64 (xf : Int)) ∧ U.cell? ⟨G, 3, none⟩ = some (.int .i64 (xt : Int)) ∧ BelC W U)) (by kernel_rfl) ⟨z0, z1, z2, z3, hB9 1⟩ (fun hHeld => ?_)
      have hW : BelC W W.drew := hB9 1
      refine wpAnyH_take (i := 0) (oi := { dst := some 75, op := Op.move (Operand.tmp 0), type := 22, pos := "law.go:99", after := #[], guard := none }) (v := ?vv0) rfl (by kernel_rfl) (by kernel_rfl) (by kernel_rfl) (fun _ _ _ h => h) (Or.inl ⟨by rfl, ?hy0⟩) hHeld ?rest0
      case hy0 =>
        intro U hSw
        obtain ⟨s1, s2, s3, s4, s5⟩ := hSw
        go_simp
        try with_reducible rfl
      try simp only [Act.put, List.setIfInBounds_toArray, List.set_cons_zero, List.set_cons_succ]
      refine wpAnyH_take (i := 1) (oi := { dst := some 76, op := Op.fieldAddr 29 (Operand.tmp 11) 2, type := 0, pos := "law.go:99", after := #[], guard := none }) (v := ?vv1) rfl (by kernel_rfl) (by kernel_rfl) (by kernel_rfl) (fun _ _ _ h => h) (Or.inl ⟨by rfl, ?hy1⟩) hHeld ?rest1
      case hy1 =>
        intro U hSw
        obtain ⟨s1, s2, s3, s4, s5⟩ := hSw
        go_simp
        try with_reducible rfl
      try simp only [Act.put, List.setIfInBounds_toArray, List.set_cons_zero, List.set_cons_succ]
      refine wpAnyH_take (i := 2) (oi := { dst := some 77, op := Op.load 3 (Operand.tmp 76), type := 3, pos := "law.go:99", after := #[{ on := 1, ground := Ground.data }], guard := none }) (v := ?vv2) rfl (by kernel_rfl) (by kernel_rfl) (by kernel_rfl) (fun _ _ _ h => h) (Or.inl ⟨by rfl, ?hy2⟩) hHeld ?rest2
      case hy2 =>
        intro U hSw
        obtain ⟨s1, s2, s3, s4, s5⟩ := hSw
        go_simp
        try with_reducible rfl
      try simp only [Act.put, List.setIfInBounds_toArray, List.set_cons_zero, List.set_cons_succ]
      refine wpAnyH_take (i := 3) (oi := { dst := some 78, op := Op.fieldAddr 29 (Operand.tmp 11) 2, type := 0, pos := "law.go:99", after := #[], guard := none }) (v := ?vv3) rfl (by kernel_rfl) (by kernel_rfl) (by kernel_rfl) (fun _ _ _ h => h) (Or.inl ⟨by rfl, ?hy3⟩) hHeld ?rest3
      case hy3 =>
        intro U hSw
        obtain ⟨s1, s2, s3, s4, s5⟩ := hSw
        go_simp
        try with_reducible rfl
      try simp only [Act.put, List.setIfInBounds_toArray, List.set_cons_zero, List.set_cons_succ]
      refine wpAnyH_take (i := 4) (oi := { dst := some 79, op := Op.load 3 (Operand.tmp 78), type := 3, pos := "law.go:99", after := #[{ on := 3, ground := Ground.data }], guard := none }) (v := ?vv4) rfl (by kernel_rfl) (by kernel_rfl) (by kernel_rfl) (fun _ _ _ h => h) (Or.inl ⟨by rfl, ?hy4⟩) hHeld ?rest4
      case hy4 =>
        intro U hSw
        obtain ⟨s1, s2, s3, s4, s5⟩ := hSw
        go_simp
        try with_reducible rfl
      try simp only [Act.put, List.setIfInBounds_toArray, List.set_cons_zero, List.set_cons_succ]
      refine wpAnyH_take (i := 5) (oi := { dst := some 80, op := Op.fieldAddr 29 (Operand.tmp 11) 0, type := 0, pos := "law.go:99", after := #[], guard := none }) (v := ?vv5) rfl (by kernel_rfl) (by kernel_rfl) (by kernel_rfl) (fun _ _ _ h => h) (Or.inl ⟨by rfl, ?hy5⟩) hHeld ?rest5
      case hy5 =>
        intro U hSw
        obtain ⟨s1, s2, s3, s4, s5⟩ := hSw
        go_simp
        try with_reducible rfl
      try simp only [Act.put, List.setIfInBounds_toArray, List.set_cons_zero, List.set_cons_succ]
      refine wpAnyH_take (i := 6) (oi := { dst := some 81, op := Op.load 9 (Operand.tmp 80), type := 9, pos := "law.go:99", after := #[{ on := 5, ground := Ground.data }], guard := none }) (v := ?vv6) rfl (by kernel_rfl) (by kernel_rfl) (by kernel_rfl) (fun _ _ _ h => h) (Or.inl ⟨by rfl, ?hy6⟩) hHeld ?rest6
      case hy6 =>
        intro U hSw
        obtain ⟨s1, s2, s3, s4, s5⟩ := hSw
        go_simp
        try with_reducible rfl
      try simp only [Act.put, List.setIfInBounds_toArray, List.set_cons_zero, List.set_cons_succ]
      refine wpAnyH_take (i := 7) (oi := { dst := some 82, op := Op.call { callee := Callee.builtin Builtin.len, args := #[Operand.tmp 81], argTypes := #[9] }, type := 3, pos := "law.go:99", after := #[{ on := 6, ground := Ground.data }], guard := none }) (v := ?vv7) rfl (by kernel_rfl) (by kernel_rfl) (by kernel_rfl) (fun _ _ _ h => h) (Or.inl ⟨by rfl, ?hy7⟩) hHeld ?rest7
      case hy7 =>
        intro U hSw
        obtain ⟨s1, s2, s3, s4, s5⟩ := hSw
        go_simp
        try with_reducible rfl
      try simp only [Act.put, List.setIfInBounds_toArray, List.set_cons_zero, List.set_cons_succ]
      refine wpAnyH_take (i := 8) (oi := { dst := some 83, op := Op.binOp BinOp.add 3 (Operand.tmp 79) (Operand.tmp 82) 3, type := 3, pos := "law.go:99", after := #[{ on := 4, ground := Ground.data }, { on := 7, ground := Ground.data }], guard := none }) (v := ?vv8) rfl (by kernel_rfl) (by kernel_rfl) (by kernel_rfl) (fun _ _ _ h => h) (Or.inl ⟨by rfl, ?hy8⟩) hHeld ?rest8
      case hy8 =>
        intro U hSw
        obtain ⟨s1, s2, s3, s4, s5⟩ := hSw
        go_simp
        try with_reducible rfl
      try simp only [Act.put, List.setIfInBounds_toArray, List.set_cons_zero, List.set_cons_succ]
      refine wpAnyH_take (i := 9) (oi := { dst := some 84, op := Op.binOp BinOp.add 3 (Operand.tmp 83) (Operand.const (Value.int IntKind.i64 1)) 3, type := 3, pos := "law.go:99", after := #[{ on := 8, ground := Ground.data }], guard := none }) (v := ?vv9) rfl (by kernel_rfl) (by kernel_rfl) (by kernel_rfl) (fun _ _ _ h => h) (Or.inl ⟨by rfl, ?hy9⟩) hHeld ?rest9
      case hy9 =>
        intro U hSw
        obtain ⟨s1, s2, s3, s4, s5⟩ := hSw
        go_simp
        try with_reducible rfl
      try simp only [Act.put, List.setIfInBounds_toArray, List.set_cons_zero, List.set_cons_succ]
      refine wpAnyH_take (i := 10) (oi := { dst := some 85, op := Op.slice 22 (Operand.tmp 75) (some (Operand.tmp 77)) (some (Operand.tmp 84)) none, type := 22, pos := "law.go:99", after := #[{ on := 0, ground := Ground.data }, { on := 2, ground := Ground.data }, { on := 9, ground := Ground.data }], guard := none }) (v := ?vv10) rfl (by kernel_rfl) (by kernel_rfl) (by kernel_rfl) (fun _ _ _ h => h) (Or.inl ⟨by rfl, ?hy10⟩) hHeld ?rest10
      case hy10 =>
        intro U hSw
        obtain ⟨s1, s2, s3, s4, s5⟩ := hSw
        go_simp
        try with_reducible rfl
      try simp only [Act.put, List.setIfInBounds_toArray, List.set_cons_zero, List.set_cons_succ]
      refine wpAnyH_take (i := 11) (oi := { dst := some 86, op := Op.convert 22 9 (Operand.tmp 85), type := 9, pos := "law.go:99", after := #[{ on := 10, ground := Ground.data }], guard := none }) (v := ?vv11) rfl (by kernel_rfl) (by kernel_rfl) (by kernel_rfl) (fun _ _ _ h => h) (Or.inl ⟨by rfl, ?hy11⟩) hHeld ?rest11
      case hy11 =>
        intro U hSw
        obtain ⟨s1, s2, s3, s4, s5⟩ := hSw
        have hcv := HCV1.out U s5
        go_simp
        try with_reducible rfl
      try simp only [Act.put, List.setIfInBounds_toArray, List.set_cons_zero, List.set_cons_succ]
      refine wpAnyH_take (i := 12) (oi := { dst := some 87, op := Op.fieldAddr 29 (Operand.tmp 11) 0, type := 0, pos := "law.go:99", after := #[], guard := none }) (v := ?vv12) rfl (by kernel_rfl) (by kernel_rfl) (by kernel_rfl) (fun _ _ _ h => h) (Or.inl ⟨by rfl, ?hy12⟩) hHeld ?rest12
      case hy12 =>
        intro U hSw
        obtain ⟨s1, s2, s3, s4, s5⟩ := hSw
        go_simp
        try with_reducible rfl
      try simp only [Act.put, List.setIfInBounds_toArray, List.set_cons_zero, List.set_cons_succ]
      refine wpAnyH_take (i := 13) (oi := { dst := some 88, op := Op.load 9 (Operand.tmp 87), type := 9, pos := "law.go:99", after := #[{ on := 12, ground := Ground.data }], guard := none }) (v := ?vv13) rfl (by kernel_rfl) (by kernel_rfl) (by kernel_rfl) (fun _ _ _ h => h) (Or.inl ⟨by rfl, ?hy13⟩) hHeld ?rest13
      case hy13 =>
        intro U hSw
        obtain ⟨s1, s2, s3, s4, s5⟩ := hSw
        go_simp
        try with_reducible rfl
      try simp only [Act.put, List.setIfInBounds_toArray, List.set_cons_zero, List.set_cons_succ]
      refine wpAnyH_take (i := 14) (oi := { dst := some 89, op := Op.binOp BinOp.add 9 (Operand.tmp 88) (Operand.const (Value.string { data := #[58] })) 9, type := 9, pos := "law.go:99", after := #[{ on := 13, ground := Ground.data }], guard := none }) (v := ?vv14) rfl (by kernel_rfl) (by kernel_rfl) (by kernel_rfl) (fun _ _ _ h => h) (Or.inl ⟨by rfl, ?hy14⟩) hHeld ?rest14
      case hy14 =>
        intro U hSw
        obtain ⟨s1, s2, s3, s4, s5⟩ := hSw
        go_simp
        try with_reducible rfl
      try simp only [Act.put, List.setIfInBounds_toArray, List.set_cons_zero, List.set_cons_succ]
      refine wpAnyH_take (i := 15) (oi := { dst := some 90, op := Op.binOp BinOp.neq 9 (Operand.tmp 86) (Operand.tmp 89) 9, type := 4, pos := "law.go:99", after := #[{ on := 11, ground := Ground.data }, { on := 14, ground := Ground.data }], guard := none }) (v := ?vv15) rfl (by kernel_rfl) (by kernel_rfl) (by kernel_rfl) (fun _ _ _ h => h) (Or.inl ⟨by rfl, ?hy15⟩) hHeld ?rest15
      case hy15 =>
        intro U hSw
        obtain ⟨s1, s2, s3, s4, s5⟩ := hSw
        go_simp
        try with_reducible rfl
      try simp only [Act.put, List.setIfInBounds_toArray, List.set_cons_zero, List.set_cons_succ]
      refine wpAnyH_take (i := 16) (oi := { dst := some 91, op := Op.move (Operand.tmp 90), type := 4, pos := "law.go:99", after := #[{ on := 15, ground := Ground.data }], guard := none }) (v := ?vv16) rfl (by kernel_rfl) (by kernel_rfl) (by kernel_rfl) (fun _ _ _ h => h) (Or.inl ⟨by rfl, ?hy16⟩) hHeld ?rest16
      case hy16 =>
        intro U hSw
        obtain ⟨s1, s2, s3, s4, s5⟩ := hSw
        go_simp
        try with_reducible rfl
      try simp only [Act.put, List.setIfInBounds_toArray, List.set_cons_zero, List.set_cons_succ]
      refine wpAnyH_take (i := 17) (oi := { dst := some 92, op := Op.move (Operand.tmp 0), type := 22, pos := "law.go:99", after := #[{ on := 16, ground := Ground.guard }], guard := some (16, false) }) (v := ?vv17) rfl (by kernel_rfl) (by kernel_rfl) (by kernel_rfl) (fun _ _ _ h => h) (Or.inl ⟨by rfl, ?hy17⟩) hHeld ?rest17
      case hy17 =>
        intro U hSw
        obtain ⟨s1, s2, s3, s4, s5⟩ := hSw
        go_simp
        try with_reducible rfl
      try simp only [Act.put, List.setIfInBounds_toArray, List.set_cons_zero, List.set_cons_succ]
      refine wpAnyH_take (i := 18) (oi := { dst := some 93, op := Op.fieldAddr 29 (Operand.tmp 11) 2, type := 0, pos := "law.go:99", after := #[{ on := 16, ground := Ground.guard }], guard := some (16, false) }) (v := ?vv18) rfl (by kernel_rfl) (by kernel_rfl) (by kernel_rfl) (fun _ _ _ h => h) (Or.inl ⟨by rfl, ?hy18⟩) hHeld ?rest18
      case hy18 =>
        intro U hSw
        obtain ⟨s1, s2, s3, s4, s5⟩ := hSw
        go_simp
        try with_reducible rfl
      try simp only [Act.put, List.setIfInBounds_toArray, List.set_cons_zero, List.set_cons_succ]
      refine wpAnyH_take (i := 19) (oi := { dst := some 94, op := Op.load 3 (Operand.tmp 93), type := 3, pos := "law.go:99", after := #[{ on := 18, ground := Ground.data }, { on := 16, ground := Ground.guard }], guard := some (16, false) }) (v := ?vv19) rfl (by kernel_rfl) (by kernel_rfl) (by kernel_rfl) (fun _ _ _ h => h) (Or.inl ⟨by rfl, ?hy19⟩) hHeld ?rest19
      case hy19 =>
        intro U hSw
        obtain ⟨s1, s2, s3, s4, s5⟩ := hSw
        go_simp
        try with_reducible rfl
      try simp only [Act.put, List.setIfInBounds_toArray, List.set_cons_zero, List.set_cons_succ]
      refine wpAnyH_take (i := 20) (oi := { dst := some 95, op := Op.fieldAddr 29 (Operand.tmp 11) 0, type := 0, pos := "law.go:99", after := #[{ on := 16, ground := Ground.guard }], guard := some (16, false) }) (v := ?vv20) rfl (by kernel_rfl) (by kernel_rfl) (by kernel_rfl) (fun _ _ _ h => h) (Or.inl ⟨by rfl, ?hy20⟩) hHeld ?rest20
      case hy20 =>
        intro U hSw
        obtain ⟨s1, s2, s3, s4, s5⟩ := hSw
        go_simp
        try with_reducible rfl
      try simp only [Act.put, List.setIfInBounds_toArray, List.set_cons_zero, List.set_cons_succ]
      refine wpAnyH_take (i := 21) (oi := { dst := some 96, op := Op.load 9 (Operand.tmp 95), type := 9, pos := "law.go:99", after := #[{ on := 20, ground := Ground.data }, { on := 16, ground := Ground.guard }], guard := some (16, false) }) (v := ?vv21) rfl (by kernel_rfl) (by kernel_rfl) (by kernel_rfl) (fun _ _ _ h => h) (Or.inl ⟨by rfl, ?hy21⟩) hHeld ?rest21
      case hy21 =>
        intro U hSw
        obtain ⟨s1, s2, s3, s4, s5⟩ := hSw
        go_simp
        try with_reducible rfl
      try simp only [Act.put, List.setIfInBounds_toArray, List.set_cons_zero, List.set_cons_succ]
      refine wpAnyH_take (i := 22) (oi := { dst := some 97, op := Op.call { callee := Callee.builtin Builtin.len, args := #[Operand.tmp 96], argTypes := #[9] }, type := 3, pos := "law.go:99", after := #[{ on := 21, ground := Ground.data }, { on := 16, ground := Ground.guard }], guard := some (16, false) }) (v := ?vv22) rfl (by kernel_rfl) (by kernel_rfl) (by kernel_rfl) (fun _ _ _ h => h) (Or.inl ⟨by rfl, ?hy22⟩) hHeld ?rest22
      case hy22 =>
        intro U hSw
        obtain ⟨s1, s2, s3, s4, s5⟩ := hSw
        go_simp
        try with_reducible rfl
      try simp only [Act.put, List.setIfInBounds_toArray, List.set_cons_zero, List.set_cons_succ]
      refine wpAnyH_take (i := 23) (oi := { dst := some 98, op := Op.binOp BinOp.add 3 (Operand.tmp 94) (Operand.tmp 97) 3, type := 3, pos := "law.go:99", after := #[{ on := 19, ground := Ground.data }, { on := 22, ground := Ground.data }, { on := 16, ground := Ground.guard }], guard := some (16, false) }) (v := ?vv23) rfl (by kernel_rfl) (by kernel_rfl) (by kernel_rfl) (fun _ _ _ h => h) (Or.inl ⟨by rfl, ?hy23⟩) hHeld ?rest23
      case hy23 =>
        intro U hSw
        obtain ⟨s1, s2, s3, s4, s5⟩ := hSw
        go_simp
        try with_reducible rfl
      try simp only [Act.put, List.setIfInBounds_toArray, List.set_cons_zero, List.set_cons_succ]
      refine wpAnyH_take (i := 24) (oi := { dst := some 99, op := Op.binOp BinOp.add 3 (Operand.tmp 98) (Operand.const (Value.int IntKind.i64 1)) 3, type := 3, pos := "law.go:99", after := #[{ on := 23, ground := Ground.data }, { on := 16, ground := Ground.guard }], guard := some (16, false) }) (v := ?vv24) rfl (by kernel_rfl) (by kernel_rfl) (by kernel_rfl) (fun _ _ _ h => h) (Or.inl ⟨by rfl, ?hy24⟩) hHeld ?rest24
      case hy24 =>
        intro U hSw
        obtain ⟨s1, s2, s3, s4, s5⟩ := hSw
        go_simp
        try with_reducible rfl
      try simp only [Act.put, List.setIfInBounds_toArray, List.set_cons_zero, List.set_cons_succ]
      refine wpAnyH_take (i := 25) (oi := { dst := some 100, op := Op.fieldAddr 29 (Operand.tmp 11) 3, type := 0, pos := "law.go:99", after := #[{ on := 16, ground := Ground.guard }], guard := some (16, false) }) (v := ?vv25) rfl (by kernel_rfl) (by kernel_rfl) (by kernel_rfl) (fun _ _ _ h => h) (Or.inl ⟨by rfl, ?hy25⟩) hHeld ?rest25
      case hy25 =>
        intro U hSw
        obtain ⟨s1, s2, s3, s4, s5⟩ := hSw
        go_simp
        try with_reducible rfl
      try simp only [Act.put, List.setIfInBounds_toArray, List.set_cons_zero, List.set_cons_succ]
      refine wpAnyH_take (i := 26) (oi := { dst := some 101, op := Op.load 3 (Operand.tmp 100), type := 3, pos := "law.go:99", after := #[{ on := 25, ground := Ground.data }, { on := 16, ground := Ground.guard }], guard := some (16, false) }) (v := ?vv26) rfl (by kernel_rfl) (by kernel_rfl) (by kernel_rfl) (fun _ _ _ h => h) (Or.inl ⟨by rfl, ?hy26⟩) hHeld ?rest26
      case hy26 =>
        intro U hSw
        obtain ⟨s1, s2, s3, s4, s5⟩ := hSw
        go_simp
        try with_reducible rfl
      try simp only [Act.put, List.setIfInBounds_toArray, List.set_cons_zero, List.set_cons_succ]
      refine wpAnyH_take (i := 27) (oi := { dst := some 102, op := Op.slice 22 (Operand.tmp 92) (some (Operand.tmp 99)) (some (Operand.tmp 101)) none, type := 22, pos := "law.go:99", after := #[{ on := 17, ground := Ground.data }, { on := 24, ground := Ground.data }, { on := 26, ground := Ground.data }, { on := 16, ground := Ground.guard }], guard := some (16, false) }) (v := ?vv27) rfl (by kernel_rfl) (by kernel_rfl) (by kernel_rfl) (fun _ _ _ h => h) (Or.inl ⟨by rfl, ?hy27⟩) hHeld ?rest27
      case hy27 =>
        intro U hSw
        obtain ⟨s1, s2, s3, s4, s5⟩ := hSw
        go_simp
        try with_reducible rfl
      try simp only [Act.put, List.setIfInBounds_toArray, List.set_cons_zero, List.set_cons_succ]
      refine wpAnyH_take (i := 28) (oi := { dst := some 103, op := Op.convert 22 9 (Operand.tmp 102), type := 9, pos := "law.go:99", after := #[{ on := 27, ground := Ground.data }, { on := 16, ground := Ground.guard }], guard := some (16, false) }) (v := ?vv28) rfl (by kernel_rfl) (by kernel_rfl) (by kernel_rfl) (fun _ _ _ h => h) (Or.inl ⟨by rfl, ?hy28⟩) hHeld ?rest28
      case hy28 =>
        intro U hSw
        obtain ⟨s1, s2, s3, s4, s5⟩ := hSw
        have hcv := HCV2.out U s5
        go_simp
        try with_reducible rfl
      try simp only [Act.put, List.setIfInBounds_toArray, List.set_cons_zero, List.set_cons_succ]
      refine wpAnyH_take (i := 30) (oi := { dst := some 105, op := Op.fieldAddr 29 (Operand.tmp 11) 1, type := 0, pos := "law.go:99", after := #[{ on := 16, ground := Ground.guard }], guard := some (16, false) }) (v := ?vv30) rfl (by kernel_rfl) (by kernel_rfl) (by kernel_rfl) (fun _ _ _ h => h) (Or.inl ⟨by rfl, ?hy30⟩) hHeld ?rest30
      case hy30 =>
        intro U hSw
        obtain ⟨s1, s2, s3, s4, s5⟩ := hSw
        go_simp
        try with_reducible rfl
      try simp only [Act.put, List.setIfInBounds_toArray, List.set_cons_zero, List.set_cons_succ]
      refine wpAnyH_take (i := 31) (oi := { dst := some 106, op := Op.load 9 (Operand.tmp 105), type := 9, pos := "law.go:99", after := #[{ on := 30, ground := Ground.data }, { on := 16, ground := Ground.guard }], guard := some (16, false) }) (v := ?vv31) rfl (by kernel_rfl) (by kernel_rfl) (by kernel_rfl) (fun _ _ _ h => h) (Or.inl ⟨by rfl, ?hy31⟩) hHeld ?rest31
      case hy31 =>
        intro U hSw
        obtain ⟨s1, s2, s3, s4, s5⟩ := hSw
        go_simp
        try with_reducible rfl
      try simp only [Act.put, List.setIfInBounds_toArray, List.set_cons_zero, List.set_cons_succ]
      refine wpAnyH_ready (rs := [29]) (by kernel_rfl) (by simp) ?_
      refine AllReadyH.cons (o := { dst := some 104, op := Op.call { callee := Callee.value (Operand.func 9), args := #[Operand.tmp 103], argTypes := #[9] }, type := 9, pos := "law.go:99", after := #[{ on := 28, ground := Ground.data }, { on := 16, ground := Ground.chain }, { on := 16, ground := Ground.guard }], guard := some (16, false) }) rfl (fun K hK => ?_) AllReadyH.nil
      go_simp
      go_at_call 9
      (with_reducible refine (HVV.out _ hW).mono ?_)
      rintro _ w9 ⟨rfl, b9⟩
      have z9 := ZB.out w9 b9
      refine hK.out _ _ z9 (fun _ => ?_)
      clear hK K hHeld
      try simp only [Act.put, List.setIfInBounds_toArray, List.set_cons_zero, List.set_cons_succ]
      have hHeld := z9
      refine wpAnyH_take (i := 32) (oi := { dst := some 107, op := Op.binOp BinOp.neq 9 (Operand.tmp 104) (Operand.tmp 106) 9, type := 4, pos := "law.go:99", after := #[{ on := 29, ground := Ground.data }, { on := 31, ground := Ground.data }, { on := 16, ground := Ground.guard }], guard := some (16, false) }) (v := ?vv32) rfl (by kernel_rfl) (by kernel_rfl) (by kernel_rfl) (fun _ _ _ h => h) (Or.inl ⟨by rfl, ?hy32⟩) hHeld ?rest32
      case hy32 =>
        intro U hSw
        obtain ⟨s1, s2, s3, s4, s5⟩ := hSw
        go_simp
        try with_reducible rfl
      try simp only [Act.put, List.setIfInBounds_toArray, List.set_cons_zero, List.set_cons_succ]
      refine wpAnyH_take (i := 33) (oi := { dst := some 108, op := Op.pick (Operand.tmp 91) (Operand.const (Value.bool true)) (Operand.tmp 107), type := 4, pos := "law.go:99", after := #[{ on := 16, ground := Ground.data }, { on := 32, ground := Ground.data }], guard := none }) (v := ?vv33) rfl (by kernel_rfl) (by kernel_rfl) (by kernel_rfl) (fun _ _ _ h => h) (Or.inl ⟨by rfl, ?hy33⟩) hHeld ?rest33
      case hy33 =>
        intro U hSw
        obtain ⟨s1, s2, s3, s4, s5⟩ := hSw
        go_simp
        try with_reducible rfl
      try simp only [Act.put, List.setIfInBounds_toArray, List.set_cons_zero, List.set_cons_succ]
      refine wpAnyH_done (by kernel_rfl) ?_ _
      obtain ⟨y1, y2, y3, y4, y5⟩ := hHeld
      have hb11 := HB10.out _ y5
      clear HB10 ZB HVV HCV1 HCV2 z0 z1 z2 z3
      go_wp2
      go_roundw
      case rel => exact ⟨k + 1, N + (xt - xf), xt, by omega, by go_num, by go_num, by go_num, hN2, by omega, HC3, HS3, hb11⟩
      case measure => simp [intOf]; omega
    · obtain rfl : k = F.length := by omega
      have hlt' : ¬ (F.length : Int) < (F.length : Int) := by omega
      have hNe : (P1.length : Int) + (P2.length : Int) = (N : Int) := by
        have h3 := HS.out
        rw [List.drop_length] at h3
        have h4 : N + 0 = 4 + sumF F := h3
        have h5 := HSM2.out
        omega
      have HL := Lib.hid (r_lines A1 l l.length c1 wr rfl (h1.below BW) hc1 (by omega))
      clear HC HS HSM2
      have tE : (((P1.length : Int) + (P2.length : Int)) == (N : Int)) = true := by rw [beq_iff_eq]; exact hNe
      go_wp2_with fail
      (with_reducible refine HL.out.mono ?_)
      rintro _ w9 ⟨v9, rfl, hv9, b9⟩
      obtain ⟨vs, hown9, hx1, hx2⟩ := hv9
      clear hx1 hx2
      have hsh : ∃ A c, v9 = .slice A (scan [] l).length c := by
        rcases hown9.2 with ⟨rfl, h0⟩ | ⟨g, cap, cur, rfl, _⟩
        · exact ⟨none, 0, by rw [h0]⟩
        · exact ⟨_, cap, rfl⟩
      obtain ⟨A9, c9, rfl⟩ := hsh
      have hb9 := BW.trans (b9.mono BW.size)
      clear hown9 HL
      obtain ⟨ln9, hln9⟩ : ∃ n, n = (scan [] l).length := ⟨_, rfl⟩
      rw [← hln9]
      clear hln9
      have t9 : (0 : Int) ≤ (ln9 : Int) := by omega
      go_wp2
      go_ret
      exact ⟨rfl, hb9⟩
end Go.Proofs.YtcigfmnkfelhjaaDoor
