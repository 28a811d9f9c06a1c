/- Package head: Pick, and slices.ContainsFunc with its closure. -/
import Derived.Test.YtcigfmnkfelhjaaDoorHdP
import Derived.Test.YtcigfmnkfelhjaaDoorHdG
import Derived.Test.YtcigfmnkfelhjaaDoorArg
import Derived.Test.YtcigfmnkfelhjaaDoorApA
set_option linter.unusedVariables false
namespace Go.Proofs.YtcigfmnkfelhjaaDoor
open Go.RowKit

theorem pkInfo : (Tryd.prog.info? 5).map (fun i => (i.zero, i.size, i.bytes)) = some (some (.int .u8 0), 1, 1) := by kernel_rfl
/-- Whether a name is among those that are looked for. -/
def hitN (xn s : ByteArray) : Bool := sameB s.data.toList xn.data.toList
def idxQ (q : ByteArray → Bool) : Nat → List ByteArray → Int
  | _, [] => -1
  | i, s :: r => if q s then (i : Int) else idxQ q (i + 1) r
theorem idxQ_any (q : ByteArray → Bool) : ∀ (l : List ByteArray) (i : Nat), decide (0 ≤ idxQ q i l) = l.any q
  | [], i => rfl
  | s :: r, i => by
    unfold idxQ
    rw [List.any_cons]
    by_cases h : q s = true
    · rw [if_pos h, h, Bool.true_or]
      exact decide_eq_true (by omega)
    · rw [if_neg h, idxQ_any q r (i + 1), Bool.eq_false_iff.2 h, Bool.false_or]
theorem pred_any (xn s : ByteArray) (g : Nat) (W : World) (hs : s.size ≤ maxLen) (hc : W.cell? ⟨g, 0, none⟩ = some (.string xn)) :
    Calls Tryd.prog 20 #[.string s, .pointer (some ⟨g, 0, none⟩)] W fun e w' => e = .returned (.bool (hitN xn s)) ∧ ∃ n, w' = W.drewN n := by
  have h1 := same_any s xn W hs
  have H1 : Hid (Calls Tryd.prog 21 #[.string s, .string xn] W fun e w' => e = .returned (.bool (hitN xn s)) ∧ ∃ n, w' = W.drewN n) := h1
  clear h1
  generalize hitN xn s = q at *
  go_enter Tryd.func20, Tryd.ntmps20
  go_wp2_with fail
  (with_reducible refine H1.out.mono ?_)
  rintro _ w1 ⟨rfl, n, rfl⟩
  go_wp2
  go_ret
  exact ⟨rfl, n, rfl⟩
set_option maxHeartbeats 2000000 in
theorem index_names (A : Option Addr) (ns : List ByteArray) (c : Nat) (xn : ByteArray) (g : Nat) (w : World) (h : RdR StrZ 1 w A ns) (hc : ns.length ≤ c) (hm : c ≤ maxLen) (hg : w.cell? ⟨g, 0, none⟩ = some (.string xn)) :
    Calls Tryd.prog 27 #[.slice A ns.length c, .func (.func 20) #[] #[.pointer (some ⟨g, 0, none⟩)]] w fun e w' => e = .returned (.int .i64 (idxQ (hitN xn) 0 ns)) ∧ ∃ n, w' = w.drewN n := by
  have eg : ∀ args w, (callFunc 20 args).run Tryd.prog w = .ok (.enter 20 args) w := enters_of Tryd.func20 (by kernel_rfl) rfl
  have hm7 : c ≤ 9223372036854775807 := hm
  obtain ⟨R, hR⟩ : ∃ R, Hid (idxQ (hitN xn) 0 ns = R) := ⟨_, Lib.hid rfl⟩
  rw [hR.out]
  have HC : ∀ n, (w.drewN n).cell? ⟨g, 0, none⟩ = some (.string xn) := fun n => hg
  have HP := Lib.hid (fun (s : ByteArray) (n : Nat) (hs : s.size ≤ maxLen) => pred_any xn s g (w.drewN n) hs (HC n))
  clear HC hg hm
  go_enter Tryd.func27, Tryd.ntmps27
  go_wp2
  go_loopw [5, 8] (fun _ iv wx => ∃ k : Nat, k ≤ ns.length ∧ iv = .int .i64 (k : Int) ∧ Hid (R = idxQ (hitN xn) k (ns.drop k)) ∧ ∃ n, wx = w.drewN n) (fun _ iv _ => ns.length - (intOf iv).toNat)
  case atStart => exact ⟨0, Nat.zero_le _, rfl, by show _ = _; rw [← hR.out]; rfl, 0, rfl⟩
  case round =>
    obtain ⟨k, hk, rfl, HQ, nn, rfl⟩ := hrel
    by_cases hlt : k < ns.length
    · have e1 : (k : Int) < (ns.length : Int) := by omega
      have e0 : (0 : Int) ≤ (k : Int) := by omega
      obtain ⟨b, o, v, rfl, ⟨hv, hvs⟩, d2⟩ := h.one k hlt
      obtain rfl : v = .string ns[k] := by simpa using hv
      have hdr : ns.drop k = ns[k] :: ns.drop (k + 1) := List.drop_eq_getElem_cons hlt
      rw [hdr] at HQ
      have hcall := HP.out ns[k] nn (by unfold maxLen; omega)
      have d2' : (w.drewN nn).cell? ⟨b, o + k, none⟩ = some (.string ns[k]) := d2
      generalize ns[k] = s at hcall d2 d2' HQ
      clear hv hvs hdr
      cases hq : hitN xn s with
      | true =>
        rw [hq] at hcall
        have hr : Hid (R = (k : Int)) := by show _ = _; rw [HQ.out, idxQ, if_pos hq]
        have HK := Lib.hid hcall
        clear HQ hq hcall
        go_wp2_with (go_at_fn 20; (with_reducible refine HK.out.mono ?_); rintro _ w9 ⟨rfl, nq, rfl⟩)
        go_ret
        exact ⟨ret_int hr.out.symm, nn + nq, by first | rfl | rw [World.drewN_drewN]⟩
      | false =>
        rw [hq] at hcall
        have hr : Hid (R = idxQ (hitN xn) (k + 1) (ns.drop (k + 1))) := by show _ = _; rw [HQ.out, idxQ, if_neg (by rw [hq]; decide)]
        have HK := Lib.hid hcall
        clear HQ hq hcall
        go_wp2_with (go_at_fn 20; (with_reducible refine HK.out.mono ?_); rintro _ w9 ⟨rfl, nq, rfl⟩)
        go_roundw
        case rel => exact ⟨k + 1, by omega, by go_num, hr, nn + nq, by first | rfl | rw [World.drewN_drewN]⟩
        case measure => simp [intOf]; omega
    · obtain rfl : k = ns.length := by omega
      have hlt' : ¬ (ns.length : Int) < (ns.length : Int) := by omega
      have hr : Hid (R = -1) := by show _ = _; rw [HQ.out, List.drop_length]; rfl
      clear HQ
      go_wp2
      go_ret
      exact ⟨ret_int hr.out.symm, nn, rfl⟩
theorem contains_names (A : Option Addr) (ns : List ByteArray) (c : Nat) (xn : ByteArray) (g : Nat) (w : World) (h : RdR StrZ 1 w A ns) (hc : ns.length ≤ c) (hm : c ≤ maxLen) (hg : w.cell? ⟨g, 0, none⟩ = some (.string xn)) :
    Calls Tryd.prog 19 #[.slice A ns.length c, .func (.func 20) #[] #[.pointer (some ⟨g, 0, none⟩)]] w fun e w' => e = .returned (.bool (ns.any (hitN xn))) ∧ ∃ n, w' = w.drewN n := by
  have HI := Lib.hid (index_names A ns c xn g w h hc hm hg)
  have HA := Lib.hid (idxQ_any (hitN xn) ns 0)
  generalize idxQ (hitN xn) 0 ns = R at *
  generalize ns.any (hitN xn) = q at *
  clear h hg hm
  go_enter Tryd.func19, Tryd.ntmps19
  go_wp2_with fail
  (with_reducible refine HI.out.mono ?_)
  rintro _ w1 ⟨rfl, n, rfl⟩
  by_cases h0 : 0 ≤ R
  · have hq : Hid (q = true) := by show _ = _; rw [← HA.out]; exact decide_eq_true h0
    go_wp2
    go_ret
    exact ⟨ret_bool (by rw [hq.out]), n, rfl⟩
  · have hq : Hid (q = false) := by show _ = _; rw [← HA.out]; exact decide_eq_false h0
    go_wp2
    go_ret
    exact ⟨ret_bool (by rw [hq.out]; exact decide_eq_false (by omega)), n, rfl⟩

/-- What Pick answers. -/
def pickQ (ns : List ByteArray) (nt : Bool) (f : Fd) : Bool := ns.any (hitN f.name) != nt
def pickF (l : List UInt8) (ns : List ByteArray) (nt : Bool) (F : List Fd) : List UInt8 := pkB l (pickQ ns nt) F ++ [13, 10]
set_option maxRecDepth 100000 in
set_option maxHeartbeats 4000000 in
theorem pick_w (A : Option Addr) (l : List UInt8) (c : Nat) (A2 : Option Addr) (ns : List ByteArray) (c2 : Nat) (nt : Bool) (w : World) (hr : Rd w A l) (hl : l.length ≤ 1000000) (hc : l.length ≤ c) (h2 : RdR StrZ 1 w A2 ns) (hc2 : ns.length ≤ c2) (hm2 : c2 ≤ maxLen) (hm : MaxLenIs w) (hg : 0 < w.heap.size) :
    Calls Tryd.prog 8 #[.slice A l.length c, .slice A2 ns.length c2, .bool nt] w fun e w' => ∃ v, e = .returned v ∧ w'.ownsRow w.heap.size 5 1 v (pickF l ns nt (fieldsF valF l (endF l))).length (Lib.byteCells (pickF l ns nt (fieldsF valF l (endF l)))) ∧ Below w.heap.size w w' := by
  obtain ⟨i0, hi0, hz0, hz1, hz2⟩ := info_parts pkInfo
  have HF := Lib.hid (fields_w A l c w hr hl hc hm hg)
  have HCH := Lib.hid (fields_chain valF l (endF l) (endF_le l))
  generalize fieldsF valF l (endF l) = F at *
  obtain ⟨P, hP⟩ : ∃ P, Hid (pickF l ns nt F = P) := ⟨_, Lib.hid rfl⟩
  rw [hP.out]
  clear hm hg
  go_enter Tryd.func8, Tryd.ntmps8
  go_wp2_with fail
  (with_reducible refine HF.out.mono ?_)
  rintro _ w1 ⟨v, rfl, hown, b1⟩
  obtain ⟨A5, cap5, rfl, hc5, hcm5, hA5⟩ := hown.shape
  have hF7 : F.length ≤ 9223372036854775807 := by unfold maxLen at hcm5; omega
  have s1 := b1.size
  have HOWN := Lib.hid hown
  clear HF hown
  go_wp2
  go_loopw [7, 14] (fun ov iv wx => ∃ (k : Nat) (B : List UInt8) (ou : Value), k ≤ F.length ∧ iv = .int .i64 (k : Int) ∧ ov = ou ∧ Hid (B = pkB l (pickQ ns nt) (F.take k)) ∧ B.length ≤ l.length ∧ wx.ownsRow w1.heap.size 5 1 ou B.length (Lib.byteCells B) ∧ Below w1.heap.size w1 wx) (fun _ iv _ => F.length - (intOf iv).toNat)
  case atStart => exact ⟨0, [], _, Nat.zero_le _, rfl, rfl, rfl, Nat.zero_le _, World.ownsRow_nil _ _ _ _, Below.refl _ _⟩
  case round =>
    obtain ⟨k, B, ou, hk, rfl, hou, HQ, hBl, hownB, hb⟩ := hrel
    replace hou := hou.symm
    subst hou
    have sB := hb.size
    by_cases hlt : k < F.length
    · have hlt' : (k : Int) < (F.length : Int) := by omega
      obtain ⟨g5, rfl, hg5, _⟩ := hA5 (by omega)
      have hown' := HOWN.out.below hb (Nat.le_refl _)
      have hce : ∀ j u, j < 4 → (fdC F[k])[j]? = some u → wr.cell? ⟨g5, k * 4 + j, none⟩ = some u := by
        intro j u hj hu
        have h := (hown'.cell k j hlt hj u hu).1
        rw [Nat.mul_comm 4 k] at h
        exact h
      have htk : pkB l (pickQ ns nt) (F.take (k + 1)) = B ++ (if pickQ ns nt F[k] then (l.take F[k].to_).drop F[k].from_ else []) := by
        rw [List.take_succ_eq_append_getElem hlt, pk_snoc, ← HQ.out]
      have hlen : (pkB l (pickQ ns nt) (F.take (k + 1))).length ≤ l.length := by
        have := pk_le l (pickQ ns nt) (HCH.out.take (k + 1)) (Nat.le_refl _)
        omega
      obtain ⟨m, ⟨_, hx1, hx2, hx3, _⟩, hx4⟩ := HCH.out.at_ F[k] (List.getElem_mem hlt)
      have hqx : pickQ ns nt F[k] = (ns.any (hitN F[k].name) != nt) := rfl
      generalize F[k] = x at hce htk hx1 hx2 hx3 hqx
      rw [hqx] at htk
      rw [htk] at hlen
      replace htk := Lib.hid htk
      obtain ⟨xn, xv, xf, xt⟩ := x
      have d0 := hce 0 _ (by omega) rfl
      have d1 := hce 1 _ (by omega) rfl
      have d2 := hce 2 _ (by omega) rfl
      have d3 := hce 3 _ (by omega) rfl
      rw [Nat.add_zero] at d0
      dsimp only at d0 d1 d2 d3 hx1 hx2 hx3 htk hlen
      have ba := (Below.refl wr.heap.size wr).alloc (Nat.le_refl _) (.cells #[.string xn, .string xv, .int .i64 (xf : Int), .int .i64 (xt : Int)] 29)
      have bw := b1.trans (hb.mono s1)
      have hcon := contains_names A2 ns c2 xn wr.heap.size (wr.alloc (.cells #[.string xn, .string xv, .int .i64 (xf : Int), .int .i64 (xt : Int)] 29)) (h2.below StrZ.keeps (bw.trans (ba.mono bw.size)) (Nat.le_refl _)) hc2 hm2 (by simp)
      generalize ns.any (hitN xn) = q at hcon htk hlen
      have HCON := Lib.hid hcon
      obtain ⟨bb, oo, rfl, hbb, _⟩ := id hr (by omega)
      clear hce hown' hcon hqx hx3
      cases q with
      | false => cases nt with
        | false =>
          go_wp2_with fail
          (with_reducible refine HCON.out.mono ?_)
          rintro _ w9 ⟨rfl, n, rfl⟩
          have hb9 : Below w1.heap.size w1 ((wr.alloc (.cells #[.string xn, .string xv, .int .i64 (xf : Int), .int .i64 (xt : Int)] 29)).drewN n) := below_drewN (hb.trans (ba.mono sB)) n
          have hown9 := ownk_below hownB (below_drewN ba n) (Nat.le_refl _)
          have HQ9 : Hid (B = pkB l (pickQ ns false) (F.take (k + 1))) := by show _ = _; rw [htk.out, if_neg (by decide), List.append_nil]
          clear htk hlen
          go_wp2
          go_roundw
          case rel => exact ⟨k + 1, B, _, by omega, by go_num, rfl, HQ9, hBl, hown9, hb9⟩
          case measure => simp [intOf]; omega
        | true =>
          rw [if_pos (by decide)] at hlen
          have hwl : ((l.take xt).drop xf).length = xt - xf := by rw [List.length_drop, List.length_take]; omega
          obtain ⟨X, hX⟩ : ∃ X, Hid (X = (l.take xt).drop xf) := ⟨_, Lib.hid rfl⟩
          have hXl : X.length = xt - xf := by rw [hX.out]; exact hwl
          have hwin : Rd (wr.alloc (.cells #[.string xn, .string xv, .int .i64 (xf : Int), .int .i64 (xt : Int)] 29)) (some ⟨bb, oo + xf, none⟩) X := by
            rw [hX.out]
            exact (Rd.takeH ((hr.below bw).below ba) xt).dropH xf
          rw [← hX.out] at hlen
          have HQ9 : Hid (B ++ X = pkB l (pickQ ns true) (F.take (k + 1))) := by show _ = _; rw [htk.out, if_pos (by decide), hX.out]
          have o1 : (0 : Int) ≤ (xf : Int) := by omega
          have o2 : (xf : Int) ≤ (xt : Int) := by omega
          have o3 : (xt : Int) ≤ (c : Int) := by omega
          have o4 : ¬ c = xf := by omega
          rw [List.length_append] at hlen
          have HXL := Lib.hid hXl
          clear htk hX hwl hXl
          go_wp2_with fail
          (with_reducible refine HCON.out.mono ?_)
          rintro _ w9 ⟨rfl, n, rfl⟩
          obtain ⟨W9, hW9⟩ : ∃ W9, W9 = (wr.alloc (.cells #[.string xn, .string xv, .int .i64 (xf : Int), .int .i64 (xt : Int)] 29)).drewN n := ⟨_, rfl⟩
          have hb9 : Below w1.heap.size w1 W9 := by rw [hW9]; exact below_drewN (hb.trans (ba.mono sB)) n
          have hown9 : W9.ownsRow w1.heap.size 5 1 ou B.length (Lib.byteCells B) := by rw [hW9]; exact ownk_below hownB (below_drewN ba n) (Nat.le_refl _)
          have hwin9 : Rd W9 (some ⟨bb, oo + xf, none⟩) X := by rw [hW9]; exact hwin.below (below_drewN (Below.refl _ _) n)
          have z2 : W9.cell? ⟨wr.heap.size, 2, none⟩ = some (.int .i64 (xf : Int)) := by
            rw [hW9]
            show (wr.alloc (.cells #[.string xn, .string xv, .int .i64 (xf : Int), .int .i64 (xt : Int)] 29)).cell? ⟨wr.heap.size, 2, none⟩ = some (.int .i64 (xf : Int))
            simp
          have z3 : W9.cell? ⟨wr.heap.size, 3, none⟩ = some (.int .i64 (xt : Int)) := by
            rw [hW9]
            show (wr.alloc (.cells #[.string xn, .string xv, .int .i64 (xf : Int), .int .i64 (xt : Int)] 29)).cell? ⟨wr.heap.size, 3, none⟩ = some (.int .i64 (xt : Int))
            simp
          rw [← hW9]
          have s9 := hb9.size
          clear hW9 hwin hownB ba
          go_wp2_with (at_builtin; refine wpList_append_rd _ rfl _ _ 22 rfl w1.heap.size 5 i0 Tryd.underlying22 hi0 hz0 hz1 hz2 _ B rfl hown9 (some ⟨bb, oo + xf, none⟩) X _ _ HXL.out.symm rfl hwin9 (by omega) (by omega) ?_)
          intro v9 w10 hown10 g10
          have b10 := hb9.grown g10 s9 (fun k hk => (hown9.lt k hk).1)
          rw [← List.length_append] at hown10
          have hBX : (B ++ X).length ≤ l.length := by rw [List.length_append]; exact hlen
          generalize B ++ X = B2 at hown10 HQ9 hBX
          clear hown9 g10 hwin9 z2 z3 hlen
          go_wp2
          go_roundw
          case rel => exact ⟨k + 1, B2, _, by omega, by go_num, rfl, HQ9, hBX, hown10, b10⟩
          case measure => simp [intOf]; omega
      | true => cases nt with
        | false =>
          rw [if_pos (by decide)] at hlen
          have hwl : ((l.take xt).drop xf).length = xt - xf := by rw [List.length_drop, List.length_take]; omega
          obtain ⟨X, hX⟩ : ∃ X, Hid (X = (l.take xt).drop xf) := ⟨_, Lib.hid rfl⟩
          have hXl : X.length = xt - xf := by rw [hX.out]; exact hwl
          have hwin : Rd (wr.alloc (.cells #[.string xn, .string xv, .int .i64 (xf : Int), .int .i64 (xt : Int)] 29)) (some ⟨bb, oo + xf, none⟩) X := by
            rw [hX.out]
            exact (Rd.takeH ((hr.below bw).below ba) xt).dropH xf
          rw [← hX.out] at hlen
          have HQ9 : Hid (B ++ X = pkB l (pickQ ns false) (F.take (k + 1))) := by show _ = _; rw [htk.out, if_pos (by decide), hX.out]
          have o1 : (0 : Int) ≤ (xf : Int) := by omega
          have o2 : (xf : Int) ≤ (xt : Int) := by omega
          have o3 : (xt : Int) ≤ (c : Int) := by omega
          have o4 : ¬ c = xf := by omega
          rw [List.length_append] at hlen
          have HXL := Lib.hid hXl
          clear htk hX hwl hXl
          go_wp2_with fail
          (with_reducible refine HCON.out.mono ?_)
          rintro _ w9 ⟨rfl, n, rfl⟩
          obtain ⟨W9, hW9⟩ : ∃ W9, W9 = (wr.alloc (.cells #[.string xn, .string xv, .int .i64 (xf : Int), .int .i64 (xt : Int)] 29)).drewN n := ⟨_, rfl⟩
          have hb9 : Below w1.heap.size w1 W9 := by rw [hW9]; exact below_drewN (hb.trans (ba.mono sB)) n
          have hown9 : W9.ownsRow w1.heap.size 5 1 ou B.length (Lib.byteCells B) := by rw [hW9]; exact ownk_below hownB (below_drewN ba n) (Nat.le_refl _)
          have hwin9 : Rd W9 (some ⟨bb, oo + xf, none⟩) X := by rw [hW9]; exact hwin.below (below_drewN (Below.refl _ _) n)
          have z2 : W9.cell? ⟨wr.heap.size, 2, none⟩ = some (.int .i64 (xf : Int)) := by
            rw [hW9]
            show (wr.alloc (.cells #[.string xn, .string xv, .int .i64 (xf : Int), .int .i64 (xt : Int)] 29)).cell? ⟨wr.heap.size, 2, none⟩ = some (.int .i64 (xf : Int))
            simp
          have z3 : W9.cell? ⟨wr.heap.size, 3, none⟩ = some (.int .i64 (xt : Int)) := by
            rw [hW9]
            show (wr.alloc (.cells #[.string xn, .string xv, .int .i64 (xf : Int), .int .i64 (xt : Int)] 29)).cell? ⟨wr.heap.size, 3, none⟩ = some (.int .i64 (xt : Int))
            simp
          rw [← hW9]
          have s9 := hb9.size
          clear hW9 hwin hownB ba
          go_wp2_with (at_builtin; refine wpList_append_rd _ rfl _ _ 22 rfl w1.heap.size 5 i0 Tryd.underlying22 hi0 hz0 hz1 hz2 _ B rfl hown9 (some ⟨bb, oo + xf, none⟩) X _ _ HXL.out.symm rfl hwin9 (by omega) (by omega) ?_)
          intro v9 w10 hown10 g10
          have b10 := hb9.grown g10 s9 (fun k hk => (hown9.lt k hk).1)
          rw [← List.length_append] at hown10
          have hBX : (B ++ X).length ≤ l.length := by rw [List.length_append]; exact hlen
          generalize B ++ X = B2 at hown10 HQ9 hBX
          clear hown9 g10 hwin9 z2 z3 hlen
          go_wp2
          go_roundw
          case rel => exact ⟨k + 1, B2, _, by omega, by go_num, rfl, HQ9, hBX, hown10, b10⟩
          case measure => simp [intOf]; omega
        | true =>
          go_wp2_with fail
          (with_reducible refine HCON.out.mono ?_)
          rintro _ w9 ⟨rfl, n, rfl⟩
          have hb9 : Below w1.heap.size w1 ((wr.alloc (.cells #[.string xn, .string xv, .int .i64 (xf : Int), .int .i64 (xt : Int)] 29)).drewN n) := below_drewN (hb.trans (ba.mono sB)) n
          have hown9 := ownk_below hownB (below_drewN ba n) (Nat.le_refl _)
          have HQ9 : Hid (B = pkB l (pickQ ns true) (F.take (k + 1))) := by show _ = _; rw [htk.out, if_neg (by decide), List.append_nil]
          clear htk hlen
          go_wp2
          go_roundw
          case rel => exact ⟨k + 1, B, _, by omega, by go_num, rfl, HQ9, hBl, hown9, hb9⟩
          case measure => simp [intOf]; omega
    · obtain rfl : k = F.length := by omega
      have hlt' : ¬ (F.length : Int) < (F.length : Int) := by omega
      have hPe : P = B ++ [13, 10] := by rw [← hP.out, HQ.out, List.take_length]; rfl
      have HPE := Lib.hid hPe
      clear hPe HQ hP
      go_wp2_with (at_builtin; refine wpList_append_st _ rfl _ _ 22 9 rfl w1.heap.size 5 i0 Tryd.underlying22 Tryd.underlying9 hi0 hz0 hz1 hz2 _ B rfl hownB [13, 10] _ rfl rfl (by simp; omega) (by omega) ?_)
      intro v9 w9 hown9 g9
      have b9 := hb.grown g9 sB (fun k hk => (hownB.lt k hk).1)
      go_wp2
      go_ret
      refine ⟨v9, rfl, ?_, b1.trans (b9.mono s1)⟩
      rw [HPE.out, List.length_append]
      exact ownk_mono hown9 s1
end Go.Proofs.YtcigfmnkfelhjaaDoor
