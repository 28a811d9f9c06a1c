/- The reference's FromBase64. -/
import Derived.Test.YtofgkahldhelaaaDoorCdU
import Derived.Test.YtofgkahldhelaaaDoorCdW
set_option linter.unusedVariables false
namespace Go.Proofs.YtofgkahldhelaaaDoor
open Go.RowKit

theorem and255 (x : Nat) (hx : x < 4294967296) : bits .and .u32 (x : Int) 255 = ((x % 256 : Nat) : Int) := by
  have := u32_and_nat x 255 hx (by decide)
  rw [show (255 : Nat) = 2 ^ 8 - 1 by decide, Nat.and_two_pow_sub_one_eq_mod] at this
  exact this
theorem and65535 (x : Nat) (hx : x < 4294967296) : bits .and .u32 (x : Int) 65535 = ((x % 65536 : Nat) : Int) := by
  have := u32_and_nat x 65535 hx (by decide)
  rw [show (65535 : Nat) = 2 ^ 16 - 1 by decide, Nat.and_two_pow_sub_one_eq_mod] at this
  exact this
theorem push1 (w : World) (n : Int) (x : UInt8) (h : n = (x.toNat : Int)) : Rd (w.alloc (.cells #[.int .u8 n] 5)) (some ⟨w.heap.size, 0, none⟩) [x] := by
  subst h
  exact lit_rdN w [x] _ rfl _ rfl
theorem filt_snoc (l : List UInt8) (k : Nat) (h : k < l.length) : (l.take (k + 1)).filter (fun c => !isWs c) = (l.take k).filter (fun c => !isWs c) ++ (if isWs l[k] then [] else [l[k]]) := by
  rw [List.take_succ_eq_append_getElem h, List.filter_append]
  congr 1
  by_cases hw : isWs l[k] = true
  · simp [hw]
  · simp [hw]
def F64P (o : Option (List UInt8)) (w : World) (e : Ending) (w' : World) : Prop := (match o with
    | some o => ∃ v, e = .returned (.tuple #[v, .int .i64 0]) ∧ RdV w' v o
    | none => e = .returned (.tuple #[.slice none 0 0, .int .i64 3])) ∧ Below w.heap.size w w'
theorem f64_none {o : Option (List UInt8)} {w w' : World} (h : o = none) (hb : Below w.heap.size w w') : F64P o w (.returned (.tuple #[.slice none 0 0, .int .i64 3])) w' := by
  subst h
  exact ⟨rfl, hb⟩
theorem f64_some {o : Option (List UInt8)} {w w' : World} {v : Value} {r : List UInt8} (h : o = some r) (hv : RdV w' v r) (hb : Below w.heap.size w w') : F64P o w (.returned (.tuple #[v, .int .i64 0])) w' := by
  subst h
  exact ⟨⟨v, rfl, hv⟩, hb⟩
/-- The bytes of a group. -/
def by3 (x : Nat) : List UInt8 := [UInt8.ofNat (x / 65536), UInt8.ofNat (x / 256), UInt8.ofNat x]
theorem by3_snoc (x j : Nat) (h : j < 3) : (by3 x).take (j + 1) = (by3 x).take j ++ [UInt8.ofNat (x / 2 ^ (16 - 8 * j))] := by
  rcases (by omega : j = 0 ∨ j = 1 ∨ j = 2) with rfl | rfl | rfl <;> simp [by3]

set_option maxRecDepth 100000 in
set_option maxHeartbeats 8000000 in
theorem r_from64 (A : Option Addr) (l : List UInt8) (c : Nat) (w : World) (hr : Rd w A l) (hl : l.length ≤ 1000000) (hc : l.length ≤ c) :
    Calls Tryd.prog 6 #[.slice A l.length c] w (F64P (fromB64 l) w) := by
  obtain ⟨i0, hi0, hz0, hz1, hz2⟩ := info_parts u8Info
  obtain ⟨R, hR⟩ : ∃ R, R = fromB64 l := ⟨_, rfl⟩
  rw [← hR]
  rw [fromB64_gB] at hR
  have HR0 := Lib.hid hR
  clear hR
  go_enter Tryd.func6, Tryd.ntmps6
  go_wp2
  go_loopw [4, 5] (fun v iv wr => ∃ (k : Nat) (C : List UInt8), k ≤ l.length ∧ iv = .int .i64 (k : Int) ∧ C.length ≤ k ∧ Hid ((l.take k).filter (fun c => !isWs c) = C) ∧ wr.ownsRow w.heap.size 5 1 v C.length (Lib.byteCells C) ∧ Below w.heap.size w wr) (fun _ iv _ => l.length - (intOf iv).toNat)
  case atStart => exact ⟨0, [], by omega, rfl, by simp, by simp [Hid], own_none w _ _, Below.refl _ _⟩
  case round =>
    obtain ⟨k, C, hk, rfl, hC, HQ, hI, hb⟩ := hrel
    have hsz := hb.size
    by_cases hlt : k < l.length
    · have hlt' : (k : Int) < (l.length : Int) := by omega
      obtain ⟨b, o, rfl, hbb, hcell⟩ := (hr.below hb) (by omega)
      have d := hcell k hlt
      have hsn := filt_snoc l k hlt
      rw [HQ.out] at hsn
      generalize l[k] = ch at d hsn
      have hsn := Lib.hid hsn
      clear hcell
      by_cases hw : isWs ch = true
      · have hcs : ch.toNat = 9 ∨ ch.toNat = 10 ∨ ch.toNat = 13 ∨ ch.toNat = 32 := by
          simp only [isWs, Bool.or_eq_true, beq_iff_eq] at hw
          rcases hw with ((h | h) | h) | h <;> subst h <;> decide
        have hn2 : Hid ((l.take (k + 1)).filter (fun c => !isWs c) = C) := by
          have h := hsn.out
          rw [if_pos hw, List.append_nil] at h
          exact h
        clear hsn hw
        rcases hcs with h | h | h | h
        all_goals (
          rw [h] at d
          go_wp2
          go_roundw
          case rel => exact ⟨k + 1, C, by omega, by go_num, by omega, hn2, hI, hb⟩
          case measure => simp [intOf]; omega)
      · have hcs : ¬ ch.toNat = 9 ∧ ¬ ch.toNat = 10 ∧ ¬ ch.toNat = 13 ∧ ¬ ch.toNat = 32 := by
          refine ⟨fun h => hw ?_, fun h => hw ?_, fun h => hw ?_, fun h => hw ?_⟩ <;> (rw [show ch = UInt8.ofNat ch.toNat by simp, h]; decide)
        have hn2 : Hid ((l.take (k + 1)).filter (fun c => !isWs c) = C ++ [ch]) := by
          have h := hsn.out
          rw [if_neg hw] at h
          exact h
        have n9 : ((ch.toNat : Int) != 9) = true := by rw [bne_iff_ne]; omega
        have n10 : ((ch.toNat : Int) != 10) = true := by rw [bne_iff_ne]; omega
        have n13 : ((ch.toNat : Int) != 13) = true := by rw [bne_iff_ne]; omega
        have n32 : ((ch.toNat : Int) != 32) = true := by rw [bne_iff_ne]; omega
        have hba := hb.alloc hsz (.cells #[.int .u8 (ch.toNat : Int)] 5)
        clear hsn hw hcs
        go_wp2_with (at_builtin; refine wpList_append_rda _ rfl _ _ 22 rfl w.heap.size 5 i0 Tryd.underlying22 hi0 hz0 hz1 hz2 _ C rfl (ow_alloc hI _) _ [ch] _ _ rfl rfl (push1 wr _ ch rfl) (by simp; omega) (by simp; omega) ?_)
        intro v2 w2 hown2 g2 _
        have b2 := hba.grown g2 (by simp; omega) (fun k hk => (hI.lt k hk).1)
        obtain ⟨C2, HC2, hC2, hown2⟩ : ∃ C2, Hid (C ++ [ch] = C2) ∧ C2.length ≤ C.length + 1 ∧ w2.ownsRow w.heap.size 5 1 v2 C2.length (Lib.byteCells C2) := ⟨C ++ [ch], rfl, by simp, by rw [List.length_append]; exact hown2⟩
        go_wp2
        go_roundw
        case rel => exact ⟨k + 1, C2, by omega, by go_num, by omega, by show _ = _; rw [hn2.out, HC2.out], hown2, b2⟩
        case measure => simp [intOf]; omega
    · obtain rfl : k = l.length := by omega
      have hlt' : ¬ (l.length : Int) < (l.length : Int) := by omega
      have HL : Hid (l.filter (fun c => !isWs c) = C) := by have h := HQ.out; rw [List.take_length] at h; exact h
      have HRL : Hid (R = gB C) := by rw [← HL.out]; exact HR0.out
      clear HQ HL HR0
      obtain ⟨L, hL⟩ : ∃ L, L = C := ⟨_, rfl⟩
      subst hL
      obtain ⟨A3, k3, hv3, hk3, hr3⟩ := RdV.own hI
      subst hv3
      clear hI hr
      generalize hw3 : wr = w3 at *
      clear hw3
      by_cases hm4 : L.length % 4 = 0
      · have hm1 : (((L.length : Int) % 4) != 0) = false := by rw [bne_eq_false_iff_eq]; omega
        have hm2 : (((L.length : Int).tmod 4) != 0) = false := by rw [bne_eq_false_iff_eq, Int.tmod_eq_emod_of_nonneg (by omega)]; omega
        replace hm4 := Lib.hid hm4
        go_wp2_with ((with_reducible refine (letters_r _).mono ?_))
        first | (with_reducible rintro _ w0 ⟨rfl, rfl⟩; go_wp2) | skip
        go_loopw [6, 8] (fun v iv wr => ∃ (k : Nat) (C : List UInt8), k ≤ L.length ∧ iv = .int .i64 (k : Int) ∧ Hid (k % 4 = 0) ∧ C.length ≤ k ∧ Hid (gB L = (gB (L.drop k)).map (C ++ ·)) ∧ wr.ownsRow w3.heap.size 5 1 v C.length (Lib.byteCells C) ∧ Below w3.heap.size w3 wr) (fun _ iv _ => L.length - (intOf iv).toNat)
        case atStart => exact ⟨0, [], by omega, rfl, by simp [Hid], by simp, by simp [Hid], own_none w3 _ _, Below.refl _ _⟩
        case round =>
          obtain ⟨k, C, hk, rfl, hk4, hC, HQ, hI, hb2⟩ := hrel
          have hsz2 := hb2.size
          have hbw := hb.trans (hb2.mono hsz)
          by_cases hlt : k < L.length
          · have hlt' : (k : Int) < (L.length : Int) := by omega
            have h44 : k + 4 ≤ L.length := by have := hm4.out; have := hk4.out; omega
            obtain ⟨b, o, rfl, hbb, hcell⟩ := (hr3.below hb2) (by omega)
            have d0 := hcell k (by omega)
            have d1 := hcell (k + 1) (by omega)
            have d2 := hcell (k + 2) (by omega)
            have d3 := hcell (k + 3) (by omega)
            have hst := gB_step L[k] L[k + 1] L[k + 2] L[k + 3] (L.drop (k + 4))
            have hdr : L.drop k = L[k] :: L[k + 1] :: L[k + 2] :: L[k + 3] :: L.drop (k + 4) := by
              rw [List.drop_eq_getElem_cons (by omega), List.drop_eq_getElem_cons (by omega : k + 1 < L.length), List.drop_eq_getElem_cons (by omega : k + 1 + 1 < L.length), List.drop_eq_getElem_cons (by omega : k + 1 + 1 + 1 < L.length)]
            rw [← hdr] at hst
            have hlast : decide (L.drop (k + 4) = []) = decide (k + 4 = L.length) := by
              by_cases h : k + 4 = L.length
              · rw [decide_eq_true h, decide_eq_true (List.drop_eq_nil_of_le (by omega))]
              · rw [decide_eq_false h, decide_eq_false (fun h2 => by have := congrArg List.length h2; rw [List.length_drop] at this; simp at this; omega)]
            rw [hlast] at hst
            clear hdr hlast hcell
            generalize L[k] = a0 at d0 hst
            generalize L[k + 1] = a1 at d1 hst
            generalize L[k + 2] = a2 at d2 hst
            generalize L[k + 3] = a3 at d3 hst
            obtain ⟨last, hla⟩ : ∃ last, last = decide (k + 4 = L.length) := ⟨_, rfl⟩
            rw [← hla] at hst
            have HLA := Lib.hid hla
            obtain ⟨g, hg⟩ : ∃ g, g = [a0, a1, a2, a3] := ⟨_, rfl⟩
            have hpads : Hid (∀ x p, rRun last 0 (0, 0) g = some (x, p) → p ≤ 2) := fun x p h => rRun_pads last a0 a1 a2 a3 x p (hg ▸ h)
            have hgc : ∀ (j : Nat) (hj : j < 4), ∃ ch, g[j]? = some ch ∧ wr.cell? ⟨b, o + (k + j), none⟩ = some (.int .u8 (ch.toNat : Int)) := by
              intro j hj
              rcases (by omega : j = 0 ∨ j = 1 ∨ j = 2 ∨ j = 3) with rfl | rfl | rfl | rfl
              · exact ⟨a0, by rw [hg]; rfl, d0⟩
              · exact ⟨a1, by rw [hg]; rfl, d1⟩
              · exact ⟨a2, by rw [hg]; rfl, d2⟩
              · exact ⟨a3, by rw [hg]; rfl, d3⟩
            have hgl : Hid (g.length = 4) := by rw [hg]; rfl
            rw [← hg] at hst
            have HN : Hid (gR last g = none → gB L = none) := by
              intro h
              rw [HQ.out, hst, h]
              rfl
            have HS : Hid (∀ t, gR last g = some t → gB L = (gB (L.drop (k + 4))).map ((C ++ t) ++ ·)) := by
              intro t h
              rw [HQ.out, hst, h]
              simp only [Option.map_map]
              congr 1
              funext z
              simp
            have HGC := Lib.hid hgc
            clear d0 d1 d2 d3 hst hla hg hgc HQ
            obtain ⟨w4, hw4⟩ : ∃ w4, w4 = wr := ⟨_, rfl⟩
            subst hw4
            go_wp2
            go_loopw [9, 10, 11] (fun vv pv kv wx => ∃ (j x p : Nat), j ≤ 4 ∧ kv = .int .i64 (j : Int) ∧ vv = .int .u32 (x : Int) ∧ pv = .int .i64 (p : Int) ∧ Hid (rRun last 0 (0, 0) (g.take j) = some (x, p)) ∧ (∃ n, wx = w4.drewN n)) (fun _ _ kv _ => 4 - (intOf kv).toNat)
            case atStart => exact ⟨0, 0, 0, by omega, rfl, rfl, rfl, rfl, ⟨0, rfl⟩⟩
            case round =>
              obtain ⟨j, x, p, hj, rfl, rfl, rfl, HR, ⟨nn, rfl⟩⟩ := hrel
              have hbd := rRun_bound last g j x p hj hgl.out HR.out
              by_cases hj4 : j < 4
              · have hj4' : (j : Int) < 4 := by omega
                obtain ⟨ch, hch, hcc⟩ := HGC.out j hj4
                obtain ⟨m, hm0, hm⟩ : ∃ m : Nat, Hid (m = k + j) ∧ (k : Int) + (j : Int) = (m : Int) := ⟨k + j, rfl, by omega⟩
                have hcc2 : (w4.drewN nn).cell? ⟨b, o + m, none⟩ = some (.int .u8 (ch.toNat : Int)) := by rw [hm0.out]; exact hcc
                have p0 : (m : Int) < (L.length : Int) := by have := hm0.out; omega
                have p1 : IntKind.i64.wrap (m : Int) = m := by rw [IntKind.wrap_i64]; omega
                have p2 : IntKind.i64.wrap ((k : Int) + (j : Int)) = m := by rw [IntKind.wrap_i64]; omega
                have hx := hbd.2.1 (by omega)
                have hp4 : p ≤ 4 := hbd.2.2
                have HRS : Hid (∀ s, rStep last j (x, p) ch = some s → rRun last 0 (0, 0) (g.take (j + 1)) = some s) := by
                  intro s hs
                  have e : g.take (j + 1) = g.take j ++ [ch] := by
                    rw [List.take_add_one, hch]
                    rfl
                  have el : (g.take j).length = j := by rw [List.length_take, hgl.out]; omega
                  rw [e, rRun_snoc, HR.out]
                  simp only [el, Nat.zero_add]
                  exact hs
                have HRN : Hid (rStep last j (x, p) ch = none → gB L = none) := by
                  intro hs
                  have e : g.take (j + 1) = g.take j ++ [ch] := by
                    rw [List.take_add_one, hch]
                    rfl
                  have el : (g.take j).length = j := by rw [List.length_take, hgl.out]; omega
                  have h1 : rRun last 0 (0, 0) (g.take (j + 1)) = none := by
                    rw [e, rRun_snoc, HR.out]
                    simp only [el, Nat.zero_add]
                    exact hs
                  refine HN.out ?_
                  have h2 := rRun_none last (g.take (j + 1)) (g.drop (j + 1)) 0 (0, 0) h1
                  rw [List.take_append_drop] at h2
                  unfold gR
                  rw [h2]
                have hcv := cV_le ch
                have hcq : Hid (∀ (q : Nat) (h : q < lettersA.size), lettersA[q] = ch ↔ cV ch = q) := fun q h => by rw [letters_get q h]; exact cV_lett q ch h
                have hb8 := ch.toNat_lt
                clear hch hcc hbd
                go_wp2
                go_loopw [12, 13] (fun cv qv wz => ∃ (q z : Nat), q ≤ 64 ∧ qv = .int .i64 (q : Int) ∧ cv = .int .i64 (z : Int) ∧ z ≤ 64 ∧ Hid (z = if cV ch < q then cV ch else 64) ∧ (∃ n, wz = w4.drewN n)) (fun _ qv _ => 64 - (intOf qv).toNat)
                case atStart => exact ⟨0, 64, by omega, rfl, rfl, by omega, by simp [Hid], ⟨nn, rfl⟩⟩
                case round =>
                  obtain ⟨q, z, hq, rfl, rfl, hz, HZ, ⟨n2, rfl⟩⟩ := hrel
                  by_cases hq64 : q < 64
                  · have hq' : (q : Int) < 64 := by omega
                    have hqs : q < lettersA.size := hq64
                    have hqq : (q : Int) < (lettersA.size : Int) := hq'
                    have hcc3 : (w4.drewN n2).cell? ⟨b, o + m, none⟩ = some (.int .u8 (ch.toNat : Int)) := hcc2
                    have hcc5 : w4.cell? ⟨b, o + m, none⟩ = some (.int .u8 (ch.toNat : Int)) := hcc2
                    have hcc6 : w4.cell? ⟨b, o + (k + j), none⟩ = some (.int .u8 (ch.toNat : Int)) := by rw [← hm0.out]; exact hcc2
                    have hcc4 : (w4.drewN n2).cell? ⟨b, o + (k + j), none⟩ = some (.int .u8 (ch.toNat : Int)) := by rw [← hm0.out]; exact hcc2
                    by_cases hx : lettersA[q]'hqs = ch
                    · have e1 : (((lettersA[q]'hqs).toNat : Int) == (ch.toNat : Int)) = true := by rw [hx]; simp
                      have hcx : Hid (cV ch = q) := (hcq.out q hqs).1 hx
                      clear hx hcq
                      go_wp2_with fail
                      go_quiet (fail)
                      go_wp2
                      go_roundw
                      case rel => exact ⟨q + 1, q, by omega, by go_num, rfl, by omega, by show _ = _; rw [hcx.out, if_pos (by omega)], ⟨n2 + nq, by first | rfl | rw [World.drewN_drewN]⟩⟩
                      case measure => simp [intOf]; omega
                    · have e1 : (((lettersA[q]'hqs).toNat : Int) == (ch.toNat : Int)) = false := by
                        rw [beq_eq_false_iff_ne]
                        intro h
                        exact hx (UInt8.toNat_inj.1 (by omega))
                      have hcx : Hid (¬ cV ch = q) := fun h => hx ((hcq.out q hqs).2 h)
                      clear hx hcq
                      go_wp2_with fail
                      go_quiet (fail)
                      go_wp2
                      go_roundw
                      case rel => exact ⟨q + 1, z, by omega, by go_num, rfl, hz, (by
                        show _ = _
                        have h1 := hcx.out
                        rw [HZ.out]
                        by_cases h : cV ch < q
                        · rw [if_pos h, if_pos (by omega)]
                        · rw [if_neg h, if_neg (by omega)]), ⟨n2 + nq, by first | rfl | rw [World.drewN_drewN]⟩⟩
                      case measure => simp [intOf]; omega
                  · obtain rfl : q = 64 := by omega
                    have hzv : Hid (cV ch = z) := by
                      show _ = _
                      rw [HZ.out]
                      split <;> omega
                    have hzz : (z : Int) < 4294967296 := by omega
                    have hcc3 : (w4.drewN n2).cell? ⟨b, o + m, none⟩ = some (.int .u8 (ch.toNat : Int)) := hcc2
                    clear hcq HZ hcc2
                    by_cases epd : ch = 61 ∧ last = true ∧ 2 ≤ j
                    · have t1 : ((ch.toNat : Int) == 61) = true := by rw [epd.1]; decide
                      have t2 : ((k : Int) + 4 == (L.length : Int)) = true := by
                        have h := epd.2.1
                        rw [HLA.out] at h
                        have h := of_decide_eq_true h
                        rw [beq_iff_eq]
                        omega
                      have t3 : (2 : Int) ≤ (j : Int) := by omega
                      have HPS := Lib.hid (HRS.out _ (rStep_pad last j x p ch epd.1 epd.2.1 epd.2.2))
                      have hor : bits .or .u32 ((x : Int) * 64) 0 = (x : Int) * 64 := by
                        have := or_add 6 x 0 (by decide) (by omega)
                        rw [show 2 ^ 6 * x = x * 64 by omega] at this
                        simpa using this
                      clear epd
                      go_wp2
                      go_roundw
                      case rel => exact ⟨j + 1, x * 64, p + 1, by omega, by go_num, by go_num, by go_num, HPS.out, ⟨n2, rfl⟩⟩
                      case measure => simp [intOf]; omega
                    · have hd : (((ch.toNat : Int) == 61) = false) ∨ (((ch.toNat : Int) == 61) = true ∧ ((k : Int) + 4 == (L.length : Int)) = false) ∨ (((ch.toNat : Int) == 61) = true ∧ ((k : Int) + 4 == (L.length : Int)) = true ∧ ¬ (2 : Int) ≤ (j : Int)) := by
                        by_cases e1 : ch = 61
                        · have t1 : ((ch.toNat : Int) == 61) = true := by rw [e1]; decide
                          by_cases e2 : k + 4 = L.length
                          · refine .inr (.inr ⟨t1, by rw [beq_iff_eq]; omega, fun h => epd ⟨e1, ?_, by omega⟩⟩)
                            rw [HLA.out]
                            exact decide_eq_true e2
                          · exact .inr (.inl ⟨t1, by rw [beq_eq_false_iff_ne]; omega⟩)
                        · refine .inl ?_
                          rw [beq_eq_false_iff_ne]
                          intro h
                          have h2 : ch.toNat = 61 := by omega
                          exact e1 (by rw [show ch = UInt8.ofNat ch.toNat by simp, h2]; decide)
                      by_cases hbad : z = 64 ∨ 0 < p
                      · have HRC := Lib.hid (show R = none by rw [HRL.out]; exact HRN.out (rStep_bad last j x p ch epd (by rw [hzv.out]; exact hbad)))
                        have hbb : Below w.heap.size w (w4.drewN n2) := below_drewN hbw n2
                        have hz2 : ((z : Int) == 64) = true ∨ (((z : Int) == 64) = false ∧ 1 ≤ p) := by
                          by_cases h : z = 64
                          · exact .inl (by rw [beq_iff_eq]; omega)
                          · exact .inr ⟨by rw [beq_eq_false_iff_ne]; omega, by omega⟩
                        clear epd hbad hzv
                        rcases hz2 with hz2 | ⟨hz2, hz3⟩
                        case' inr => obtain ⟨P, rfl⟩ : ∃ P, p = P + 1 := ⟨p - 1, by omega⟩
                        case' inr => have hz4 : (0 : Int) < ((P + 1 : Nat) : Int) := by omega
                        case' inr => have hz5 : (0 : Int) < (P : Int) + 1 := by omega
                        case' inr => clear hz3
                        all_goals rcases hd with hd | ⟨hd, hd2⟩ | ⟨hd, hd2, hd3⟩
                        · go_wp2
                          go_ret2
                          exact f64_none HRC.out hbb
                        · go_wp2
                          go_ret2
                          exact f64_none HRC.out hbb
                        · go_wp2
                          go_ret2
                          exact f64_none HRC.out hbb
                        · go_wp2
                          go_ret2
                          exact f64_none HRC.out hbb
                        · go_wp2
                          go_ret2
                          exact f64_none HRC.out hbb
                        · go_wp2
                          go_ret2
                          exact f64_none HRC.out hbb
                      · obtain rfl : p = 0 := by omega
                        have hz64 : z < 64 := by omega
                        have hz2 : ((z : Int) == 64) = false := by rw [beq_eq_false_iff_ne]; omega
                        have HPS := Lib.hid (HRS.out _ (rStep_ok last j x ch epd (by rw [hzv.out]; exact hz64)))
                        rw [hzv.out] at HPS
                        have hor : bits .or .u32 ((x : Int) * 64) (z : Int) = (x : Int) * 64 + (z : Int) := by
                          have := or_add 6 x z (by omega) (by omega)
                          rw [show 2 ^ 6 * x = x * 64 by omega] at this
                          simpa using this
                        clear epd hbad hzv
                        rcases hd with hd | ⟨hd, hd2⟩ | ⟨hd, hd2, hd3⟩
                        all_goals (
                          go_wp2
                          go_roundw
                          case rel => exact ⟨j + 1, x * 64 + z, 0, by omega, by go_num, by go_num, by go_num, HPS.out, ⟨n2, rfl⟩⟩
                          case measure => simp [intOf]; omega)
              · obtain rfl : j = 4 := by omega
                have hp2 : p ≤ 2 := hpads.out x p (by have h := HR.out; rwa [List.take_of_length_le (by rw [hgl.out]; exact Nat.le_refl _)] at h)
                have HG : Hid (gR last g = rFin (x, p)) := by
                  show _ = _
                  unfold gR
                  have h := HR.out
                  rw [List.take_of_length_le (by rw [hgl.out]; exact Nat.le_refl _)] at h
                  rw [h]
                have hx := hbd.1
                obtain ⟨y1, hy1, e255⟩ : ∃ y1 : Nat, Hid (y1 = x % 256) ∧ bits .and .u32 (x : Int) 255 = (y1 : Int) := ⟨_, rfl, and255 x (by omega)⟩
                obtain ⟨y2, hy2, e65535⟩ : ∃ y2 : Nat, Hid (y2 = x % 65536) ∧ bits .and .u32 (x : Int) 65535 = (y2 : Int) := ⟨_, rfl, and65535 x (by omega)⟩
                clear hpads HR HGC hgl hbd HLA
                by_cases hbad : (p = 1 ∧ ¬ x % 256 = 0) ∨ (p = 2 ∧ ¬ x % 65536 = 0)
                · have HRC := Lib.hid (show R = none by rw [HRL.out]; exact HN.out (by rw [HG.out]; unfold rFin; rw [if_pos hbad]))
                  have hbb : Below w.heap.size w (w4.drewN nn) := below_drewN hbw nn
                  have hq : (((p : Int) == 1) = true ∧ ((y1 : Int) != 0) = true) ∨ (((p : Int) == 1) = false ∧ ((p : Int) == 2) = true ∧ ((y2 : Int) != 0) = true) := by
                    have h1 := hy1.out
                    have h2 := hy2.out
                    rcases hbad with ⟨h, h3⟩ | ⟨h, h3⟩
                    · exact .inl ⟨by rw [beq_iff_eq]; omega, by rw [bne_iff_ne]; omega⟩
                    · exact .inr ⟨by rw [beq_eq_false_iff_ne]; omega, by rw [beq_iff_eq]; omega, by rw [bne_iff_ne]; omega⟩
                  clear hbad HN HS HG
                  rcases hq with ⟨f1, f2⟩ | ⟨f1, f2, f3⟩
                  all_goals (
                    go_wp2
                    go_ret2
                    exact f64_none HRC.out hbb)
                · have HSS := Lib.hid (HS.out ((by3 x).take (3 - p)) (by rw [HG.out]; unfold rFin; rw [if_neg hbad]; rfl))
                  obtain ⟨P, hP, hP2, hP3⟩ : ∃ P : Nat, Hid (P = 3 - p) ∧ (3 : Int) - (p : Int) = (P : Int) ∧ P ≤ 3 := ⟨3 - p, rfl, by omega, by omega⟩
                  have hId := ow_drew hI nn
                  have hbd := below_drewN hb2 nn
                  have hq : (p = 0 ∧ P = 3) ∨ (p = 1 ∧ P = 2 ∧ y1 = 0) ∨ (p = 2 ∧ P = 1 ∧ y2 = 0) := by
                    have h1 := hy1.out
                    have h2 := hy2.out
                    omega
                  clear hbad HN HS HG hy1 hy2 hI hb2 hbw hp2 hP2 hP3
                  rcases hq with ⟨rfl, rfl⟩ | ⟨rfl, rfl, rfl⟩ | ⟨rfl, rfl, rfl⟩
                  · go_wp2
                    go_loopw [6, 14] (fun v tv wx => ∃ (t : Nat) (D : List UInt8), t ≤ 3 ∧ tv = .int .i64 (t : Int) ∧ D.length ≤ C.length + t ∧ Hid (D = C ++ (by3 x).take t) ∧ wx.ownsRow w3.heap.size 5 1 v D.length (Lib.byteCells D) ∧ Below w3.heap.size w3 wx) (fun _ tv _ => 3 - (intOf tv).toNat)
                    case atStart => exact ⟨0, C, by omega, rfl, by omega, by simp [Hid], hId, hbd⟩
                    case round =>
                      clear hId hbd
                      obtain ⟨t, D, ht, rfl, hDl, HD, hId, hbd⟩ := hrel
                      have hsd := hbd.size
                      by_cases htP : t < 3
                      · have htP' : (t : Int) < 3 := by omega
                        have htP3 : t < 3 := by omega
                        obtain ⟨s, hs0, hs, hs64⟩ : ∃ s : Nat, Hid (s = 16 - 8 * t) ∧ (16 : Int) - 8 * (t : Int) = (s : Int) ∧ s < 64 := ⟨16 - 8 * t, rfl, by omega, by omega⟩
                        obtain ⟨u, HU, hu⟩ : ∃ u : UInt8, Hid (u = UInt8.ofNat (x / 2 ^ s)) ∧ Hid ((x : Int) / 2 ^ s % 256 = (u.toNat : Int)) := ⟨_, rfl, by
                          show _ = _
                          rw [UInt8.toNat_ofNat']
                          simp⟩
                        have hba := hbd.alloc hsd (.cells #[.int .u8 ((x : Int) / 2 ^ s % 256)] 5)
                        go_wp2_with (at_builtin; refine wpList_append_rda _ rfl _ _ 22 rfl w3.heap.size 5 i0 Tryd.underlying22 hi0 hz0 hz1 hz2 _ D rfl (ow_alloc hId _) _ [u] _ _ rfl rfl (push1 wr _ u hu.out) (by simp; omega) (by simp; omega) ?_)
                        intro v5 w5 hown5 g5 _
                        have b5 := hba.grown g5 (by simp; omega) (fun k hk => (hId.lt k hk).1)
                        obtain ⟨D5, HD5, hD5, hown5⟩ : ∃ D5, Hid (D ++ [u] = D5) ∧ D5.length ≤ D.length + 1 ∧ w5.ownsRow w3.heap.size 5 1 v5 D5.length (Lib.byteCells D5) := ⟨D ++ [u], rfl, by simp, by rw [List.length_append]; exact hown5⟩
                        go_wp2
                        go_roundw
                        case rel =>
                          refine ⟨t + 1, D5, by omega, by go_num, by omega, ?_, hown5, b5⟩
                          show _ = _
                          rw [by3_snoc x t (by omega), ← HD5.out, HD.out, HU.out, hs0.out, List.append_assoc]
                        case measure => simp [intOf]; omega
                      · obtain rfl : t = 3 := by omega
                        have HQ5 : Hid (gB L = (gB (L.drop (k + 4))).map (D ++ ·)) := by
                          show _ = _
                          rw [HSS.out, HD.out]
                        go_wp2
                        go_roundw
                        case rel => exact ⟨k + 4, D, by omega, by go_num, (by show _ = _; have := hk4.out; omega), by omega, HQ5, hId, hbd⟩
                        case measure => simp [intOf]; omega
                  · go_wp2
                    go_loopw [6, 14] (fun v tv wx => ∃ (t : Nat) (D : List UInt8), t ≤ 2 ∧ tv = .int .i64 (t : Int) ∧ D.length ≤ C.length + t ∧ Hid (D = C ++ (by3 x).take t) ∧ wx.ownsRow w3.heap.size 5 1 v D.length (Lib.byteCells D) ∧ Below w3.heap.size w3 wx) (fun _ tv _ => 2 - (intOf tv).toNat)
                    case atStart => exact ⟨0, C, by omega, rfl, by omega, by simp [Hid], hId, hbd⟩
                    case round =>
                      clear hId hbd
                      obtain ⟨t, D, ht, rfl, hDl, HD, hId, hbd⟩ := hrel
                      have hsd := hbd.size
                      by_cases htP : t < 2
                      · have htP' : (t : Int) < 2 := by omega
                        have htP3 : t < 3 := by omega
                        obtain ⟨s, hs0, hs, hs64⟩ : ∃ s : Nat, Hid (s = 16 - 8 * t) ∧ (16 : Int) - 8 * (t : Int) = (s : Int) ∧ s < 64 := ⟨16 - 8 * t, rfl, by omega, by omega⟩
                        obtain ⟨u, HU, hu⟩ : ∃ u : UInt8, Hid (u = UInt8.ofNat (x / 2 ^ s)) ∧ Hid ((x : Int) / 2 ^ s % 256 = (u.toNat : Int)) := ⟨_, rfl, by
                          show _ = _
                          rw [UInt8.toNat_ofNat']
                          simp⟩
                        have hba := hbd.alloc hsd (.cells #[.int .u8 ((x : Int) / 2 ^ s % 256)] 5)
                        go_wp2_with (at_builtin; refine wpList_append_rda _ rfl _ _ 22 rfl w3.heap.size 5 i0 Tryd.underlying22 hi0 hz0 hz1 hz2 _ D rfl (ow_alloc hId _) _ [u] _ _ rfl rfl (push1 wr _ u hu.out) (by simp; omega) (by simp; omega) ?_)
                        intro v5 w5 hown5 g5 _
                        have b5 := hba.grown g5 (by simp; omega) (fun k hk => (hId.lt k hk).1)
                        obtain ⟨D5, HD5, hD5, hown5⟩ : ∃ D5, Hid (D ++ [u] = D5) ∧ D5.length ≤ D.length + 1 ∧ w5.ownsRow w3.heap.size 5 1 v5 D5.length (Lib.byteCells D5) := ⟨D ++ [u], rfl, by simp, by rw [List.length_append]; exact hown5⟩
                        go_wp2
                        go_roundw
                        case rel =>
                          refine ⟨t + 1, D5, by omega, by go_num, by omega, ?_, hown5, b5⟩
                          show _ = _
                          rw [by3_snoc x t (by omega), ← HD5.out, HD.out, HU.out, hs0.out, List.append_assoc]
                        case measure => simp [intOf]; omega
                      · obtain rfl : t = 2 := by omega
                        have HQ5 : Hid (gB L = (gB (L.drop (k + 4))).map (D ++ ·)) := by
                          show _ = _
                          rw [HSS.out, HD.out]
                        go_wp2
                        go_roundw
                        case rel => exact ⟨k + 4, D, by omega, by go_num, (by show _ = _; have := hk4.out; omega), by omega, HQ5, hId, hbd⟩
                        case measure => simp [intOf]; omega
                  · go_wp2
                    go_loopw [6, 14] (fun v tv wx => ∃ (t : Nat) (D : List UInt8), t ≤ 1 ∧ tv = .int .i64 (t : Int) ∧ D.length ≤ C.length + t ∧ Hid (D = C ++ (by3 x).take t) ∧ wx.ownsRow w3.heap.size 5 1 v D.length (Lib.byteCells D) ∧ Below w3.heap.size w3 wx) (fun _ tv _ => 1 - (intOf tv).toNat)
                    case atStart => exact ⟨0, C, by omega, rfl, by omega, by simp [Hid], hId, hbd⟩
                    case round =>
                      clear hId hbd
                      obtain ⟨t, D, ht, rfl, hDl, HD, hId, hbd⟩ := hrel
                      have hsd := hbd.size
                      by_cases htP : t < 1
                      · have htP' : (t : Int) < 1 := by omega
                        have htP3 : t < 3 := by omega
                        obtain ⟨s, hs0, hs, hs64⟩ : ∃ s : Nat, Hid (s = 16 - 8 * t) ∧ (16 : Int) - 8 * (t : Int) = (s : Int) ∧ s < 64 := ⟨16 - 8 * t, rfl, by omega, by omega⟩
                        obtain ⟨u, HU, hu⟩ : ∃ u : UInt8, Hid (u = UInt8.ofNat (x / 2 ^ s)) ∧ Hid ((x : Int) / 2 ^ s % 256 = (u.toNat : Int)) := ⟨_, rfl, by
                          show _ = _
                          rw [UInt8.toNat_ofNat']
                          simp⟩
                        have hba := hbd.alloc hsd (.cells #[.int .u8 ((x : Int) / 2 ^ s % 256)] 5)
                        go_wp2_with (at_builtin; refine wpList_append_rda _ rfl _ _ 22 rfl w3.heap.size 5 i0 Tryd.underlying22 hi0 hz0 hz1 hz2 _ D rfl (ow_alloc hId _) _ [u] _ _ rfl rfl (push1 wr _ u hu.out) (by simp; omega) (by simp; omega) ?_)
                        intro v5 w5 hown5 g5 _
                        have b5 := hba.grown g5 (by simp; omega) (fun k hk => (hId.lt k hk).1)
                        obtain ⟨D5, HD5, hD5, hown5⟩ : ∃ D5, Hid (D ++ [u] = D5) ∧ D5.length ≤ D.length + 1 ∧ w5.ownsRow w3.heap.size 5 1 v5 D5.length (Lib.byteCells D5) := ⟨D ++ [u], rfl, by simp, by rw [List.length_append]; exact hown5⟩
                        go_wp2
                        go_roundw
                        case rel =>
                          refine ⟨t + 1, D5, by omega, by go_num, by omega, ?_, hown5, b5⟩
                          show _ = _
                          rw [by3_snoc x t (by omega), ← HD5.out, HD.out, HU.out, hs0.out, List.append_assoc]
                        case measure => simp [intOf]; omega
                      · obtain rfl : t = 1 := by omega
                        have HQ5 : Hid (gB L = (gB (L.drop (k + 4))).map (D ++ ·)) := by
                          show _ = _
                          rw [HSS.out, HD.out]
                        go_wp2
                        go_roundw
                        case rel => exact ⟨k + 4, D, by omega, by go_num, (by show _ = _; have := hk4.out; omega), by omega, HQ5, hId, hbd⟩
                        case measure => simp [intOf]; omega
          · obtain rfl : k = L.length := by omega
            have hlt' : ¬ (L.length : Int) < (L.length : Int) := by omega
            have HRC : R = some C := by
              rw [HRL.out, HQ.out, List.drop_length]
              simp [gB]
            replace HRC := Lib.hid HRC
            have HO := Lib.hid (RdV.own hI)
            clear hI
            go_wp2
            go_ret2
            exact f64_some HRC.out HO.out hbw
      · have hm1 : (((L.length : Int) % 4) != 0) = true := by rw [bne_iff_ne]; omega
        have hm2 : (((L.length : Int).tmod 4) != 0) = true := by rw [bne_iff_ne, Int.tmod_eq_emod_of_nonneg (by omega)]; omega
        have HRC := Lib.hid (show R = none by rw [HRL.out]; exact gB_mod _ L (Nat.le_refl _) hm4)
        clear hm4
        go_wp2
        go_ret2
        exact f64_none HRC.out hb
end Go.Proofs.YtofgkahldhelaaaDoor
