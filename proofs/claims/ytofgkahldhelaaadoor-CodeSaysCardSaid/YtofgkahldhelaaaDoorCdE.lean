/- Base64 read: the whole. -/
import Derived.Test.YtofgkahldhelaaaDoorCdD
set_option linter.unusedVariables false
namespace Go.Proofs.YtofgkahldhelaaaDoor
open Go.RowKit

theorem one_rd (w : World) (c : UInt8) (o : Nat × Nat) : Rd (w.alloc (.cells #[.int .u8 (c.toNat : Int)] 5 o)) (some ⟨w.heap.size, 0, none⟩) [c] := fun _ =>
  ⟨w.heap.size, 0, rfl, by simp [World.alloc, -World.alloc_eq], fun i hi => by
    have h0 : i = 0 := by simpa using hi
    subst h0
    simp [World.cell?, World.alloc, -World.alloc_eq]⟩
theorem own_cut {w : World} {B : Nat} {e : TypeId} {A : Option Addr} {n c : Nat} {l : List UInt8} (h : w.ownsRow B e 1 (.slice A n c) n (Lib.byteCells l)) (hn : 0 < n) : w.ownsRow B e 1 (.slice A 0 c) ([] : List UInt8).length (Lib.byteCells []) := by
  refine ⟨by simp [Lib.byteCells], ?_⟩
  rcases h.2 with ⟨h1, h2⟩ | ⟨g, cap, cur, hv, hg, hh, hnc, hm, hs, ht⟩
  · omega
  · injection hv with e1 e2 e3
    subst e1
    subst e3
    exact .inr ⟨g, _, cur, rfl, hg, hh, Nat.zero_le _, hm, hs, by simp [Lib.byteCells]⟩
theorem apart_cut {u : Value} {A : Option Addr} {n c m d : Nat} (h : Apart u (.slice A n c)) : Apart u (.slice A m d) := by
  cases A <;> exact h
theorem fbRun_snoc (s : St) (l : List UInt8) (k : Nat) (hk : k < l.length) : fbRun s (l.take (k + 1)) = (fbRun s (l.take k)).bind (fun t => fbStep t l[k]) := by
  rw [List.take_succ_eq_append_getElem hk, fbRun_append]
  cases fbRun s (l.take k) with
  | none => rfl
  | some t =>
    simp only [Option.bind, fbRun]
    cases fbStep t l[k] <;> rfl
theorem fbRun_none (s : St) (l : List UInt8) (k : Nat) (h : fbRun s (l.take k) = none) : fbRun s l = none := by
  rw [← List.take_append_drop k l, fbRun_append, h]
  rfl
theorem ung_len (l x : List UInt8) (h : ung l = some x) : x.length ≤ 3 := by
  simp only [ung] at h
  split at h
  · cases h
  · split at h
    · cases h
    · split at h
      · injection h with h
        subst h
        rw [List.length_take]
        exact Nat.le_trans (Nat.min_le_right _ _) (by simp)
      · cases h
theorem byte_ne (c : UInt8) (n : Nat) (hn : n < 256) (h : ¬ c = UInt8.ofNat n) : ((c.toNat : Int) == (n : Int)) = false := by
  rw [beq_eq_false_iff_ne]
  intro e
  refine h (UInt8.toNat_inj.1 ?_)
  rw [UInt8.toNat_ofNat']
  omega
def UnRet (w : World) (e : Ending) (w' : World) (l : List UInt8) : Prop := ∃ v ok, e = .returned (.tuple #[v, .bool ok]) ∧ UnPost w' v ok l ∧ Below w.heap.size w w'
theorem ungroup_r (A : Option Addr) (l : List UInt8) (n c : Nat) (w : World) (hn : l.length = n) (hr : Rd w A l) (h4 : l.length = 4) (hc : 4 ≤ c) :
    Calls Tryd.prog 15 #[.slice A n c] w fun e w' => UnRet w e w' l := ungroup_e A l n c w hn hr h4 hc
def FbPost (w : World) (B : Nat) (e : Ending) (l : List UInt8) : Prop := match fromB64 l with
  | none => e = .returned (.tuple #[.slice none 0 0, .int .i64 3])
  | some o => ∃ v, e = .returned (.tuple #[v, .int .i64 0]) ∧ w.ownsRow B 5 1 v o.length (Lib.byteCells o)

set_option maxRecDepth 100000 in
set_option maxHeartbeats 4000000 in
theorem from64_e (A : Option Addr) (l : List UInt8) (c : Nat) (w : World) (hr : Rd w A l) (hl : l.length ≤ 1000000) (hc : l.length ≤ c) :
    Calls Tryd.prog 5 #[.slice A l.length c] w fun e w' => FbPost w' w.heap.size e l ∧ Below w.heap.size w w' := by
  obtain ⟨i0, hi0, hz0, hz1, hz2⟩ := info_parts u8Info
  go_enter Tryd.func5, Tryd.ntmps5
  go_wp2
  go_loopw [4, 5, 6, 13] (fun v4 v5 v6 i wr => ∃ (k : Nat) (C F : List UInt8) (en : Bool), k ≤ l.length ∧ i = .int .i64 k ∧ v6 = .bool en ∧ F.length ≤ 3 ∧ C.length ≤ 3 * k ∧ Hid (fbRun ⟨[], [], false⟩ (l.take k) = some ⟨C, F, en⟩) ∧ wr.ownsRow w.heap.size 5 1 v4 C.length (Lib.byteCells C) ∧ wr.ownsRow w.heap.size 5 1 v5 F.length (Lib.byteCells F) ∧ Apart v4 v5 ∧ Below w.heap.size w wr) (fun _ _ _ i _ => l.length - (intOf i).toNat)
  case atStart => exact ⟨0, [], [], false, Nat.zero_le _, rfl, rfl, by simp, by simp, rfl, own_none w _ _, own_none w _ _, .inl rfl, Below.refl _ _⟩
  case round =>
    obtain ⟨k, C, F, en, hk, rfl, rfl, hF, hC, HS, hI4, hI5, hap, hb⟩ := hrel
    have hsz := hb.size
    obtain ⟨A5, c5, rfl, hc5, _⟩ := Bts.of_own hI5
    by_cases hlt : k < l.length
    · have hlt' : (k : Int) < (l.length : Int) := by omega
      obtain ⟨b, o, rfl, hbb, hcell⟩ := (hr.below hb) (by omega)
      have hcc := hcell k hlt
      have hsn := Lib.hid (fbRun_snoc ⟨[], [], false⟩ l k hlt)
      generalize l[k] = ck at hcc hsn
      clear hcell
      by_cases hws : isWs ck = true
      · have hst : Hid (fbRun ⟨[], [], false⟩ (l.take (k + 1)) = some ⟨C, F, en⟩) := by
          show _ = _
          rw [hsn.out, HS.out]
          simp [fbStep, hws]
        have h4 : ck = 9 ∨ ck = 10 ∨ ck = 13 ∨ ck = 32 := by
          simp only [isWs, Bool.or_eq_true, beq_iff_eq] at hws
          rcases hws with ((h | h) | h) | h
          · exact .inl h
          · exact .inr (.inl h)
          · exact .inr (.inr (.inl h))
          · exact .inr (.inr (.inr h))
        clear hws hsn
        rcases h4 with rfl | rfl | rfl | rfl
        · go_wp2
          go_roundw
          case rel => exact ⟨k + 1, C, F, en, by omega, by go_num, rfl, hF, by omega, hst, hI4, hI5, hap, hb⟩
          case measure => simp [intOf]; omega
        · go_wp2
          go_roundw
          case rel => exact ⟨k + 1, C, F, en, by omega, by go_num, rfl, hF, by omega, hst, hI4, hI5, hap, hb⟩
          case measure => simp [intOf]; omega
        · go_wp2
          go_roundw
          case rel => exact ⟨k + 1, C, F, en, by omega, by go_num, rfl, hF, by omega, hst, hI4, hI5, hap, hb⟩
          case measure => simp [intOf]; omega
        · go_wp2
          go_roundw
          case rel => exact ⟨k + 1, C, F, en, by omega, by go_num, rfl, hF, by omega, hst, hI4, hI5, hap, hb⟩
          case measure => simp [intOf]; omega
      · have hws' : isWs ck = false := by simpa using hws
        have hq : (ck == 9) = false ∧ (ck == 10) = false ∧ (ck == 13) = false ∧ (ck == 32) = false := by
          simp only [isWs, Bool.or_eq_false_iff] at hws'
          exact ⟨hws'.1.1.1, hws'.1.1.2, hws'.1.2, hws'.2⟩
        have n1 : ((ck.toNat : Int) == 9) = false := byte_ne ck 9 (by decide) (by simpa using hq.1)
        have n2 : ((ck.toNat : Int) == 10) = false := byte_ne ck 10 (by decide) (by simpa using hq.2.1)
        have n3 : ((ck.toNat : Int) == 13) = false := byte_ne ck 13 (by decide) (by simpa using hq.2.2.1)
        have n4 : ((ck.toNat : Int) == 32) = false := byte_ne ck 32 (by decide) (by simpa using hq.2.2.2)
        have hstep : fbRun ⟨[], [], false⟩ (l.take (k + 1)) = fbStep ⟨C, F, en⟩ ck := by
          rw [hsn.out, HS.out]
          rfl
        replace hstep := Lib.hid hstep
        clear hq hsn hws
        have hor := one_rd wr ck (0, 0)
        have ha4 := ownk_below hI4 (below_one4 wr (.cells #[.int .u8 (ck.toNat : Int)] 5)) (Nat.le_refl _)
        have ha5 := ownk_below hI5 (below_one4 wr (.cells #[.int .u8 (ck.toNat : Int)] 5)) (Nat.le_refl _)
        have hba := hb.trans ((below_one4 wr (.cells #[.int .u8 (ck.toNat : Int)] 5)).mono hsz)
        go_wp2_with (at_builtin; refine wpList_append_rda _ rfl _ _ 22 rfl w.heap.size 5 i0 Tryd.underlying22 hi0 hz0 hz1 hz2 _ F rfl ha5 _ [ck] _ _ rfl rfl hor (by simp; omega) (by simp; omega) ?_)
        intro v5 w2 hown5 hg5 hat5
        have hb2 := hba.grown hg5 (by simp; omega) (fun k hk => (ha5.lt k hk).1)
        have hI42 := own_kept ha4 hg5 hap
        have hap2 := Apart.grown hap ha4 hat5 (by simp)
        obtain ⟨F2, HF2, hF2, hown5⟩ : ∃ F2, Hid (F2 = F ++ [ck]) ∧ F2.length ≤ F.length + 1 ∧ w2.ownsRow w.heap.size 5 1 v5 F2.length (Lib.byteCells F2) := ⟨F ++ [ck], rfl, by rw [List.length_append]; exact Nat.le_refl _, by rw [List.length_append]; exact hown5⟩
        obtain ⟨A6, c6, rfl, hc6, hr6⟩ := Bts.of_own hown5
        by_cases h4 : F2.length < 4
        · have h4' : (F2.length : Int) < 4 := by omega
          have hst : Hid (fbRun ⟨[], [], false⟩ (l.take (k + 1)) = some ⟨C, F2, en⟩) := by
            show _ = _
            rw [hstep.out]
            simp only [fbStep, hws', Bool.false_eq_true, if_false]
            rw [← HF2.out, if_pos h4]
          go_wp2
          go_roundw
          case rel => exact ⟨k + 1, C, F2, en, by omega, by go_num, rfl, by omega, by omega, hst, hI42, hown5, hap2, hb2⟩
          case measure => simp [intOf]; omega
        · have h4' : ¬ (F2.length : Int) < 4 := by omega
          have hu := Lib.hid (ungroup_r A6 F2 F2.length c6 w2 rfl hr6 (by omega) (by omega))
          have hst := hstep.out
          simp only [fbStep, hws', Bool.false_eq_true, if_false] at hst
          rw [← HF2.out, if_neg h4] at hst
          replace hst := Lib.hid hst
          have hs2 := hb2.size
          go_wp2_with ((with_reducible refine hu.out.mono ?_))
          intro e3 w3 hret
          obtain ⟨v, ok, rfl, hun, hb3⟩ := hret
          have hb03 := hb2.trans (hb3.mono hs2)
          have hI43 := ownk_below hI42 hb3 (Nat.le_refl _)
          have hI53 := ownk_below hown5 hb3 (Nat.le_refl _)
          unfold UnPost at hun
          cases hx : ung F2 with
          | none =>
            rw [hx] at hun hst
            have hok : ok = false := hun
            subst hok
            have HN : Hid (fromB64 l = none) := by
              show _ = _
              unfold fromB64
              rw [fbRun_none _ l (k + 1) hst.out]
              rfl
            clear hst hx hun
            go_wp2
            go_ret2
            refine ⟨?_, hb03⟩
            simp only [FbPost, HN.out]
            rfl
          | some x =>
            rw [hx] at hun hst
            obtain ⟨hok, A7, c7, hv7, hc7, hr7⟩ := hun
            subst hok
            subst hv7
            have hx3 := ung_len F2 x hx
            clear hx
            cases en with
            | true =>
              have HN : Hid (fromB64 l = none) := by
                show _ = _
                unfold fromB64
                rw [fbRun_none _ l (k + 1) hst.out]
                rfl
              clear hst
              go_wp2
              go_ret2
              refine ⟨?_, hb03⟩
              simp only [FbPost, HN.out]
              rfl
            | false =>
              have hs3 := hb03.size
              go_wp2_with (at_builtin; refine wpList_append_rda _ rfl _ _ 22 rfl w.heap.size 5 i0 Tryd.underlying22 hi0 hz0 hz1 hz2 _ C rfl hI43 A7 x _ _ rfl rfl hr7 (by omega) (by omega) ?_)
              intro v4 w4 hown4 hg4 hat4
              have hb4 := hb03.grown hg4 (by omega) (fun k hk => (hI43.lt k hk).1)
              have hI54 := own_kept hI53 hg4 (Apart.symm hap2)
              have hap4 := (Apart.grown (Apart.symm hap2) hI53 hat4 (Nat.le_refl _)).symm
              obtain ⟨C2, HC2, hC2, hown4⟩ : ∃ C2, Hid (C2 = C ++ x) ∧ C2.length ≤ C.length + x.length ∧ w4.ownsRow w.heap.size 5 1 v4 C2.length (Lib.byteCells C2) := ⟨C ++ x, rfl, by rw [List.length_append]; exact Nat.le_refl _, by rw [List.length_append]; exact hown4⟩
              have hcut := own_cut hI54 (by omega)
              have hap5 : Apart v4 (.slice A6 0 c6) := apart_cut hap4
              have hst2 : Hid (fbRun ⟨[], [], false⟩ (l.take (k + 1)) = some ⟨C2, [], decide (x.length < 3)⟩) := by
                show _ = _
                rw [hst.out, HC2.out]
                rfl
              clear hst hstep
              obtain ⟨e9, he9, he92⟩ : ∃ e9 : Bool, decide (x.length < 3) = e9 ∧ decide ((x.length : Int) < 3) = e9 := ⟨_, rfl, by
                by_cases h : x.length < 3
                · simp [h]; omega
                · simp [h]; omega⟩
              rw [he9] at hst2
              go_wp2
              go_roundw
              case rel => exact ⟨k + 1, C2, [], e9, by omega, by go_num, rfl, by simp, by omega, hst2, hown4, hcut, hap5, hb4⟩
              case measure => simp [intOf]; omega
    · obtain rfl : k = l.length := by omega
      have hlt' : ¬ (l.length : Int) < (l.length : Int) := by omega
      have hfin := HS.out
      rw [List.take_length] at hfin
      by_cases h0 : 0 < F.length
      · have h0' : (0 : Int) < (F.length : Int) := by omega
        have HN : Hid (fromB64 l = none) := by
          show _ = _
          unfold fromB64 fin
          rw [hfin]
          simp only []
          rw [if_neg (by intro e; rw [e] at h0; exact absurd h0 (by simp))]
        clear hfin
        go_wp2
        go_ret2
        refine ⟨?_, hb⟩
        simp only [FbPost, HN.out]
        rfl
      · have h0' : ¬ (0 : Int) < (F.length : Int) := by omega
        have hFe : F = [] := List.eq_nil_of_length_eq_zero (by omega)
        have HN : Hid (fromB64 l = some C) := by
          show _ = _
          unfold fromB64 fin
          rw [hfin]
          simp only []
          rw [if_pos hFe]
        clear hfin hFe
        go_wp2
        go_ret2
        refine ⟨?_, hb⟩
        simp only [FbPost, HN.out]
        exact ⟨u4, rfl, hI4⟩
end Go.Proofs.YtofgkahldhelaaaDoor
