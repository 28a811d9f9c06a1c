/- Quoted-printable, read. -/
import Derived.Test.YtofgkahldhelaaaDoorCdG
import Derived.Deep.RegionLaw
set_option linter.unusedVariables false
namespace Go.Proofs.YtofgkahldhelaaaDoor
open Go.RowKit

theorem rd_drop {w : World} (b o : Nat) (x : List UInt8) (n cb : Nat) (h0 : x.length ≤ cb) (h : Rd w (some ⟨b, o, none⟩) x) (hcb : ¬ cb = n) (hn : n ≤ x.length) : Rd w (some ⟨b, o + n, none⟩) (x.drop n) := by
  have h1 := Rd.drop h n cb h0
  rw [if_neg hcb] at h1
  have e : (some (⟨b, o, none⟩ : Addr)).map (·.add n) = some ⟨b, o + n, none⟩ := by
    show some ((⟨b, o, none⟩ : Addr).add n) = _
    rw [addp0]
  rw [e] at h1
  exact h1
theorem row_ne {w : World} {base : Nat} {e : TypeId} {size : Nat} {v : Value} {n : Nat} {xs : List Value} (h : w.ownsRow base e size v n xs) {b : Nat} (hb : b < base) : v.ownBlock ≠ some b := by
  intro e1
  rcases h.2 with ⟨rfl, _⟩ | ⟨g, cap, cur, rfl, hg, _⟩
  · simp [Value.ownBlock] at e1
  · simp [Value.ownBlock] at e1
    omega
theorem or16 (a b : Nat) (ha : a < 16) (hb : b < 16) : bits .or .i64 ((a : Int) * 16) (b : Int) = ((a * 16 + b : Nat) : Int) := by
  have key : ∀ x y : Fin 16, bits .or .i64 ((x.val : Int) * 16) (y.val : Int) = ((x.val * 16 + y.val : Nat) : Int) := by decide +kernel
  exact key ⟨a, ha⟩ ⟨b, hb⟩
section
variable {P : Program} (w : World)
/-- append onto a row of one's own, inside a region that draws its order. -/
theorem step_append_rda {ops : Array Oper} {o : Oper} {a : Act} {K : Act → World → Prop} {Q : Exit → Act → World → Prop} {E : Prop} (hgd : o.guard = none) (s x : Operand) (t : TypeId)
    (ho : o.op = .call { callee := .builtin .append, args := #[s, x], argTypes := #[t, t] })
    (base : Nat) (e : TypeId) (i : TypeInfo) (ht : P.underlying t = some (.slice e)) (hi : P.info? e = some i) (hz : i.zero = some (.int .u8 0)) (hsize : i.size = 1) (hby : i.bytes = 1)
    (v : Value) (l1 : List UInt8) (hs : a.eval s = v) (hown : w.ownsRow base e 1 v l1.length (Lib.byteCells l1)) (A : Option Addr) (l2 : List UInt8) (n c : Nat) (hn : n = l2.length) (hx : a.eval x = .slice A n c) (hr : Rd w A l2) (h63 : l1.length + l2.length ≤ 140737488355328) (hbase : base ≤ w.heap.size)
    (h : ∀ v' w', w'.ownsRow base e 1 v' (l1 ++ l2).length (Lib.byteCells (l1 ++ l2)) → w.grownBy w' v.ownBlock → (v'.ownBlock = v.ownBlock ∨ v'.ownBlock = some w.heap.size) → K (a.put o.dst v') w') :
    if Region.wanted o (yielded ops a.tmps) = true then Oper.wp P o a w K Q else E := by
  have hw : Region.wanted o (yielded ops a.tmps) = true := by simp [Region.wanted, hgd]
  rw [if_pos hw]
  subst hn
  obtain ⟨v', w', hrun, h2, h3, h4⟩ := run_append_rda (P := P) w base t o.type e i ht hi hz hsize hby v l1 hown A l2 c hr h63 hbase
  unfold Oper.wp execOp
  simp only [ho, resolve, invoke, builtin, Sem.run_bind, Sem.run_pure, Result.andThen_ok, List.map_toArray, List.map_cons, List.map_nil, hs, hx, hrun]
  exact h v' w' h2 h3 h4
end
theorem tw_lt (p : UInt8 → Bool) : ∀ (r : List UInt8) (j : Nat) (h : j < (r.takeWhile p).length) (h' : j < r.length), p r[j] = true
  | [], j, h, h' => by simp at h'
  | c :: r, j, h, h' => by
    by_cases hc : p c = true
    · rw [List.takeWhile_cons_of_pos hc] at h
      cases j with
      | zero => exact hc
      | succ j => exact tw_lt p r j (by simpa using h) (by simpa using h')
    · rw [List.takeWhile_cons_of_neg hc] at h
      simp at h
theorem tw_at (p : UInt8 → Bool) : ∀ (r : List UInt8) (h : (r.takeWhile p).length < r.length), p r[(r.takeWhile p).length] = false
  | [], h => by simp at h
  | c :: r, h => by
    by_cases hc : p c = true
    · simp only [List.takeWhile_cons_of_pos hc, List.length_cons] at h ⊢
      have := tw_at p r (by omega)
      simpa using this
    · simp only [List.takeWhile_cons_of_neg hc, List.length_nil] at h ⊢
      simpa using hc
theorem tw_take (p : UInt8 → Bool) (r : List UInt8) : r.takeWhile p = r.take (r.takeWhile p).length := by
  induction r with
  | nil => rfl
  | cons c r ih =>
    by_cases hc : p c = true
    · rw [List.takeWhile_cons_of_pos hc, List.length_cons, List.take_succ_cons, ← ih]
    · rw [List.takeWhile_cons_of_neg hc]
      rfl
theorem tw_drop (p : UInt8 → Bool) (r : List UInt8) : r.dropWhile p = r.drop (r.takeWhile p).length := by
  induction r with
  | nil => rfl
  | cons c r ih =>
    by_cases hc : p c = true
    · rw [List.takeWhile_cons_of_pos hc, List.dropWhile_cons_of_pos hc, List.length_cons, List.drop_succ_cons, ← ih]
    · rw [List.takeWhile_cons_of_neg hc, List.dropWhile_cons_of_neg hc]
      rfl
theorem tw_le (p : UInt8 → Bool) (r : List UInt8) : (r.takeWhile p).length ≤ r.length := by
  induction r with
  | nil => exact Nat.le_refl _
  | cons c r ih =>
    by_cases hc : p c = true
    · rw [List.takeWhile_cons_of_pos hc, List.length_cons, List.length_cons]
      omega
    · rw [List.takeWhile_cons_of_neg hc]
      simp
theorem hex_v (c : UInt8) (v : Nat) (h : hexv c = some v) (w : World) : Calls Tryd.prog 22 #[.int .u8 (c.toNat : Int)] w fun e w' => e = .returned (.int .i64 (v : Int)) ∧ w' = w := by
  have := hex_e c w
  have e : hexZ c = (v : Int) := by simp [hexZ, h]
  rw [e] at this
  exact this.mono (fun _ _ h => ⟨h.1, h.2.symm⟩)
theorem hex_n (c : UInt8) (h : hexv c = none) (w : World) : Calls Tryd.prog 22 #[.int .u8 (c.toNat : Int)] w fun e w' => e = .returned (.int .i64 (-1)) ∧ w' = w := by
  have := hex_e c w
  have e : hexZ c = -1 := by simp [hexZ, h]
  rw [e] at this
  exact this.mono (fun _ _ h => ⟨h.1, h.2.symm⟩)
/-- What the reading of quoted-printable does with blanks, in numbers. -/
theorem fq_blank_n (d : UInt8) (r : List UInt8) (n : Nat) (hd : blankB d = true) (hn : n = 1 + (r.takeWhile blankB).length) :
    fq (d :: r) = (if n < (d :: r).length ∧ lineEnd ((d :: r).drop n) = false then (d :: r).take n else []) ++ fq ((d :: r).drop n) := by
  have h1 := tw_drop blankB r
  have h2 := tw_take blankB r
  have h3 := tw_le blankB r
  generalize hm : (r.takeWhile blankB).length = m at h1 h2 h3 hn
  have hn' : n = m + 1 := by omega
  subst hn'
  rw [fq_blank d r hd, h1, h2, List.drop_succ_cons, List.take_succ_cons, List.length_cons]
  congr 1
  by_cases he : m < r.length
  · have hne : (r.drop m).isEmpty = false := by
      cases hq : r.drop m with
      | nil =>
        have := congrArg List.length hq
        rw [List.length_drop] at this
        simp at this
        omega
      | cons => rfl
    rw [hne, Bool.false_or]
    by_cases hl : lineEnd (r.drop m) = true
    · rw [if_pos hl, if_neg (by intro h; rw [hl] at h; exact absurd h.2 (by simp))]
    · rw [if_neg hl, if_pos ⟨by omega, by simpa using hl⟩]
  · have hnil : r.drop m = [] := List.drop_eq_nil_of_le (by omega)
    rw [hnil, if_pos (by rfl), if_neg (by omega)]

set_option maxRecDepth 100000 in
set_option maxHeartbeats 8000000 in
theorem fromq_e (A : Option Addr) (l : List UInt8) (c : Nat) (w : World) (hr : Rd w A l) (hl : l.length ≤ 1000000) (hc : l.length ≤ c) :
    Calls Tryd.prog 11 #[.slice A l.length c] w fun e w' => ∃ v, e = .returned v ∧ w'.ownsRow w.heap.size 5 1 v (fq l).length (Lib.byteCells (fq l)) ∧ (fq l).length ≤ l.length ∧ Below w.heap.size w w' := by
  obtain ⟨i0, hi0, hz0, hz1, hz2⟩ := info_parts u8Info
  go_enter Tryd.func11, Tryd.ntmps11
  go_wp2
  go_loopw [0, 3] (fun bv v wr => ∃ (Ab : Option Addr) (x C : List UInt8) (cb : Nat), bv = .slice Ab x.length cb ∧ Rd wr Ab x ∧ (0 < x.length → ∀ a, Ab = some a → a.block < w.heap.size) ∧ x.length ≤ cb ∧ C.length + x.length ≤ l.length ∧ Hid (fq l = C ++ fq x) ∧ wr.ownsRow w.heap.size 5 1 v C.length (Lib.byteCells C) ∧ Below w.heap.size w wr) (fun bv _ _ => match bv with | .slice _ n _ => n | _ => 0)
  case atStart => exact ⟨A, l, [], c, rfl, hr, fun hp a ha => by obtain ⟨b1, o1, h1, h2, _⟩ := hr hp; rw [h1] at ha; injection ha with ha; subst ha; exact h2, hc, by simp, rfl, own_none w _ _, Below.refl _ _⟩
  case round =>
    obtain ⟨Ab, x, C, cb, rfl, hx, hbw0, hxc, hC, HC, hI, hb⟩ := hrel
    have hsz := hb.size
    cases x with
    | nil =>
      have e : fq l = C := by
        rw [HC.out, fq_nil, List.append_nil]
      have HE := Lib.hid e
      clear e
      go_wp2
      go_ret
      refine ⟨_, rfl, ?_, ?_, hb⟩
      · rw [HE.out]
        exact hI
      · rw [HE.out]
        exact Nat.le_trans (Nat.le_add_right _ _) hC
    | cons d r =>
      obtain ⟨bb, oo, rfl, hbb, hcell⟩ := hx (by simp)
      have hbw : bb < w.heap.size := hbw0 (by simp) _ rfl
      clear hbw0
      have hc0 : wr.cell? ⟨bb, oo, none⟩ = some (.int .u8 (d.toNat : Int)) := hcell 0 (by simp)
      obtain ⟨x, HX⟩ : ∃ x, Hid (d :: r = x) := ⟨_, rfl⟩
      have hxl : x.length = r.length + 1 := by rw [← HX.out]; simp
      rw [HX.out] at hx hxc hC HC hcell ⊢
      have hrdx := hx
      replace hcell := Lib.hid hcell
      have hfq := HC.out
      rw [← HX.out] at hfq
      replace hfq := Lib.hid hfq
      have hbl := Lib.hid (blank_e d wr)
      have hpos : (0 : Int) < (x.length : Int) := by omega
      have hxl2 := Lib.hid hxl
      by_cases hB : blankB d = true
      · have hbl2 := hbl.out
        rw [hB] at hbl2
        replace hbl2 := Lib.hid hbl2
        obtain ⟨N, HN⟩ : ∃ N, Hid (N = 1 + (r.takeWhile blankB).length) := ⟨_, rfl⟩
        have hN1 : 1 ≤ N := by rw [HN.out]; omega
        have hNl : N ≤ x.length := by
          have := tw_le blankB r
          rw [HN.out, hxl]
          omega
        have hbt : Hid (∀ j (h : j < x.length), 1 ≤ j → j < N → blankB x[j] = true) := by
          have e1 := HX.out
          have e2 := HN.out
          subst e1
          intro j h h1 h2
          obtain ⟨i, rfl⟩ : ∃ i, j = i + 1 := ⟨j - 1, by omega⟩
          rw [List.getElem_cons_succ]
          exact tw_lt blankB r i (by omega) (by simpa using h)
        have hbf : Hid (∀ h : N < x.length, blankB x[N] = false) := by
          have e1 := HX.out
          have e2 := HN.out
          subst e1
          intro h
          have e3 : N = (r.takeWhile blankB).length + 1 := by omega
          subst e3
          rw [List.getElem_cons_succ]
          exact tw_at blankB r (by simpa using h)
        have hfn := fq_blank_n d r N hB HN.out
        rw [HX.out] at hfn
        replace hfn := Lib.hid hfn
        clear hbl hB hxl
        go_wp2_with ((with_reducible refine hbl2.out.mono ?_))
        first | (rintro _ w1 ⟨rfl, rfl⟩; go_wp2) | skip
        go_loopw [4] (fun nv wn => ∃ m : Nat, 1 ≤ m ∧ m ≤ N ∧ nv = .int .i64 m ∧ wn = wr) (fun nv _ => N - (intOf nv).toNat)
        case atStart => exact ⟨1, Nat.le_refl _, hN1, rfl, rfl⟩
        case round =>
          obtain ⟨m, hm1, hmN, rfl, rfl⟩ := hrel
          by_cases hmx : m < x.length
          · have hmx' : (m : Int) < (x.length : Int) := by omega
            have hcm := hcell.out m hmx
            have hblm := blank_e x[m] wr
            by_cases hmn : m < N
            · rw [hbt.out m hmx hm1 hmn] at hblm
              replace hblm := Lib.hid hblm
              generalize x[m] = xm at hcm hblm
              go_wp2_with ((with_reducible refine hblm.out.mono ?_))
              first | (rintro _ w2 ⟨rfl, rfl⟩; go_wp2) | skip
              go_roundw
              case rel => exact ⟨m + 1, by omega, by omega, by go_num, trivial⟩
              case measure => simp [intOf]; omega
            · obtain rfl : m = N := by omega
              rw [hbf.out hmx] at hblm
              replace hblm := Lib.hid hblm
              generalize x[m] = xm at hcm hblm
              have hcbm : ¬ cb = m := by omega
              have hrdm := rd_drop bb oo x m cb hxc hrdx hcbm (by omega)
              have hle := Lib.hid (lineEnd_e (some ⟨bb, oo + m, none⟩) (x.drop m) (x.length - m) (cb - m) wr List.length_drop hrdm (by rw [List.length_drop]; omega))
              by_cases hE : lineEnd (x.drop m) = true
              · have hle2 := hle.out
                rw [hE] at hle2
                replace hle2 := Lib.hid hle2
                clear hle
                go_wp2_with ((with_reducible refine hblm.out.mono ?_))
                rintro _ w2 ⟨rfl, rfl⟩
                go_wp2_with ((with_reducible refine hle2.out.mono ?_))
                first | (rintro _ w2 rfl hb2) | (rintro _ w2 ⟨rfl, hb2⟩)
                have hI2 := ownk_below hI hb2 (Nat.le_refl _)
                have hb02 := hb.trans (hb2.mono hsz)
                replace hrdx := hrdx.below hb2
                · have hcb : ¬ cb = m := by omega
                  have hrdn := rd_drop bb oo x m cb hxc hrdx hcb (by omega)
                  go_wp2
                  go_roundw
                  case rel =>
                    refine ⟨some ⟨bb, oo + m, none⟩, x.drop m, C, cb - m, ?_, hrdn, fun _ a ha => by injection ha with ha; subst ha; exact hbw, by rw [List.length_drop]; omega, by rw [List.length_drop]; omega, ?_, hI2, hb02⟩
                    · first | rfl | (rw [List.length_drop])
                    · show _ = _
                      rw [HC.out, hfn.out, if_neg (by intro h; rw [hE] at h; exact absurd h.2 (by simp)), List.nil_append]
                  case measure => first | (simp; done) | (simp; omega)
              · have hE' : lineEnd (x.drop m) = false := by simpa using hE
                have hle2 := hle.out
                rw [hE'] at hle2
                replace hle2 := Lib.hid hle2
                clear hle
                go_wp2_with ((with_reducible refine hblm.out.mono ?_))
                rintro _ w2 ⟨rfl, rfl⟩
                go_wp2_with ((with_reducible refine hle2.out.mono ?_))
                first | (rintro _ w2 rfl hb2) | (rintro _ w2 ⟨rfl, hb2⟩)
                have hI2 := ownk_below hI hb2 (Nat.le_refl _)
                have hb02 := hb.trans (hb2.mono hsz)
                have hs2 := hb02.size
                have hrdx2 := hrdx.below hb2
                have hmcb : (m : Int) ≤ (cb : Int) := by omega
                have htk : (x.take m).length = m := by rw [List.length_take]; omega
                go_wp2_with (at_builtin; refine wpList_append_rda _ rfl _ _ 22 rfl w.heap.size 5 i0 Tryd.underlying22 hi0 hz0 hz1 hz2 _ C rfl hI2 (some ⟨bb, oo, none⟩) (x.take m) _ _ htk.symm rfl (hrdx2.take m) (by rw [htk]; omega) (by omega) ?_)
                intro v4 w4 hown4 hg4 _
                have hb4 := hb02.grown hg4 (by omega) (fun k hk => (hI2.lt k hk).1)
                obtain ⟨C4, HC4, hC4, hown4⟩ : ∃ C4, Hid (C4 = C ++ x.take m) ∧ C4.length ≤ C.length + m ∧ w4.ownsRow w.heap.size 5 1 v4 C4.length (Lib.byteCells C4) := ⟨C ++ x.take m, rfl, by rw [List.length_append, htk]; exact Nat.le_refl _, by rw [List.length_append, htk]; exact hown4⟩
                have hne4 := row_ne hI2 hbw
                replace hrdx := hrdx2.grownR hg4 hne4
                clear htk
                · have hcb : ¬ cb = m := by omega
                  have hrdn := rd_drop bb oo x m cb hxc hrdx hcb (by omega)
                  go_wp2
                  go_roundw
                  case rel =>
                    refine ⟨some ⟨bb, oo + m, none⟩, x.drop m, C4, cb - m, ?_, hrdn, fun _ a ha => by injection ha with ha; subst ha; exact hbw, by rw [List.length_drop]; omega, by rw [List.length_drop]; omega, ?_, hown4, hb4⟩
                    · first | rfl | (rw [List.length_drop])
                    · show _ = _
                      rw [HC.out, hfn.out, if_pos ⟨hmx, hE'⟩, HC4.out, List.append_assoc]
                  case measure => first | (simp; done) | (simp; omega)
          · obtain rfl : m = N := by omega
            have hmx' : ¬ (m : Int) < (x.length : Int) := by omega
            by_cases hcb : cb = m
            · have hxn : x.length = m := by omega
              have hy0 : x.drop m = [] := List.drop_eq_nil_of_le (by omega)
              go_wp2
              go_roundw
              case rel =>
                refine ⟨some ⟨bb, oo, none⟩, x.drop m, C, cb - m, ?_, by rw [hy0]; exact Rd.nil, fun _ a ha => by injection ha with ha; subst ha; exact hbw, by rw [List.length_drop]; omega, by rw [List.length_drop]; omega, ?_, hI, hb⟩
                · first | rfl | (rw [hy0, List.length_nil]; done) | (rw [hy0, List.length_nil]; congr 1 <;> omega)
                · show _ = _
                  rw [HC.out, hfn.out, if_neg (by intro h; exact hmx h.1), List.nil_append]
              case measure => first | (simp; done) | (simp; omega)
            · have hrdn := rd_drop bb oo x m cb hxc hrdx hcb (by omega)
              go_wp2
              go_roundw
              case rel =>
                refine ⟨some ⟨bb, oo + m, none⟩, x.drop m, C, cb - m, ?_, hrdn, fun _ a ha => by injection ha with ha; subst ha; exact hbw, by rw [List.length_drop]; omega, by rw [List.length_drop]; omega, ?_, hI, hb⟩
                · first | rfl | (rw [List.length_drop])
                · show _ = _
                  rw [HC.out, hfn.out, if_neg (by intro h; exact hmx h.1), List.nil_append]
              case measure => first | (simp; done) | (simp; omega)
      · have hB' : blankB d = false := by simpa using hB
        have hbl2 := hbl.out
        rw [hB'] at hbl2
        replace hbl2 := Lib.hid hbl2
        have hxr : x.drop 1 = r := by rw [← HX.out]; rfl
        clear hbl hB
        by_cases h61 : d = 61
        · have h61' : ((d.toNat : Int) == 61) = true := by rw [h61]; rfl
          have h61b : (d == 61) = true := by rw [h61]; rfl
          by_cases hcb1 : cb = 1
          · subst hcb1
            have hx1 : x.length = 1 := by omega
            have hr0 : r = [] := List.eq_nil_of_length_eq_zero (by omega)
            have hfn : fq x = d :: fq (x.drop 1) := by
              rw [hxr, ← HX.out]
              exact fq_else d r hB' (by rw [hr0]; simp [lineEnd]) (by rw [hr0]; rfl)
            replace hfn := Lib.hid hfn
            have hle := Lib.hid (lineEnd_e (some ⟨bb, oo, none⟩) [] 0 0 wr rfl Rd.nil (Nat.le_refl _))
            clear hxl h61 h61b hr0 hxr
            go_wp2_with ((with_reducible refine hbl2.out.mono ?_))
            first | (rintro _ w1 ⟨rfl, rfl⟩; go_wp2_with ((with_reducible refine hle.out.mono ?_))) | (with_reducible refine hle.out.mono ?_)
            first | (rintro _ w2 rfl hb2) | (rintro _ w2 ⟨rfl, hb2⟩)
            have hI2 := ownk_below hI hb2 (Nat.le_refl _)
            have hb02 := hb.trans (hb2.mono hsz)
            have hs2 := hb02.size
            replace hrdx := hrdx.below hb2
            have hor := one_rd w2 d (0, 0)
            have hal := below_one4 w2 (.cells #[.int .u8 (d.toNat : Int)] 5)
            have ha := ownk_below hI2 hal (Nat.le_refl _)
            have hba := hb02.trans (hal.mono hs2)
            have hrdy := hrdx.below hal
            clear hrdx
            go_wp2_with (at_builtin; refine wpList_append_rda _ rfl _ _ 22 rfl w.heap.size 5 i0 Tryd.underlying22 hi0 hz0 hz1 hz2 _ C rfl ha _ [d] _ _ rfl rfl hor (by simp; omega) (by simp; omega) ?_)
            intro v4 w4 hown4 hg4 _
            have hb4 := hba.grown hg4 (by simp; omega) (fun k hk => (ha.lt k hk).1)
            obtain ⟨C4, HC4, hC4, hown4⟩ : ∃ C4, Hid (C4 = C ++ [d]) ∧ C4.length ≤ C.length + 1 ∧ w4.ownsRow w.heap.size 5 1 v4 C4.length (Lib.byteCells C4) := ⟨C ++ [d], rfl, by rw [List.length_append]; exact Nat.le_refl _, by rw [List.length_append]; exact hown4⟩
            have hrdx := hrdy.grownR hg4 (row_ne ha hbw)
            have hy0 : x.drop 1 = [] := List.drop_eq_nil_of_le (by omega)
            go_wp2
            go_roundw
            case rel =>
              refine ⟨some ⟨bb, oo, none⟩, x.drop 1, C4, 0, ?_, by rw [hy0]; exact Rd.nil, fun _ a ha => by injection ha with ha; subst ha; exact hbw, by rw [List.length_drop]; omega, by rw [List.length_drop]; omega, ?_, hown4, hb4⟩
              · first | rfl | (rw [hy0, List.length_nil]; done) | (rw [hy0, List.length_nil]; congr 1 <;> omega)
              · show _ = _
                rw [HC.out, hfn.out, HC4.out, List.append_assoc]
                rfl
            case measure => first | (simp; done) | (simp; omega)
          · have hrd1 := rd_drop bb oo x 1 cb hxc hrdx hcb1 (by omega)
            have hle := Lib.hid (lineEnd_e (some ⟨bb, oo + 1, none⟩) (x.drop 1) (x.length - 1) (cb - 1) wr List.length_drop hrd1 (by rw [List.length_drop]; omega))
            have h1cb : (1 : Int) ≤ (cb : Int) := by omega
            have h1x : (1 : Int) ≤ (x.length : Int) := by omega
            by_cases hE : lineEnd (x.drop 1) = true
            · have hle2 := hle.out
              rw [hE] at hle2
              replace hle2 := Lib.hid hle2
              have hx3 : 3 ≤ x.length := by
                have h9 : (x.drop 1).take 2 = [13, 10] := by simpa [lineEnd] using hE
                have := congrArg List.length h9
                rw [List.length_take, List.length_drop] at this
                simp at this
                omega
              have hfn : fq x = fq (x.drop 3) := by
                have h5 := fq_soft d r hB' (by rw [h61b, ← hxr, hE]; rfl)
                rw [HX.out] at h5
                rw [h5, ← hxr, List.drop_drop]
              replace hfn := Lib.hid hfn
              have h3x : (3 : Int) ≤ (x.length : Int) := by omega
              clear hle hxl h61 h61b hxr
              go_wp2_with ((with_reducible refine hbl2.out.mono ?_))
              first | (rintro _ w1 ⟨rfl, rfl⟩; go_wp2_with ((with_reducible refine hle2.out.mono ?_))) | (with_reducible refine hle2.out.mono ?_)
              first | (rintro _ w2 rfl hb2) | (rintro _ w2 ⟨rfl, hb2⟩)
              have hI2 := ownk_below hI hb2 (Nat.le_refl _)
              have hb02 := hb.trans (hb2.mono hsz)
              replace hrdx := hrdx.below hb2
              by_cases hcb : cb = 3
              · have hxn : x.length = 3 := by omega
                have hy0 : x.drop 3 = [] := List.drop_eq_nil_of_le (by omega)
                go_wp2
                go_roundw
                case rel =>
                  refine ⟨some ⟨bb, oo, none⟩, x.drop 3, C, cb - 3, ?_, by rw [hy0]; exact Rd.nil, fun _ a ha => by injection ha with ha; subst ha; exact hbw, by rw [List.length_drop]; omega, by rw [List.length_drop]; omega, ?_, hI2, hb02⟩
                  · first | rfl | (rw [hy0, List.length_nil]; done) | (rw [hy0, List.length_nil]; congr 1 <;> omega)
                  · show _ = _
                    rw [HC.out, hfn.out]
                case measure => first | (simp; done) | (simp; omega)
              · have hrdn := rd_drop bb oo x 3 cb hxc hrdx hcb (by omega)
                go_wp2
                go_roundw
                case rel =>
                  refine ⟨some ⟨bb, oo + 3, none⟩, x.drop 3, C, cb - 3, ?_, hrdn, fun _ a ha => by injection ha with ha; subst ha; exact hbw, by rw [List.length_drop]; omega, by rw [List.length_drop]; omega, ?_, hI2, hb02⟩
                  · first | rfl | (rw [List.length_drop])
                  · show _ = _
                    rw [HC.out, hfn.out]
                case measure => first | (simp; done) | (simp; omega)
            · have hE' : lineEnd (x.drop 1) = false := by simpa using hE
              have hle2 := hle.out
              rw [hE'] at hle2
              replace hle2 := Lib.hid hle2
              clear hle
              by_cases hx3 : 3 ≤ x.length
              · have h3x : (3 : Int) ≤ (x.length : Int) := by omega
                obtain ⟨a1, a2, r3, hr3⟩ : ∃ a1 a2 r3, r = a1 :: a2 :: r3 := by
                  match r, hxl with
                  | [], h => simp at h; omega
                  | [_], h => simp at h; omega
                  | a1 :: a2 :: r3, _ => exact ⟨a1, a2, r3, rfl⟩
                have hxe : x = d :: a1 :: a2 :: x.drop 3 := by rw [← HX.out, hr3]; rfl
                have hc1 : wr.cell? ⟨bb, oo + 1, none⟩ = some (.int .u8 (a1.toNat : Int)) := by
                  have h1 := hcell.out
                  have e1 := HX.out
                  rw [hr3] at e1
                  subst e1
                  exact h1 1 (by simp)
                have hc2 : wr.cell? ⟨bb, oo + 2, none⟩ = some (.int .u8 (a2.toNat : Int)) := by
                  have h1 := hcell.out
                  have e1 := HX.out
                  rw [hr3] at e1
                  subst e1
                  exact h1 2 (by simp)
                have hbb2 : bb < wr.heap.size := hbb
                cases hv1 : hexv a1 with
                | none =>
                  have hfn : fq x = d :: fq (x.drop 1) := by
                    rw [hxr, ← HX.out]
                    exact fq_else d r hB' (by rw [← hxr, hE']; simp) (by rw [HX.out, hxe]; simp [eqv, hv1])
                  replace hfn := Lib.hid hfn
                  have hh1 := fun W => Lib.hid (hex_n a1 hv1 W)
                  clear hxl h61 h61b hxr hxe hr3 hv1
                  go_wp2_with ((with_reducible refine hbl2.out.mono ?_))
                  first | (rintro _ w1 ⟨rfl, rfl⟩; go_wp2_with ((with_reducible refine hle2.out.mono ?_))) | (with_reducible refine hle2.out.mono ?_)
                  first | (rintro _ w2 rfl hb2) | (rintro _ w2 ⟨rfl, hb2⟩)
                  have hI2 := ownk_below hI hb2 (Nat.le_refl _)
                  have hb02 := hb.trans (hb2.mono hsz)
                  have hs2 := hb02.size
                  replace hrdx := hrdx.below hb2
                  have hc1 := (hb2.cell (p := ⟨bb, oo + 1, none⟩) hbb2).trans hc1
                  have hc2 := (hb2.cell (p := ⟨bb, oo + 2, none⟩) hbb2).trans hc2
                  go_wp2_with ((with_reducible refine (hh1 w2).out.mono ?_))
                  rintro _ w3 ⟨rfl, rfl⟩
                  have hor := one_rd w3 d (0, 0)
                  have hal := below_one4 w3 (.cells #[.int .u8 (d.toNat : Int)] 5)
                  have ha := ownk_below hI2 hal (Nat.le_refl _)
                  have hba := hb02.trans (hal.mono hs2)
                  have hrdy := hrdx.below hal
                  clear hrdx
                  go_wp2_with (at_builtin; refine wpList_append_rda _ rfl _ _ 22 rfl w.heap.size 5 i0 Tryd.underlying22 hi0 hz0 hz1 hz2 _ C rfl ha _ [d] _ _ rfl rfl hor (by simp; omega) (by simp; omega) ?_)
                  intro v4 w4 hown4 hg4 _
                  have hb4 := hba.grown hg4 (by simp; omega) (fun k hk => (ha.lt k hk).1)
                  obtain ⟨C4, HC4, hC4, hown4⟩ : ∃ C4, Hid (C4 = C ++ [d]) ∧ C4.length ≤ C.length + 1 ∧ w4.ownsRow w.heap.size 5 1 v4 C4.length (Lib.byteCells C4) := ⟨C ++ [d], rfl, by rw [List.length_append]; exact Nat.le_refl _, by rw [List.length_append]; exact hown4⟩
                  have hrdx := hrdy.grownR hg4 (row_ne ha hbw)
                  by_cases hcb : cb = 1
                  · have hxn : x.length = 1 := by omega
                    have hy0 : x.drop 1 = [] := List.drop_eq_nil_of_le (by omega)
                    go_wp2
                    go_roundw
                    case rel =>
                      refine ⟨some ⟨bb, oo, none⟩, x.drop 1, C4, cb - 1, ?_, by rw [hy0]; exact Rd.nil, fun _ a ha => by injection ha with ha; subst ha; exact hbw, by rw [List.length_drop]; omega, by rw [List.length_drop]; omega, ?_, hown4, hb4⟩
                      · first | rfl | (rw [hy0, List.length_nil]; done) | (rw [hy0, List.length_nil]; congr 1 <;> omega)
                      · show _ = _
                        rw [HC.out, hfn.out, HC4.out, List.append_assoc]
                        rfl
                    case measure => first | (simp; done) | (simp; omega)
                  · have hrdn := rd_drop bb oo x 1 cb hxc hrdx hcb (by omega)
                    go_wp2
                    go_roundw
                    case rel =>
                      refine ⟨some ⟨bb, oo + 1, none⟩, x.drop 1, C4, cb - 1, ?_, hrdn, fun _ a ha => by injection ha with ha; subst ha; exact hbw, by rw [List.length_drop]; omega, by rw [List.length_drop]; omega, ?_, hown4, hb4⟩
                      · first | rfl | (rw [List.length_drop])
                      · show _ = _
                        rw [HC.out, hfn.out, HC4.out, List.append_assoc]
                        rfl
                    case measure => first | (simp; done) | (simp; omega)
                | some v1 =>
                  have hv1l := hexv_lt a1 v1 hv1
                  cases hv2 : hexv a2 with
                  | none =>
                    have hfn : fq x = d :: fq (x.drop 1) := by
                      rw [hxr, ← HX.out]
                      exact fq_else d r hB' (by rw [← hxr, hE']; simp) (by rw [HX.out, hxe]; simp [eqv, hv1, hv2])
                    replace hfn := Lib.hid hfn
                    have hh1 := fun W => Lib.hid (hex_v a1 v1 hv1 W)
                    have hh2 := fun W => Lib.hid (hex_n a2 hv2 W)
                    clear hxl h61 h61b hxr hxe hr3 hv1 hv2
                    go_wp2_with ((with_reducible refine hbl2.out.mono ?_))
                    first | (rintro _ w1 ⟨rfl, rfl⟩; go_wp2_with ((with_reducible refine hle2.out.mono ?_))) | (with_reducible refine hle2.out.mono ?_)
                    first | (rintro _ w2 rfl hb2) | (rintro _ w2 ⟨rfl, hb2⟩)
                    have hI2 := ownk_below hI hb2 (Nat.le_refl _)
                    have hb02 := hb.trans (hb2.mono hsz)
                    have hs2 := hb02.size
                    replace hrdx := hrdx.below hb2
                    have hc1 := (hb2.cell (p := ⟨bb, oo + 1, none⟩) hbb2).trans hc1
                    have hc2 := (hb2.cell (p := ⟨bb, oo + 2, none⟩) hbb2).trans hc2
                    go_wp2_with ((with_reducible refine (hh1 w2).out.mono ?_))
                    rintro _ w3 ⟨rfl, rfl⟩
                    go_wp2_with ((with_reducible refine (hh2 w3).out.mono ?_))
                    rintro _ w4 ⟨rfl, rfl⟩
                    have hor := one_rd w4 d (0, 0)
                    have hal := below_one4 w4 (.cells #[.int .u8 (d.toNat : Int)] 5)
                    have ha := ownk_below hI2 hal (Nat.le_refl _)
                    have hba := hb02.trans (hal.mono hs2)
                    have hrdy := hrdx.below hal
                    clear hrdx
                    go_wp2_with (at_builtin; refine wpList_append_rda _ rfl _ _ 22 rfl w.heap.size 5 i0 Tryd.underlying22 hi0 hz0 hz1 hz2 _ C rfl ha _ [d] _ _ rfl rfl hor (by simp; omega) (by simp; omega) ?_)
                    intro v4 w4 hown4 hg4 _
                    have hb4 := hba.grown hg4 (by simp; omega) (fun k hk => (ha.lt k hk).1)
                    obtain ⟨C4, HC4, hC4, hown4⟩ : ∃ C4, Hid (C4 = C ++ [d]) ∧ C4.length ≤ C.length + 1 ∧ w4.ownsRow w.heap.size 5 1 v4 C4.length (Lib.byteCells C4) := ⟨C ++ [d], rfl, by rw [List.length_append]; exact Nat.le_refl _, by rw [List.length_append]; exact hown4⟩
                    have hrdx := hrdy.grownR hg4 (row_ne ha hbw)
                    by_cases hcb : cb = 1
                    · have hxn : x.length = 1 := by omega
                      have hy0 : x.drop 1 = [] := List.drop_eq_nil_of_le (by omega)
                      go_wp2
                      go_roundw
                      case rel =>
                        refine ⟨some ⟨bb, oo, none⟩, x.drop 1, C4, cb - 1, ?_, by rw [hy0]; exact Rd.nil, fun _ a ha => by injection ha with ha; subst ha; exact hbw, by rw [List.length_drop]; omega, by rw [List.length_drop]; omega, ?_, hown4, hb4⟩
                        · first | rfl | (rw [hy0, List.length_nil]; done) | (rw [hy0, List.length_nil]; congr 1 <;> omega)
                        · show _ = _
                          rw [HC.out, hfn.out, HC4.out, List.append_assoc]
                          rfl
                      case measure => first | (simp; done) | (simp; omega)
                    · have hrdn := rd_drop bb oo x 1 cb hxc hrdx hcb (by omega)
                      go_wp2
                      go_roundw
                      case rel =>
                        refine ⟨some ⟨bb, oo + 1, none⟩, x.drop 1, C4, cb - 1, ?_, hrdn, fun _ a ha => by injection ha with ha; subst ha; exact hbw, by rw [List.length_drop]; omega, by rw [List.length_drop]; omega, ?_, hown4, hb4⟩
                        · first | rfl | (rw [List.length_drop])
                        · show _ = _
                          rw [HC.out, hfn.out, HC4.out, List.append_assoc]
                          rfl
                      case measure => first | (simp; done) | (simp; omega)
                  | some v2 =>
                    have hv2l := hexv_lt a2 v2 hv2
                    obtain ⟨z, HZ⟩ : ∃ z : UInt8, Hid (UInt8.ofNat (v1 * 16 + v2) = z) := ⟨_, Lib.hid rfl⟩
                    have hfn : fq x = z :: fq (x.drop 3) := by
                      have h5 := fq_eq d r (v1 * 16 + v2) hB' (by rw [← hxr, hE']; simp) (by rw [HX.out, hxe]; simp [eqv, hv1, hv2, h61])
                      rw [HX.out, HZ.out] at h5
                      rw [h5, ← hxr, List.drop_drop]
                    replace hfn := Lib.hid hfn
                    have eo : bits .or .i64 ((v1 : Int) * 16) (v2 : Int) = (z.toNat : Int) := by
                      rw [or16 v1 v2 (by omega) (by omega), ← HZ.out, UInt8.toNat_ofNat', Nat.mod_eq_of_lt (by omega)]
                    have hz8 := z.toNat_lt
                    have hh1 := fun W => Lib.hid (hex_v a1 v1 hv1 W)
                    have hh2 := fun W => Lib.hid (hex_v a2 v2 hv2 W)
                    clear hxl h61 h61b hxr hxe hr3 hv1 hv2
                    go_wp2_with ((with_reducible refine hbl2.out.mono ?_))
                    first | (rintro _ w1 ⟨rfl, rfl⟩; go_wp2_with ((with_reducible refine hle2.out.mono ?_))) | (with_reducible refine hle2.out.mono ?_)
                    first | (rintro _ w2 rfl hb2) | (rintro _ w2 ⟨rfl, hb2⟩)
                    have hI2 := ownk_below hI hb2 (Nat.le_refl _)
                    have hb02 := hb.trans (hb2.mono hsz)
                    have hs2 := hb02.size
                    replace hrdx := hrdx.below hb2
                    have hc1 := (hb2.cell (p := ⟨bb, oo + 1, none⟩) hbb2).trans hc1
                    have hc2 := (hb2.cell (p := ⟨bb, oo + 2, none⟩) hbb2).trans hc2
                    go_wp2_with ((with_reducible refine (hh1 w2).out.mono ?_))
                    rintro _ w3 ⟨rfl, rfl⟩
                    go_wp2_with ((with_reducible refine (hh2 w3).out.mono ?_))
                    rintro _ w4 ⟨rfl, rfl⟩
                    have hw1 : IntKind.i64.wrap ((v1 : Int) * 16) = (v1 : Int) * 16 := IntWalk.i64_in _ (by omega)
                    have hw2 : IntKind.u8.wrap (z.toNat : Int) = (z.toNat : Int) := IntWalk.u8_in _ (by omega)
                    have b1x : (1 : Int) < (x.length : Int) := by omega
                    have b2x : (2 : Int) < (x.length : Int) := by omega
                    have hone := below_one4 w4 (.cells #[.int .u8 (z.toNat : Int)] 5)
                    have hIW : ((w4.alloc (.cells #[.int .u8 (z.toNat : Int)] 5)).drew).ownsRow w.heap.size 5 1 u3 C.length (Lib.byteCells C) := ownk_below hI2 (show Below w4.heap.size w4 (w4.alloc (.cells #[.int .u8 (z.toNat : Int)] 5)).drew from below_drewN hone 1) (Nat.le_refl _)
                    have hbW : Below w.heap.size w (w4.alloc (.cells #[.int .u8 (z.toNat : Int)] 5)).drew := below_drewN (hb02.trans (hone.mono hs2)) 1
                    have hrT : Rd (w4.alloc (.cells #[.int .u8 (z.toNat : Int)] 5)).drew (some ⟨w4.heap.size, 0, none⟩) [z] := one_rd w4 z (0, 0)
                    have hrdW : Rd (w4.alloc (.cells #[.int .u8 (z.toNat : Int)] 5)).drew (some ⟨bb, oo, none⟩) x := hrdx.below (show Below w4.heap.size w4 (w4.alloc (.cells #[.int .u8 (z.toNat : Int)] 5)).drew from below_drewN hone 1)
                    clear hrdx
                    have hone2 := Lib.hid hone
                    clear hone
                    go_wp2_with fail
                    go_region_law (first | (go_simp; go_at_call 22; (with_reducible refine (hh1 _).out.mono ?_); rintro _ w7 ⟨rfl, rfl⟩) | (go_simp; go_at_call 22; (with_reducible refine (hh2 _).out.mono ?_); rintro _ w7 ⟨rfl, rfl⟩) | (refine step_append_rda _ rfl (.tmp 78) (.tmp 90) 22 rfl w.heap.size 5 i0 Tryd.underlying22 hi0 hz0 hz1 hz2 u3 C (by simp [Act.eval]) hIW (some ⟨w4.heap.size, 0, none⟩) [z] 1 1 rfl (by simp [Act.eval]) hrT (by simp; omega) (by simp; omega) (fun v5 w5 hown5 hg5 _ => ?_)))
                    all_goals (
                      have hb5 := hbW.grown hg5 (by simp; omega) (fun k hk => (hIW.lt k hk).1)
                      obtain ⟨C4, HC4, hC4, hown4⟩ : ∃ C4, Hid (C4 = C ++ [z]) ∧ C4.length ≤ C.length + 1 ∧ w5.ownsRow w.heap.size 5 1 v5 C4.length (Lib.byteCells C4) := ⟨C ++ [z], rfl, by rw [List.length_append]; exact Nat.le_refl _, hown5⟩
                      have hrdx := hrdW.grownR hg5 (row_ne hIW hbw)
                      have h3x : (3 : Int) ≤ (x.length : Int) := by omega
                      by_cases hcb : cb = 3
                      · have hxn : x.length = 3 := by omega
                        have hy0 : x.drop 3 = [] := List.drop_eq_nil_of_le (by omega)
                        go_wp2
                        go_roundw
                        case rel =>
                          refine ⟨some ⟨bb, oo, none⟩, x.drop 3, C4, cb - 3, ?_, by rw [hy0]; exact Rd.nil, fun _ a ha => by injection ha with ha; subst ha; exact hbw, by rw [List.length_drop]; omega, by rw [List.length_drop]; omega, ?_, hown4, hb5⟩
                          · first | rfl | (rw [hy0, List.length_nil]; done) | (rw [hy0, List.length_nil]; congr 1 <;> omega)
                          · show _ = _
                            rw [HC.out, hfn.out, HC4.out, List.append_assoc]
                            rfl
                        case measure => first | (simp; done) | (simp; omega)
                      · have hrdn := rd_drop bb oo x 3 cb hxc hrdx hcb (by omega)
                        go_wp2
                        go_roundw
                        case rel =>
                          refine ⟨some ⟨bb, oo + 3, none⟩, x.drop 3, C4, cb - 3, ?_, hrdn, fun _ a ha => by injection ha with ha; subst ha; exact hbw, by rw [List.length_drop]; omega, by rw [List.length_drop]; omega, ?_, hown4, hb5⟩
                          · first | rfl | (rw [List.length_drop])
                          · show _ = _
                            rw [HC.out, hfn.out, HC4.out, List.append_assoc]
                            rfl
                        case measure => first | (simp; done) | (simp; omega))
              · have hfn : fq x = d :: fq (x.drop 1) := by
                  rw [hxr, ← HX.out]
                  refine fq_else d r hB' (by rw [← hxr, hE']; simp) ?_
                  match r, hxl with
                  | [], _ => rfl
                  | [_], _ => rfl
                  | _ :: _ :: _, h => simp at h; omega
                replace hfn := Lib.hid hfn
                have h3x : ¬ (3 : Int) ≤ (x.length : Int) := by omega
                clear hxl h61 h61b hxr
                go_wp2_with ((with_reducible refine hbl2.out.mono ?_))
                first | (rintro _ w1 ⟨rfl, rfl⟩; go_wp2_with ((with_reducible refine hle2.out.mono ?_))) | (with_reducible refine hle2.out.mono ?_)
                first | (rintro _ w2 rfl hb2) | (rintro _ w2 ⟨rfl, hb2⟩)
                have hI2 := ownk_below hI hb2 (Nat.le_refl _)
                have hb02 := hb.trans (hb2.mono hsz)
                have hs2 := hb02.size
                replace hrdx := hrdx.below hb2
                have hor := one_rd w2 d (0, 0)
                have hal := below_one4 w2 (.cells #[.int .u8 (d.toNat : Int)] 5)
                have ha := ownk_below hI2 hal (Nat.le_refl _)
                have hba := hb02.trans (hal.mono hs2)
                have hrdy := hrdx.below hal
                clear hrdx
                go_wp2_with (at_builtin; refine wpList_append_rda _ rfl _ _ 22 rfl w.heap.size 5 i0 Tryd.underlying22 hi0 hz0 hz1 hz2 _ C rfl ha _ [d] _ _ rfl rfl hor (by simp; omega) (by simp; omega) ?_)
                intro v4 w4 hown4 hg4 _
                have hb4 := hba.grown hg4 (by simp; omega) (fun k hk => (ha.lt k hk).1)
                obtain ⟨C4, HC4, hC4, hown4⟩ : ∃ C4, Hid (C4 = C ++ [d]) ∧ C4.length ≤ C.length + 1 ∧ w4.ownsRow w.heap.size 5 1 v4 C4.length (Lib.byteCells C4) := ⟨C ++ [d], rfl, by rw [List.length_append]; exact Nat.le_refl _, by rw [List.length_append]; exact hown4⟩
                have hrdx := hrdy.grownR hg4 (row_ne ha hbw)
                by_cases hcb : cb = 1
                · have hxn : x.length = 1 := by omega
                  have hy0 : x.drop 1 = [] := List.drop_eq_nil_of_le (by omega)
                  go_wp2
                  go_roundw
                  case rel =>
                    refine ⟨some ⟨bb, oo, none⟩, x.drop 1, C4, cb - 1, ?_, by rw [hy0]; exact Rd.nil, fun _ a ha => by injection ha with ha; subst ha; exact hbw, by rw [List.length_drop]; omega, by rw [List.length_drop]; omega, ?_, hown4, hb4⟩
                    · first | rfl | (rw [hy0, List.length_nil]; done) | (rw [hy0, List.length_nil]; congr 1 <;> omega)
                    · show _ = _
                      rw [HC.out, hfn.out, HC4.out, List.append_assoc]
                      rfl
                  case measure => first | (simp; done) | (simp; omega)
                · have hrdn := rd_drop bb oo x 1 cb hxc hrdx hcb (by omega)
                  go_wp2
                  go_roundw
                  case rel =>
                    refine ⟨some ⟨bb, oo + 1, none⟩, x.drop 1, C4, cb - 1, ?_, hrdn, fun _ a ha => by injection ha with ha; subst ha; exact hbw, by rw [List.length_drop]; omega, by rw [List.length_drop]; omega, ?_, hown4, hb4⟩
                    · first | rfl | (rw [List.length_drop])
                    · show _ = _
                      rw [HC.out, hfn.out, HC4.out, List.append_assoc]
                      rfl
                  case measure => first | (simp; done) | (simp; omega)
        · have h61' : ((d.toNat : Int) == 61) = false := byte_ne d 61 (by decide) h61
          have hfn : fq x = d :: fq (x.drop 1) := by
            rw [hxr, ← HX.out]
            refine fq_else d r hB' (by simp [h61]) ?_
            match r with
            | [] => rfl
            | [_] => rfl
            | _ :: _ :: _ => simp [eqv, h61]
          replace hfn := Lib.hid hfn
          clear hxl hxr h61
          go_wp2_with ((with_reducible refine hbl2.out.mono ?_))
          rintro _ w1 ⟨rfl, rfl⟩
          have hor := one_rd wr d (0, 0)
          have hal := below_one4 wr (.cells #[.int .u8 (d.toNat : Int)] 5)
          have ha := ownk_below hI hal (Nat.le_refl _)
          have hba := hb.trans (hal.mono hsz)
          have hrdy := hrdx.below hal
          clear hrdx
          go_wp2_with (at_builtin; refine wpList_append_rda _ rfl _ _ 22 rfl w.heap.size 5 i0 Tryd.underlying22 hi0 hz0 hz1 hz2 _ C rfl ha _ [d] _ _ rfl rfl hor (by simp; omega) (by simp; omega) ?_)
          intro v4 w4 hown4 hg4 _
          have hb4 := hba.grown hg4 (by simp; omega) (fun k hk => (ha.lt k hk).1)
          obtain ⟨C4, HC4, hC4, hown4⟩ : ∃ C4, Hid (C4 = C ++ [d]) ∧ C4.length ≤ C.length + 1 ∧ w4.ownsRow w.heap.size 5 1 v4 C4.length (Lib.byteCells C4) := ⟨C ++ [d], rfl, by rw [List.length_append]; exact Nat.le_refl _, by rw [List.length_append]; exact hown4⟩
          have hrdx := hrdy.grownR hg4 (row_ne ha hbw)
          by_cases hcb : cb = 1
          · have hxn : x.length = 1 := by omega
            have hy0 : x.drop 1 = [] := List.drop_eq_nil_of_le (by omega)
            go_wp2
            go_roundw
            case rel =>
              refine ⟨some ⟨bb, oo, none⟩, x.drop 1, C4, cb - 1, ?_, by rw [hy0]; exact Rd.nil, fun _ a ha => by injection ha with ha; subst ha; exact hbw, by rw [List.length_drop]; omega, by rw [List.length_drop]; omega, ?_, hown4, hb4⟩
              · first | rfl | (rw [hy0, List.length_nil]; done) | (rw [hy0, List.length_nil]; congr 1 <;> omega)
              · show _ = _
                rw [HC.out, hfn.out, HC4.out, List.append_assoc]
                rfl
            case measure => first | (simp; done) | (simp; omega)
          · have hrdn := rd_drop bb oo x 1 cb hxc hrdx hcb (by omega)
            go_wp2
            go_roundw
            case rel =>
              refine ⟨some ⟨bb, oo + 1, none⟩, x.drop 1, C4, cb - 1, ?_, hrdn, fun _ a ha => by injection ha with ha; subst ha; exact hbw, by rw [List.length_drop]; omega, by rw [List.length_drop]; omega, ?_, hown4, hb4⟩
              · first | rfl | (rw [List.length_drop])
              · show _ = _
                rw [HC.out, hfn.out, HC4.out, List.append_assoc]
                rfl
            case measure => first | (simp; done) | (simp; omega)
end Go.Proofs.YtofgkahldhelaaaDoor
