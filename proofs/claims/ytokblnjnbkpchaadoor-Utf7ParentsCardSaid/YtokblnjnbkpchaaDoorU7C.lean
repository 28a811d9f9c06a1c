/- Package utf7: Match. -/
import Derived.Test.YtokblnjnbkpchaaDoorU7A
import Derived.Laws.MakeOwn
import Derived.Laws.OwnMore
import Derived.Deep.LoopGhost
import Derived.WalkMore
set_option linter.unusedVariables false
namespace Go.Proofs.YtokblnjnbkpchaaDoor
open Go.RowKit

theorem boolInfo : (Tryd.prog.info? 4).map (fun i => (i.zero, i.size, i.bytes)) = some (some (.bool false), 1, 1) := by kernel_rfl
/-- A row of Booleans: the first n + 1 cells of block g read as f; none is frozen. -/
def BRow (w : World) (g n : Nat) (f : Nat → Bool) : Prop := (∀ j, j ≤ n → w.cell? ⟨g, j, none⟩ = some (.bool (f j))) ∧ ∀ j, w.frozen? ⟨g, j, none⟩ = false
theorem BRow.set {w : World} {g n : Nat} {f : Nat → Bool} (h : BRow w g n f) (k : Nat) (hk : k ≤ n) (b : Bool) : BRow (w.setCell ⟨g, k, none⟩ (.bool b)) g n (fun j => if j = k then b else f j) := by
  refine ⟨fun j hj => ?_, fun j => by rw [World.frozen?_setCell]; exact h.2 j⟩
  by_cases hjk : j = k
  · subst hjk
    show _ = some (Value.bool (if j = j then b else f j))
    rw [if_pos rfl]
    exact World.cell?_setCell_same' _ _ _ (by rw [h.1 j hj]; rfl)
  · show _ = some (Value.bool (if j = k then b else f j))
    rw [if_neg hjk]
    refine Eq.trans ?_ (h.1 j hj)
    apply World.cell?_setCell_other
    intro e
    exact hjk (by simpa using e.symm)
theorem BRow.eq {w : World} {g n : Nat} {f f' : Nat → Bool} (h : BRow w g n f) (he : ∀ j, j ≤ n → f j = f' j) : BRow w g n f' := ⟨fun j hj => by rw [← he j hj]; exact h.1 j hj, h.2⟩
theorem brow_new (w : World) (n : Nat) : BRow (w.alloc (.cells (madeCells #[Value.bool false] (n + 1)) 4)) w.heap.size n (fun _ => false) := by
  refine ⟨fun j hj => ?_, fun j => ?_⟩
  · unfold World.cell?
    rw [heap_alloc_new]
    have h1 := toList_madeCells_one (.bool false) (n + 1)
    have h2 : (madeCells #[Value.bool false] (n + 1))[j]? = some (.bool false) := by
      rw [← Array.getElem?_toList, h1, List.getElem?_replicate, if_pos (by omega)]
    simpa using h2
  · unfold World.frozen?
    rw [heap_alloc_new]
    rfl

def mixU (s : List UInt8) (c : UInt8) (f : Nat → Bool) (j : Nat) (x : Nat) : Bool := if x ≤ j then stepM s c f x else f x
def mixD (s : List UInt8) (c : UInt8) (f : Nat → Bool) (j : Nat) (x : Nat) : Bool := if x ≤ j then f x else stepM s c f x
section
variable {s : List UInt8} {c : UInt8} {f : Nat → Bool} {w : World} {g n j : Nat} {v : Bool}
theorem mixU_next (h : BRow w g n (mixU s c f j)) (hj : j + 1 ≤ n) (hv : v = stepM s c f (j + 1)) : BRow (w.setCell ⟨g, j + 1, none⟩ (.bool v)) g n (mixU s c f (j + 1)) := by
  refine (h.set (j + 1) hj v).eq fun x hx => ?_
  unfold mixU
  by_cases h1 : x = j + 1
  · subst h1; rw [if_pos rfl, if_pos (Nat.le_refl _), hv]
  · rw [if_neg h1]
    by_cases h2 : x ≤ j
    · rw [if_pos h2, if_pos (by omega)]
    · rw [if_neg h2, if_neg (by omega)]
theorem mixD_next (h : BRow w g n (mixD s c f (j + 1))) (hj : j + 1 ≤ n) (hv : v = stepM s c f (j + 1)) : BRow (w.setCell ⟨g, j + 1, none⟩ (.bool v)) g n (mixD s c f j) := by
  refine (h.set (j + 1) hj v).eq fun x hx => ?_
  unfold mixD
  by_cases h1 : x = j + 1
  · subst h1; rw [if_pos rfl, if_neg (by omega), hv]
  · rw [if_neg h1]
    by_cases h2 : x ≤ j
    · rw [if_pos h2, if_pos (by omega)]
    · rw [if_neg h2, if_neg (by omega)]
theorem mixD_last (h : BRow w g n (mixD s c f 0)) (h0 : stepM s c f 0 = false) : BRow (w.setCell ⟨g, 0, none⟩ (.bool false)) g n (stepM s c f) := by
  refine (h.set 0 (Nat.zero_le _) false).eq fun x hx => ?_
  by_cases h1 : x = 0
  · subst h1; rw [if_pos rfl, h0]
  · rw [if_neg h1]; unfold mixD; rw [if_neg (by omega)]
theorem mixU_start (h : BRow w g n f) (hc : wildB c = true) : BRow w g n (mixU s c f 0) := h.eq fun x hx => by
  unfold mixU
  by_cases h1 : x ≤ 0
  · rw [if_pos h1]
    obtain rfl : x = 0 := by omega
    unfold stepM
    rw [hc, Bool.true_and]
  · rw [if_neg h1]
theorem mixU_end (h : BRow w g n (mixU s c f n)) : BRow w g n (stepM s c f) := h.eq fun x hx => by unfold mixU; rw [if_pos hx]
theorem mixD_start (h : BRow w g n f) : BRow w g n (mixD s c f n) := h.eq fun x hx => by unfold mixD; rw [if_pos hx]
theorem step_wild (hc : wildB c = true) : stepM s c f (j + 1) = (f (j + 1) || (stepM s c f j && okW c (s.getD j 0))) := by
  rw [stepM, if_pos hc]
theorem step_plain (hc : wildB c = false) : stepM s c f (j + 1) = (f j && (s.getD j 0 == c)) := by
  rw [stepM, if_neg (by rw [hc]; decide)]
end
theorem row_start {w : World} {g n : Nat} (h : BRow w g n (fun _ => false)) (s : List UInt8) : BRow (w.setCell ⟨g, 0, none⟩ (.bool true)) g n (matM s []) := (h.set 0 (Nat.zero_le _) true).eq fun x hx => by
  unfold matM
  by_cases h1 : x = 0
  · subst h1; rfl
  · rw [if_neg h1]; simp [h1]

set_option maxRecDepth 100000 in
set_option maxHeartbeats 2000000 in
theorem match_any (p s : ByteArray) (w : World) (hp : p.size ≤ 1000) (hs : s.size ≤ 1000) :
    Calls Tryd.prog 7 #[.string p, .string s] w fun e w' => e = .returned (.bool (matF p.data.toList s.data.toList)) ∧ Below w.heap.size w w' := by
  have h1 := fun W => inbox_any p W (by unfold maxLen; omega)
  have h2 := fun W => inbox_any s W (by unfold maxLen; omega)
  have hF : matF p.data.toList s.data.toList = matM (inboxF s.data.toList) (inboxF p.data.toList) (inboxF s.data.toList).length := rfl
  have hl : ∀ l : List UInt8, l.length ≤ 1000 → (inboxF l).length ≤ 1000 := fun l h => by
    unfold inboxF
    split
    · decide
    · exact h
  have hp1 := hl p.data.toList (by rw [len_data]; exact hp)
  have hs1 := hl s.data.toList (by rw [len_data]; exact hs)
  rw [hF]
  clear hF hl hp hs
  obtain ⟨P, hP⟩ : ∃ P : ByteArray, P = ⟨(inboxF p.data.toList).toArray⟩ := ⟨_, rfl⟩
  obtain ⟨N, hN⟩ : ∃ N : ByteArray, N = ⟨(inboxF s.data.toList).toArray⟩ := ⟨_, rfl⟩
  have eP : inboxF p.data.toList = P.data.toList := by rw [hP]
  have eN : inboxF s.data.toList = N.data.toList := by rw [hN]
  rw [← hP] at h1
  rw [← hN] at h2
  rw [eP] at hp1
  rw [eN] at hs1
  rw [eP, eN, len_data]
  rw [len_data] at hp1 hs1
  clear hP hN eP eN
  go_enter Tryd.func7, Tryd.ntmps7
  go_wp2
  go_step3
  go_wp2_with ((with_reducible refine (h1 _).mono ?_))
  rintro _ w1 ⟨rfl, n1, rfl⟩
  obtain ⟨i0, hi0, hz0, hz1, hz2⟩ := info_parts boolInfo
  go_wp2_with ((with_reducible refine (h2 _).mono ?_))
  rintro _ w2 ⟨rfl, n2, rfl⟩
  have hmk := run_make (P := Tryd.prog) (w.drewN (n1 + n2)) 31 4 i0 (.bool false) Tryd.underlying31 hi0 hz0 .i64 .i64 ((N.size : Int) + 1) ((N.size : Int) + 1) (by omega) (Int.le_refl _) (by rw [hz2]; omega) (by omega)
  have e9 : ((N.size : Int) + 1).toNat = N.size + 1 := by omega
  rw [e9, hz1, Nat.mul_one] at hmk
  have hrow := brow_new (w.drewN (n1 + n2)) N.size
  have hB0 : Below w.heap.size w ((w.drewN (n1 + n2)).alloc (.cells (madeCells #[Value.bool false] (N.size + 1)) 4)) := (below_drewN (Below.refl _ w) _).alloc (Nat.le_refl _) _
  have hgs : w.heap.size < ((w.drewN (n1 + n2)).alloc (.cells (madeCells #[Value.bool false] (N.size + 1)) 4)).heap.size := by simp
  have hmk2 : (Instr.makeSlice 31 (Value.int IntKind.i64 ((N.size : Int) + 1)) (Value.int IntKind.i64 ((N.size : Int) + 1))).run Tryd.prog (w.drewN (n1 + n2)) = .ok (.slice (some ⟨w.heap.size, 0, none⟩) (N.size + 1) (N.size + 1)) ((w.drewN (n1 + n2)).alloc (.cells (madeCells #[Value.bool false] (N.size + 1)) 4)) := hmk
  clear hmk e9
  generalize ((w.drewN (n1 + n2)).alloc (.cells (madeCells #[Value.bool false] (N.size + 1)) 4)) = W at *
  have hrow' : BRow W w.heap.size N.size (fun _ => false) := hrow
  have q0 := hrow'.1 0 (Nat.zero_le _)
  have qf := hrow'.2 0
  have HROW := Lib.hid (row_start hrow' N.data.toList)
  have hB1 : Below w.heap.size w (W.setCell ⟨w.heap.size, 0, none⟩ (.bool true)) := hB0.setCell (p := ⟨w.heap.size, 0, none⟩) (Nat.le_refl _) _
  clear hrow hrow' hB0 hgs
  go_wp2
  go_step3
  go_wp2
  go_loopg [23] P.size (fun gk i wr => ∃ k : Nat, k + gk = P.size ∧ i = .int .i64 (k : Int) ∧ BRow wr w.heap.size N.size (matM N.data.toList (P.data.toList.take k)) ∧ Below w.heap.size w wr)
  case atStart => exact ⟨0, by omega, rfl, HROW.out, hB1⟩
  case round =>
    obtain ⟨k, hkg, rfl, hrow, hB⟩ := hrel
    clear hmk2 q0 qf HROW hB1
    cases gk with
    | zero =>
      obtain rfl : k = P.size := by omega
      have hlt : ¬ ((P.size : Int) < (P.size : Int)) := by omega
      have hq := hrow.1 N.size (Nat.le_refl _)
      rw [take_all] at hq
      obtain ⟨r, hr⟩ : ∃ r, r = matM N.data.toList P.data.toList N.size := ⟨_, rfl⟩
      rw [← hr] at hq
      have HR := Lib.hid hr
      clear hr
      have hn1 : (N.size : Int) < (N.size : Int) + 1 := by omega
      clear hrow
      go_wp2
      go_ret
      exact ⟨by rw [← HR.out]; rfl, hB⟩
    | succ g =>
      have hk : k < P.size := by omega
      have e1 : (k : Int) < (P.size : Int) := by omega
      have HT := Lib.hid (take_snoc P k hk)
      have HM : Hid (matM N.data.toList (P.data.toList.take (k + 1)) = stepM N.data.toList P[k] (matM N.data.toList (P.data.toList.take k))) := by
        show _ = _
        rw [HT.out, matM_snoc]
      have HD : Hid (P.data.toList = P.data.toList.take (k + 1) ++ P.data.toList.drop (k + 1)) := (List.take_append_drop _ _).symm
      generalize matM N.data.toList (P.data.toList.take k) = f at hrow HM
      have heq : ∀ d : UInt8, (P[k] == d) = ((P[k].toNat : Int) == (d.toNat : Int)) := fun d => by
        rw [Bool.eq_iff_iff, beq_iff_eq, beq_iff_eq]
        constructor
        · intro h; rw [h]
        · intro h; exact UInt8.toNat_inj.1 (by omega)
      have HE := Lib.hid heq
      have HROW := Lib.hid hrow
      clear heq hrow
      cases t1 : ((P[k].toNat : Int) == 42) with
      | true =>
        have hw : wildB P[k] = true := by unfold wildB; rw [HE.out 42, HE.out 37]; simp [t1]
        have HW := Lib.hid hw
        have HK : Hid (∀ d, okW P[k] d = true) := fun d => by unfold okW; rw [HE.out 42]; simp [t1]
        have hst := mixU_start (s := N.data.toList) HROW.out hw
        have HST := Lib.hid hst
        clear hw hst
        go_wp2
        go_loopg [37] N.size (fun g2 i wy => ∃ j : Nat, j + g2 = N.size ∧ i = .int .i64 (j : Int) ∧ Hid (BRow wy w.heap.size N.size (mixU N.data.toList P[k] f j)) ∧ Below w.heap.size w wy)
        case atStart => exact ⟨0, by omega, rfl, HST.out, hB⟩
        case round =>
          obtain ⟨j, hjg, rfl, HR, hBy⟩ := hrel
          clear hB
          cases gk with
          | zero =>
            obtain rfl : j = N.size := by omega
            have hlt : ¬ ((N.size : Int) < (N.size : Int)) := by omega
            go_wp2
            go_roundg g
            case measure => omega
            case rel => exact ⟨k + 1, by omega, by go_num, by rw [HM.out]; exact mixU_end HR.out, hBy⟩
          | succ g2 =>
            have hj : j < N.size := by omega
            have e2 : (j : Int) < (N.size : Int) := by omega
            have q1 := HR.out.1 (j + 1) hj
            have q2 := HR.out.1 j (by omega)
            have qf := HR.out.2 (j + 1)
            have hstep := step_wild (s := N.data.toList) (f := f) (j := j) HW.out
            rw [HK.out] at hstep
            unfold mixU at q1 q2
            rw [if_neg (by omega)] at q1
            rw [if_pos (Nat.le_refl _)] at q2
            have HS := Lib.hid hstep
            have e3 : (j : Int) + 1 < (N.size : Int) + 1 := by omega
            have e4 : (j : Int) < (N.size : Int) + 1 := by omega
            clear hstep
            generalize f (j + 1) = fa at q1 HS
            generalize stepM N.data.toList P[k] f j = fb at q2 HS
            cases fa with
            | true =>
              go_wp2
              go_roundg g2
              case measure => omega
              case rel => exact ⟨j + 1, by omega, by go_num, mixU_next HR.out (by omega) (by rw [HS.out]; first | done | rfl), hBy.setCell (p := ⟨w.heap.size, j + 1, none⟩) (Nat.le_refl _) _⟩
            | false =>
              cases fb with
              | false =>
                go_wp2
                go_roundg g2
                case measure => omega
                case rel => exact ⟨j + 1, by omega, by go_num, mixU_next HR.out (by omega) (by rw [HS.out]; first | done | rfl), hBy.setCell (p := ⟨w.heap.size, j + 1, none⟩) (Nat.le_refl _) _⟩
              | true =>
                go_wp2
                go_roundg g2
                case measure => omega
                case rel => exact ⟨j + 1, by omega, by go_num, mixU_next HR.out (by omega) (by rw [HS.out]; first | done | rfl), hBy.setCell (p := ⟨w.heap.size, j + 1, none⟩) (Nat.le_refl _) _⟩
      | false =>
        cases t2 : ((P[k].toNat : Int) == 37) with
        | true =>
          have hw : wildB P[k] = true := by unfold wildB; rw [HE.out 42, HE.out 37]; simp [t2]
          have HW := Lib.hid hw
          have HK : Hid (∀ d : UInt8, okW P[k] d = !(d == 47)) := fun d => by unfold okW; rw [HE.out 42]; simp [t1]
          have hst := mixU_start (s := N.data.toList) HROW.out hw
          have HST := Lib.hid hst
          clear hw hst
          go_wp2
          go_loopg [37] N.size (fun g2 i wy => ∃ j : Nat, j + g2 = N.size ∧ i = .int .i64 (j : Int) ∧ Hid (BRow wy w.heap.size N.size (mixU N.data.toList P[k] f j)) ∧ Below w.heap.size w wy)
          case atStart => exact ⟨0, by omega, rfl, HST.out, hB⟩
          case round =>
            obtain ⟨j, hjg, rfl, HR, hBy⟩ := hrel
            clear hB
            cases gk with
            | zero =>
              obtain rfl : j = N.size := by omega
              have hlt : ¬ ((N.size : Int) < (N.size : Int)) := by omega
              go_wp2
              go_roundg g
              case measure => omega
              case rel => exact ⟨k + 1, by omega, by go_num, by rw [HM.out]; exact mixU_end HR.out, hBy⟩
            | succ g2 =>
              have hj : j < N.size := by omega
              have e2 : (j : Int) < (N.size : Int) := by omega
              have q1 := HR.out.1 (j + 1) hj
              have q2 := HR.out.1 j (by omega)
              have qf := HR.out.2 (j + 1)
              have hstep := step_wild (s := N.data.toList) (f := f) (j := j) HW.out
              rw [HK.out, getD_str N j hj] at hstep
              unfold mixU at q1 q2
              rw [if_neg (by omega)] at q1
              rw [if_pos (Nat.le_refl _)] at q2
              have HS := Lib.hid hstep
              have e3 : (j : Int) + 1 < (N.size : Int) + 1 := by omega
              have e4 : (j : Int) < (N.size : Int) + 1 := by omega
              have heqN : (N[j] == 47) = ((N[j].toNat : Int) == 47) := by
                rw [Bool.eq_iff_iff, beq_iff_eq, beq_iff_eq]
                constructor
                · intro h; rw [h]; rfl
                · intro h; exact UInt8.toNat_inj.1 (by have : (47 : UInt8).toNat = 47 := rfl; omega)
              have HN := Lib.hid heqN
              clear heqN
              clear hstep
              generalize f (j + 1) = fa at q1 HS
              generalize stepM N.data.toList P[k] f j = fb at q2 HS
              cases fa with
              | true =>
                go_wp2
                go_roundg g2
                case measure => omega
                case rel => exact ⟨j + 1, by omega, by go_num, mixU_next HR.out (by omega) (by rw [HS.out]; first | done | rfl), hBy.setCell (p := ⟨w.heap.size, j + 1, none⟩) (Nat.le_refl _) _⟩
              | false =>
                cases fb with
                | false =>
                  go_wp2
                  go_roundg g2
                  case measure => omega
                  case rel => exact ⟨j + 1, by omega, by go_num, mixU_next HR.out (by omega) (by rw [HS.out]; first | done | rfl), hBy.setCell (p := ⟨w.heap.size, j + 1, none⟩) (Nat.le_refl _) _⟩
                | true =>
                  cases t3 : ((N[j].toNat : Int) == 47) with
                  | true =>
                    have t4 : ((N[j].toNat : Int) != 47) = false := by simp only [bne, t3, Bool.not_true]
                    go_wp2
                    go_roundg g2
                    case measure => omega
                    case rel => exact ⟨j + 1, by omega, by go_num, mixU_next HR.out (by omega) (by rw [HS.out, HN.out, t3]; first | done | rfl), hBy.setCell (p := ⟨w.heap.size, j + 1, none⟩) (Nat.le_refl _) _⟩
                  | false =>
                    have t4 : ((N[j].toNat : Int) != 47) = true := by simp only [bne, t3, Bool.not_false]
                    go_wp2
                    go_roundg g2
                    case measure => omega
                    case rel => exact ⟨j + 1, by omega, by go_num, mixU_next HR.out (by omega) (by rw [HS.out, HN.out, t3]; first | done | rfl), hBy.setCell (p := ⟨w.heap.size, j + 1, none⟩) (Nat.le_refl _) _⟩
        | false =>
          have hw : wildB P[k] = false := by unfold wildB; rw [HE.out 42, HE.out 37]; simp [t1, t2]
          have h00 : stepM N.data.toList P[k] f 0 = false := by unfold stepM; rw [hw]; rfl
          have HW := Lib.hid hw
          have H00 := Lib.hid h00
          have HST := Lib.hid (mixD_start (s := N.data.toList) (c := P[k]) HROW.out)
          clear hw h00
          go_wp2
          go_loopg [9, 10] N.size (fun g2 sm i wy => ∃ (sb : Bool), g2 ≤ N.size ∧ i = .int .i64 (g2 : Int) ∧ sm = .bool sb ∧ Hid (sb = true ↔ ∃ x, g2 < x ∧ x ≤ N.size ∧ stepM N.data.toList P[k] f x = true) ∧ Hid (BRow wy w.heap.size N.size (mixD N.data.toList P[k] f g2)) ∧ Below w.heap.size w wy)
          case atStart => exact ⟨false, Nat.le_refl _, rfl, rfl, ⟨fun h => (by cases h), fun ⟨x, h1, h2, _⟩ => by omega⟩, HST.out, hB⟩
          case round =>
            obtain ⟨sb, hgn, rfl, rfl, HSB, HR, hBy⟩ := hrel
            clear hB
            cases gk with
            | zero =>
              have q0 := HR.out.1 0 (Nat.zero_le _)
              have qf := HR.out.2 0
              have HL := Lib.hid (mixD_last HR.out H00.out)
              have e5 : (0 : Int) < (N.size : Int) + 1 := by omega
              have hBz := hBy.setCell (p := ⟨w.heap.size, 0, none⟩) (Nat.le_refl _) (.bool false)
              cases sb with
              | false =>
                have hno : ∀ x, x ≤ N.size → stepM N.data.toList P[k] f x = false := fun x hx => by
                  cases hq : stepM N.data.toList P[k] f x with
                  | false => rfl
                  | true =>
                    rcases Nat.eq_zero_or_pos x with rfl | h0
                    · rw [H00.out] at hq; cases hq
                    · have := HSB.out.2 ⟨x, h0, hx, hq⟩
                      cases this
                have hend : matM N.data.toList P.data.toList N.size = false := by
                  rw [HD.out]
                  refine matM_none _ _ _ N.size fun x hx => ?_
                  rw [HM.out]
                  exact hno x hx
                have hz := HL.out.1 N.size (Nat.le_refl _)
                rw [hno N.size (Nat.le_refl _)] at hz
                have HEND := Lib.hid hend
                have hn1 : (N.size : Int) < (N.size : Int) + 1 := by omega
                clear hno hend
                go_wp2
                rw [Exit.noGoto_ret]
                go_ret
                exact ⟨by rw [HEND.out]; rfl, hBz⟩
              | true =>
                go_wp2
                go_roundg g
                case measure => omega
                case rel => exact ⟨k + 1, by omega, by go_num, by rw [HM.out]; exact HL.out, hBz⟩
            | succ m =>
              have hm : m < N.size := by omega
              have e2 : (m : Int) < (N.size : Int) := by omega
              have q1 := HR.out.1 m (by omega)
              have q3 := HR.out.1 (m + 1) hgn
              have qf := HR.out.2 (m + 1)
              unfold mixD at q1
              rw [if_pos (by omega)] at q1
              have hstep := step_plain (s := N.data.toList) (f := f) (j := m) HW.out
              rw [getD_str N m hm] at hstep
              have heqN : (N[m] == P[k]) = ((N[m].toNat : Int) == (P[k].toNat : Int)) := by
                rw [Bool.eq_iff_iff, beq_iff_eq, beq_iff_eq]
                constructor
                · intro h; rw [h]
                · intro h; exact UInt8.toNat_inj.1 (by omega)
              rw [heqN] at hstep
              have HS := Lib.hid hstep
              have e3 : (m : Int) + 1 < (N.size : Int) + 1 := by omega
              have e4 : (m : Int) < (N.size : Int) + 1 := by omega
              have hcs := fun v => World.cell?_setCell_same' wr ⟨w.heap.size, m + 1, none⟩ (.bool v) (by rw [q3]; rfl)
              have hB9 := fun v => hBy.setCell (p := ⟨w.heap.size, m + 1, none⟩) (Nat.le_refl _) (.bool v)
              have HSN : Hid (∀ v, v = stepM N.data.toList P[k] f (m + 1) → ((sb || v) = true ↔ ∃ x, m < x ∧ x ≤ N.size ∧ stepM N.data.toList P[k] f x = true)) := fun v hv => by
                rw [Bool.or_eq_true, HSB.out]
                constructor
                · rintro (⟨x, h1, h2, h3⟩ | h)
                  · exact ⟨x, by omega, h2, h3⟩
                  · exact ⟨m + 1, by omega, by omega, by rw [← hv]; exact h⟩
                · rintro ⟨x, h1, h2, h3⟩
                  by_cases hx : x = m + 1
                  · subst hx; right; rw [hv]; exact h3
                  · left; exact ⟨x, by omega, h2, h3⟩
              clear hstep heqN
              generalize f m = fa at q1 HS
              have hc1 := hcs true
              have hc0 := hcs false
              clear hcs
              generalize mixD N.data.toList P[k] f (m + 1) (m + 1) = old at q3
              cases sb with
              | true =>
                cases fa with
                | false =>
                  go_wp2
                  go_roundg m
                  case measure => omega
                  case rel => exact ⟨true, by omega, by go_num, rfl, by have := HSN.out false (by rw [HS.out]; first | done | rfl); exact this, mixD_next HR.out (by omega) (by rw [HS.out]; first | done | rfl), hB9 false⟩
                | true =>
                  cases t3 : ((N[m].toNat : Int) == (P[k].toNat : Int)) with
                  | true =>
                    go_wp2
                    go_roundg m
                    case measure => omega
                    case rel => exact ⟨true, by omega, by go_num, rfl, by have := HSN.out true (by rw [HS.out, t3]; first | done | rfl); exact this, mixD_next HR.out (by omega) (by rw [HS.out, t3]; first | done | rfl), hB9 true⟩
                  | false =>
                    go_wp2
                    go_roundg m
                    case measure => omega
                    case rel => exact ⟨true, by omega, by go_num, rfl, by have := HSN.out false (by rw [HS.out, t3]; first | done | rfl); exact this, mixD_next HR.out (by omega) (by rw [HS.out, t3]; first | done | rfl), hB9 false⟩
              | false =>
                cases fa with
                | false =>
                  go_wp2
                  go_roundg m
                  case measure => omega
                  case rel => exact ⟨false, by omega, by go_num, rfl, by have := HSN.out false (by rw [HS.out]; first | done | rfl); exact this, mixD_next HR.out (by omega) (by rw [HS.out]; first | done | rfl), hB9 false⟩
                | true =>
                  cases t3 : ((N[m].toNat : Int) == (P[k].toNat : Int)) with
                  | true =>
                    go_wp2
                    go_roundg m
                    case measure => omega
                    case rel => exact ⟨true, by omega, by go_num, rfl, by have := HSN.out true (by rw [HS.out, t3]; first | done | rfl); exact this, mixD_next HR.out (by omega) (by rw [HS.out, t3]; first | done | rfl), hB9 true⟩
                  | false =>
                    go_wp2
                    go_roundg m
                    case measure => omega
                    case rel => exact ⟨false, by omega, by go_num, rfl, by have := HSN.out false (by rw [HS.out, t3]; first | done | rfl); exact this, mixD_next HR.out (by omega) (by rw [HS.out, t3]; first | done | rfl), hB9 false⟩
end Go.Proofs.YtokblnjnbkpchaaDoor
