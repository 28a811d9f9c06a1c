/- Package head: Fields, from what Split, Lines and Value answer. -/
import Derived.Test.YtcigfmnkfelhjaaDoorHdA
import Derived.Test.YtcigfmnkfelhjaaDoorLnD
import Derived.Deep.CutBlock
import Derived.Deep.DeepCutAuto
import Derived.Test.YtcigfmnkfelhjaaDoorRdR
set_option linter.unusedVariables false
namespace Go.Proofs.YtcigfmnkfelhjaaDoor
open Go.RowKit

def blankL (l : List UInt8) : Bool := l.headD 0 == 32 || l.headD 0 == 9
def setTo (acc : List Fd) (t : Nat) : List Fd := match acc[acc.length - 1]? with
  | some x => acc.set (acc.length - 1) { x with to_ := t }
  | none => acc
def fdGo : List (List UInt8) → Nat → Bool → List Fd → List Fd
  | [], _, _, acc => acc
  | ln :: r, at_, op, acc =>
    if blankL ln then fdGo r (at_ + ln.length) op (if op then setTo acc (at_ + ln.length) else acc)
    else if nl ln = 0 then fdGo r (at_ + ln.length) false acc
    else if acc.length = 500 then acc
    else fdGo r (at_ + ln.length) true (acc ++ [⟨⟨(ln.take (nl ln)).toArray⟩, ⟨#[]⟩, at_, at_ + ln.length⟩])
/-- The text behind a field's name and colon. -/
def rawOf (l : List UInt8) (f : Fd) : ByteArray := ⟨((l.take f.to_).drop (f.from_ + f.name.size + 1)).toArray⟩
def fieldsF (V : ByteArray → ByteArray) (l : List UInt8) (E : Nat) : List Fd := (fdGo (linesL (l.take E)) 0 false []).map fun f => { f with value := V (rawOf l f) }
theorem linesL_flat : ∀ (n : Nat) (l : List UInt8), l.length ≤ n → (linesL l).flatten = l
  | 0, l, h => by
    obtain rfl : l = [] := List.eq_nil_of_length_eq_zero (by omega)
    rfl
  | n + 1, l, h => by
    by_cases h0 : l = []
    · subst h0; rfl
    · rw [linesL_cons l h0, List.flatten_cons]
      have hp := cutLen_pos l h0
      rw [linesL_flat n _ (by rw [List.length_drop]; omega), List.take_append_drop]
theorem linesL_pos : ∀ (n : Nat) (l : List UInt8), l.length ≤ n → ∀ x ∈ linesL l, 0 < x.length
  | 0, l, h, x, hx => by
    obtain rfl : l = [] := List.eq_nil_of_length_eq_zero (by omega)
    exact absurd hx (by simp [linesL_nil])
  | n + 1, l, h, x, hx => by
    by_cases h0 : l = []
    · subst h0
      exact absurd hx (by simp [linesL_nil])
    · rw [linesL_cons l h0] at hx
      have hp := cutLen_pos l h0
      have hq := List.length_pos_iff.2 h0
      rcases List.mem_cons.1 hx with rfl | hx
      · rw [List.length_take]; omega
      · exact linesL_pos n _ (by rw [List.length_drop]; omega) x hx
theorem flat_take (ls : List (List UInt8)) (k : Nat) (h : k < ls.length) : (ls.take (k + 1)).flatten.length = (ls.take k).flatten.length + ls[k].length := by
  rw [List.take_succ_eq_append_getElem h, List.flatten_append, List.length_append]
  simp
theorem flat_take_le (ls : List (List UInt8)) (k : Nat) : (ls.take k).flatten.length ≤ ls.flatten.length := by
  have e : ls.flatten = (ls.take k).flatten ++ (ls.drop k).flatten := by rw [← List.flatten_append, List.take_append_drop]
  rw [e, List.length_append]
  omega
theorem setTo_at (acc : List Fd) (m t : Nat) (h : acc.length = m + 1) : setTo acc t = acc.set m { acc[m]'(by omega) with to_ := t } := by
  unfold setTo
  have e : acc.length - 1 = m := by omega
  rw [e, List.getElem?_eq_getElem (by omega)]
/-- Where the fields stand. -/
def FdOk (acc : List Fd) (at_ : Nat) : Prop := ∀ f ∈ acc, f.from_ + f.name.size + 1 ≤ f.to_ ∧ f.to_ ≤ at_

theorem Rd.takeH {w : World} {A : Option Addr} {l : List UInt8} (h : Rd w A l) (n : Nat) : Rd w A (l.take n) := fun hp => by
  obtain ⟨b, o, rfl, hlt, hc⟩ := h (by rw [List.length_take] at hp; omega)
  refine ⟨b, o, rfl, hlt, fun i hi => ?_⟩
  rw [List.getElem_take]
  exact hc i (by rw [List.length_take] at hi; omega)
theorem Rd.dropH {w : World} {b o : Nat} {l : List UInt8} (h : Rd w (some ⟨b, o, none⟩) l) (n : Nat) : Rd w (some ⟨b, o + n, none⟩) (l.drop n) := fun hp => by
  rw [List.length_drop] at hp
  obtain ⟨b', o', hA, hlt, hc⟩ := h (by omega)
  injection hA with hA
  injection hA with h1 h2
  subst h1 h2
  refine ⟨b, o + n, rfl, hlt, fun i hi => ?_⟩
  rw [List.length_drop] at hi
  rw [List.getElem_drop, ← hc (n + i) (by omega), Nat.add_assoc]
theorem new4 (w : World) (a b c d : Value) (t : TypeId) : ∀ j u, [a, b, c, d][j]? = some u → (w.alloc (.cells #[a, b, c, d] t)).cell? ((⟨w.heap.size, 0, none⟩ : Addr).add j) = some u := by
  intro j u hu
  rw [addp, Nat.zero_add]
  match j, hu with
  | 0, hu => simp at hu; subst hu; simp
  | 1, hu => simp at hu; subst hu; simp
  | 2, hu => simp at hu; subst hu; simp
  | 3, hu => simp at hu; subst hu; simp
/-- The row of lines: its shape, its cells. -/
theorem RowsB.open_ {w : World} {B : Nat} {v : Value} {ls : List (List UInt8)} (h : RowsB w B v ls) : ∃ A cap, v = .slice A ls.length cap ∧ ls.length ≤ cap ∧ cap ≤ maxLen ∧
    ∀ i (hi : i < ls.length), ∃ g u, A = some ⟨g, 0, none⟩ ∧ g < w.heap.size ∧ w.cell? ⟨g, i, none⟩ = some u ∧ ElemB w B u ls[i] := by
  obtain ⟨vs, h1, h2, h3⟩ := h
  rcases h1.2 with ⟨rfl, h0⟩ | ⟨g, cap, cur, rfl, hg, hh, hn, hm, hs, ht⟩
  · exact ⟨none, 0, by rw [h0], by omega, Nat.zero_le _, fun i hi => by omega⟩
  · have hvl : vs.length = ls.length := h2
    refine ⟨_, cap, rfl, hn, hm, fun i hi => ⟨g, vs[i]'(by rw [hvl]; exact hi), rfl, (Array.getElem?_eq_some_iff.1 hh).1, ?_, h3 i hi (by rw [hvl]; exact hi)⟩⟩
    have h4 : (cur.toList.take (ls.length * 1))[i]? = vs[i]? := by rw [ht]
    have h6 : vs[i]? = some (vs[i]'(by rw [hvl]; exact hi)) := List.getElem?_eq_getElem _
    rw [List.getElem?_take_of_lt (by omega), h6] at h4
    have h5 : cur[i]? = some (vs[i]'(by rw [hvl]; exact hi)) := by simpa using h4
    simp [World.cell?, hh, h5]

set_option maxRecDepth 100000 in
set_option maxHeartbeats 8000000 in
theorem fields_any (V : ByteArray → ByteArray) (E : Nat) (A : Option Addr) (l : List UInt8) (c : Nat) (w : World) (hr : Rd w A l) (hl : l.length ≤ 1000000) (hc : l.length ≤ c) (hE : E ≤ l.length)
    (hS : ∀ X, Below w.heap.size w X → Calls Tryd.prog 14 #[.slice A l.length c] X fun e w' => e = .returned (.tuple #[.int .i64 (E : Int), .int .i64 (E : Int)]) ∧ Below X.heap.size X w')
    (hL : ∀ X, Below w.heap.size w X → Calls Tryd.prog 17 #[.slice A E c] X fun e w' => ∃ v, e = .returned v ∧ RowsB w' X.heap.size v (linesL (l.take E)) ∧ Below X.heap.size X w')
    (hV : ∀ (s : ByteArray) X, Below w.heap.size w X → s.size ≤ 1000000 → Calls Tryd.prog 9 #[.string s] X fun e w' => e = .returned (.string (V s)) ∧ Below X.heap.size X w') :
    Calls Tryd.prog 7 #[.slice A l.length c] w fun e w' => ∃ v, e = .returned v ∧ OwnFd w' w.heap.size v (fieldsF V l E) ∧ Below w.heap.size w w' := by
  obtain ⟨i0, hi0, hz0, hz1, hz2⟩ := info_parts fdInfo
  have HS := Lib.hid (hS w (Below.refl _ w))
  have HL : Hid (∀ X, Below w.heap.size w X → Calls Tryd.prog 17 #[.slice A E c] X fun e w' => ∃ v, e = .returned v ∧ RowsB w' X.heap.size v (linesL (l.take E)) ∧ Below X.heap.size X w') := hL
  have HV : Hid (∀ (s : ByteArray) X, Below w.heap.size w X → s.size ≤ 1000000 → Calls Tryd.prog 9 #[.string s] X fun e w' => e = .returned (.string (V s)) ∧ Below X.heap.size X w') := hV
  clear hS hL hV
  obtain ⟨F, hF⟩ : ∃ F, F = fdGo (linesL (l.take E)) 0 false [] := ⟨_, rfl⟩
  obtain ⟨R, hR⟩ : ∃ R, R = fieldsF V l E := ⟨_, rfl⟩
  rw [← hR]
  have HR : Hid (R = F.map fun f => { f with value := V (rawOf l f) }) := by rw [hR, hF]; rfl
  have HF := Lib.hid hF
  clear hR hF
  obtain ⟨ls, hls⟩ : ∃ ls, ls = linesL (l.take E) := ⟨_, rfl⟩
  have HLS := Lib.hid hls
  clear hls
  rw [← HLS.out] at HL
  have e0 : (0 : Int) ≤ (E : Int) := by omega
  have e1 : (E : Int) ≤ (c : Int) := by omega
  go_enter Tryd.func7, Tryd.ntmps7
  go_wp2_with fail
  (with_reducible refine HS.out.mono ?_)
  rintro _ w1 ⟨rfl, b1⟩
  go_wp2_with fail
  (with_reducible refine (HL.out _ b1).mono ?_)
  rintro _ w2 ⟨vL, rfl, hrows, b2⟩
  have B2 := b1.trans (b2.mono b1.size)
  obtain ⟨AL, capL, rfl, hcl, hcm, hel⟩ := hrows.open_
  have hll : ls.length ≤ 9223372036854775807 := by unfold maxLen at hcm; omega
  have HEL := Lib.hid hel
  clear hel hrows b1 b2
  have HLF : Hid ((linesL (l.take E)).flatten = l.take E) := linesL_flat _ _ (Nat.le_refl _)
  go_upto_block 0 with fail
  go_cut [5] (fun v wx => OwnFd wx w2.heap.size v F ∧ Below w2.heap.size w2 wx ∧ FdOk F l.length)
  case first =>
    have hrow0 := OwnFd.nil w2 w2.heap.size
    go_wp2_with fail
    go_loopw [5, 6, 7, 24] (fun v av ov iv wx => ∃ (k at_ : Nat) (op : Bool) (acc : List Fd), k ≤ ls.length ∧ iv = .int .i64 (k : Int) ∧ av = .int .i64 (at_ : Int) ∧ ov = .bool op ∧ OwnFd wx w2.heap.size v acc ∧ Below w2.heap.size w2 wx ∧ FdOk acc at_ ∧ acc.length ≤ k ∧ acc.length ≤ 500 ∧ (op = true → 0 < acc.length) ∧ Hid (F = fdGo (ls.drop k) at_ op acc) ∧ Hid (at_ = (ls.take k).flatten.length)) (fun _ _ _ iv _ => ls.length - (intOf iv).toNat)
    case atStart => exact ⟨0, 0, false, [], Nat.zero_le _, rfl, rfl, rfl, hrow0, Below.refl _ _, fun f hf => absurd hf (by simp), Nat.le_refl _, by simp, fun h => absurd h (by decide), by rw [HF.out, HLS.out]; exact Lib.hid rfl, by simp [Hid]⟩
    case round =>
      obtain ⟨k, at_, op, acc, hk, rfl, rfl, rfl, hown, hb, hok, hacc, ha500, hop, HQ, HA⟩ := hrel
      by_cases hlt : k < ls.length
      · have hlt' : (k : Int) < (ls.length : Int) := by omega
        have hsz := hb.size
        obtain ⟨g, u, rfl, hg, hcu, gb, capb, rfl, hbt, hB, hlc⟩ := HEL.out k hlt
        have hcu' := (hb.cell (p := ⟨g, k, none⟩) hg).trans hcu
        have hbt' : Bts 5 wr gb ls[k] := hbt.below hb hbt.lt
        have hdr : ls.drop k = ls[k] :: ls.drop (k + 1) := List.drop_eq_getElem_cons hlt
        have hpos : 0 < ls[k].length := by
          have h1 : ls[k] ∈ linesL (l.take E) := by rw [← HLS.out]; exact List.getElem_mem hlt
          exact linesL_pos _ _ (Nat.le_refl _) _ h1
        have hft := flat_take ls k hlt
        have hfl := flat_take_le ls (k + 1)
        rw [hft, ← HA.out] at hfl
        have hftot : ls.flatten.length ≤ l.length := by
          rw [HLS.out, HLF.out, List.length_take]
          omega
        rw [hdr] at HQ
        generalize ls[k] = ln at hcu hcu' hbt hbt' hdr hpos hft hfl HQ hlc
        have hA2 : Hid (at_ + ln.length = (ls.take (k + 1)).flatten.length) := by rw [hft, ← HA.out]; exact Lib.hid rfl
        have hal : at_ + ln.length ≤ 1000000 := by omega
        have hc0 := hbt'.cell 0 hpos
        have hhd : ln.headD 0 = ln[0] := by cases ln with
          | nil => exact absurd hpos (by simp)
          | cons a r => rfl
        have hbl : blankL ln = (ln[0] == 32 || ln[0] == 9) := by unfold blankL; rw [hhd]
        have hrd := Rd.of_bts hbt'
        generalize ln[0] = ch at hc0 hbl
        have h8 := ch.toNat_lt
        clear hft hdr hcu hbt hhd hftot hfl hg hB
        by_cases hblank : ch.toNat = 32 ∨ ch.toNat = 9
        · have hb1 : blankL ln = true := by
            rw [hbl]
            rcases hblank with h | h
            · rw [show ch = 32 from UInt8.toNat_inj.1 h]; rfl
            · rw [show ch = 9 from UInt8.toNat_inj.1 h]; rfl
          have hQ2 : F = fdGo (ls.drop (k + 1)) (at_ + ln.length) op (if op then setTo acc (at_ + ln.length) else acc) := by rw [HQ.out, fdGo, if_pos hb1]
          have t12 : (((ch.toNat : Int) == 32) = true) ∨ (((ch.toNat : Int) == 32) = false ∧ ((ch.toNat : Int) == 9) = true) := by
            by_cases h : ch.toNat = 32
            · exact .inl (by rw [beq_iff_eq]; omega)
            · exact .inr ⟨by rw [beq_eq_false_iff_ne]; omega, by rw [beq_iff_eq]; omega⟩
          replace hQ2 := Lib.hid hQ2
          cases op with
          | false =>
            have hok2 : FdOk acc (at_ + ln.length) := fun f hf => by have := hok f hf; omega
            have hQ3 : Hid (F = fdGo (ls.drop (k + 1)) (at_ + ln.length) false acc) := hQ2.out
            clear hblank hb1 hbl HQ hQ2 hop
            rcases t12 with t1 | ⟨t1, t2⟩
            all_goals (
              go_wp2
              go_roundw
              case rel => exact ⟨k + 1, at_ + ln.length, false, acc, by omega, by go_num, by go_num, rfl, hown, hb, hok2, by omega, ha500, fun h => absurd h (by decide), hQ3, hA2⟩
              case measure => simp [intOf]; omega)
          | true =>
            obtain ⟨m, hm⟩ : ∃ m, acc.length = m + 1 := ⟨acc.length - 1, by have := hop rfl; omega⟩
            obtain ⟨A5, cap5, hv, hc5, hcm5, hA5⟩ := hown.shape
            obtain ⟨g5, rfl, hg5, hg5'⟩ := hA5 (by omega)
            subst hv
            have hst := setTo_at acc m (at_ + ln.length) hm
            obtain ⟨x, hx⟩ : ∃ x, acc[m]'(by omega) = x := ⟨_, rfl⟩
            rw [hx] at hst
            have hce := hown.cell m 3 (by omega) (by omega) (.int .i64 (x.to_ : Int)) (by rw [hx]; rfl)
            have hso := hown.store m 3 (by omega) (by omega) (.int .i64 ((at_ + ln.length : Nat) : Int)) { x with to_ := at_ + ln.length } (by rw [hx]; rfl)
            rw [Nat.mul_comm 4 m] at hce hso
            obtain ⟨hce1, hce2⟩ := hce
            have hok2 : FdOk (acc.set m { x with to_ := at_ + ln.length }) (at_ + ln.length) := by
              intro f hf
              rcases List.mem_or_eq_of_mem_set hf with h | h
              · have := hok f h; omega
              · subst h
                have h1 := hok x (by rw [← hx]; exact List.getElem_mem _)
                exact ⟨by show x.from_ + x.name.size + 1 ≤ at_ + ln.length; omega, Nat.le_refl _⟩
            have hQ3 : Hid (F = fdGo (ls.drop (k + 1)) (at_ + ln.length) true (acc.set m { x with to_ := at_ + ln.length })) := by
              have h := hQ2.out
              rw [if_pos rfl, hst] at h
              exact h
            have hl5 : (acc.set m { x with to_ := at_ + ln.length }).length = acc.length := List.length_set ..
            have hbS := hb.setCell (p := ⟨g5, m * 4 + 3, none⟩) hg5 (.int .i64 ((at_ + ln.length : Nat) : Int))
            generalize acc.set m { x with to_ := at_ + ln.length } = acc2 at hso hok2 hQ3 hl5
            rw [hm]
            rw [hm] at hso hc5 hacc ha500 hl5
            have hm5 : (m : Int) < 500 := by omega
            replace hm := Lib.hid hm
            replace hl5 := Lib.hid hl5
            clear hblank hb1 hbl HQ hQ2 hop hst hx hok
            rcases t12 with t1 | ⟨t1, t2⟩
            all_goals (
              go_wp2
              go_roundw
              case rel => exact ⟨k + 1, at_ + ln.length, true, acc2, by omega, by go_num, by go_num, rfl, (by first | exact hso | (have h := hso; simpa using h)), (by first | exact hbS | (have h := hbS; simpa using h)), hok2, by have := hl5.out; omega, by have := hl5.out; omega, fun _ => by have := hl5.out; omega, hQ3, hA2⟩
              case measure => simp [intOf]; omega)
        · have hb1 : blankL ln = false := by
            rw [hbl]
            have h1 : ¬ ch = 32 := fun h => hblank (.inl (by rw [h]; rfl))
            have h2 : ¬ ch = 9 := fun h => hblank (.inr (by rw [h]; rfl))
            simp [h1, h2]
          have t1 : ((ch.toNat : Int) == 32) = false := by rw [beq_eq_false_iff_ne]; omega
          have t2 : ((ch.toNat : Int) == 9) = false := by rw [beq_eq_false_iff_ne]; omega
          have hnl := nl_any (some ⟨gb, 0, none⟩) ln capb wr hrd (by omega)
          by_cases hn0 : nl ln = 0
          · have hQ3 : Hid (F = fdGo (ls.drop (k + 1)) (at_ + ln.length) false acc) := by
              show _ = _
              rw [HQ.out, fdGo, hb1, if_neg (by decide), if_pos hn0]
            rw [hn0] at hnl
            have HNL := Lib.hid hnl
            have hok2 : FdOk acc (at_ + ln.length) := fun f hf => by have := hok f hf; omega
            clear hblank hb1 hbl HQ hop hnl hn0
            go_wp2_with fail
            (with_reducible refine HNL.out.mono ?_)
            rintro _ w9 ⟨rfl, rfl⟩
            go_wp2
            go_roundw
            case rel => exact ⟨k + 1, at_ + ln.length, false, acc, by omega, by go_num, by go_num, rfl, hown, hb, hok2, by omega, ha500, fun h => absurd h (by decide), hQ3, hA2⟩
            case measure => simp [intOf]; omega
          · have hnlt := nl_lt ln hn0
            obtain ⟨N, hN⟩ : ∃ N, nl ln = N := ⟨_, rfl⟩
            rw [hN] at hnl hnlt hn0
            have HNL := Lib.hid hnl
            have hN0 : (0 : Int) < (N : Int) := by omega
            have hNp : 0 < N := by omega
            obtain ⟨A5, cap5, hv, hc5, hcm5, hA5⟩ := hown.shape
            subst hv
            by_cases h500 : acc.length = 500
            · have hFa : Hid (F = acc) := by
                show _ = _
                rw [HQ.out, fdGo, hb1, if_neg (by decide), if_neg (by rw [hN]; exact hn0), if_pos h500]
              have hFl : FdOk F l.length := by
                intro f hf
                rw [hFa.out] at hf
                have h1 := hok f hf
                have h2 : at_ + ln.length ≤ l.length := by
                  rw [hA2.out]
                  have h3 := flat_take_le ls (k + 1)
                  rw [HLS.out, HLF.out, List.length_take] at h3
                  rw [HLS.out]
                  omega
                omega
              have t5 : ((acc.length : Int) == 500) = true := by rw [beq_iff_eq]; omega
              rw [h500] at hown ⊢
              replace h500 := Lib.hid h500
              clear hblank hb1 hbl HQ hop hnl hn0 hA5 t5
              go_wp2_with fail
              (with_reducible refine HNL.out.mono ?_)
              rintro _ w9 ⟨rfl, rfl⟩
              go_wp2_with fail
              go_meet
              exact ⟨by rw [hFa.out]; exact hown, hb, hFl⟩
            · have t5 : ((acc.length : Int) == 500) = false := by rw [beq_eq_false_iff_ne]; omega
              have hQ3 : Hid (F = fdGo (ls.drop (k + 1)) (at_ + ln.length) true (acc ++ [⟨⟨(ln.take N).toArray⟩, ⟨#[]⟩, at_, at_ + ln.length⟩])) := by
                show _ = _
                rw [HQ.out, fdGo, hb1, if_neg (by decide), if_neg (by rw [hN]; exact hn0), if_neg h500, hN]
              have hcv := (hrd.takeH N).backs (P := Tryd.prog) 22 9 5 capb Tryd.underlying22 Tryd.underlying5 Tryd.underlying9
              rw [List.length_take, Nat.min_eq_left (Nat.le_of_lt hnlt)] at hcv
              obtain ⟨S, hS⟩ : ∃ S : ByteArray, S = ⟨(ln.take N).toArray⟩ := ⟨_, rfl⟩
              rw [← hS] at hcv hQ3
              have hSz : S.size = N := by rw [hS]; show (ln.take N).toArray.size = N; simp; omega
              have hok2 : FdOk (acc ++ [⟨S, ⟨#[]⟩, at_, at_ + ln.length⟩]) (at_ + ln.length) := by
                intro f hf
                rcases List.mem_append.1 hf with h | h
                · have := hok f h; omega
                · rw [List.mem_singleton] at h
                  subst h
                  exact ⟨by show at_ + S.size + 1 ≤ at_ + ln.length; omega, Nat.le_refl _⟩
              replace hSz := Lib.hid hSz
              have hN1 : (N : Int) ≤ (capb : Int) := by omega
              have hN2 : (0 : Int) ≤ (N : Int) := by omega
              have hba := hb.alloc hsz (.cells #[.string S, .string ⟨#[]⟩, .int .i64 (at_ : Int), .int .i64 ((at_ : Int) + (ln.length : Int))] 29)
              have hnc := new4 wr (.string S) (.string ⟨#[]⟩) (.int .i64 (at_ : Int)) (.int .i64 ((at_ : Int) + (ln.length : Int))) 29
              have hd63 : acc.length + 1 ≤ maxLen := by unfold maxLen; omega
              have hd47 : (acc.length + 1) * 48 ≤ 140737488355328 := by omega
              have hsb : w2.heap.size ≤ (wr.alloc (.cells #[.string S, .string ⟨#[]⟩, .int .i64 (at_ : Int), .int .i64 ((at_ : Int) + (ln.length : Int))] 29)).heap.size := by simp; omega
              clear hblank hb1 hbl HQ hop hnl hA5 h500 hS
              go_wp2_with fail
              (with_reducible refine HNL.out.mono ?_)
              rintro _ w9 ⟨rfl, rfl⟩
              go_wp2_with (at_builtin; refine wpList_append_own _ rfl _ _ 25 rfl w2.heap.size 29 i0 (.agg #[.string ⟨#[]⟩, .string ⟨#[]⟩, .int .i64 0, .int .i64 0]) 4 48 Tryd.underlying25 hi0 hz0 hz1 hz2 rfl (by decide) _ acc.length (fdCs acc) rfl (hown.alloc _) ⟨wr.heap.size, 0, none⟩ 1 1 [.string S, .string ⟨#[]⟩, .int .i64 (at_ : Int), .int .i64 ((at_ : Int) + (ln.length : Int))] rfl rfl hnc (by intro u hu; simp at hu; rcases hu with rfl | rfl | rfl | rfl <;> rfl) hd63 hd47 hsb ?_)
              intro v9 w9 hown9 g9 _
              have b9 := hba.grown g9 hsb (fun k hk => (hown.lt k hk).1)
              have hown9' : OwnFd w9 w2.heap.size v9 (acc ++ [⟨S, ⟨#[]⟩, at_, at_ + ln.length⟩]) := by
                unfold OwnFd
                rw [fdCs_snoc, List.length_append]
                exact hown9
              clear hown9 g9 hba hnc
              have hl9 : (acc ++ [(⟨S, ⟨#[]⟩, at_, at_ + ln.length⟩ : Fd)]).length = acc.length + 1 := by simp
              generalize acc ++ [(⟨S, ⟨#[]⟩, at_, at_ + ln.length⟩ : Fd)] = acc9 at *
              replace hl9 := Lib.hid hl9
              have h5n : acc.length ≠ 500 := by intro h; rw [h] at t5; exact absurd t5 (by decide)
              go_wp2
              go_roundw
              case rel => exact ⟨k + 1, at_ + ln.length, true, acc9, by omega, by go_num, by go_num, rfl, hown9', b9, hok2, by have := hl9.out; omega, by have := hl9.out; omega, fun _ => by have := hl9.out; omega, hQ3, hA2⟩
              case measure => simp [intOf]; omega
      · obtain rfl : k = ls.length := by omega
        have hFa : F = acc := by rw [HQ.out, List.drop_length]; rfl
        have hFl : FdOk F l.length := by
          intro f hf
          rw [hFa] at hf
          have h1 := hok f hf
          have h2 : at_ ≤ l.length := by
            rw [HA.out, List.take_length, HLS.out, HLF.out, List.length_take]
            omega
          omega
        replace hFa := Lib.hid hFa
        have hlt' : ¬ (ls.length : Int) < (ls.length : Int) := by omega
        go_wp2_with fail
        go_meet
        exact ⟨by rw [hFa.out]; exact hown, hb, hFl⟩
  case rest =>
    obtain ⟨hown, hb, hok⟩ := hcut
    obtain ⟨A5, cap5, rfl, hc5, hcm5, hA5⟩ := hown.shape
    have hF7 : F.length ≤ 9223372036854775807 := by unfold maxLen at hcm5; omega
    have hB2 : w.heap.size ≤ w2.heap.size := B2.size
    have HOK := Lib.hid hok
    have HR2 := HR
    clear hok HL HEL HLF HF HLS hcl hcm hll HR
    go_wp2
    go_loopw [73] (fun iv wx => ∃ (k : Nat) (Q : List Fd), k ≤ F.length ∧ iv = .int .i64 (k : Int) ∧ Hid (Q.length = F.length) ∧ Hid (Q = (F.take k).map (fun f => { f with value := V (rawOf l f) }) ++ F.drop k) ∧ OwnFd wx w2.heap.size (.slice A5 F.length cap5) Q ∧ Below w2.heap.size w2 wx) (fun iv _ => F.length - (intOf iv).toNat)
    case atStart => exact ⟨0, F, Nat.zero_le _, rfl, rfl, by simp [Hid], hown, hb⟩
    case round =>
      clear hown hb
      obtain ⟨k, Q, hk, rfl, HQL, HQ, hown, hb⟩ := hrel
      have hsz := hb.size
      by_cases hlt : k < F.length
      · have hlt' : (k : Int) < (F.length : Int) := by omega
        obtain ⟨g5, rfl, hg5, _⟩ := hA5 (by omega)
        have hkQ : k < Q.length := by rw [HQL.out]; exact hlt
        have hQk : Q[k] = F[k] := by
          have h1 : Q[k]? = F[k]? := by
            rw [HQ.out, List.getElem?_append_right (by rw [List.length_map, List.length_take]; omega), List.length_map, List.length_take, Nat.min_eq_left (by omega), Nat.sub_self, List.getElem?_drop, Nat.add_zero]
          rw [List.getElem?_eq_getElem hkQ, List.getElem?_eq_getElem hlt] at h1
          exact Option.some.inj h1
        have hx := HOK.out F[k] (List.getElem_mem hlt)
        have hnx : Hid (Q.set k { F[k] with value := V (rawOf l F[k]) } = (F.take (k + 1)).map (fun f => { f with value := V (rawOf l f) }) ++ F.drop (k + 1)) := by
          show _ = _
          rw [HQ.out, List.set_append_right _ _ (by rw [List.length_map, List.length_take]; omega), List.length_map, List.length_take, Nat.min_eq_left (by omega), Nat.sub_self, List.take_succ_eq_append_getElem hlt, List.map_append, List.drop_eq_getElem_cons hlt, List.set_cons_zero]
          simp
        have hnl : Hid ((Q.set k { F[k] with value := V (rawOf l F[k]) }).length = F.length) := by rw [List.length_set]; exact HQL
        have hce : ∀ j u, j < 4 → (fdC F[k])[j]? = some u → wr.cell? ⟨g5, k * 4 + j, none⟩ = some u ∧ wr.frozen? ⟨g5, k * 4 + j, none⟩ = false := by
          intro j u hj hu
          have h := hown.cell k j hkQ hj u (by rw [hQk]; exact hu)
          rw [Nat.mul_comm 4 k] at h
          exact h
        have hst : ∀ W, OwnFd W w2.heap.size (.slice (some ⟨g5, 0, none⟩) F.length cap5) Q → OwnFd (W.setCell ⟨g5, k * 4 + 1, none⟩ (.string (V (rawOf l F[k])))) w2.heap.size (.slice (some ⟨g5, 0, none⟩) F.length cap5) (Q.set k { F[k] with value := V (rawOf l F[k]) }) := by
          intro W h
          have h2 := h.store k 1 hkQ (by omega) (.string (V (rawOf l F[k]))) { F[k] with value := V (rawOf l F[k]) } (by rw [hQk]; rfl)
          rw [Nat.mul_comm 4 k] at h2
          exact h2
        generalize F[k] = x at hx hnx hnl hce hst hQk
        have hd0 := hce 0 _ (by omega) rfl
        have hd1 := hce 1 _ (by omega) rfl
        have hd2 := hce 2 _ (by omega) rfl
        have hd3 := hce 3 _ (by omega) rfl
        rw [Nat.add_zero] at hd0
        generalize Q.set k { x with value := V (rawOf l x) } = Q2 at hnx hnl hst
        obtain ⟨S, hS⟩ : ∃ S, S = rawOf l x := ⟨_, rfl⟩
        rw [← hS] at hst
        obtain ⟨xn, xv, xf, xt⟩ := x
        dsimp only at hx hd0 hd1 hd2 hd3
        obtain ⟨lo, hlo0, hlo⟩ : ∃ lo : Nat, lo = xf + xn.size + 1 ∧ (xf : Int) + (xn.size : Int) + 1 = (lo : Int) := ⟨_, rfl, by omega⟩
        have hS2 : S = ⟨((l.take xt).drop lo).toArray⟩ := by rw [hS, hlo0]; rfl
        have hlx : lo ≤ xt := by omega
        have hxl : xt ≤ l.length := hx.2
        have hSz : S.size ≤ 1000000 := by
          rw [hS2]
          show ((l.take xt).drop lo).toArray.size ≤ 1000000
          simp
          omega
        clear hS hlo0 hx hce hQk
        obtain ⟨bb, oo, rfl, hbb, hbc⟩ := id hr (by omega)
        have hrw := hr.below (B2.trans (hb.mono hB2))
        have o1 : (0 : Int) ≤ (lo : Int) := by omega
        have o2 : (lo : Int) ≤ (xt : Int) := by omega
        have o3 : (xt : Int) ≤ (c : Int) := by omega
        have hwin : Rd wr (some ⟨bb, oo + lo, none⟩) ((l.take xt).drop lo) := (Rd.takeH hrw xt).dropH lo
        have hwl : ((l.take xt).drop lo).length = xt - lo := by rw [List.length_drop, List.length_take, Nat.min_eq_left hxl]
        have ba := (Below.refl wr.heap.size wr).alloc (Nat.le_refl _) (.cells #[.string xn, .string xv, .int .i64 (xf : Int), .int .i64 (xt : Int)] 29)
        have hwin2 := hwin.below ba
        have hBx := (B2.trans (hb.mono hB2)).trans (ba.mono (Nat.le_trans hB2 hsz))
        have HVC := Lib.hid (HV.out S _ hBx hSz)
        have hg5w : g5 < wr.heap.size := World.block_lt_of_cell? wr _ hd0.1
        replace HQ := Lib.hid HQ.out
        have hd1' : (wr.alloc (.cells #[.string xn, .string xv, .int .i64 (xf : Int), .int .i64 (xt : Int)] 29)).cell? ⟨g5, k * 4 + 1, none⟩ = some (.string xv) := (ba.cell (p := ⟨g5, k * 4 + 1, none⟩) hg5w).trans hd1.1
        have hf1' := (ba.frozen (p := ⟨g5, k * 4 + 1, none⟩) hg5w).trans hd1.2
        have howna := hown.below ba (Nat.le_refl _)
        have hsa : wr.heap.size < (wr.alloc (.cells #[.string xn, .string xv, .int .i64 (xf : Int), .int .i64 (xt : Int)] 29)).heap.size := by simp
        have hba2 := hb.trans (ba.mono hsz)
        obtain ⟨q0, q0f⟩ := hd0
        obtain ⟨q1, q1f⟩ := hd1
        obtain ⟨q2, q2f⟩ := hd2
        obtain ⟨q3, q3f⟩ := hd3
        clear hrw hwin hbc ba hBx hr
        by_cases hclo : c = lo
        · have hx0 : (l.take xt).drop lo = [] := List.eq_nil_of_length_eq_zero (by rw [hwl]; omega)
          have hxe : xt = lo := by omega
          have hS3 : S = ⟨#[]⟩ := by rw [hS2, hx0]
          have hcv := fun (W : World) (a : Option Addr) => (Rd.nil (w := W) (A := a)).backs (P := Tryd.prog) 22 9 5 0 Tryd.underlying22 Tryd.underlying5 Tryd.underlying9
          have hcv2 := fun W a => hcv W a
          rw [← hS3] at hcv
          replace hS3 := Lib.hid hS3
          clear hS2 hx0 hwl hcv2
          have hcv := fun (W : World) (a : Option Addr) => show (convert 22 9 (.slice a 0 0)).run Tryd.prog W = .ok (.string S) W from hcv W a
          subst hxe
          subst hclo
          go_wp2_with fail
          (with_reducible refine HVC.out.mono ?_)
          rintro _ w9 ⟨rfl, b9⟩
          have z1 := (b9.cell (p := ⟨g5, k * 4 + 1, none⟩) (Nat.lt_trans hg5w hsa)).trans hd1'
          have z2 := (b9.frozen (p := ⟨g5, k * 4 + 1, none⟩) (Nat.lt_trans hg5w hsa)).trans hf1'
          have z3 := (b9.cell (p := ⟨wr.heap.size, 0, none⟩) hsa).trans (show (wr.alloc (.cells #[.string xn, .string xv, .int .i64 (xf : Int), .int .i64 (c : Int)] 29)).cell? ⟨wr.heap.size, 0, none⟩ = some (.string xn) by simp)
          have hown9 := hst _ (howna.below b9 (Nat.le_refl _))
          have hb9 := (hba2.trans (b9.mono hba2.size)).setCell (p := ⟨g5, k * 4 + 1, none⟩) hg5 (.string (V S))
          clear b9 hd1' hf1' howna hba2 hwin2
          go_wp2
          go_roundw
          case rel => exact ⟨k + 1, Q2, by omega, by go_num, hnl, hnx, hown9, hb9⟩
          case measure => simp [intOf]; omega
        · have hcv := hwin2.backs (P := Tryd.prog) 22 9 5 (c - lo) Tryd.underlying22 Tryd.underlying5 Tryd.underlying9
          rw [hwl, ← hS2] at hcv
          clear hS2 hwl
          go_wp2_with fail
          (with_reducible refine HVC.out.mono ?_)
          rintro _ w9 ⟨rfl, b9⟩
          have z1 := (b9.cell (p := ⟨g5, k * 4 + 1, none⟩) (Nat.lt_trans hg5w hsa)).trans hd1'
          have z2 := (b9.frozen (p := ⟨g5, k * 4 + 1, none⟩) (Nat.lt_trans hg5w hsa)).trans hf1'
          have z3 := (b9.cell (p := ⟨wr.heap.size, 0, none⟩) hsa).trans (show (wr.alloc (.cells #[.string xn, .string xv, .int .i64 (xf : Int), .int .i64 (xt : Int)] 29)).cell? ⟨wr.heap.size, 0, none⟩ = some (.string xn) by simp)
          have hown9 := hst _ (howna.below b9 (Nat.le_refl _))
          have hb9 := (hba2.trans (b9.mono hba2.size)).setCell (p := ⟨g5, k * 4 + 1, none⟩) hg5 (.string (V S))
          clear b9 hd1' hf1' howna hba2 hwin2
          go_wp2
          go_roundw
          case rel => exact ⟨k + 1, Q2, by omega, by go_num, hnl, hnx, hown9, hb9⟩
          case measure => simp [intOf]; omega
      · obtain rfl : k = F.length := by omega
        have hlt' : ¬ (F.length : Int) < (F.length : Int) := by omega
        have hQR : R = Q := by rw [HR2.out, HQ.out, List.take_length, List.drop_length, List.append_nil]
        have hB9 := B2.trans (hb.mono hB2)
        replace hQR := Lib.hid hQR
        go_wp2
        go_ret
        refine ⟨_, rfl, ?_, hB9⟩
        rw [hQR.out]
        exact ownk_mono hown hB2
end Go.Proofs.YtcigfmnkfelhjaaDoor
