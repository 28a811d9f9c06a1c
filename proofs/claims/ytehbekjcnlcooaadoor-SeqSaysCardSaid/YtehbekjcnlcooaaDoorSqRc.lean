/- Merged: SqK, SqRa, SqRb, SqRc. -/
import Derived.Test.YtehbekjcnlcooaaDoorSqS
import Derived.Test.YtehbekjcnlcooaaDoorSqM
import Derived.Test.YtehbekjcnlcooaaDoorSqX
import Derived.Lib.ItoaLen
import Derived.Lib.ItoaMem
import Derived.Deep.RegionWith
import Derived.Deep.DrawnRows
import Derived.Laws.BitsLemmas
import Derived.StillTailTactics
import Derived.Test.YtehbekjcnlcooaaDoorSqZ
import Derived.OneCell
import Derived.Deep.RegionHeld3
set_option linter.unusedVariables false
/- Plain mathematics: what the reference's functions on sequence sets do. -/
namespace Go.Proofs.YtehbekjcnlcooaaDoor
open Go.RowKit

/-! What the reference's functions do, plainly. -/
theorem splL_ne (c : UInt8) : ∀ l, splL c l ≠ []
  | [] => by simp [splL]
  | x :: l => by unfold splL; split <;> simp
theorem splL_sep (c : UInt8) : ∀ l, splL c (l ++ [c]) = splL c l ++ [[]]
  | [] => by simp [splL]
  | x :: l => by
    have ih := splL_sep c l
    rw [List.cons_append]
    by_cases h : x = c
    · rw [splL, if_pos h, splL, if_pos h, ih]; rfl
    · rw [splL, if_neg h, splL, if_neg h, ih]
      cases hq : splL c l with
      | nil => exact absurd hq (splL_ne c l)
      | cons y t => simp
theorem splL_char (c d : UInt8) (hd : d ≠ c) : ∀ (l : List UInt8) (zs : List (List UInt8)) (y : List UInt8), splL c l = zs ++ [y] → splL c (l ++ [d]) = zs ++ [y ++ [d]]
  | [], zs, y, h => by
    have h1 : zs = [] ∧ y = [] := by
      cases zs with
      | nil => simp [splL] at h; exact ⟨rfl, h⟩
      | cons a t => simp [splL] at h
    obtain ⟨rfl, rfl⟩ := h1
    simp [splL, hd]
  | x :: l, zs, y, h => by
    rw [List.cons_append]
    by_cases hx : x = c
    · rw [splL, if_pos hx] at h ⊢
      cases zs with
      | nil =>
        simp at h
        exact absurd h.2 (splL_ne c l)
      | cons a t =>
        simp at h
        rw [splL_char c d hd l t y h.2, ← h.1]
        rfl
    · rw [splL, if_neg hx] at h ⊢
      cases hq : splL c l with
      | nil => exact absurd hq (splL_ne c l)
      | cons a t =>
        rw [hq] at h
        simp only [List.headD_cons, List.tail_cons] at h
        rcases List.eq_nil_or_concat t with rfl | ⟨t', b, rfl⟩
        · have h2 := splL_char c d hd l [] a (by rw [hq]; rfl)
          rw [h2]
          cases zs with
          | nil => simp at h; subst h; simp
          | cons z zt => simp at h
        · rw [List.concat_eq_append] at hq h
          have h2 := splL_char c d hd l (a :: t') b (by rw [hq]; rfl)
          rw [h2]
          cases zs with
          | nil => simp at h
          | cons z zt =>
            have h3 : (x :: a) :: t' = z :: zt ∧ b = y := by
              have h' : ((x :: a) :: t') ++ [b] = (z :: zt) ++ [y] := h
              have := List.append_inj' h' rfl
              exact ⟨this.1, by simpa using this.2⟩
            obtain ⟨h4, rfl⟩ := h3
            injection h4 with h5 h6
            subst h5
            subst h6
            rfl
theorem splL_two (c : UInt8) (a b : List UInt8) (ha : c ∉ a) (hb : c ∉ b) : splL c (a ++ c :: b) = [a, b] := by
  rw [splL_hit c b a ha, splL_miss c b hb]
theorem splL_more (c : UInt8) (b : List UInt8) (hb : c ∈ b) : 2 ≤ (splL c b).length := by
  rcases byte_first c b with h | ⟨x, y, rfl, hx⟩
  · exact absurd hb h
  · rw [splL_hit c y x hx]
    have := splL_ne c y
    have : 0 < (splL c y).length := List.length_pos_iff.2 this
    simp
    omega
def numOkS (l : List UInt8) : Bool := decide (1 ≤ l.length ∧ l.length ≤ 10) && l.all digB
def numRS (l : List UInt8) : Nat := if numOkS l then valF l else 0
def oneV (l : List UInt8) : Int := if l = [42] then 0 else (numRS l : Int)
def oneB (l : List UInt8) : Bool := if l = [42] then true else (numOkS l && !(l.head? == some 48) && decide (valF l ≤ 4294967295))
theorem one_num (l : List UInt8) : oneB l = (numF l).2 ∧ ((numF l).2 = true → oneV l = (numF l).1) := by
  unfold oneB oneV numF numRS numOkS
  by_cases h : l = [42]
  · rw [if_pos h, if_pos h, if_pos h]; simp
  · rw [if_neg h, if_neg h, if_neg h]
    by_cases h2 : l.length = 0 ∨ 10 < l.length ∨ l.head? = some 48
    · rw [if_pos h2]
      refine ⟨?_, fun h => by cases h⟩
      rcases h2 with h2 | h2 | h2
      · rw [decide_eq_false (by omega)]; rfl
      · rw [decide_eq_false (by omega)]; rfl
      · rw [h2]; simp
    · rw [if_neg h2]
      have h3 : ¬ l.length = 0 ∧ ¬ 10 < l.length ∧ ¬ l.head? = some 48 := by
        refine ⟨fun h => h2 (.inl h), fun h => h2 (.inr (.inl h)), fun h => h2 (.inr (.inr h))⟩
      rw [decide_eq_true (by omega)]
      have h4 : (l.head? == some 48) = false := beq_eq_false_iff_ne.2 h3.2.2
      rw [h4]
      cases ha : l.all digB with
      | false => simp
      | true => simp
/-- An element by the reference: cut at colons. -/
def rOk (p : List UInt8) : Bool := decide ((splL 58 p).length ≤ 2) && oneB ((splL 58 p).headD []) && oneB ((splL 58 p).getLastD [])
theorem colon_no (b : List UInt8) (h : (58 : UInt8) ∈ b) : (numF b).2 = false := by
  unfold numF
  rw [if_neg (by rintro rfl; simp at h)]
  split
  · rfl
  · rw [if_neg]
    intro ha
    have := List.all_eq_true.1 ha 58 h
    revert this
    decide
theorem r_part (p : ByteArray) : rOk p.data.toList = partOk p ∧ (partOk p = true → (oneV ((splL 58 p.data.toList).headD []), oneV ((splL 58 p.data.toList).getLastD [])) = partS p) := by
  unfold rOk partOk partS
  rcases byte_first 58 p.data.toList with h | ⟨a, b, h, ha⟩
  · rw [splL_miss _ _ h, cut_miss _ _ h]
    obtain ⟨h1, h2⟩ := one_num p.data.toList
    simp only [List.length_cons, List.length_nil, List.headD_cons, List.getLastD_cons, List.getLastD_nil, Bool.false_eq_true, if_false]
    rw [h1]
    refine ⟨by simp, fun hk => ?_⟩
    have : (numF p.data.toList).2 = true := by simpa using hk
    rw [h2 this]
  · rw [h, cut_hit _ _ _ ha]
    obtain ⟨a1, a2⟩ := one_num a
    obtain ⟨b1, b2⟩ := one_num b
    simp only [if_true]
    by_cases hb : (58 : UInt8) ∈ b
    · rw [splL_hit _ _ _ ha]
      have hm := splL_more 58 b hb
      have hno := colon_no b hb
      rw [hno]
      refine ⟨by simp; omega, fun hk => by simp at hk⟩
    · rw [splL_two _ _ _ ha hb]
      simp only [List.length_cons, List.length_nil, List.headD_cons, List.getLastD_cons, List.getLastD_nil]
      rw [a1, b1]
      refine ⟨by simp, fun hk => ?_⟩
      simp only [Bool.and_eq_true] at hk
      rw [a2 hk.1, b2 hk.2]
end Go.Proofs.YtehbekjcnlcooaaDoor

/- The reference's Num, one, Digits, star, cut (chapters 1 and 9). -/
namespace Go.Proofs.YtehbekjcnlcooaaDoor
open Go.RowKit

theorem valF_small (l : List UInt8) (h : l.length ≤ 9) (hd : l.all digB = true) : valF l ≤ 1000000000 := by
  have h1 := valF_lt _ l rfl hd
  have h2 : 10 ^ l.length ≤ 10 ^ 9 := Nat.pow_le_pow_right (by omega) h
  omega
theorem numS_no (s : ByteArray) (k : Nat) (h : k < s.size) (hb : digB s[k] = false) : numOkS s.data.toList = false := by
  have hm : s[k] ∈ s.data.toList := by rw [← get_data s k (by simpa using h)]; exact List.getElem_mem _
  have : s.data.toList.all digB = false := by rw [List.all_eq_false]; exact ⟨_, hm, by simp [hb]⟩
  simp [numOkS, this]
theorem r_num (s : ByteArray) (w : World) (hs : s.size ≤ maxLen) :
    Calls Tryd.prog 44 #[.string s] w fun e w' => e = .returned (.tuple #[.int .i64 (numRS s.data.toList : Int), .bool (numOkS s.data.toList)]) ∧ w = w' := by
  unfold maxLen at hs
  by_cases h1 : (s.size : Int) < 1
  · have hno : numOkS s.data.toList = false := by unfold numOkS; rw [len_data]; simp; omega
    have HN := Lib.hid hno
    clear hno
    go_enter Tryd.func44, Tryd.ntmps44
    go_wp2
    go_ret2
    exact ⟨ret_tup2 (by unfold numRS; rw [HN.out]; rfl) (by rw [HN.out]; rfl), rfl⟩
  · by_cases h2 : (10 : Int) < (s.size : Int)
    · have hno : numOkS s.data.toList = false := by unfold numOkS; rw [len_data]; simp; omega
      have HN := Lib.hid hno
      clear hno
      go_enter Tryd.func44, Tryd.ntmps44
      go_wp2
      go_ret2
      exact ⟨ret_tup2 (by unfold numRS; rw [HN.out]; rfl) (by rw [HN.out]; rfl), rfl⟩
    · have hlen : 1 ≤ s.size ∧ s.size ≤ 10 := by omega
      obtain ⟨hl1, hl2⟩ := hlen
      go_enter Tryd.func44, Tryd.ntmps44
      go_wp2
      go_loop [4, 5] (fun n i => ∃ k : Nat, k ≤ s.size ∧ i = .int .i64 k ∧ n = .int .i64 (valF (s.data.toList.take k) : Int) ∧ Hid ((s.data.toList.take k).all digB = true)) (fun _ i => s.size - (intOf i).toNat)
      case atStart => exact ⟨0, Nat.zero_le _, rfl, rfl, rfl⟩
      case round =>
        obtain ⟨k, hk, rfl, rfl, HA⟩ := hrel
        by_cases hlt : k < s.size
        · have hb9 := valF_small (s.data.toList.take k) (by rw [List.length_take]; omega) HA.out
          have hns := Lib.hid (valF_snoc (s.data.toList.take k) s[k])
          have hts := Lib.hid (take_snoc s k hlt)
          by_cases hd : digB s[k] = true
          · have hr := of_decide_eq_true hd
            obtain ⟨hr1, hr2⟩ := hr
            have t1 : ¬ (s[k].toNat : Int) < 48 := by omega
            have t2 : ¬ (57 : Int) < (s[k].toNat : Int) := by omega
            have HD := Lib.hid hd
            clear hd
            generalize hN : valF (s.data.toList.take k) = N at *
            have HN := Lib.hid hN
            clear hN
            go_wp2
            go_round
            case rel =>
              refine ⟨k + 1, by omega, by go_num, ?_, ?_⟩
              · rw [hts.out, hns.out]
                congr 1
                omega
              · show _ = _
                rw [hts.out, List.all_append, HA.out]; simp [HD.out]
            case measure => simp [intOf]; omega
          · have hd' : digB s[k] = false := by simpa using hd
            have hno := Lib.hid (numS_no s k hlt hd')
            have hc : (s[k].toNat : Int) < 48 ∨ ¬ (s[k].toNat : Int) < 48 ∧ (57 : Int) < (s[k].toNat : Int) := by
              unfold digB at hd'
              have := of_decide_eq_false hd'
              omega
            clear hd hd'
            rcases hc with hc | ⟨hc1, hc2⟩
            · go_wp2
              go_ret2
              exact ⟨ret_tup2 (by unfold numRS; rw [hno.out]; rfl) (by rw [hno.out]; rfl), rfl⟩
            · go_wp2
              go_ret2
              exact ⟨ret_tup2 (by unfold numRS; rw [hno.out]; rfl) (by rw [hno.out]; rfl), rfl⟩
        · obtain rfl : k = s.size := by omega
          have hok : numOkS s.data.toList = true := by
            have h := HA.out
            rw [take_all] at h
            unfold numOkS; rw [len_data, h]; simp; omega
          have HO := Lib.hid hok
          clear hok
          go_wp2
          go_ret2
          exact ⟨ret_tup2 (by unfold numRS; rw [HO.out, take_all]; rfl) (by rw [HO.out]; rfl), rfl⟩
theorem add_plain_i (b o i : Nat) : (⟨b, o, none⟩ : Addr).add i = ⟨b, o + i, none⟩ := by unfold Addr.add; split <;> simp_all
theorem conv_one (x : UInt8) (n : Int) (hn : n = (x.toNat : Int)) (W : World) (g : Nat) (h : W.cell? ⟨g, 0, none⟩ = some (.int .u8 n)) :
    (convert 70 9 (.slice (some ⟨g, 0, none⟩) 1 1)).run Tryd.prog W = .ok (.string ⟨#[x]⟩) W := by
  subst hn
  have := run_convert_bytes_back (P := Tryd.prog) W 70 9 5 ⟨g, 0, none⟩ 1 [x] Tryd.underlying70 Tryd.underlying5 Tryd.underlying9 (fun j hj => by
    have : j < 1 := hj
    match j, this with
    | 0, _ => rw [add_plain_i]; exact h)
  exact this
theorem dig_byte (r : Nat) (h : r < 10) : (48 : Int) + (r : Int) = ((UInt8.ofNat (48 + r)).toNat : Int) := by
  rw [UInt8.toNat_ofNat', Nat.mod_eq_of_lt (by omega)]; omega

set_option linter.unusedSimpArgs false
theorem cellL (w : World) (cs : Array Value) (t : TypeId) (fz : Nat × Nat) (g i : Nat) : (w.alloc (.cells cs t fz)).cell? ⟨g, i, none⟩ = if g = w.heap.size then cs[i]? else w.cell? ⟨g, i, none⟩ := by
  by_cases h : g = w.heap.size
  · rw [if_pos h]; subst h; simp [World.cell?, World.alloc, -World.alloc_eq]
  · rw [if_neg h]; simp [World.cell?, World.alloc, -World.alloc_eq, Array.getElem?_push, h]
theorem drewL (w : World) (p : Addr) : w.drew.cell? p = w.cell? p := rfl
theorem sizeL (w : World) (o : Obj) : (w.alloc o).heap.size = w.heap.size + 1 := by simp
theorem sizeD (w : World) : w.drew.heap.size = w.heap.size := rfl
theorem dig_cell {f : FuncId} {args : Array Value} {v : Value} (W : World) (g : Nat) (X : Value) (h : W.cell? ⟨g, 0, none⟩ = some X) (hc : Calls Tryd.prog f args W fun e w' => e = .returned v ∧ Below W.heap.size W w') :
    Calls Tryd.prog f args W fun e w' => e = .returned v ∧ Below W.heap.size W w' ∧ w'.cell? ⟨g, 0, none⟩ = some X :=
  hc.mono fun e w' ⟨h1, h2⟩ => ⟨h1, h2, (h2.cell (p := ⟨g, 0, none⟩) (World.block_lt_of_cell? W _ h)).trans h⟩
attribute [local go_sem ↓] Go.wp_at_zero Go.wp_at_succ
set_option maxRecDepth 100000 in
set_option maxHeartbeats 2000000 in
theorem r_digits : ∀ (k n : Nat), n ≤ k → n ≤ 1000000000000 → ∀ w : World,
    Calls Tryd.prog 45 #[.int .i64 (n : Int)] w fun e w' => e = .returned (.string ⟨(Lib.decDigits n).toArray⟩) ∧ Below w.heap.size w w' := by
  intro k
  induction k with
  | zero =>
    intro n hn hm w
    obtain rfl : n = 0 := by omega
    have hk := conv_one 48 48 rfl
    go_enter Tryd.func45, Tryd.ntmps45
    go_wp2
    go_ret
    exact ⟨by rw [Lib.decDigits_one (by decide)]; rfl, (Below.refl w.heap.size w).alloc (Nat.le_refl _) _⟩
  | succ k ih =>
    intro n hn hm w
    by_cases h10 : n < 10
    · have h10' : (n : Int) < 10 := by omega
      obtain ⟨x, HX, hk⟩ : ∃ x, Hid (x = UInt8.ofNat (48 + n)) ∧ ∀ (W : World) (g : Nat) (h : W.cell? ⟨g, 0, none⟩ = some (.int .u8 (48 + n))), (convert 70 9 (.slice (some ⟨g, 0, none⟩) 1 1)).run Tryd.prog W = .ok (.string ⟨#[x]⟩) W := ⟨_, rfl, conv_one (UInt8.ofNat (48 + n)) (48 + n) (dig_byte n h10)⟩
      go_enter Tryd.func45, Tryd.ntmps45
      go_wp2
      go_ret
      exact ⟨by rw [Lib.decDigits_one h10, HX.out]; rfl, (Below.refl w.heap.size w).alloc (Nat.le_refl _) _⟩
    · have h10' : ¬ (n : Int) < 10 := by omega
      obtain ⟨m, r, hr, HM, d1, d2, d3, d4, hm'⟩ : ∃ m r : Nat, r < 10 ∧ Hid (n / 10 = m ∧ n % 10 = r) ∧ (n : Int) / 10 = (m : Int) ∧ Int.tdiv (n : Int) 10 = (m : Int) ∧ (n : Int) % 10 = (r : Int) ∧ Int.tmod (n : Int) 10 = (r : Int) ∧ m ≤ k := by
        refine ⟨n / 10, n % 10, Nat.mod_lt _ (by decide), ⟨rfl, rfl⟩, by omega, ?_, by omega, ?_, by omega⟩
        · rw [Int.tdiv_eq_ediv_of_nonneg (by omega)]; omega
        · rw [Int.tmod_eq_emod_of_nonneg (by omega)]; omega
      have hc := ih m hm' (by omega)
      obtain ⟨x, HX, hk⟩ : ∃ x, Hid (x = UInt8.ofNat (48 + r)) ∧ ∀ (W : World) (g : Nat) (h : W.cell? ⟨g, 0, none⟩ = some (.int .u8 (48 + r))), (convert 70 9 (.slice (some ⟨g, 0, none⟩) 1 1)).run Tryd.prog W = .ok (.string ⟨#[x]⟩) W := ⟨_, rfl, conv_one (UInt8.ofNat (48 + r)) (48 + r) (dig_byte r hr)⟩
      have HD : Hid (Lib.decDigits n = Lib.decDigits m ++ [x]) := by
        show _ = _
        rw [HX.out, Lib.decDigits, dif_neg h10, HM.out.1, HM.out.2]
      have q1 : IntKind.i64.wrap (m : Int) = m := by rw [IntKind.wrap_i64]; omega
      have q2 : IntKind.i64.wrap (48 + (r : Int)) = 48 + r := by rw [IntKind.wrap_i64]; omega
      have q3 : IntKind.u8.wrap (48 + (r : Int)) = 48 + r := by rw [IntKind.wrap_u8]; omega
      have hdl : (Lib.decDigits m).length ≤ 20 := by
        rw [Lib.decDigits_length]; exact Lib.nDigits_le20 m (by omega)
      generalize Lib.decDigits m = D at *
      have g3 : (IntKind.i64.max < (D.length : Int) + 1) = False := by simp [IntKind.max, IntKind.bits, IntKind.signed]; omega
      have HCC := Lib.hid hc
      clear ih hc
      go_enter Tryd.func45, Tryd.ntmps45
      go_wp2_with fail
      go_region_with (first
        | (go_at_call 45; with_reducible refine (dig_cell _ w.heap.size (.int .u8 (48 + (r : Int))) ?_ (HCC.out _)).mono ?_; (focus (simp only [cellL, drewL, sizeL, sizeD]; first | (simp; done) | (simp; omega))); rintro e w5 ⟨rfl, b5, hq⟩)
        | (go_at_call 45; with_reducible refine (HCC.out _).mono ?_; rintro e w5 ⟨rfl, b5⟩))
      all_goals
        go_wp2
        go_ret
        refine ⟨ret_str (by rw [HD.out]; apply ByteArray.ext; simp [ByteArray.data_append]), ?_⟩
        first
          | exact (Below.drew (Below.refl w.heap.size w)).trans b5 |>.alloc (((Below.drew (Below.refl w.heap.size w)).trans b5).size) _
          | exact (((Below.refl w.heap.size w).alloc (Nat.le_refl _) _).drew).trans (b5.mono (by simp))
          | exact (((Below.refl w.heap.size w).alloc (Nat.le_refl _) _)).trans (b5.mono (by simp))

theorem one_r (s : ByteArray) (w : World) (hs : s.size ≤ 1000000) :
    Calls Tryd.prog 31 #[.string s] w fun e w' => e = .returned (.tuple #[.int .i64 (oneV s.data.toList), .bool (oneB s.data.toList)]) ∧ w' = w := by
  by_cases h42 : s.data.toList = [42]
  · have hv : oneV s.data.toList = 0 := by unfold oneV; rw [if_pos h42]
    have hb : oneB s.data.toList = true := by unfold oneB; rw [if_pos h42]
    have e1 : (s.toList == [42]) = true := by rw [toList_data, h42]; rfl
    rw [hv, hb]
    clear hv hb h42
    go_enter Tryd.func31, Tryd.ntmps31
    go_wp2
    go_ret2
    exact ⟨rfl, rfl⟩
  · have e1 : (s.toList == [42]) = false := by rw [toList_data]; simpa using h42
    have hv : oneV s.data.toList = (numRS s.data.toList : Int) := by unfold oneV; rw [if_neg h42]
    have hb : oneB s.data.toList = (numOkS s.data.toList && !(s.data.toList.head? == some 48) && decide (valF s.data.toList ≤ 4294967295)) := by unfold oneB; rw [if_neg h42]
    have hn := fun W => r_num s W (by unfold maxLen; omega)
    rw [hv, hb]
    have hval : numOkS s.data.toList = true → numRS s.data.toList = valF s.data.toList := fun h => by unfold numRS; rw [if_pos h]
    have hsz : numOkS s.data.toList = true → 0 < s.size := fun h => by
      unfold numOkS at h
      simp only [Bool.and_eq_true, decide_eq_true_eq] at h
      have := h.1.1
      rw [len_data] at this
      exact this
    have hhd : ∀ h : 0 < s.size, (s.data.toList.head? == some 48) = ((s[0].toNat : Int) == 48) := fun h => by
      rw [List.head?_eq_getElem?, List.getElem?_eq_getElem (by rw [len_data]; exact h), Bool.eq_iff_iff, beq_iff_eq, beq_iff_eq, Option.some_inj]
      constructor
      · intro h; have h2 : s[0] = 48 := h; rw [h2]; rfl
      · intro h; exact UInt8.toNat_inj.1 (by have h2 : (s.data.toList[0]'(by rw [len_data]; assumption)) = s[0] := rfl; rw [h2]; have : (48 : UInt8).toNat = 48 := rfl; omega)
    clear hv hb h42
    generalize numRS s.data.toList = v at *
    generalize valF s.data.toList = v2 at *
    cases hq : numOkS s.data.toList with
    | false =>
      rw [hq] at hn
      have hr : (false && !(s.data.toList.head? == some 48) && decide (v2 ≤ 4294967295)) = false := rfl
      rw [hr]
      clear hq hval hsz hhd hr
      go_enter Tryd.func31, Tryd.ntmps31
      go_wp2_with ((with_reducible refine (hn _).mono ?_))
      first | (rintro _ w1 rfl rfl) | (rintro _ w1 ⟨rfl, rfl⟩) | skip
      go_wp2
      go_ret2
      exact ⟨rfl, rfl⟩
    | true =>
      rw [hq] at hn
      have hpos := hsz hq
      have e9 : (0 : Int) < (s.size : Int) := by omega
      obtain rfl := hval hq
      rw [hhd hpos]
      clear hq hval hsz hhd
      cases t1 : ((s[0].toNat : Int) == 48) with
      | true =>
        have t2 : ((s[0].toNat : Int) != 48) = false := by simp only [bne, t1, Bool.not_true]
        go_enter Tryd.func31, Tryd.ntmps31
        go_wp2_with ((with_reducible refine (hn _).mono ?_))
        first | (rintro _ w1 rfl rfl) | (rintro _ w1 ⟨rfl, rfl⟩) | skip
        go_wp2
        go_ret2
        exact ⟨rfl, rfl⟩
      | false =>
        have t2 : ((s[0].toNat : Int) != 48) = true := by simp only [bne, t1, Bool.not_false]
        have hd : decide (v ≤ 4294967295) = decide ((v : Int) ≤ 4294967295) := by rw [Bool.eq_iff_iff, decide_eq_true_iff, decide_eq_true_iff]; omega
        rw [hd]
        clear hd
        go_enter Tryd.func31, Tryd.ntmps31
        go_wp2_with ((with_reducible refine (hn _).mono ?_))
        first | (rintro _ w1 rfl rfl) | (rintro _ w1 ⟨rfl, rfl⟩) | skip
        go_wp2
        go_ret2
        exact ⟨rfl, rfl⟩
theorem star_r (n : Int) (h0 : 0 ≤ n) (h1 : n ≤ 4294967295) (w : World) :
    Calls Tryd.prog 33 #[.int .i64 n] w fun e w' => e = .returned (.string ⟨(showN n).toArray⟩) ∧ Below w.heap.size w w' := by
  by_cases h : n = 0
  · have hr : showN n = [42] := by unfold showN; rw [if_pos h]
    subst h
    rw [hr]
    go_enter Tryd.func33, Tryd.ntmps33
    go_wp2
    go_ret
    exact ⟨rfl, Below.refl _ w⟩
  · have hb : (n == 0) = false := by simpa using h
    obtain ⟨u, rfl⟩ : ∃ u : Nat, n = u := ⟨n.toNat, by omega⟩
    have hr : showN (u : Int) = Lib.decDigits u := by unfold showN; rw [if_neg h, Lib.itoa_nonneg]
    have hc := fun W => r_digits u u (Nat.le_refl _) (by omega) W
    rw [hr]
    clear hr h
    go_enter Tryd.func33, Tryd.ntmps33
    go_wp2_with ((with_reducible refine (hc _).mono ?_))
    first | (rintro _ w1 rfl b1) | (rintro _ w1 ⟨rfl, b1⟩)
    go_wp2
    go_ret
    exact ⟨rfl, b1⟩
end Go.Proofs.YtehbekjcnlcooaaDoor

/- The reference's cut (chapter 9). -/
namespace Go.Proofs.YtehbekjcnlcooaaDoor
open Go.RowKit

def mkB (l : List UInt8) : ByteArray := ⟨l.toArray⟩
/-- A row of strings whose last is y: where it lies. -/
theorem last_str {w : World} {B : Nat} {v : Value} {zs : List ByteArray} {y : ByteArray} (h : SlR StrR 9 1 w B v (zs ++ [y])) :
    ∃ g cap, v = .slice (some ⟨g, 0, none⟩) (zs.length + 1) cap ∧ zs.length + 1 ≤ cap ∧ cap ≤ maxLen ∧ B ≤ g ∧ g < w.heap.size ∧ w.cell? ⟨g, zs.length, none⟩ = some (.string y) ∧ w.frozen? ⟨g, zs.length, none⟩ = false ∧
      ∀ n : ByteArray, n.size ≤ maxLen → SlR StrR 9 1 (w.setCell ⟨g, zs.length, none⟩ (.string n)) B v (zs ++ [n]) := by
  obtain ⟨A, cap, hv, h1, h2, h3⟩ := h.shape
  obtain ⟨g, rfl, hg⟩ := h3 (by simp)
  have hl : (zs ++ [y]).length = zs.length + 1 := by simp
  rw [hl] at hv h1
  subst hv
  obtain ⟨cs, k1, k2, k3⟩ := h.at_ zs.length (by simp)
  have e : (zs ++ [y])[zs.length] = y := by simp
  rw [e] at k1
  obtain ⟨rfl, k5⟩ := k1
  have k4 := k3 0 (by simp)
  rw [Nat.one_mul, Nat.add_zero] at k4
  have hlt := World.block_lt_of_cell? w _ k4
  refine ⟨g, cap, rfl, h1, h2, hg, hlt, k4, ?_, fun n hn => ?_⟩
  · obtain ⟨cells, ⟨_, ⟨hv, _⟩ | ⟨g', cap', cur, hv, _, hh, _⟩⟩, _⟩ := h
    · cases hv
    · injection hv with e1
      injection e1 with e1
      injection e1 with e1
      subst e1
      simp [World.frozen?, hh]
  · have h5 := SlR.setEl h zs.length 0 (by simp) (by decide) (.string n) n (fun cs x w' h => h) (fun cs w' h6 h7 => by
      obtain ⟨h8, _⟩ := h6
      rw [h8]
      exact ⟨rfl, hn⟩)
    have e2 : (zs ++ [y]).set zs.length n = zs ++ [n] := by simp
    rw [e2, Nat.mul_one, Nat.add_zero] at h5
    exact h5
theorem lit_str (w : World) (x : ByteArray) (hx : x.size ≤ maxLen) : SlR StrR 9 1 (w.alloc (.cells #[.string x] 9)) w.heap.size (.slice (some ⟨w.heap.size, 0, none⟩) 1 1) [x] :=
  ⟨[.string x], ⟨by simp, .inr ⟨w.heap.size, 1, #[.string x], rfl, Nat.le_refl _, heap_alloc_new _ _, Nat.le_refl _, by decide, by simp, by simp⟩⟩, by simp, fun i hi => by
    match i, hi with
    | 0, _ => exact ⟨rfl, hx⟩⟩
theorem splL_mem (c : UInt8) : ∀ (n : Nat) (l p : List UInt8), l.length ≤ n → p ∈ splL c l → p.length ≤ l.length := fun n => by
  induction n with
  | zero =>
    intro l p h hp
    obtain rfl := List.eq_nil_of_length_eq_zero (Nat.le_zero.1 h)
    simp [splL] at hp
    simp [hp]
  | succ n ih =>
    intro l p h hp
    rcases byte_first c l with h1 | ⟨a, b, rfl, h1⟩
    · rw [splL_miss c l h1] at hp
      simp at hp
      rw [hp]
      exact Nat.le_refl _
    · rw [splL_hit c b a h1] at hp
      simp at h ⊢
      rcases List.mem_cons.1 hp with rfl | hp
      · omega
      · have := ih b p (by omega) hp
        omega
theorem ext_one (s : ByteArray) (k : Nat) (h : k < s.size) : (s.extract k (k + 1)).data.toList = [s[k]] := by
  rw [ByteArray.data_extract, Array.toList_extract, List.extract_eq_take_drop, List.drop_eq_getElem_cons (by rw [len_data]; exact h)]
  rw [show k + 1 - k = 1 by omega]
  rfl
def CutPost (L : List ByteArray) (w : World) (e : Ending) (w' : World) : Prop := ∃ v, e = .returned v ∧ SlR StrR 9 1 w' w.heap.size v L ∧ Below w.heap.size w w'

set_option maxRecDepth 100000 in
set_option maxHeartbeats 2000000 in
theorem cut_r (c : UInt8) (s : ByteArray) (w : World) (hs : s.size ≤ 1000000) :
    Calls Tryd.prog 30 #[.string s, .int .u8 (c.toNat : Int)] w (CutPost ((splL c s.data.toList).map mkB) w) := by
  obtain ⟨i0, hi0, hz0, hz1, hz2⟩ := info_parts strInfo
  have HS := Lib.hid (lit_str w ByteArray.empty (by decide))
  have hal : Below w.heap.size w (w.alloc (.cells #[.string ByteArray.empty] 9)) := (Below.refl _ w).alloc (Nat.le_refl _) _
  have hc8 := c.toNat_lt
  go_enter Tryd.func30, Tryd.ntmps30
  go_wp2
  go_loopw [5, 6] (fun v i wr => ∃ k : Nat, k ≤ s.size ∧ i = .int .i64 (k : Int) ∧ Below w.heap.size w wr ∧ SlR StrR 9 1 wr w.heap.size v ((splL c (s.data.toList.take k)).map mkB)) (fun _ i _ => s.size - (intOf i).toNat)
  case atStart => exact ⟨0, Nat.zero_le _, rfl, hal, HS.out⟩
  case round =>
    obtain ⟨k, hk, rfl, hB, hs5⟩ := hrel
    have hsz := hB.size
    by_cases hlt : k < s.size
    · have e1 : (k : Int) < (s.size : Int) := by omega
      have hfl := splL_len c _ (s.data.toList.take k) (Nat.le_refl _)
      have hne := splL_ne c (s.data.toList.take k)
      rw [List.length_take, len_data] at hfl
      have HT := Lib.hid (take_snoc s k hlt)
      have hx8 := s[k].toNat_lt
      have heq : (s[k] == c) = ((s[k].toNat : Int) == (c.toNat : Int)) := by
        rw [Bool.eq_iff_iff, beq_iff_eq, beq_iff_eq]
        constructor
        · intro h; rw [h]
        · intro h; exact UInt8.toNat_inj.1 (by omega)
      have HE := Lib.hid heq
      clear heq
      cases t1 : ((s[k].toNat : Int) == (c.toNat : Int)) with
      | true =>
        have HN : Hid ((splL c (s.data.toList.take (k + 1))).map mkB = (splL c (s.data.toList.take k)).map mkB ++ [ByteArray.empty]) := by
          show _ = _
          have hh : s[k] = c := by have := HE.out; rw [t1] at this; simpa using this
          rw [HT.out, hh, splL_sep, List.map_append]
          rfl
        obtain ⟨cells, how, hel⟩ := hs5
        have hml : ((splL c (s.data.toList.take k)).map mkB).length ≤ k + 1 := by rw [List.length_map]; omega
        generalize (splL c (s.data.toList.take k)).map mkB = ys at how hel hml HN
        have h63 : ys.length + 1 ≤ maxLen := by unfold maxLen; omega
        have h47 : (ys.length + 1) * 16 ≤ 140737488355328 := by omega
        have how1 := how.alloc (.cells #[.string ByteArray.empty] 9)
        have hel1 := hel.below StrR.keeps ((Below.refl _ wr).alloc (Nat.le_refl _) (.cells #[.string ByteArray.empty] 9)) (Nat.le_refl _)
        have hB5 := hB.alloc hsz (.cells #[.string ByteArray.empty] 9)
        have hnc : ∀ j u, [Value.string ByteArray.empty][j]? = some u → (wr.alloc (.cells #[.string ByteArray.empty] 9)).cell? ((⟨wr.heap.size, 0, none⟩ : Addr).add j) = some u := World.news_of_block (cs := #[.string ByteArray.empty]) (t := 9) (fr := (0, 0)) (heap_alloc_new wr _)
        clear hfl hne
        go_wp2_with (at_builtin; refine wpList_append_own _ rfl _ _ 51 rfl w.heap.size 9 i0 (.string ByteArray.empty) 1 16 Tryd.underlying51 hi0 hz0 hz1 hz2 rfl (by decide) _ ys.length cells rfl how1 ⟨wr.heap.size, 0, none⟩ 1 1 [.string ByteArray.empty] rfl rfl hnc (by intro u hu; simp at hu; subst hu; rfl) h63 h47 hB5.size ?_)
        intro v5 w5 hown5 g5 _
        have hs6 := SlR.push StrR.keepsRow how1 hel1 rfl (show StrR _ [.string ByteArray.empty] ByteArray.empty from ⟨rfl, by decide⟩) hown5 g5
        have hB6 := hB5.grown g5 hB5.size (fun k hk => (how1.lt k hk).1)
        clear how how1 hel hel1 hown5 g5 hnc hB5
        go_wp2
        go_roundw
        case rel =>
          refine ⟨k + 1, by omega, by go_num, hB6, ?_⟩
          rw [HN.out]
          exact hs6
        case measure => simp [intOf]; omega
      | false =>
        have hd : s[k] ≠ c := by
          have h := HE.out
          rw [t1] at h
          simpa using h
        rcases List.eq_nil_or_concat (splL c (s.data.toList.take k)) with hq | ⟨zs, y, hq⟩
        · exact absurd hq hne
        rw [List.concat_eq_append] at hq
        have HN : Hid ((splL c (s.data.toList.take (k + 1))).map mkB = zs.map mkB ++ [mkB (y ++ [s[k]])]) := by
          show _ = _
          rw [HT.out, splL_char c s[k] hd _ zs y hq, List.map_append]
          rfl
        rw [hq, List.map_append] at hs5
        rw [hq] at hfl
        have hys : y.length ≤ 1000000 := by
          have := splL_mem c _ _ y (Nat.le_refl _) (by rw [hq]; simp)
          rw [List.length_take, len_data] at this
          omega
        have hyz : (mkB y).size = y.length := by unfold mkB; show y.toArray.size = _; simp
        have HY : Hid (mkB y ++ s.extract k (k + 1) = mkB (y ++ [s[k]])) := by
          show _ = _
          apply ByteArray.ext
          rw [ByteArray.data_append]
          apply Array.toList_inj.1
          rw [Array.toList_append, ext_one s k hlt]
          rfl
        obtain ⟨g, cap, rfl, q1, q2, hg, hgl, qc, qf, hset⟩ := last_str hs5
        have hm2 : cap ≤ 9223372036854775807 := q2
        rw [List.length_map] at q1 qc qf hset ⊢
        have hzl : zs.length + 1 ≤ 1000001 := by simp at hfl; omega
        have z1 : (0 : Int) ≤ (zs.length : Int) := Int.natCast_nonneg _
        have hset2 := Lib.hid (hset (mkB (y ++ [s[k]])) (by unfold mkB maxLen; show (y ++ [s[k]]).toArray.size ≤ _; simp; omega))
        have e3 : (k : Int) + 1 ≤ (s.size : Int) := by omega
        have w1 : IntKind.i64.wrap (zs.length : Int) = (zs.length : Int) := by rw [IntKind.wrap_i64]; omega
        have w2 : IntKind.i64.wrap ((k : Int) + 1) = (k : Int) + 1 := by rw [IntKind.wrap_i64]; omega
        have e4 : (k : Int) ≤ (k : Int) + 1 := by omega
        have e5 : (zs.length : Int) < (zs.length : Int) + 1 := by omega
        rw [← hyz] at hys
        clear hyz
        generalize mkB y = Y at *
        have hDz : (s.extract k (k + 1)).size ≤ 1 := by rw [ByteArray.size_extract]; omega
        obtain ⟨D, hD⟩ : ∃ D, s.extract k (k + 1) = D := ⟨_, rfl⟩
        rw [hD] at HY hDz
        have kn : (9223372036854775807 < Y.size + D.size) = False := by simp; omega
        have ki : (IntKind.i64.max < (Y.size : Int) + (D.size : Int)) = False := by simp [IntKind.max, IntKind.bits, IntKind.signed]; omega
        clear hset hfl hne hd hq hs5
        go_wp2_with fail
        go_still_tail 17, (by kernel_rfl)
        change wpList _ _ _ _ _ wr.drew
        go_wp2
        go_roundw
        case rel =>
          refine ⟨k + 1, by omega, by go_num, (hB.setCell (p := ⟨g, zs.length, none⟩) hg _).drew, ?_⟩
          rw [HN.out, ← HY.out]
          have h9 := hset2.out
          rw [← HY.out] at h9
          exact h9
        case measure => simp [intOf]; omega
    · obtain rfl : k = s.size := by omega
      rw [take_all] at hs5
      go_wp2
      go_ret
      exact ⟨_, rfl, hs5, hB⟩
end Go.Proofs.YtehbekjcnlcooaaDoor

/- The reference's ParseSet (chapter 9). -/
set_option linter.unusedSimpArgs false
namespace Go.Proofs.YtehbekjcnlcooaaDoor
open Go.RowKit

theorem frozen_new1 (w : World) (cs : Array Value) (e : TypeId) : (w.alloc (.cells cs e)).frozen? ⟨w.heap.size, 0, none⟩ = false := by
  unfold World.frozen?
  rw [heap_alloc_new]
  rfl
theorem parts_spl (s : ByteArray) : partsS s = (splL 44 s.data.toList).map mkB := by
  unfold partsS
  rw [splitB_splL 44 _ _ (Nat.le_refl _)]
  rfl
def SetPost (F : List (Int × Int) × Int) (w : World) (e : Ending) (w' : World) : Prop := ∃ A cap, e = .returned (.tuple #[.agg #[.slice A F.1.length cap], .int .i64 F.2]) ∧ RdR SpR 2 w' A F.1 ∧ F.1.length ≤ cap ∧ cap ≤ maxLen ∧ Below w.heap.size w w'
theorem str_cell {w : World} {b o : Nat} {l : List ByteArray} (h : RdR StrR 1 w (some ⟨b, o, none⟩) l) (i : Nat) (hi : i < l.length) : w.cell? ⟨b, o + i, none⟩ = some (.string l[i]) := by
  obtain ⟨b', o', v, hA, h1, h2⟩ := h.one i hi
  cases hA
  obtain ⟨h3, _⟩ := h1
  cases h3
  exact h2
def OnePost (v : Int) (b : Bool) (w : World) (e : Ending) (w' : World) : Prop := e = .returned (.tuple #[.int .i64 v, .bool b]) ∧ w = w'
theorem one_l (x : List UInt8) (w : World) (hx : x.length ≤ 1000000) : Calls Tryd.prog 31 #[.string (mkB x)] w (OnePost (oneV x) (oneB x) w) :=
  (one_r (mkB x) w (by unfold mkB; show x.toArray.size ≤ _; simpa using hx)).mono fun e w' ⟨h1, h2⟩ => ⟨h1, h2.symm⟩
theorem cut_p (c : UInt8) (n : Int) (hn : (c.toNat : Int) = n) (s : ByteArray) (w : World) (hs : s.size ≤ 1000000) : Calls Tryd.prog 30 #[.string s, .int .u8 n] w (CutPost ((splL c s.data.toList).map mkB) w) := by
  subst hn
  exact cut_r c s w hs

set_option maxRecDepth 100000 in
set_option maxHeartbeats 4000000 in
theorem parse_r (s : ByteArray) (w : World) (hs : s.size ≤ 1000000) (hL : (partsS s).length ≤ 1000001) : Calls Tryd.prog 12 #[.string s] w (SetPost (parseF s) w) := by
  obtain ⟨i0, hi0, hz0, hz1, hz2⟩ := info_parts rspanInfo
  have hsp := fun W => cut_p 44 44 rfl s W hs
  rw [← parts_spl] at hsp
  have hpz : ∀ i (h : i < (partsS s).length), (partsS s)[i].size ≤ 1000000 := fun i h => Nat.le_trans (splitB_size _ _ s _ (List.getElem_mem h)) hs
  have HF := Lib.hid (show parseF s = if (partsS s).all partOk then (if 100 < (partsS s).length then ([], 2) else ((partsS s).map partS, 0)) else ([], 3) from rfl)
  have hP : ∀ (l : List (Int × Int)) (c : Int), parseF s = (l, c) → ∀ e w', (∃ A cap, e = .returned (.tuple #[.agg #[.slice A l.length cap], .int .i64 c]) ∧ RdR SpR 2 w' A l ∧ l.length ≤ cap ∧ cap ≤ maxLen ∧ Below w.heap.size w w') → SetPost (parseF s) w e w' := fun l c h e w' hh => by
    unfold SetPost
    rw [h]
    exact hh
  have HP := Lib.hid hP
  have HZ := Lib.hid hpz
  have hpos : 0 < (partsS s).length := by rw [parts_spl, List.length_map]; exact List.length_pos_iff.2 (splL_ne 44 _)
  generalize partsS s = L at hsp HF HZ hL hpos
  generalize SetPost (parseF s) w = Post at HP ⊢
  clear hP hpz
  obtain ⟨W, hW⟩ : ∃ W, W = (w.alloc (.cells #[.slice none 0 0] 34)).alloc (.cells #[.slice none 0 0] 34) := ⟨_, rfl⟩
  have hb0 : Below w.heap.size w W := hW ▸ ((Below.refl _ w).alloc (Nat.le_refl _) _).alloc (by simp) _
  have hsW : W.heap.size = w.heap.size + 2 := by rw [hW]; simp
  have q1 : W.cell? ⟨w.heap.size, 0, none⟩ = some (.slice none 0 0) := hW ▸ (keep0 _ _ _ (by simp)).trans (new0 w _ _ _)
  have q2 : W.cell? ⟨w.heap.size + 1, 0, none⟩ = some (.slice none 0 0) := by
    rw [hW]
    simp
  have g1 : W.frozen? ⟨w.heap.size, 0, none⟩ = false := by
    rw [hW]
    exact ((bcell ((Below.refl _ _).alloc (Nat.le_refl _) _)).2 w.heap.size 0 (by simp)).trans (by simp)
  have g2 : W.frozen? ⟨w.heap.size + 1, 0, none⟩ = false := by
    have h9 := frozen_new1 (w.alloc (.cells #[.slice none 0 0] 34)) #[.slice none 0 0] 34
    have e9 : (w.alloc (.cells #[.slice none 0 0] 34)).heap.size = w.heap.size + 1 := by simp
    rw [e9] at h9
    rw [hW]
    exact h9
  have hspW := hsp W
  rw [hW] at hspW
  go_enter Tryd.func12, Tryd.ntmps12
  go_wp2_with ((with_reducible refine hspW.mono ?_))
  rw [← hW]
  have HW := Lib.hid hW
  clear hspW hW
  rintro _ w1 ⟨v5, rfl, hs5, b1⟩
  obtain ⟨A5, cap5, rfl, h51, h52, hsh⟩ := id hs5.shape
  obtain ⟨g5, rfl, hg5⟩ := hsh hpos
  obtain ⟨A6, cap6, hv6, _, _, hr5⟩ := hs5.rdq (by decide)
  injection hv6 with e61 _ e63
  subst e61
  subst e63
  have h52' : cap5 ≤ 9223372036854775807 := h52
  have hsz1 := b1.size
  have hB1 := hb0.trans (b1.mono hb0.size)
  have hg5' : g5 < w1.heap.size := by
    obtain ⟨b', o', hA, hlt, _⟩ := hr5 hpos
    cases hA
    exact hlt
  have kr1 : ∀ i (h : i < L.length), w1.cell? ⟨g5, i, none⟩ = some (.string L[i]) := fun i h => by
    have := str_cell hr5 i h
    rwa [Nat.zero_add] at this
  have KR1 := Lib.hid kr1
  have k1 := (b1.cell (p := ⟨w.heap.size, 0, none⟩) (show w.heap.size < W.heap.size by omega)).trans q1
  have k2 := (b1.cell (p := ⟨w.heap.size + 1, 0, none⟩) (show w.heap.size + 1 < W.heap.size by omega)).trans q2
  have f1 := ((bcell b1).2 w.heap.size 0 (by omega)).trans g1
  have f2 := ((bcell b1).2 (w.heap.size + 1) 0 (by omega)).trans g2
  clear q1 q2 g1 g2 hs5 hb0 kr1 hr5 hsh hsp
  go_wp2
  go_loopw [6] (fun i wr => ∃ (k : Nat) (uv : Value), k ≤ L.length ∧ i = .int .i64 (k : Int) ∧ Below w.heap.size w wr ∧ (∃ u, wr.cell? ⟨w.heap.size, 0, none⟩ = some u) ∧ wr.frozen? ⟨w.heap.size, 0, none⟩ = false ∧ wr.cell? ⟨w.heap.size + 1, 0, none⟩ = some uv ∧ wr.frozen? ⟨w.heap.size + 1, 0, none⟩ = false ∧ w1.heap.size ≤ wr.heap.size ∧ Hid (∀ i (h : i < L.length), wr.cell? ⟨g5, i, none⟩ = some (.string L[i])) ∧ Hid ((L.take k).all partOk = true) ∧ SlR SpR 59 2 wr w1.heap.size uv ((L.take k).map partS)) (fun i _ => L.length - (intOf i).toNat)
  case atStart => exact ⟨0, _, Nat.zero_le _, rfl, hB1, ⟨_, k1⟩, f1, k2, f2, Nat.le_refl _, KR1.out, rfl, SlR.nil⟩
  case round =>
    obtain ⟨k, uv, hk, rfl, hB, ⟨u0, ku⟩, kf, kt, ktf, hw1, KR, HA, hs⟩ := hrel
    have hsz := hB.size
    have lu := World.block_lt_of_cell? wr _ ku
    have lt' := World.block_lt_of_cell? wr _ kt
    have lt : w.heap.size + 1 < wr.heap.size := lt'
    by_cases hlt : k < L.length
    · have e1 : (k : Int) < (L.length : Int) := by omega
      have d := KR.out k hlt
      have hz := HZ.out k hlt
      have HN := Lib.hid (take_all_succ partOk L k hlt)
      have HM := Lib.hid (show (L.take (k + 1)).map partS = (L.take k).map partS ++ [partS L[k]] by rw [List.take_succ_eq_append_getElem hlt, List.map_append]; rfl)
      have HX := Lib.hid (show partOk L[k] = false → L.all partOk = false from fun h => List.all_eq_false.2 ⟨L[k], List.getElem_mem hlt, by simp [h]⟩)
      generalize L[k] = p at d hz HN HM HX
      have hcut := cut_p 58 58 rfl p wr hz
      obtain ⟨HRP1, HRP2⟩ := r_part p
      have hml := fun q => splL_mem 58 _ p.data.toList q (Nat.le_refl _)
      have hQne := splL_ne 58 p.data.toList
      unfold rOk at HRP1
      rw [len_data] at hml
      generalize splL 58 p.data.toList = Q at hcut HRP1 HRP2 hml hQne
      have HR1 := Lib.hid HRP1
      have HR2 := Lib.hid HRP2
      have hcs := fun u => World.cell?_setCell_same' wr ⟨w.heap.size, 0, none⟩ u (by rw [ku]; rfl)
      clear HRP1 HRP2
      match Q, hQne with
      | x :: y :: z :: t, _ =>
        have hno : partOk p = false := by rw [← HR1.out]; simp
        have hres : parseF s = ([], 3) := by rw [HF.out, HX.out hno]; rfl
        have hpost := HP.out [] 3 hres
        have HPO := Lib.hid hpost
        clear hno hres hpost hml
        go_wp2_with ((with_reducible refine hcut.mono ?_))
        rintro _ w2 ⟨v7, rfl, hs7, b2⟩
        obtain ⟨A7, cap7, rfl, h71, h72, _⟩ := hs7.rdq (by decide)
        have h72' : cap7 ≤ 9223372036854775807 := h72
        simp only [List.map_cons, List.length_cons, List.length_map] at h71 ⊢
        have hB2 := hB.trans (b2.mono hsz)
        have ku2 := (b2.cell (p := ⟨w.heap.size, 0, none⟩) lu).trans ku
        have kf2 := ((bcell b2).2 w.heap.size 0 lu).trans kf
        have hcs2 := World.cell?_setCell_same' w2 ⟨w.heap.size, 0, none⟩ (.slice none 0 0) (by rw [ku2]; rfl)
        have hBs := hB2.setCell (p := ⟨w.heap.size, 0, none⟩) (Nat.le_refl _) (.slice none 0 0)
        have e7 : (2 : Int) < ((t.length + 1 + 1 + 1 : Nat) : Int) := by omega
        go_wp2
        refine bodyPost_ret (v := .tuple #[.agg #[.slice none 0 0], .int .i64 3]) (by simp [results, Tryd.results12, go_sem, hcs2]) rfl (HPO.out _ _ ⟨none, 0, rfl, RdR.nil, by simp, by simp, hBs⟩)
      | [x, y], _ =>
        have h1 := fun W => one_l x W (Nat.le_trans (hml x (by simp)) hz)
        have h2 := fun W => one_l y W (Nat.le_trans (hml y (by simp)) hz)
        have hr1 := HR1.out
        have hr2 := HR2.out
        simp only [List.length_cons, List.length_nil, List.headD_cons, List.getLastD_cons, List.getLastD_nil] at hr1 hr2
        generalize oneV x = x1 at *
        generalize oneB x = o1 at *
        generalize oneV y = x2 at *
        generalize oneB y = o2 at *
        have HQ1 := Lib.hid hr1
        have HQ2 := Lib.hid hr2
        clear hr1 hr2 hml
        go_wp2_with ((with_reducible refine hcut.mono ?_))
        rintro _ w2 ⟨v7, rfl, hs7, b2⟩
        obtain ⟨A7, cap7, rfl, h71, h72, hsh7⟩ := id hs7.shape
        obtain ⟨g7, rfl, hg7⟩ := hsh7 (by simp)
        obtain ⟨A9, cap9, hv9, _, _, hr7⟩ := hs7.rdq (by decide)
        injection hv9 with e91 _ e93
        subst e91
        subst e93
        have h72' : cap7 ≤ 9223372036854775807 := h72
        have d0 := str_cell hr7 0 (by simp)
        have d1 := str_cell hr7 1 (by simp)
        simp only [List.map_cons, List.map_nil, List.length_cons, List.length_nil, List.getElem_cons_zero, List.getElem_cons_succ, Nat.zero_add] at h71 d0 d1 ⊢
        have hB2 := hB.trans (b2.mono hsz)
        have hs2 := hs.below SpR.keeps b2 (Nat.le_refl _)
        have ku2 := (b2.cell (p := ⟨w.heap.size, 0, none⟩) lu).trans ku
        have kf2 := ((bcell b2).2 w.heap.size 0 lu).trans kf
        have kt2 := (b2.cell (p := ⟨w.heap.size + 1, 0, none⟩) lt).trans kt
        have ktf2 := ((bcell b2).2 (w.heap.size + 1) 0 lt).trans ktf
        have hw2 := Nat.le_trans hw1 b2.size
        have KR2 : Hid (∀ i (h : i < L.length), w2.cell? ⟨g5, i, none⟩ = some (.string L[i])) := fun i h => (b2.cell (p := ⟨g5, i, none⟩) (show g5 < wr.heap.size by omega)).trans (KR.out i h)
        have hcs2 := World.cell?_setCell_same' w2 ⟨w.heap.size, 0, none⟩ (.slice none 0 0) (by rw [ku2]; rfl)
        have hBs := hB2.setCell (p := ⟨w.heap.size, 0, none⟩) (Nat.le_refl _) (.slice none 0 0)
        clear hr7 hs7 hsh7
        cases o1 with
        | false =>
          have hno : partOk p = false := by rw [← HQ1.out]; simp
          have hres : parseF s = ([], 3) := by rw [HF.out, HX.out hno]; rfl
          have HPO := Lib.hid (HP.out [] 3 hres)
          clear hno hres
          go_wp2_with ((with_reducible refine (h1 _).mono ?_))
          rintro _ w3 ⟨rfl, rfl⟩
          go_wp2_with ((with_reducible refine (h2 _).mono ?_))
          rintro _ w3 ⟨rfl, rfl⟩
          go_wp2
          refine bodyPost_ret (v := .tuple #[.agg #[.slice none 0 0], .int .i64 3]) (by simp [results, Tryd.results12, go_sem, hcs2]) rfl (HPO.out _ _ ⟨none, 0, rfl, RdR.nil, by simp, by simp, hBs⟩)
        | true =>
          cases o2 with
          | false =>
            have hno : partOk p = false := by rw [← HQ1.out]; simp
            have hres : parseF s = ([], 3) := by rw [HF.out, HX.out hno]; rfl
            have HPO := Lib.hid (HP.out [] 3 hres)
            clear hno hres
            go_wp2_with ((with_reducible refine (h1 _).mono ?_))
            rintro _ w3 ⟨rfl, rfl⟩
            go_wp2_with ((with_reducible refine (h2 _).mono ?_))
            rintro _ w3 ⟨rfl, rfl⟩
            go_wp2
            refine bodyPost_ret (v := .tuple #[.agg #[.slice none 0 0], .int .i64 3]) (by simp [results, Tryd.results12, go_sem, hcs2]) rfl (HPO.out _ _ ⟨none, 0, rfl, RdR.nil, by simp, by simp, hBs⟩)
          | true =>
            have hyes : partOk p = true := by rw [← HQ1.out]; simp
            have hps : partS p = (x1, x2) := (HQ2.out hyes).symm
            have HYES := Lib.hid hyes
            have HPS := Lib.hid hps
            clear hyes hps hcs2 hBs
            obtain ⟨cells, how, hel⟩ := hs2
            have hfl : ((L.take k).map partS).length ≤ k := by simp; omega
            generalize (L.take k).map partS = ys at how hel hfl HM
            have h63 : ys.length + 1 ≤ maxLen := by unfold maxLen; omega
            have h47 : (ys.length + 1) * 16 ≤ 140737488355328 := by omega
            have how1 := how.alloc (.cells #[.int .i64 x1, .int .i64 x2] 59)
            have hal : Below w2.heap.size w2 (w2.alloc (.cells #[.int .i64 x1, .int .i64 x2] 59)) := (Below.refl _ w2).alloc (Nat.le_refl _) _
            have hel1 := hel.below SpR.keeps hal (Nat.le_refl _)
            have lu2 : w.heap.size < w2.heap.size := World.block_lt_of_cell? w2 _ ku2
            have lt2 : w.heap.size + 1 < w2.heap.size := World.block_lt_of_cell? w2 _ kt2
            have hB5 := hB2.alloc hB2.size (.cells #[.int .i64 x1, .int .i64 x2] 59)
            have ku5 := (hal.cell (p := ⟨w.heap.size, 0, none⟩) lu2).trans ku2
            have kf5 := ((bcell hal).2 w.heap.size 0 lu2).trans kf2
            have kt5 := (hal.cell (p := ⟨w.heap.size + 1, 0, none⟩) lt2).trans kt2
            have ktf5 := ((bcell hal).2 (w.heap.size + 1) 0 lt2).trans ktf2
            have KR5 : Hid (∀ i (h : i < L.length), (w2.alloc (.cells #[.int .i64 x1, .int .i64 x2] 59)).cell? ⟨g5, i, none⟩ = some (.string L[i])) := fun i h => (hal.cell (p := ⟨g5, i, none⟩) (show g5 < w2.heap.size by omega)).trans (KR2.out i h)
            have hnc : ∀ j u, [Value.int .i64 x1, Value.int .i64 x2][j]? = some u → (w2.alloc (.cells #[.int .i64 x1, .int .i64 x2] 59)).cell? ((⟨w2.heap.size, 0, none⟩ : Addr).add j) = some u := World.news_of_block (cs := #[.int .i64 x1, .int .i64 x2]) (t := 59) (fr := (0, 0)) (heap_alloc_new w2 _)
            have hsb : w1.heap.size ≤ (w2.alloc (.cells #[.int .i64 x1, .int .i64 x2] 59)).heap.size := by simp; omega
            have hge : ∀ r, uv.ownBlock = some r → w1.heap.size ≤ r := fun r hr => (how1.lt r hr).1
            have hsa : (w2.alloc (.cells #[.int .i64 x1, .int .i64 x2] 59)).heap.size = w2.heap.size + 1 := by simp
            go_wp2_with ((with_reducible refine (h1 _).mono ?_))
            rintro _ w3 ⟨rfl, rfl⟩
            go_wp2_with ((with_reducible refine (h2 _).mono ?_))
            rintro _ w3 ⟨rfl, rfl⟩
            go_wp2_with (at_builtin; refine wpList_append_own _ rfl _ _ 32 rfl w1.heap.size 59 i0 (.agg #[.int .i64 0, .int .i64 0]) 2 16 Tryd.underlying32 hi0 hz0 hz1 hz2 rfl (by decide) _ ys.length cells rfl how1 ⟨w2.heap.size, 0, none⟩ 1 1 [.int .i64 x1, .int .i64 x2] rfl rfl hnc (by intro u hu; simp at hu; rcases hu with rfl | rfl <;> rfl) h63 h47 hsb ?_)
            intro v9 w5 hown5 g9
            try intro _
            have hs5 := SlR.push SpR.keepsRow9 how1 hel1 rfl (show SpR _ [.int .i64 x1, .int .i64 x2] (x1, x2) from rfl) hown5 g9
            obtain ⟨A9, cap9, rfl, _, _, _⟩ := id hs5.shape
            have hyl : (ys ++ [(x1, x2)]).length = ys.length + 1 := by simp
            rw [hyl] at hs5 ⊢
            clear hyl
            have hn0 : uv.ownBlock ≠ some w.heap.size := fun h => by have := hge _ h; omega
            have hn1 : uv.ownBlock ≠ some (w.heap.size + 1) := fun h => by have := hge _ h; omega
            have hn5 : uv.ownBlock ≠ some g5 := fun h => by have := hge _ h; omega
            have hB6 := hB5.grown g9 hB5.size (fun k hk => by have := hge k hk; omega)
            have ku6 := (g9.cell_far ⟨w.heap.size, 0, none⟩ (show w.heap.size < _ by omega) (Ne.symm hn0)).trans ku5
            have kf6 := (g9.frozen_far ⟨w.heap.size, 0, none⟩ (show w.heap.size < _ by omega) (Ne.symm hn0)).trans kf5
            have kt6 := (g9.cell_far ⟨w.heap.size + 1, 0, none⟩ (show w.heap.size + 1 < _ by omega) (Ne.symm hn1)).trans kt5
            have ktf6 := (g9.frozen_far ⟨w.heap.size + 1, 0, none⟩ (show w.heap.size + 1 < _ by omega) (Ne.symm hn1)).trans ktf5
            have KR6 : Hid (∀ i (h : i < L.length), w5.cell? ⟨g5, i, none⟩ = some (.string L[i])) := fun i h => (g9.cell_far ⟨g5, i, none⟩ (show g5 < _ by omega) (Ne.symm hn5)).trans (KR5.out i h)
            have hw5 := Nat.le_trans hsb g9.size
            clear how how1 hel hel1 hown5 g9 hnc hge hal
            go_wp2
            go_roundw
            case rel =>
              refine ⟨k + 1, _, by omega, by go_num, hB6.setCell (p := ⟨w.heap.size + 1, 0, none⟩) (Nat.le_succ _) _, ⟨u0, ?_⟩, by rw [World.frozen?_setCell]; exact kf6, World.cell?_setCell_same' _ _ _ (by rw [kt6]; rfl), by rw [World.frozen?_setCell]; exact ktf6, ?_, ?_, ?_, ?_⟩
              · exact (World.cell?_setCell_far w5 ⟨w.heap.size + 1, 0, none⟩ ⟨w.heap.size, 0, none⟩ _ (show w.heap.size + 1 ≠ w.heap.size by omega)).trans ku6
              · have h9 := (hB6.setCell (p := ⟨w.heap.size + 1, 0, none⟩) (Nat.le_succ _) (.int .i64 0)).size; simpa [World.setCell] using hw5
              · exact fun i h => (World.cell?_setCell_far w5 ⟨w.heap.size + 1, 0, none⟩ ⟨g5, i, none⟩ _ (show w.heap.size + 1 ≠ g5 by omega)).trans (KR6.out i h)
              · show _ = _
                rw [HN.out, HA.out, HYES.out]; rfl
              · rw [HM.out, HPS.out]
                exact SlR.setLow (fun _ _ _ _ h => h) hs5 (a := ⟨w.heap.size + 1, 0, none⟩) (show w.heap.size + 1 < w1.heap.size by omega) _
            case measure => simp [intOf]; omega
      | [x], _ =>
        have h1 := fun W => one_l x W (Nat.le_trans (hml x (by simp)) hz)
        have h2 := h1
        have hr1 := HR1.out
        have hr2 := HR2.out
        simp only [List.length_cons, List.length_nil, List.headD_cons, List.getLastD_cons, List.getLastD_nil] at hr1 hr2
        generalize oneV x = x1 at *
        generalize oneB x = o1 at *
        have HQ1 := Lib.hid hr1
        have HQ2 := Lib.hid hr2
        clear hr1 hr2 hml
        go_wp2_with ((with_reducible refine hcut.mono ?_))
        rintro _ w2 ⟨v7, rfl, hs7, b2⟩
        obtain ⟨A7, cap7, rfl, h71, h72, hsh7⟩ := id hs7.shape
        obtain ⟨g7, rfl, hg7⟩ := hsh7 (by simp)
        obtain ⟨A9, cap9, hv9, _, _, hr7⟩ := hs7.rdq (by decide)
        injection hv9 with e91 _ e93
        subst e91
        subst e93
        have h72' : cap7 ≤ 9223372036854775807 := h72
        have d0 := str_cell hr7 0 (by simp)
        simp only [List.map_cons, List.map_nil, List.length_cons, List.length_nil, List.getElem_cons_zero, List.getElem_cons_succ, Nat.zero_add] at h71 d0 ⊢
        have hB2 := hB.trans (b2.mono hsz)
        have hs2 := hs.below SpR.keeps b2 (Nat.le_refl _)
        have ku2 := (b2.cell (p := ⟨w.heap.size, 0, none⟩) lu).trans ku
        have kf2 := ((bcell b2).2 w.heap.size 0 lu).trans kf
        have kt2 := (b2.cell (p := ⟨w.heap.size + 1, 0, none⟩) lt).trans kt
        have ktf2 := ((bcell b2).2 (w.heap.size + 1) 0 lt).trans ktf
        have hw2 := Nat.le_trans hw1 b2.size
        have KR2 : Hid (∀ i (h : i < L.length), w2.cell? ⟨g5, i, none⟩ = some (.string L[i])) := fun i h => (b2.cell (p := ⟨g5, i, none⟩) (show g5 < wr.heap.size by omega)).trans (KR.out i h)
        have hcs2 := World.cell?_setCell_same' w2 ⟨w.heap.size, 0, none⟩ (.slice none 0 0) (by rw [ku2]; rfl)
        have hBs := hB2.setCell (p := ⟨w.heap.size, 0, none⟩) (Nat.le_refl _) (.slice none 0 0)
        clear hr7 hs7 hsh7
        cases o1 with
        | false =>
          have hno : partOk p = false := by rw [← HQ1.out]; simp
          have hres : parseF s = ([], 3) := by rw [HF.out, HX.out hno]; rfl
          have HPO := Lib.hid (HP.out [] 3 hres)
          clear hno hres
          go_wp2_with ((with_reducible refine (h1 _).mono ?_))
          rintro _ w3 ⟨rfl, rfl⟩
          go_wp2_with ((with_reducible refine (h2 _).mono ?_))
          rintro _ w3 ⟨rfl, rfl⟩
          go_wp2
          refine bodyPost_ret (v := .tuple #[.agg #[.slice none 0 0], .int .i64 3]) (by simp [results, Tryd.results12, go_sem, hcs2]) rfl (HPO.out _ _ ⟨none, 0, rfl, RdR.nil, by simp, by simp, hBs⟩)
        | true =>
          have hyes : partOk p = true := by rw [← HQ1.out]; simp
          have hps : partS p = (x1, x1) := (HQ2.out hyes).symm
          have HYES := Lib.hid hyes
          have HPS := Lib.hid hps
          clear hyes hps hcs2 hBs
          obtain ⟨cells, how, hel⟩ := hs2
          have hfl : ((L.take k).map partS).length ≤ k := by simp; omega
          generalize (L.take k).map partS = ys at how hel hfl HM
          have h63 : ys.length + 1 ≤ maxLen := by unfold maxLen; omega
          have h47 : (ys.length + 1) * 16 ≤ 140737488355328 := by omega
          have how1 := how.alloc (.cells #[.int .i64 x1, .int .i64 x1] 59)
          have hal : Below w2.heap.size w2 (w2.alloc (.cells #[.int .i64 x1, .int .i64 x1] 59)) := (Below.refl _ w2).alloc (Nat.le_refl _) _
          have hel1 := hel.below SpR.keeps hal (Nat.le_refl _)
          have lu2 : w.heap.size < w2.heap.size := World.block_lt_of_cell? w2 _ ku2
          have lt2 : w.heap.size + 1 < w2.heap.size := World.block_lt_of_cell? w2 _ kt2
          have hB5 := hB2.alloc hB2.size (.cells #[.int .i64 x1, .int .i64 x1] 59)
          have ku5 := (hal.cell (p := ⟨w.heap.size, 0, none⟩) lu2).trans ku2
          have kf5 := ((bcell hal).2 w.heap.size 0 lu2).trans kf2
          have kt5 := (hal.cell (p := ⟨w.heap.size + 1, 0, none⟩) lt2).trans kt2
          have ktf5 := ((bcell hal).2 (w.heap.size + 1) 0 lt2).trans ktf2
          have KR5 : Hid (∀ i (h : i < L.length), (w2.alloc (.cells #[.int .i64 x1, .int .i64 x1] 59)).cell? ⟨g5, i, none⟩ = some (.string L[i])) := fun i h => (hal.cell (p := ⟨g5, i, none⟩) (show g5 < w2.heap.size by omega)).trans (KR2.out i h)
          have hnc : ∀ j u, [Value.int .i64 x1, Value.int .i64 x1][j]? = some u → (w2.alloc (.cells #[.int .i64 x1, .int .i64 x1] 59)).cell? ((⟨w2.heap.size, 0, none⟩ : Addr).add j) = some u := World.news_of_block (cs := #[.int .i64 x1, .int .i64 x1]) (t := 59) (fr := (0, 0)) (heap_alloc_new w2 _)
          have hsb : w1.heap.size ≤ (w2.alloc (.cells #[.int .i64 x1, .int .i64 x1] 59)).heap.size := by simp; omega
          have hge : ∀ r, uv.ownBlock = some r → w1.heap.size ≤ r := fun r hr => (how1.lt r hr).1
          have hsa : (w2.alloc (.cells #[.int .i64 x1, .int .i64 x1] 59)).heap.size = w2.heap.size + 1 := by simp
          go_wp2_with ((with_reducible refine (h1 _).mono ?_))
          rintro _ w3 ⟨rfl, rfl⟩
          go_wp2_with ((with_reducible refine (h2 _).mono ?_))
          rintro _ w3 ⟨rfl, rfl⟩
          go_wp2_with (at_builtin; refine wpList_append_own _ rfl _ _ 32 rfl w1.heap.size 59 i0 (.agg #[.int .i64 0, .int .i64 0]) 2 16 Tryd.underlying32 hi0 hz0 hz1 hz2 rfl (by decide) _ ys.length cells rfl how1 ⟨w2.heap.size, 0, none⟩ 1 1 [.int .i64 x1, .int .i64 x1] rfl rfl hnc (by intro u hu; simp at hu; rcases hu with rfl | rfl <;> rfl) h63 h47 hsb ?_)
          intro v9 w5 hown5 g9
          try intro _
          have hs5 := SlR.push SpR.keepsRow9 how1 hel1 rfl (show SpR _ [.int .i64 x1, .int .i64 x1] (x1, x1) from rfl) hown5 g9
          obtain ⟨A9, cap9, rfl, _, _, _⟩ := id hs5.shape
          have hyl : (ys ++ [(x1, x1)]).length = ys.length + 1 := by simp
          rw [hyl] at hs5 ⊢
          clear hyl
          have hn0 : uv.ownBlock ≠ some w.heap.size := fun h => by have := hge _ h; omega
          have hn1 : uv.ownBlock ≠ some (w.heap.size + 1) := fun h => by have := hge _ h; omega
          have hn5 : uv.ownBlock ≠ some g5 := fun h => by have := hge _ h; omega
          have hB6 := hB5.grown g9 hB5.size (fun k hk => by have := hge k hk; omega)
          have ku6 := (g9.cell_far ⟨w.heap.size, 0, none⟩ (show w.heap.size < _ by omega) (Ne.symm hn0)).trans ku5
          have kf6 := (g9.frozen_far ⟨w.heap.size, 0, none⟩ (show w.heap.size < _ by omega) (Ne.symm hn0)).trans kf5
          have kt6 := (g9.cell_far ⟨w.heap.size + 1, 0, none⟩ (show w.heap.size + 1 < _ by omega) (Ne.symm hn1)).trans kt5
          have ktf6 := (g9.frozen_far ⟨w.heap.size + 1, 0, none⟩ (show w.heap.size + 1 < _ by omega) (Ne.symm hn1)).trans ktf5
          have KR6 : Hid (∀ i (h : i < L.length), w5.cell? ⟨g5, i, none⟩ = some (.string L[i])) := fun i h => (g9.cell_far ⟨g5, i, none⟩ (show g5 < _ by omega) (Ne.symm hn5)).trans (KR5.out i h)
          have hw5 := Nat.le_trans hsb g9.size
          clear how how1 hel hel1 hown5 g9 hnc hge hal
          go_wp2
          go_roundw
          case rel =>
            refine ⟨k + 1, _, by omega, by go_num, hB6.setCell (p := ⟨w.heap.size + 1, 0, none⟩) (Nat.le_succ _) _, ⟨u0, ?_⟩, by rw [World.frozen?_setCell]; exact kf6, World.cell?_setCell_same' _ _ _ (by rw [kt6]; rfl), by rw [World.frozen?_setCell]; exact ktf6, ?_, ?_, ?_, ?_⟩
            · exact (World.cell?_setCell_far w5 ⟨w.heap.size + 1, 0, none⟩ ⟨w.heap.size, 0, none⟩ _ (show w.heap.size + 1 ≠ w.heap.size by omega)).trans ku6
            · have h9 := (hB6.setCell (p := ⟨w.heap.size + 1, 0, none⟩) (Nat.le_succ _) (.int .i64 0)).size; simpa [World.setCell] using hw5
            · exact fun i h => (World.cell?_setCell_far w5 ⟨w.heap.size + 1, 0, none⟩ ⟨g5, i, none⟩ _ (show w.heap.size + 1 ≠ g5 by omega)).trans (KR6.out i h)
            · show _ = _
              rw [HN.out, HA.out, HYES.out]; rfl
            · rw [HM.out, HPS.out]
              exact SlR.setLow (fun _ _ _ _ h => h) hs5 (a := ⟨w.heap.size + 1, 0, none⟩) (show w.heap.size + 1 < w1.heap.size by omega) _
          case measure => simp [intOf]; omega
    · obtain rfl : k = L.length := by omega
      have hall := HA.out
      rw [List.take_length] at hall hs
      have hml : (L.map partS).length = L.length := List.length_map ..
      have hs2 := SlR.setLow (fun _ _ _ _ h => h) hs (a := ⟨w.heap.size, 0, none⟩) (show w.heap.size < w1.heap.size by omega)
      obtain ⟨A8, cap8, rfl, h81, h82, hr8⟩ := id (hs.rdq (by decide))
      have h82' : cap8 ≤ 9223372036854775807 := h82
      rw [hml] at kt
      by_cases h100 : 100 < L.length
      · have hres : parseF s = ([], 2) := by rw [HF.out, hall, if_pos rfl, if_pos h100]
        have HPO := Lib.hid (HP.out [] 2 hres)
        have e9 : (100 : Int) < (L.length : Int) := by omega
        have hcs2 := World.cell?_setCell_same' wr ⟨w.heap.size, 0, none⟩ (.slice none 0 0) (by rw [ku]; rfl)
        have hBs := hB.setCell (p := ⟨w.heap.size, 0, none⟩) (Nat.le_refl _) (.slice none 0 0)
        clear hres hall hs hs2 hr8
        go_wp2
        refine bodyPost_ret (v := .tuple #[.agg #[.slice none 0 0], .int .i64 2]) (by simp [results, Tryd.results12, go_sem, hcs2]) rfl (HPO.out _ _ ⟨none, 0, rfl, RdR.nil, by simp, by simp, hBs⟩)
      · have hres : parseF s = (L.map partS, 0) := by rw [HF.out, hall, if_pos rfl, if_neg h100]
        have HPO := Lib.hid (HP.out (L.map partS) 0 hres)
        have e9 : ¬ (100 : Int) < (L.length : Int) := by omega
        rw [hml] at hs2
        obtain ⟨A9, cap9, hv9, _, _, hr9⟩ := (hs2 (.slice A8 L.length cap8)).rdq (by decide)
        injection hv9 with e91 e92 e93
        subst e91
        subst e93
        clear e92
        have hcs2 := World.cell?_setCell_same' wr ⟨w.heap.size, 0, none⟩ (.slice A8 L.length cap8) (by rw [ku]; rfl)
        have hBs := hB.setCell (p := ⟨w.heap.size, 0, none⟩) (Nat.le_refl _) (.slice A8 L.length cap8)
        have HR9 := Lib.hid hr9
        have HML := Lib.hid hml
        have H81 := Lib.hid h81
        clear hres hall hs hs2 hr8 hr9 hml h81
        go_wp2
        refine bodyPost_ret (v := .tuple #[.agg #[.slice A8 L.length cap8], .int .i64 0]) (by simp [results, Tryd.results12, go_sem, hcs2]) rfl (HPO.out _ _ ⟨A8, cap8, by rw [HML.out], HR9.out, H81.out, h82, hBs⟩)
end Go.Proofs.YtehbekjcnlcooaaDoor
