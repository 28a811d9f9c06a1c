/- The walk of the law OctetSays. -/
import Derived.Test.YtcioihimofcanaaDoorRefD
import Derived.Test.YtcioihimofcanaaDoorRefE
import Derived.Test.YtcioihimofcanaaDoorOctS
import Derived.Test.YtcioihimofcanaaDoorOctG
import Derived.Test.YtcioihimofcanaaDoorOctAw
set_option linter.unusedVariables false
namespace Go.Proofs.YtcioihimofcanaaDoor
open Go.RowKit

theorem RowsV.shape {w : World} {B : Nat} {v : Value} {ls : List (List UInt8)} (h : RowsV w B v ls) : ∃ A cap, v = .slice A ls.length cap := by
  obtain ⟨vs, h1, _⟩ := h
  rcases h1.2 with ⟨rfl, h0⟩ | ⟨g, cap, cur, rfl, _⟩
  · exact ⟨none, 0, by rw [h0]⟩
  · exact ⟨_, cap, rfl⟩
theorem RowsV.at_ {w : World} {B n cap : Nat} {A : Option Addr} {ls : List (List UInt8)} (h : RowsV w B (.slice A n cap) ls) (i : Nat) (hi : i < ls.length) :
    ∃ G A' c, A = some ⟨G, 0, none⟩ ∧ w.cell? ⟨G, i, none⟩ = some (.slice A' ls[i].length c) ∧ Rd w A' ls[i] := by
  obtain ⟨vs, h1, h2, h3⟩ := h
  obtain ⟨A', c, e, hr⟩ := h3 i hi (by omega)
  rcases h1.2 with ⟨_, h0⟩ | ⟨G, cap', cur, hv, _, hh, hn, _, hs, ht⟩
  · omega
  · injection hv with hA _ _
    refine ⟨G, A', c, hA, ?_, hr⟩
    have h4 : (cur.toList.take (ls.length * 1))[i]? = vs[i]? := by rw [ht]
    have hcl : cur.toList.length = cap' := by simpa using hs
    rw [List.getElem?_take_of_lt (by omega), List.getElem?_eq_getElem (l := vs) (by omega), e] at h4
    have h5 : cur[i]? = some (.slice A' ls[i].length c) := by simpa using h4
    simp [World.cell?, hh, h5]
theorem Rd.drewN {w : World} {A : Option Addr} {l : List UInt8} (h : Rd w A l) (n : Nat) : Rd (w.drewN n) A l := h.below (below_drewN (Below.refl _ _) n)

set_option maxRecDepth 100000 in
set_option maxHeartbeats 8000000 in
theorem says_walk (s t : ByteArray) (w : World) (_hs : s.size ≤ maxLen) (_ht : t.size ≤ maxLen) (htab : Pow10 w) (hpg : 1 < w.heap.size)
    (hm : ∃ m, w.cell? ⟨0, 0, none⟩ = some (.int .i64 m)) (hg : 0 < w.heap.size) :
    Calls Tryd.prog 4 #[.string s, .string t] w fun e w' => e = .returned (.bool true) ∧ Below w.heap.size w w' := by
  have HP := Lib.hid htab
  have HM := Lib.hid hm
  clear htab hm
  by_cases h0 : (9000 : Int) < (s.size : Int)
  · go_enter Tryd.func4, Tryd.ntmps4
    go_wp2_with (go_at_call 5; refine (awake_any _).mono ?_; rintro e w1 ⟨rfl, b1⟩)
    go_ret
    exact ⟨rfl, b1⟩
  by_cases h1 : (300 : Int) < (t.size : Int)
  · go_enter Tryd.func4, Tryd.ntmps4
    go_wp2_with (go_at_call 5; refine (awake_any _).mono ?_; rintro e w1 ⟨rfl, b1⟩)
    go_ret
    exact ⟨rfl, b1⟩
  have hs9 : s.size ≤ 9000 := by omega
  have ht3 : t.size ≤ 300 := by omega
  have hsm : s.size ≤ maxLen := _hs
  have htm : t.size ≤ maxLen := _ht
  obtain ⟨Q, qb, cQ1, cQ2⟩ : ∃ (Q : ByteArray) (qb : Bool), Hid (∀ w : World, Calls Tryd.prog 6 #[.string s] w fun e w' => e = .returned (.tuple #[.string Q, .bool qb]) ∧ Below w.heap.size w w') ∧ Hid (∀ w : World, Calls Tryd.prog 13 #[.string s] w fun e w' => e = .returned (.tuple #[.string Q, .bool qb]) ∧ Below w.heap.size w w') := ⟨_, _, fun w => quote_any s w hsm, fun w => r_quote s w hsm⟩
  obtain ⟨U, ui, uj, cU1, cU2⟩ : ∃ (U : ByteArray) (ui uj : Nat), Hid (∀ w : World, Calls Tryd.prog 7 #[.string s] w fun e w' => e = .returned (.tuple #[.string U, .int .i64 (ui : Int), .int .i64 (uj : Int)]) ∧ Below w.heap.size w w') ∧ Hid (∀ w : World, Calls Tryd.prog 14 #[.string s] w fun e w' => e = .returned (.tuple #[.string U, .int .i64 (ui : Int), .int .i64 (uj : Int)]) ∧ Below w.heap.size w w') := ⟨⟨(unq s.data.toList).1.toArray⟩, (unq s.data.toList).2.1, (unq s.data.toList).2.2, fun w => unquote_any s w (by omega), fun w => r_unquote s w (by omega)⟩
  obtain ⟨nr, nb, cN1, cN2⟩ : ∃ (nr : Nat) (nb : Bool), Hid (∀ w : World, Calls Tryd.prog 9 #[.string s] w fun e w' => e = .returned (.tuple #[.int .i64 (nr : Int), .bool nb]) ∧ w = w') ∧ Hid (∀ w : World, Calls Tryd.prog 15 #[.string s] w fun e w' => e = .returned (.tuple #[.int .i64 (nr : Int), .bool nb]) ∧ w = w') := ⟨_, _, fun w => num_any s w hsm, fun w => r_num s w hsm⟩
  obtain ⟨F, cF1, cF2⟩ : ∃ (F : ByteArray), Hid (∀ w : World, Calls Tryd.prog 17 #[.string s] w fun e w' => e = .returned (.string F) ∧ Below w.heap.size w w') ∧ Hid (∀ w : World, Calls Tryd.prog 18 #[.string s] w fun e w' => e = .returned (.string F) ∧ Below w.heap.size w w') := ⟨_, fun w => fold_any s w hsm, fun w => r_fold s w hsm⟩
  obtain ⟨sb, cS1, cS2⟩ : ∃ (sb : Bool), Hid (∀ w : World, Calls Tryd.prog 12 #[.string s, .string t] w fun e w' => e = .returned (.bool sb) ∧ ∃ n, w' = w.drewN n) ∧ Hid (∀ w : World, Calls Tryd.prog 19 #[.string s, .string t] w fun e w' => e = .returned (.bool sb) ∧ Below w.heap.size w w') := ⟨_, fun w => same_any s t w hsm, fun w => r_same s t w hsm htm⟩
  obtain ⟨ab, cA1, cA2⟩ : ∃ (ab : Bool), Hid (∀ w : World, Calls Tryd.prog 11 #[.string s] w fun e w' => e = .returned (.bool ab) ∧ w = w') ∧ Hid (∀ w : World, Calls Tryd.prog 20 #[.string s] w fun e w' => e = .returned (.bool ab) ∧ w = w') := ⟨_, fun w => atom_any s w hsm, fun w => r_atom s w hsm⟩
  obtain ⟨NS, cNS1, cNS2⟩ : ∃ (NS : ByteArray), Hid (∀ w : World, Pow10 w → 1 < w.heap.size → Calls Tryd.prog 10 #[.string s] w fun e w' => e = .returned (.string NS) ∧ Below w.heap.size w w') ∧ Hid (∀ w : World, Calls Tryd.prog 21 #[.string s] w fun e w' => e = .returned (.string NS) ∧ Below w.heap.size w w') := ⟨_, fun w h1 h2 => nstring_any s w (by omega) h1 h2, fun w => r_nstring s w (by omega)⟩
  go_enter Tryd.func4, Tryd.ntmps4
  go_wp2_with fail
  refine (awake_any _).mono ?_
  rintro e w1 ⟨rfl, b1⟩
  go_wp2_with fail
  refine (cQ1.out _).mono ?_
  rintro e w2 ⟨rfl, c2⟩
  have b2 := b1.trans (c2.mono b1.size)
  clear c2
  go_wp2_with fail
  refine (cQ2.out _).mono ?_
  rintro e w3 ⟨rfl, c3⟩
  have b3 := b2.trans (c3.mono b2.size)
  clear c3
  go_wp2_with fail
  refine (cU1.out _).mono ?_
  rintro e w4 ⟨rfl, c4⟩
  have b4 := b3.trans (c4.mono b3.size)
  clear c4
  go_wp2_with fail
  refine (cU2.out _).mono ?_
  rintro e w5 ⟨rfl, c5⟩
  have b5 := b4.trans (c5.mono b4.size)
  clear c5
  go_wp2_with fail
  refine (cN1.out _).mono ?_
  rintro e w6 ⟨rfl, rfl⟩
  go_wp2_with fail
  refine (cN2.out _).mono ?_
  rintro e w7 ⟨rfl, rfl⟩
  have sq := b5.size
  obtain ⟨cap, C, hconv, hcap, hC⟩ := conv_bytes (P := Tryd.prog) w5 9 30 5 s Tryd.underlying9 Tryd.underlying30 Tryd.underlying5
  have hbt : Bts 5 (w5.alloc (.cells C 5 (C.size, C.size + 1))).drew w5.heap.size s.data.toList := (Bts.new w5 (fun j h => hC j (by simpa using h))).drew
  clear hC
  have b6 := (b5.alloc sq (.cells C 5 (C.size, C.size + 1))).drew
  have s6 := b6.size
  have hm6 : ∃ m, (w5.alloc (.cells C 5 (C.size, C.size + 1))).drew.cell? ⟨0, 0, none⟩ = some (.int .i64 m) := by
    obtain ⟨m, hm⟩ := HM.out
    exact ⟨m, (b6.cell (p := ⟨0, 0, none⟩) hg).trans hm⟩
  have hln := lines_any (some ⟨w5.heap.size, 0, none⟩) s.data.toList cap _ (Rd.of_bts hbt) (by rw [len_data]; exact hcap) (by rw [len_data]; omega) hm6 (by omega)
  rw [len_data] at hln
  have hlen := linesL_len s.data.toList
  rw [len_data] at hlen
  obtain ⟨LS, HLS⟩ : ∃ LS, Hid (linesL s.data.toList = LS) := ⟨_, rfl⟩
  rw [HLS.out] at hln hlen
  have HLN := Lib.hid hln
  clear hln hm6
  go_wp2_with fail
  refine HLN.out.mono ?_
  rintro e w7 ⟨v, rfl, hrows, c7⟩
  clear HLN hbt hconv hcap
  obtain ⟨A, cv, rfl⟩ := hrows.shape
  have b7 := b6.trans (c7.mono s6)
  have s7 := b7.size
  clear b6 s6 c7
  obtain ⟨cap2, C2, hconv2, hcap2, hC2⟩ := conv_bytes (P := Tryd.prog) w7 9 30 5 s Tryd.underlying9 Tryd.underlying30 Tryd.underlying5
  have hbt2 : Bts 5 (w7.alloc (.cells C2 5 (C2.size, C2.size + 1))).drew w7.heap.size s.data.toList := (Bts.new w7 (fun j h => hC2 j (by simpa using h))).drew
  clear hC2
  have b8 := (b7.alloc s7 (.cells C2 5 (C2.size, C2.size + 1))).drew
  have s8 := b8.size
  have hrows8 := hrows.below (((Below.refl w7.heap.size w7).alloc (Nat.le_refl _) (.cells C2 5 (C2.size, C2.size + 1))).drew) (Nat.le_refl _)
  have hln2 := r_lines w7.heap.size s.data.toList cap2 _ hbt2 (by rw [len_data]; exact hcap2) (by rw [len_data]; omega)
  rw [len_data, HLS.out] at hln2
  have HLN := Lib.hid hln2
  clear hln2
  go_wp2_with fail
  refine HLN.out.mono ?_
  rintro e w9 ⟨v, rfl, hrowsV, c9⟩
  clear HLN hbt2 hconv2 hcap2
  obtain ⟨A2, cv2, rfl⟩ := hrowsV.shape
  have b9 := b8.trans (c9.mono s8)
  have s9 := b9.size
  have hrows9 := hrows8.below c9 (Nat.le_refl _)
  clear b8 s8 c9 hrows hrows8
  go_wp2
  go_loopw [21] (fun i wr => ∃ k : Nat, k ≤ LS.length ∧ i = .int .i64 k ∧ ∃ n, wr = w9.drewN n) (fun i _ => LS.length - (intOf i).toNat)
  case atStart => exact ⟨0, Nat.zero_le _, rfl, 0, rfl⟩
  case round =>
    obtain ⟨k, hk, rfl, n, rfl⟩ := hrel
    by_cases hlt : k < LS.length
    · obtain ⟨G, g, c, rfl, hcell, hbt, hgc⟩ := hrows9.at_ k hlt
      obtain ⟨G2, A', c', rfl, hcell2, hrd⟩ := hrowsV.at_ k hlt
      have hcw : (w9.drewN n).cell? ⟨G, k, none⟩ = some (.slice (some ⟨g, 0, none⟩) LS[k].length c) := by simpa using hcell
      have hcw2 : (w9.drewN n).cell? ⟨G2, k, none⟩ = some (.slice A' LS[k].length c') := by simpa using hcell2
      have hcv : ∀ q, (convert 30 9 (.slice (some ⟨g, 0, none⟩) LS[k].length c)).run Tryd.prog ((w9.drewN n).drewN q) = .ok (.string ⟨LS[k].toArray⟩) ((w9.drewN n).drewN q) := fun q => ((hbt.drewN n).drewN q).back (P := Tryd.prog) 30 9 c Tryd.underlying30 Tryd.underlying5 Tryd.underlying9
      have hcv2 : ∀ q, (convert 30 9 (.slice A' LS[k].length c')).run Tryd.prog ((w9.drewN n).drewN q) = .ok (.string ⟨LS[k].toArray⟩) ((w9.drewN n).drewN q) := fun q => ((hrd.drewN n).drewN q).back (P := Tryd.prog) 30 9 5 c' Tryd.underlying30 Tryd.underlying5 Tryd.underlying9
      have hki : (k : Int) < (LS.length : Int) := by omega
      clear hcell hcell2 hrows9 hrowsV hbt hrd
      generalize hwr : w9.drewN n = wr at *
      go_wp2_with fail
      go_quiet (fail)
      go_wp2
      go_roundw
      case rel =>
        refine ⟨k + 1, by omega, by go_num, ?_⟩
        subst hwr
        exact ⟨n + _, World.drewN_drewN _ _ _⟩
      case measure => simp [intOf]; omega
    · obtain rfl : k = LS.length := by omega
      have b10 : Below w.heap.size w (w9.drewN n) := below_drewN b9 n
      clear hrows9 hrowsV
      generalize w9.drewN n = w10 at *
      go_wp2_with fail
      refine (cF1.out _).mono ?_
      rintro e w11 ⟨rfl, c11⟩
      have b11 := b10.trans (c11.mono b10.size)
      clear c11
      go_wp2_with fail
      refine (cF2.out _).mono ?_
      rintro e w12 ⟨rfl, c12⟩
      have b12 := b11.trans (c12.mono b11.size)
      clear c12
      go_wp2_with fail
      refine (cS1.out _).mono ?_
      rintro e w13 ⟨rfl, n13, hn13⟩
      have b13 : Below w.heap.size w w13 := by rw [hn13]; exact below_drewN b12 n13
      clear hn13
      go_wp2_with fail
      refine (cS2.out _).mono ?_
      rintro e w14 ⟨rfl, c14⟩
      have b14 := b13.trans (c14.mono b13.size)
      clear c14
      go_wp2_with fail
      refine (cA1.out _).mono ?_
      rintro e w15 ⟨rfl, rfl⟩
      go_wp2_with fail
      refine (cA2.out _).mono ?_
      rintro e w16 ⟨rfl, rfl⟩
      go_wp2_with fail
      refine (cNS1.out _ (HP.out.below b14 hpg) (Nat.lt_of_lt_of_le hpg b14.size)).mono ?_
      rintro e w17 ⟨rfl, c17⟩
      have b17 := b14.trans (c17.mono b14.size)
      clear c17
      go_wp2_with fail
      refine (cNS2.out _).mono ?_
      rintro e w18 ⟨rfl, c18⟩
      have b18 := b17.trans (c18.mono b17.size)
      clear c18
      go_wp2
      go_ret
      exact ⟨rfl, b18⟩
end Go.Proofs.YtcioihimofcanaaDoor
