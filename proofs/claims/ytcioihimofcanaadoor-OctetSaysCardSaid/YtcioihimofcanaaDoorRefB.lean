/- The reference's Quote, Unquote (chapter 1). -/
import Derived.Test.YtcioihimofcanaaDoorRefA
import Derived.Test.YtcioihimofcanaaDoorRefF
import Derived.Test.YtcioihimofcanaaDoorRefN
import Derived.Test.YtcioihimofcanaaDoorOctN
import Derived.Test.YtcioihimofcanaaDoorOctD
import Derived.Test.YtcioihimofcanaaDoorOctF
import Derived.Lib.BufferRead
set_option linter.unusedVariables false
namespace Go.Proofs.YtcioihimofcanaaDoor
open Go.RowKit

set_option maxHeartbeats 1000000 in
theorem push_rd (w : World) (x : UInt8) : Rd (w.alloc (.cells #[.int .u8 (x.toNat : Int)] 5)) (some ⟨w.heap.size, 0, none⟩) [x] := Rd.of_bts (e := 5) (Bts.new0 w fun j hj => by
  have : j < 1 := hj
  match j, this with
  | 0, _ => rfl)
theorem push_rd_k (w : World) (n : Int) (x : UInt8) (h : n = (x.toNat : Int)) : Rd (w.alloc (.cells #[.int .u8 n] 5)) (some ⟨w.heap.size, 0, none⟩) [x] := h ▸ push_rd w x
/-- 'string(b)' of a slice of bytes that only reads. -/
theorem Rd.back {P : Program} {w : World} {A : Option Addr} {l : List UInt8} (h : Rd w A l) (src dst e : TypeId) (cap : Nat) (hs : P.underlying src = some (.slice e)) (he : P.underlying e = some (.int .u8)) (hd : P.underlying dst = some .string) :
    (convert src dst (.slice A l.length cap)).run P w = .ok (.string ⟨l.toArray⟩) w := by
  rcases A with _ | a
  · have h2 : l = [] := by
      rcases Nat.eq_zero_or_pos l.length with h0 | h0
      · exact List.eq_nil_of_length_eq_zero h0
      · obtain ⟨b, o, h, _⟩ := h h0
        cases h
    subst h2
    exact Lib.run_convert_nil_bytes w src dst e cap hs he hd
  · refine run_convert_bytes_back w src dst e a cap l hs he hd fun j hj => ?_
    obtain ⟨b, o, hA, _, hc⟩ := h (by omega)
    injection hA with hA
    subst hA
    rw [add_plain]
    exact hc j hj

theorem own_one (w : World) (B : Nat) (n : Int) (x : UInt8) (hx : n = (x.toNat : Int)) (hB : B ≤ w.heap.size) : (w.alloc (.cells #[.int .u8 n] 5)).ownsRow B 5 1 (.slice (some ⟨w.heap.size, 0, none⟩) 1 1) [x].length (Lib.byteCells [x]) :=
  ⟨rfl, .inr ⟨w.heap.size, 1, #[.int .u8 n], rfl, hB, by simp [World.alloc, -World.alloc_eq], Nat.le_refl _, by decide, rfl, by simp [Lib.byteCells, hx]⟩⟩

set_option maxRecDepth 100000 in
set_option maxHeartbeats 4000000 in
theorem r_quote (s : ByteArray) (w : World) (hs : s.size ≤ maxLen) :
    Calls Tryd.prog 13 #[.string s] w fun e w' => e = .returned (.tuple #[.string ⟨(quoteS s.data.toList).toArray⟩, .bool (quoteOk s.data.toList)]) ∧ Below w.heap.size w w' := by
  unfold maxLen at hs
  obtain ⟨i0, hi0, hz0, hz1, hz2⟩ := info_parts u8Info
  by_cases h8 : (8192 : Int) < (s.size : Int)
  · have hno : quoteOk s.data.toList = false := by
      have : ¬ s.size ≤ 8192 := by omega
      unfold quoteOk; rw [len_data]; simp [this]
    have HN := Lib.hid hno
    clear hno
    go_enter Tryd.func13, Tryd.ntmps13
    go_wp2
    go_ret2
    exact ⟨ret_tup2 (by simp [quoteS, HN.out]) (by rw [HN.out]; rfl), Below.refl _ _⟩
  · have h8' : s.size ≤ 8192 := by omega
    go_enter Tryd.func13, Tryd.ntmps13
    go_wp2
    have own0 := own_one w w.heap.size 34 34 rfl (Nat.le_refl _)
    go_loopw [4, 5] (fun v i wr => ∃ (k : Nat) (acc : List UInt8), k ≤ s.size ∧ i = .int .i64 k ∧ Hid (acc = 34 :: escL (s.data.toList.take k)) ∧ acc.length ≤ 2 * k + 1 ∧ wr.ownsRow w.heap.size 5 1 v acc.length (Lib.byteCells acc) ∧ Below w.heap.size w wr ∧ Hid ((s.data.toList.take k).all quotableB = true)) (fun _ i _ => s.size - (intOf i).toNat)
    case atStart => exact ⟨0, _, Nat.zero_le _, rfl, rfl, by simp [escL], own0, (Below.refl w.heap.size w).alloc (Nat.le_refl _) _, rfl⟩
    case round =>
      obtain ⟨k, acc, hk, rfl, HC, hal, hI, hb, HA⟩ := hrel
      have hsz := hb.size
      by_cases hlt : k < s.size
      · by_cases hq : quotableB s[k] = true
        · by_cases he : escapedB s[k] = true
          · have he' : s[k].toNat = 34 ∨ s[k].toNat = 92 := by unfold escapedB at he; simpa using he
            have HE := Lib.hid he
            clear he
            rcases he' with he | he
            · have t1 : ((s[k].toNat : Int) == 34) = true := eq_t he
              have HX := Lib.hid he
              clear he
              have s2 := hb.size
              have ba2 := hb.alloc s2 (.cells #[.int .u8 92] 5)
              go_wp2_with (first | (go_at_call 31; refine (r_plain _ _).mono ?_; rintro e w' ⟨rfl, rfl⟩) | (at_builtin; refine wpList_append_rd _ rfl _ _ 30 rfl w.heap.size 5 i0 Tryd.underlying30 hi0 hz0 hz1 hz2 _ acc rfl (hI.alloc _) _ [92] _ _ rfl rfl (push_rd_k wr 92 92 rfl) (by simp; omega) (by simp; omega) ?_))
              intro v2 w2 own2 g2
              have b2 := ba2.grown g2 (by simp; omega) (fun k hk => (hI.lt k hk).1)
              obtain ⟨L2, HL2, hL2, own2⟩ : ∃ L, Hid (L = acc ++ [92]) ∧ L.length ≤ acc.length + 1 ∧ w2.ownsRow w.heap.size 5 1 v2 L.length (Lib.byteCells L) := ⟨acc ++ [92], rfl, by simp, by rw [List.length_append]; exact own2⟩
              clear ba2
              have s3 := b2.size
              have ba3 := b2.alloc s3 (.cells #[.int .u8 (s[k].toNat : Int)] 5)
              go_wp2_with (at_builtin; refine wpList_append_rd _ rfl _ _ 30 rfl w.heap.size 5 i0 Tryd.underlying30 hi0 hz0 hz1 hz2 _ L2 rfl (own2.alloc _) _ [s[k]] _ _ rfl rfl (push_rd w2 s[k]) (by simp; omega) (by simp; omega) ?_)
              intro v3 w3 own3 g3
              have b3 := ba3.grown g3 (by simp; omega) (fun k hk => (own2.lt k hk).1)
              obtain ⟨L3, HL3, hL3, own3⟩ : ∃ L, Hid (L = L2 ++ [s[k]]) ∧ L.length ≤ L2.length + 1 ∧ w3.ownsRow w.heap.size 5 1 v3 L.length (Lib.byteCells L) := ⟨L2 ++ [s[k]], rfl, by simp, by rw [List.length_append]; exact own3⟩
              clear ba3
              go_wp2
              go_roundw
              case rel =>
                refine ⟨k + 1, L3, by omega, by go_num, ?_, by omega, own3, b3, ?_⟩
                · show _ = _
                  rw [HL3.out, HL2.out, HC.out, take_snoc s k hlt, escL_snoc, escB, if_pos HE.out]
                  simp
                · show _ = _
                  rw [take_snoc s k hlt, List.all_append, HA.out]; simp [hq]
              case measure => simp [intOf]; omega
            · have t1 : ((s[k].toNat : Int) == 34) = false := eq_f (n := 34) (by omega)
              have t2 : ((s[k].toNat : Int) == 92) = true := eq_t he
              have HX := Lib.hid he
              clear he
              have s2 := hb.size
              have ba2 := hb.alloc s2 (.cells #[.int .u8 92] 5)
              go_wp2_with (first | (go_at_call 31; refine (r_plain _ _).mono ?_; rintro e w' ⟨rfl, rfl⟩) | (at_builtin; refine wpList_append_rd _ rfl _ _ 30 rfl w.heap.size 5 i0 Tryd.underlying30 hi0 hz0 hz1 hz2 _ acc rfl (hI.alloc _) _ [92] _ _ rfl rfl (push_rd_k wr 92 92 rfl) (by simp; omega) (by simp; omega) ?_))
              intro v2 w2 own2 g2
              have b2 := ba2.grown g2 (by simp; omega) (fun k hk => (hI.lt k hk).1)
              obtain ⟨L2, HL2, hL2, own2⟩ : ∃ L, Hid (L = acc ++ [92]) ∧ L.length ≤ acc.length + 1 ∧ w2.ownsRow w.heap.size 5 1 v2 L.length (Lib.byteCells L) := ⟨acc ++ [92], rfl, by simp, by rw [List.length_append]; exact own2⟩
              clear ba2
              have s3 := b2.size
              have ba3 := b2.alloc s3 (.cells #[.int .u8 (s[k].toNat : Int)] 5)
              go_wp2_with (at_builtin; refine wpList_append_rd _ rfl _ _ 30 rfl w.heap.size 5 i0 Tryd.underlying30 hi0 hz0 hz1 hz2 _ L2 rfl (own2.alloc _) _ [s[k]] _ _ rfl rfl (push_rd w2 s[k]) (by simp; omega) (by simp; omega) ?_)
              intro v3 w3 own3 g3
              have b3 := ba3.grown g3 (by simp; omega) (fun k hk => (own2.lt k hk).1)
              obtain ⟨L3, HL3, hL3, own3⟩ : ∃ L, Hid (L = L2 ++ [s[k]]) ∧ L.length ≤ L2.length + 1 ∧ w3.ownsRow w.heap.size 5 1 v3 L.length (Lib.byteCells L) := ⟨L2 ++ [s[k]], rfl, by simp, by rw [List.length_append]; exact own3⟩
              clear ba3
              go_wp2
              go_roundw
              case rel =>
                refine ⟨k + 1, L3, by omega, by go_num, ?_, by omega, own3, b3, ?_⟩
                · show _ = _
                  rw [HL3.out, HL2.out, HC.out, take_snoc s k hlt, escL_snoc, escB, if_pos HE.out]
                  simp
                · show _ = _
                  rw [take_snoc s k hlt, List.all_append, HA.out]; simp [hq]
              case measure => simp [intOf]; omega
          · have he' : ¬ s[k].toNat = 34 ∧ ¬ s[k].toNat = 92 := by unfold escapedB at he; simpa using he
            have t1 : ((s[k].toNat : Int) == 34) = false := eq_f he'.1
            have t2 : ((s[k].toNat : Int) == 92) = false := eq_f he'.2
            have HE := Lib.hid he
            have HX := Lib.hid he'
            clear he he'
            have s3 := hb.size
            have ba3 := hb.alloc s3 (.cells #[.int .u8 (s[k].toNat : Int)] 5)
            go_wp2_with (first | (go_at_call 31; refine (r_plain _ _).mono ?_; rintro e w' ⟨rfl, rfl⟩) | (at_builtin; refine wpList_append_rd _ rfl _ _ 30 rfl w.heap.size 5 i0 Tryd.underlying30 hi0 hz0 hz1 hz2 _ acc rfl (hI.alloc _) _ [s[k]] _ _ rfl rfl (push_rd wr s[k]) (by simp; omega) (by simp; omega) ?_))
            intro v3 w3 own3 g3
            have b3 := ba3.grown g3 (by simp; omega) (fun k hk => (hI.lt k hk).1)
            obtain ⟨L3, HL3, hL3, own3⟩ : ∃ L, Hid (L = acc ++ [s[k]]) ∧ L.length ≤ acc.length + 1 ∧ w3.ownsRow w.heap.size 5 1 v3 L.length (Lib.byteCells L) := ⟨acc ++ [s[k]], rfl, by simp, by rw [List.length_append]; exact own3⟩
            clear ba3
            go_wp2
            go_roundw
            case rel =>
              refine ⟨k + 1, L3, by omega, by go_num, ?_, by omega, own3, b3, ?_⟩
              · show _ = _
                rw [HL3.out, HC.out, take_snoc s k hlt, escL_snoc, escB, if_neg HE.out]
                simp
              · show _ = _
                rw [take_snoc s k hlt, List.all_append, HA.out]; simp [hq]
            case measure => simp [intOf]; omega
        · have hq' : quotableB s[k] = false := by simpa using hq
          clear hq
          go_wp2_with (go_at_call 31; refine (r_plain _ _).mono ?_; rintro e w' ⟨rfl, rfl⟩)
          go_ret2
          have hno := quote_no s k hlt hq'
          exact ⟨ret_tup2 (by simp [quoteS, hno]) (by rw [hno]; rfl), hb⟩
      · obtain rfl : k = s.size := by omega
        have s3 := hb.size
        have ba3 := hb.alloc s3 (.cells #[.int .u8 34] 5)
        go_wp2_with (at_builtin; refine wpList_append_rd _ rfl _ _ 30 rfl w.heap.size 5 i0 Tryd.underlying30 hi0 hz0 hz1 hz2 _ acc rfl (hI.alloc _) _ [34] _ _ rfl rfl (push_rd_k wr 34 34 rfl) (by simp; omega) (by simp; omega) ?_)
        intro v3 w3 own3 g3
        have b3 := ba3.grown g3 (by simp; omega) (fun k hk => (hI.lt k hk).1)
        obtain ⟨L3, HL3, hL3, own3⟩ : ∃ L, Hid (L = acc ++ [34]) ∧ L.length ≤ acc.length + 1 ∧ w3.ownsRow w.heap.size 5 1 v3 L.length (Lib.byteCells L) := ⟨acc ++ [34], rfl, by simp, by rw [List.length_append]; exact own3⟩
        clear ba3
        obtain ⟨A5, c5, rfl, hc5, r5⟩ := Bts.of_own own3
        have hbk := r5.back (P := Tryd.prog) 30 9 5 c5 Tryd.underlying30 Tryd.underlying5 Tryd.underlying9
        go_wp2
        go_ret2
        have hyes := HA.out
        rw [take_all] at hyes
        have hyes := quote_yes s h8' hyes
        refine ⟨ret_tup2 ?_ (by rw [hyes]; rfl), b3⟩
        rw [HL3.out, HC.out, take_all]
        simp only [quoteS, hyes]
        rfl
end Go.Proofs.YtcioihimofcanaaDoor
