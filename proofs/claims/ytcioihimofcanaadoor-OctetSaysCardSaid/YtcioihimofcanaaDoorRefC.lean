/- The reference's Unquote (chapter 1). -/
import Derived.Test.YtcioihimofcanaaDoorRefB
set_option linter.unusedVariables false
namespace Go.Proofs.YtcioihimofcanaaDoor
open Go.RowKit

set_option maxRecDepth 100000 in
set_option maxHeartbeats 8000000 in
theorem r_unquote (s : ByteArray) (w : World) (hs : s.size ≤ 100000) :
    Calls Tryd.prog 14 #[.string s] w fun e w' => e = .returned (unqV (unq s.data.toList)) ∧ Below w.heap.size w w' := by
  obtain ⟨i0, hi0, hz0, hz1, hz2⟩ := info_parts u8Info
  by_cases h0 : s.size = 0
  · have e1 : ((s.size : Int) == 0) = true := eq_t h0
    have e2 := str_nil h0
    have E2 := Lib.hid e2
    clear e2 h0
    go_enter Tryd.func14, Tryd.ntmps14
    go_wp2
    go_ret3
    exact ⟨ret_unq [] 0 3 (by rw [E2.out]; rfl) rfl rfl rfl, Below.refl _ _⟩
  · have e1 : ((s.size : Int) == 0) = false := eq_f h0
    have hp : (0 : Int) < (s.size : Int) := by omega
    have hp2 : 0 < s.size := by omega
    have hcons : s.data.toList = s[0] :: s.data.toList.drop 1 := by
      have := drop_cons s 0 hp2; simpa using this
    have HC := Lib.hid hcons
    clear hcons h0
    by_cases hq0 : s[0].toNat = 34
    · have t0 : ((s[0].toNat : Int) != 34) = false := ne_f hq0
      have hun : unq s.data.toList = unqGo (s.data.toList.drop 1) [] 1 := by
        rw [HC.out]; simp [unq, hq0]
      have HU := Lib.hid hun
      clear hun hq0
      go_enter Tryd.func14, Tryd.ntmps14
      go_wp2
      go_loopw [5, 6] (fun v i wr => ∃ (k : Nat) (acc : List UInt8), 1 ≤ k ∧ k ≤ s.size ∧ i = .int .i64 k ∧ acc.length ≤ k ∧ wr.ownsRow w.heap.size 5 1 v acc.length (Lib.byteCells acc) ∧ Below w.heap.size w wr ∧ Hid (unq s.data.toList = unqGo (s.data.toList.drop k) acc k)) (fun _ i _ => s.size - (intOf i).toNat)
      case atStart => exact ⟨1, [], Nat.le_refl _, by omega, rfl, by simp, World.ownsRow_nil _ _ _ _, Below.refl _ _, HU.out⟩
      case round =>
        obtain ⟨k, acc, hk1, hk, rfl, hal, hI, hb, HA⟩ := hrel
        have hsz := hb.size
        by_cases hlt : k < s.size
        · have hdc := Lib.hid (drop_cons s k hlt)
          by_cases h34 : s[k].toNat = 34
          · have t1 : ((s[k].toNat : Int) == 34) = true := eq_t h34
            have H34 := Lib.hid h34
            clear h34
            obtain ⟨A5, c5, rfl, hc5, r5⟩ := Bts.of_own hI
            have hbk := r5.back (P := Tryd.prog) 30 9 5 c5 Tryd.underlying30 Tryd.underlying5 Tryd.underlying9
            go_wp2
            go_ret3
            exact ⟨ret_unq acc (k + 1) 0 (by rw [HA.out, hdc.out, unqGo_end _ _ _ _ H34.out]) rfl rfl rfl, hb⟩
          · have t1 : ((s[k].toNat : Int) == 34) = false := eq_f h34
            have H34 := Lib.hid h34
            clear h34
            by_cases hq : quotableB s[k] = true
            · by_cases h92 : s[k].toNat = 92
              · have t2 : ((s[k].toNat : Int) == 92) = true := eq_t h92
                have H92 := Lib.hid h92
                clear h92
                by_cases hend : k + 1 = s.size
                · have t3 : ((k : Int) + 1 == (s.size : Int)) = true := by simp; omega
                  have HE := Lib.hid hend
                  clear hend
                  go_wp2_with (go_at_call 31; refine (r_plain _ _).mono ?_; rintro e w' ⟨rfl, rfl⟩)
                  go_ret3
                  refine ⟨ret_unq [] 0 8 ?_ rfl rfl rfl, hb⟩
                  rw [HA.out, hdc.out, List.drop_eq_nil_of_le (by rw [len_data]; have := HE.out; omega), unqGo_more _ _ _ H92.out hq]
                · have hlt2 : k + 1 < s.size := by omega
                  have t3 : ((k : Int) + 1 == (s.size : Int)) = false := by simp; omega
                  clear hend
                  have hdc2 := Lib.hid (drop_cons s (k + 1) hlt2)
                  by_cases he : escapedB s[k + 1] = true
                  · have he' : s[k + 1].toNat = 34 ∨ s[k + 1].toNat = 92 := by unfold escapedB at he; simpa using he
                    have HE := Lib.hid he
                    clear he
                    rcases he' with he | he
                    · have t4 : ((s[k + 1].toNat : Int) != 34) = false := ne_f he
                      have t5 : ((s[k + 1].toNat : Int) != 92) = true := ne_t (n := 92) (by omega)
                      have HX := Lib.hid he
                      clear he
                      have s3 := hb.size
                      have ba3 := hb.alloc s3 (.cells #[.int .u8 (s[k + 1].toNat : Int)] 5)
                      go_wp2_with (first | (go_at_call 31; refine (r_plain _ _).mono ?_; rintro e w' ⟨rfl, rfl⟩) | (at_builtin; refine wpList_append_rd _ rfl _ _ 30 rfl w.heap.size 5 i0 Tryd.underlying30 hi0 hz0 hz1 hz2 _ acc rfl (hI.alloc _) _ [s[k + 1]] _ _ rfl rfl (push_rd wr s[k + 1]) (by simp; omega) (by simp; omega) ?_))
                      intro v3 w3 own3 g3
                      have b3 := ba3.grown g3 (by simp; omega) (fun k hk => (hI.lt k hk).1)
                      obtain ⟨L3, HL3, hL3, own3⟩ : ∃ L, Hid (L = acc ++ [s[k + 1]]) ∧ L.length ≤ acc.length + 1 ∧ w3.ownsRow w.heap.size 5 1 v3 L.length (Lib.byteCells L) := ⟨acc ++ [s[k + 1]], rfl, by simp, by rw [List.length_append]; exact own3⟩
                      clear ba3
                      go_wp2
                      go_roundw
                      case rel =>
                        refine ⟨k + 2, L3, by omega, by omega, by go_num, by omega, own3, b3, ?_⟩
                        show _ = _
                        rw [HL3.out, HA.out, hdc.out, hdc2.out, unqGo_esc _ _ _ _ _ H92.out hq HE.out]
                      case measure => simp [intOf]; omega
                    · have t4 : ((s[k + 1].toNat : Int) != 34) = true := ne_t (n := 34) (by omega)
                      have t5 : ((s[k + 1].toNat : Int) != 92) = false := ne_f he
                      have HX := Lib.hid he
                      clear he
                      have s3 := hb.size
                      have ba3 := hb.alloc s3 (.cells #[.int .u8 (s[k + 1].toNat : Int)] 5)
                      go_wp2_with (first | (go_at_call 31; refine (r_plain _ _).mono ?_; rintro e w' ⟨rfl, rfl⟩) | (at_builtin; refine wpList_append_rd _ rfl _ _ 30 rfl w.heap.size 5 i0 Tryd.underlying30 hi0 hz0 hz1 hz2 _ acc rfl (hI.alloc _) _ [s[k + 1]] _ _ rfl rfl (push_rd wr s[k + 1]) (by simp; omega) (by simp; omega) ?_))
                      intro v3 w3 own3 g3
                      have b3 := ba3.grown g3 (by simp; omega) (fun k hk => (hI.lt k hk).1)
                      obtain ⟨L3, HL3, hL3, own3⟩ : ∃ L, Hid (L = acc ++ [s[k + 1]]) ∧ L.length ≤ acc.length + 1 ∧ w3.ownsRow w.heap.size 5 1 v3 L.length (Lib.byteCells L) := ⟨acc ++ [s[k + 1]], rfl, by simp, by rw [List.length_append]; exact own3⟩
                      clear ba3
                      go_wp2
                      go_roundw
                      case rel =>
                        refine ⟨k + 2, L3, by omega, by omega, by go_num, by omega, own3, b3, ?_⟩
                        show _ = _
                        rw [HL3.out, HA.out, hdc.out, hdc2.out, unqGo_esc _ _ _ _ _ H92.out hq HE.out]
                      case measure => simp [intOf]; omega
                  · have he' : ¬ s[k + 1].toNat = 34 ∧ ¬ s[k + 1].toNat = 92 := by unfold escapedB at he; simpa using he
                    have t4 : ((s[k + 1].toNat : Int) != 34) = true := ne_t he'.1
                    have t5 : ((s[k + 1].toNat : Int) != 92) = true := ne_t he'.2
                    have HE : Hid (escapedB s[k + 1] = false) := by show _ = _; simpa using he
                    clear he he'
                    go_wp2_with (go_at_call 31; refine (r_plain _ _).mono ?_; rintro e w' ⟨rfl, rfl⟩)
                    go_ret3
                    refine ⟨ret_unq [] 0 3 ?_ rfl rfl rfl, hb⟩
                    rw [HA.out, hdc.out, hdc2.out, unqGo_noesc _ _ _ _ _ H92.out hq HE.out]
              · have t2 : ((s[k].toNat : Int) == 92) = false := eq_f h92
                have H92 := Lib.hid h92
                clear h92
                have s3 := hb.size
                have ba3 := hb.alloc s3 (.cells #[.int .u8 (s[k].toNat : Int)] 5)
                go_wp2_with (first | (go_at_call 31; refine (r_plain _ _).mono ?_; rintro e w' ⟨rfl, rfl⟩) | (at_builtin; refine wpList_append_rd _ rfl _ _ 30 rfl w.heap.size 5 i0 Tryd.underlying30 hi0 hz0 hz1 hz2 _ acc rfl (hI.alloc _) _ [s[k]] _ _ rfl rfl (push_rd wr s[k]) (by simp; omega) (by simp; omega) ?_))
                intro v3 w3 own3 g3
                have b3 := ba3.grown g3 (by simp; omega) (fun k hk => (hI.lt k hk).1)
                obtain ⟨L3, HL3, hL3, own3⟩ : ∃ L, Hid (L = acc ++ [s[k]]) ∧ L.length ≤ acc.length + 1 ∧ w3.ownsRow w.heap.size 5 1 v3 L.length (Lib.byteCells L) := ⟨acc ++ [s[k]], rfl, by simp, by rw [List.length_append]; exact own3⟩
                clear ba3
                go_wp2
                go_roundw
                case rel =>
                  refine ⟨k + 1, L3, by omega, by omega, by go_num, by omega, own3, b3, ?_⟩
                  show _ = _
                  rw [HL3.out, HA.out, hdc.out, unqGo_step _ _ _ _ H34.out hq H92.out]
                case measure => simp [intOf]; omega
            · have hq' : quotableB s[k] = false := by simpa using hq
              clear hq
              go_wp2_with (go_at_call 31; refine (r_plain _ _).mono ?_; rintro e w' ⟨rfl, rfl⟩)
              go_ret3
              exact ⟨ret_unq [] 0 3 (by rw [HA.out, hdc.out, unqGo_bad _ _ _ _ H34.out hq']) rfl rfl rfl, hb⟩
        · obtain rfl : k = s.size := by omega
          go_wp2
          go_ret3
          exact ⟨ret_unq [] 0 8 (by rw [HA.out, List.drop_eq_nil_of_le (by simp)]; rfl) rfl rfl rfl, hb⟩
    · have t0 : ((s[0].toNat : Int) != 34) = true := ne_t hq0
      have HQ := Lib.hid hq0
      clear hq0
      go_enter Tryd.func14, Tryd.ntmps14
      go_wp2
      go_ret3
      exact ⟨ret_unq [] 0 3 (by rw [HC.out]; simp [unq, HQ.out]) rfl rfl rfl, Below.refl _ _⟩
end Go.Proofs.YtcioihimofcanaaDoor
