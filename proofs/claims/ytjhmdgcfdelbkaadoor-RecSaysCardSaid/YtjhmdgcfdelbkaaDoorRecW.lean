/- The reference's GetRec and Scan (chapter 5). -/
import Derived.Test.YtjhmdgcfdelbkaaDoorRecV
import Derived.Test.YtjhmdgcfdelbkaaDoorRecS
import Derived.Deep.RegionHeld3
set_option linter.unusedVariables false
set_option linter.unusedSimpArgs false
namespace Go.Proofs.YtjhmdgcfdelbkaaDoor
open Go.RowKit

set_option maxHeartbeats 400000 in
theorem getr_more1 (A : Option Addr) (l : List UInt8) (c : Nat) (w : World) (h4 : l.length < 4) :
    Calls Tryd.prog 8 #[.slice A l.length c] w fun e w' => e = .returned (.tuple #[noRec, .int .i64 0, .int .i64 8]) ∧ Below w.heap.size w w' := by
  have h4' : (l.length : Int) < 4 := by omega
  have b := (Below.refl w.heap.size w).alloc (Nat.le_refl _) (.cells #[.int .i64 0, .slice none 0 0] 30)
  go_enter Tryd.func8, Tryd.ntmps8
  go_wp2
  refine bodyPost_ret (v := .tuple #[noRec, .int .i64 0, .int .i64 8]) (by simp [results, Tryd.results8, noRec, go_sem]) rfl ⟨rfl, b⟩

theorem beN4_lt (l : List UInt8) : beN (l.take 4) < 4294967296 := by
  have h1 := beN_lt (l.take 4)
  have h2 : (256 : Nat) ^ (l.take 4).length ≤ 256 ^ 4 := Nat.pow_le_pow_right (by decide) (by rw [List.length_take]; omega)
  have h3 : (256 : Nat) ^ 4 = 4294967296 := by decide
  omega
theorem wrap_small (sz : Nat) (h : sz < 4294967296) : IntKind.i64.wrap (sz : Int) = sz := by rw [IntKind.wrap_i64]; omega
set_option maxRecDepth 100000 in
set_option maxHeartbeats 2000000 in
theorem getr_form1 (g o : Nat) (l : List UInt8) (c : Nat) (w : World) (hr : Rd w (some ⟨g, o, none⟩) l) (hc : l.length ≤ c) (h4 : 4 ≤ l.length) (hbig : 200000 < beN (l.take 4)) :
    Calls Tryd.prog 8 #[.slice (some ⟨g, o, none⟩) l.length c] w fun e w' => e = .returned (.tuple #[noRec, .int .i64 0, .int .i64 3]) ∧ Below w.heap.size w w' := by
  have h4' : ¬ (l.length : Int) < 4 := by omega
  have b := (Below.refl w.heap.size w).alloc (Nat.le_refl _) (.cells #[.int .i64 0, .slice none 0 0] 30)
  have hn := r_from _ (l.take 4) c _ (Rd.take (hr.below b) 4) (by rw [List.length_take]; omega)
  rw [List.length_take, Nat.min_eq_left h4] at hn
  have hb2 : (200000 : Int) < (beN (l.take 4) : Int) := by omega
  have hws := wrap_small _ (beN4_lt l)
  have HN := Lib.hid hn
  have o1 : (4 : Int) ≤ (c : Int) := by omega
  generalize beN (l.take 4) = sz at *
  clear hn
  go_enter Tryd.func8, Tryd.ntmps8
  go_wp2_with fail
  refine HN.out.mono ?_
  rintro e w1 ⟨rfl, rfl⟩
  go_wp2
  refine bodyPost_ret (v := .tuple #[noRec, .int .i64 0, .int .i64 3]) (by simp [results, Tryd.results8, noRec, go_sem]) rfl ⟨rfl, b⟩

set_option maxRecDepth 100000 in
set_option maxHeartbeats 2000000 in
theorem getr_more2 (g o : Nat) (l : List UInt8) (c : Nat) (w : World) (hr : Rd w (some ⟨g, o, none⟩) l) (hc : l.length ≤ c) (h4 : 4 ≤ l.length) (hsm : beN (l.take 4) ≤ 200000) (hsh : l.length < 16 + beN (l.take 4)) :
    Calls Tryd.prog 8 #[.slice (some ⟨g, o, none⟩) l.length c] w fun e w' => e = .returned (.tuple #[noRec, .int .i64 0, .int .i64 8]) ∧ Below w.heap.size w w' := by
  have h4' : ¬ (l.length : Int) < 4 := by omega
  have b := (Below.refl w.heap.size w).alloc (Nat.le_refl _) (.cells #[.int .i64 0, .slice none 0 0] 30)
  have hn := r_from _ (l.take 4) c _ (Rd.take (hr.below b) 4) (by rw [List.length_take]; omega)
  rw [List.length_take, Nat.min_eq_left h4] at hn
  have hws := wrap_small _ (beN4_lt l)
  have HN := Lib.hid hn
  have o1 : (4 : Int) ≤ (c : Int) := by omega
  generalize beN (l.take 4) = sz at *
  have o2 : (l.length : Int) < (sz : Int) + 16 := by omega
  have o3 : (sz : Int) ≤ 200000 := by omega
  clear hn
  go_enter Tryd.func8, Tryd.ntmps8
  go_wp2_with fail
  refine HN.out.mono ?_
  rintro e w1 ⟨rfl, rfl⟩
  go_wp2
  refine bodyPost_ret (v := .tuple #[noRec, .int .i64 0, .int .i64 8]) (by simp [results, Tryd.results8, noRec, go_sem]) rfl ⟨rfl, b⟩

section
attribute [local go_sem ↓] Go.wp_at_zero Go.wp_at_succ
set_option maxRecDepth 100000 in
set_option maxHeartbeats 4000000 in
theorem getr_neg (g o : Nat) (l : List UInt8) (c sz x : Nat) (w : World) (hr : Rd w (some ⟨g, o, none⟩) l) (hc : l.length ≤ c) (hsz : Hid (beN (l.take 4) = sz)) (hsm : sz ≤ 200000) (hsh : 16 + sz ≤ l.length) (hll : l.length ≤ 1000000) (hx : Hid (beN ((l.drop 4).take 8) = x)) (m : Int) (hxm : IntKind.i64.wrap (x : Int) = m) (hm : m < 1) (E F : Nat) (HE : Hid (E = 12 + sz ∧ F = E + 4)) :
    Calls Tryd.prog 8 #[.slice (some ⟨g, o, none⟩) l.length c] w fun e w' => e = .returned (.tuple #[noRec, .int .i64 0, .int .i64 3]) ∧ Below w.heap.size w w' := by
  have h4' : ¬ (l.length : Int) < 4 := by omega
  have b := (Below.refl w.heap.size w).alloc (Nat.le_refl _) (.cells #[.int .i64 0, .slice none 0 0] 30)
  have s1 := b.size
  have hrb := hr.below b
  have hn := r_from _ (l.take 4) c _ (Rd.take hrb 4) (by rw [List.length_take]; omega)
  rw [List.length_take, Nat.min_eq_left (by omega), hsz.out] at hn
  have HN := Lib.hid hn
  have hn2 := r_from _ ((l.drop 4).take 8) (c - 4) _ (Rd.win hrb 4 8) (by rw [List.length_take]; omega)
  rw [List.length_take, List.length_drop, Nat.min_eq_left (by omega), hx.out] at hn2
  have HN2 := Lib.hid hn2
  have hws := wrap_small sz (by omega)
  have hE1 : E = 12 + sz := HE.out.1
  have hF1 : F = E + 4 := HE.out.2
  have e1 : (sz : Int) + 12 = (E : Int) := by omega
  have e2 : (sz : Int) + 16 = (F : Int) := by omega
  have e3 : F - E = 4 := by omega
  have e4 : E - 12 = sz := by omega
  have hEl : E + 4 ≤ l.length := by omega
  have o1 : (4 : Int) ≤ (c : Int) := by omega
  have o2 : ¬ (l.length : Int) < (F : Int) := by omega
  have o3 : (sz : Int) ≤ 200000 := by omega
  have o4 : (12 : Int) ≤ (c : Int) := by omega
  have o5 : (F : Int) ≤ (c : Int) := by omega
  have o6 : ¬ c = 4 := by omega
  have o7 : ¬ c = 12 := by omega
  have o8 : ¬ c = E := by omega
  have p1 : (E : Int) ≤ (F : Int) := by omega
  have p2 : (E : Int) ≤ (c : Int) := by omega
  have p3 : (0 : Int) ≤ (E : Int) := by omega
  have p4 : (12 : Int) ≤ (E : Int) := by omega
  have p5 : decide (m < 1) = true := by simpa using hm
  clear hn hn2 hE1 hF1 hsh
  go_enter Tryd.func8, Tryd.ntmps8
  go_wp2_with fail
  refine HN.out.mono ?_
  rintro e w1 ⟨rfl, rfl⟩
  go_wp2_with fail
  refine HN2.out.mono ?_
  rintro e w1 ⟨rfl, rfl⟩
  go_wp2_with fail
  go_quiet (fail)
  go_wp2
  refine bodyPost_ret (v := .tuple #[noRec, .int .i64 0, .int .i64 3]) (by simp [results, Tryd.results8, noRec, go_sem]) rfl ⟨rfl, ((below_drewN b _).setCell (p := ⟨w.heap.size, 0, none⟩) (Nat.le_refl _) _).setCell (p := ⟨w.heap.size, 1, none⟩) (Nat.le_refl _) _⟩
end

theorem fr_at (w : World) (g o c E y : Nat) (l : List UInt8) (hr : Rd w (some ⟨g, o, none⟩) l) (hE : E + 4 ≤ l.length) (hy : Hid (beN ((l.drop E).take 4) = y)) (W : World) (hb : Below w.heap.size w W) :
    Calls Tryd.prog 19 #[.slice (some ⟨g, o + E, none⟩) 4 (c - E)] W fun e w' => e = .returned (.int .u64 (y : Int)) ∧ W = w' := by
  have h := r_from _ ((l.drop E).take 4) (c - E) W (Rd.win (hr.below hb) E 4) (by rw [List.length_take]; omega)
  rw [List.length_take, List.length_drop, Nat.min_eq_left (by omega), hy.out] at h
  exact h
theorem crc_at (w : World) (g o c E y : Nat) (l : List UInt8) (hr : Rd w (some ⟨g, o, none⟩) l) (hE : E ≤ l.length) (hl : l.length ≤ 1000000) (hy : Hid (crcAdd 0 (l.take E) = y)) (W : World) (hb : Below w.heap.size w W) :
    Calls Tryd.prog 16 #[.int .u32 0, .slice (some ⟨g, o, none⟩) E c] W fun e w' => e = .returned (.int .u32 (y : Int)) ∧ W = w' := by
  have hlen : (l.take E).length = E := by rw [List.length_take]; omega
  have h := says.ref_any 0 (by decide) (some ⟨g, o, none⟩) (l.take E) c W (Rd.take (hr.below hb) E) (by rw [hlen]; omega)
  rw [hlen, hy.out] at h
  exact h
set_option maxRecDepth 100000 in
set_option maxHeartbeats 4000000 in
theorem getr_whole (g o : Nat) (l : List UInt8) (c sz x : Nat) (w : World) (hr : Rd w (some ⟨g, o, none⟩) l) (hc : l.length ≤ c) (hsz : Hid (beN (l.take 4) = sz)) (hsm : sz ≤ 200000) (hsh : 16 + sz ≤ l.length) (hll : l.length ≤ 1000000) (hx : Hid (beN ((l.drop 4).take 8) = x)) (hx1 : 1 ≤ x) (hx2 : x < 9223372036854775808)
    (y1 y2 E F : Nat) (HE : Hid (E = 12 + sz ∧ F = E + 4)) (hy1 : Hid (crcAdd 0 (l.take E) = y1)) (hy2 : Hid (beN ((l.drop E).take 4) = y2)) :
    Calls Tryd.prog 8 #[.slice (some ⟨g, o, none⟩) l.length c] w fun e w' => (y1 ≠ y2 → e = .returned (.tuple #[noRec, .int .i64 0, .int .i64 3])) ∧ (y1 = y2 → ∃ g' cap, e = .returned (.tuple #[.agg #[.int .i64 (x : Int), .slice g' sz cap], .int .i64 ((16 + sz : Nat) : Int), .int .i64 0]) ∧ sz ≤ cap ∧ TB w' g' ((l.drop 12).take sz)) ∧ Below w.heap.size w w' := by
  obtain ⟨i0, hi0, hz0, hz1, hz2⟩ := info_parts u8Info
  have h4' : ¬ (l.length : Int) < 4 := by omega
  have b := (Below.refl w.heap.size w).alloc (Nat.le_refl _) (.cells #[.int .i64 0, .slice none 0 0] 30)
  have s1 := b.size
  have hrb := hr.below b
  have hn := r_from _ (l.take 4) c _ (Rd.take hrb 4) (by rw [List.length_take]; omega)
  rw [List.length_take, Nat.min_eq_left (by omega), hsz.out] at hn
  have HN := Lib.hid hn
  have hn2 := r_from _ ((l.drop 4).take 8) (c - 4) _ (Rd.win hrb 4 8) (by rw [List.length_take]; omega)
  rw [List.length_take, List.length_drop, Nat.min_eq_left (by omega), hx.out] at hn2
  have HN2 := Lib.hid hn2
  have hws := wrap_small sz (by omega)
  have hE1 : E = 12 + sz := HE.out.1
  have hF1 : F = E + 4 := HE.out.2
  have e1 : (sz : Int) + 12 = (E : Int) := by omega
  have e2 : (sz : Int) + 16 = (F : Int) := by omega
  have e3 : F - E = 4 := by omega
  have e4 : E - 12 = sz := by omega
  have hEl : E + 4 ≤ l.length := by omega
  have o1 : (4 : Int) ≤ (c : Int) := by omega
  have o2 : ¬ (l.length : Int) < (F : Int) := by omega
  have o3 : (sz : Int) ≤ 200000 := by omega
  have o4 : (12 : Int) ≤ (c : Int) := by omega
  have o5 : (F : Int) ≤ (c : Int) := by omega
  have o6 : ¬ c = 4 := by omega
  have o7 : ¬ c = 12 := by omega
  have o8 : ¬ c = E := by omega
  have p1 : (E : Int) ≤ (F : Int) := by omega
  have p2 : (E : Int) ≤ (c : Int) := by omega
  have p3 : (0 : Int) ≤ (E : Int) := by omega
  have p4 : (12 : Int) ≤ (E : Int) := by omega
  have p5 : decide ((x : Int) < 1) = false := by simp; omega
  have p6 : y1 < 4294967296 := by rw [← hy1.out]; exact crcAdd_lt 0 _ (by decide)
  have p7 : IntKind.u64.wrap (y1 : Int) = y1 := by simp [IntKind.wrap, IntKind.bits, IntKind.signed]; omega
  have e5 : IntKind.i64.wrap ((sz : Int) + 12) = E := by rw [IntKind.wrap_i64]; omega
  have e6 : IntKind.i64.wrap ((sz : Int) + 16) = F := by rw [IntKind.wrap_i64]; omega
  have e7 : IntKind.i64.wrap (E : Int) = E := by rw [IntKind.wrap_i64]; omega
  have e8 : IntKind.i64.wrap (F : Int) = F := by rw [IntKind.wrap_i64]; omega
  have p8 : IntKind.i64.wrap (x : Int) = x := by rw [IntKind.wrap_i64]; omega
  clear hn hn2 hE1 hF1 hsh
  go_enter Tryd.func8, Tryd.ntmps8
  go_wp2_with fail
  refine HN.out.mono ?_
  rintro e w1 ⟨rfl, rfl⟩
  go_wp2_with fail
  refine HN2.out.mono ?_
  rintro e w1 ⟨rfl, rfl⟩
  go_wp2_with fail
  go_region_held3 (fun W => Below w.heap.size w W) (first | assumption | exact Below.alloc ‹_› (Below.size ‹_›) _ | exact Below.drew ‹_›) (first
    | (go_at_call 16; with_reducible refine (crc_at w g o c E y1 l hr (by omega) hll hy1 _ (by assumption)).mono ?_; rintro e w5 ⟨rfl, rfl⟩)
    | (go_at_call 19; with_reducible refine (fr_at w g o c E y2 l hr hEl hy2 _ (by assumption)).mono ?_; rintro e w5 ⟨rfl, rfl⟩))
  have t9 : Below w.heap.size w (w.alloc (.cells #[.int .i64 0, .slice none 0 0] 30)).drew := b.drew
  by_cases hyy : y1 = y2
  · have n1 : ((y2 : Int) != (y1 : Int)) = false := ne_f hyy.symm
    have HYY := Lib.hid hyy
    clear hyy
    obtain ⟨W, hW⟩ : ∃ W, W = (w.alloc (.cells #[.int .i64 0, .slice none 0 0] 30)).drew := ⟨_, rfl⟩
    rw [← hW] at t9 ⊢
    have k0 : W.cell? ⟨w.heap.size, 0, none⟩ = some (.int .i64 0) := by rw [hW]; (focus (simp only [cellL, drewL, sizeL, sizeD]; first | (simp; done) | (simp; omega)))
    have k1 : W.cell? ⟨w.heap.size, 1, none⟩ = some (.slice none 0 0) := by rw [hW]; (focus (simp only [cellL, drewL, sizeL, sizeD]; first | (simp; done) | (simp; omega)))
    have f0 : W.frozen? ⟨w.heap.size, 0, none⟩ = false := by rw [hW]; simp
    have f1 : W.frozen? ⟨w.heap.size, 1, none⟩ = false := by rw [hW]; simp
    have sW : W.heap.size = w.heap.size + 1 := by rw [hW]; simp
    clear hW
    have ox := ow_empty' W
    have hcl0 : ((l.drop 12).take sz).length = sz := by rw [List.length_take, List.length_drop]; omega
    have hrB : Rd W (some ⟨g, o + 12, none⟩) ((l.drop 12).take sz) := Rd.win (hr.below t9) 12 sz
    obtain ⟨Bd, hBd⟩ : ∃ Bd, Bd = (l.drop 12).take sz := ⟨_, rfl⟩
    rw [← hBd] at hrB hcl0
    have HBd := Lib.hid hBd
    clear hBd
    have hrBx : Rd (W.alloc (.cells #[] 5)) (some ⟨g, o + 12, none⟩) Bd := hrB.below ((Below.refl W.heap.size W).alloc (Nat.le_refl _) _)
    have HCL := Lib.hid hcl0
    have hBl : Bd.length ≤ 200000 := by omega
    have sW' : w.heap.size < W.heap.size := by omega
    clear hcl0 hrB sW
    go_wp2_with (at_builtin; refine wpList_append_rda _ rfl _ _ 22 rfl W.heap.size 5 i0 Tryd.underlying22 hi0 hz0 hz1 hz2 _ [] rfl ox (some ⟨g, o + 12, none⟩) Bd _ _ HCL.out.symm rfl hrBx (by simp; omega) (by simp) ?_)
    intro v8 w8 hown8 g8 _
    have b8 : Below W.heap.size W w8 := ((Below.refl _ W).alloc (Nat.le_refl _) _).grown g8 (by simp) (fun k hk => (ox.lt k hk).1)
    have s8 := b8.size
    have t10 := t9.trans (b8.mono (by omega))
    have k0 := (b8.cell (p := ⟨w.heap.size, 0, none⟩) sW').trans k0
    have k1 := (b8.cell (p := ⟨w.heap.size, 1, none⟩) sW').trans k1
    have f0 := (b8.frozen (p := ⟨w.heap.size, 0, none⟩) sW').trans f0
    have f1 := (b8.frozen (p := ⟨w.heap.size, 1, none⟩) sW').trans f1
    have hlt := hown8.lt
    have hown8 : w8.ownsRow W.heap.size 5 1 v8 Bd.length (Lib.byteCells Bd) := hown8
    obtain ⟨A9, cap9, rfl, hcap9, _, hr9⟩ := TB.of_own hown8
    have hne : ∀ a', A9 = some a' → a'.block ≠ w.heap.size := by
      intro a' ha
      subst ha
      rcases hown8.2 with ⟨h0, _⟩ | ⟨g', cap', cur, hv, hg, _⟩
      · cases h0
      · injection hv with h1
        injection h1 with h1
        subst h1
        show g' ≠ w.heap.size
        omega
    have HNE := Lib.hid hne
    clear hne hown8 g8 hlt ox hrBx
    rw [HCL.out] at hcap9 ⊢
    go_wp2
    refine bodyPost_ret (v := .tuple #[.agg #[.int .i64 (x : Int), .slice A9 sz cap9], .int .i64 (F : Int), .int .i64 0]) (by simp [results, Tryd.results8, go_sem, k0, k1]) rfl ⟨fun h => absurd HYY.out h, fun _ => ⟨A9, cap9, ?_, hcap9, ?_⟩, (t10.setCell (p := ⟨w.heap.size, 0, none⟩) (Nat.le_refl _) _).setCell (p := ⟨w.heap.size, 1, none⟩) (Nat.le_refl _) _⟩
    · have : (F : Int) = ((16 + sz : Nat) : Int) := by have := HE.out; omega
      rw [this]
    · rw [← HBd.out]
      exact (hr9.setCell _ _ HNE.out).setCell _ _ HNE.out
  · have n1 : ((y2 : Int) != (y1 : Int)) = true := ne_t (fun h => hyy h.symm)
    have HYY := Lib.hid hyy
    clear hyy
    go_wp2
    refine bodyPost_ret (v := .tuple #[noRec, .int .i64 0, .int .i64 3]) (by simp [results, Tryd.results8, noRec, go_sem]) rfl ⟨fun _ => rfl, fun h => absurd h HYY.out, t9⟩
end Go.Proofs.YtjhmdgcfdelbkaaDoor
