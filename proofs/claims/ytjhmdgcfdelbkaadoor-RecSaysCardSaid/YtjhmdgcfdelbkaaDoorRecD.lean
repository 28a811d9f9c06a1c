/- Package rec: Get. -/
import Derived.Test.YtjhmdgcfdelbkaaDoorRecC
import Derived.Test.YtjhmdgcfdelbkaaDoorShelf
import Derived.Deep.RegionHeld3
import Derived.Deep.DrawnRows
set_option linter.unusedVariables false
namespace Go.Proofs.YtjhmdgcfdelbkaaDoor
open Go.RowKit

theorem Rd.win {w : World} {g o : Nat} {l : List UInt8} (h : Rd w (some ⟨g, o, none⟩) l) (f n : Nat) : Rd w (some ⟨g, o + f, none⟩) ((l.drop f).take n) := fun hp => by
  have hk : 0 < l.length := by simp at hp; omega
  obtain ⟨b, o', hA, hb, hc⟩ := h hk
  injection hA with hA
  injection hA with h1 h2
  subst h1 h2
  refine ⟨g, o + f, rfl, hb, fun i hi => ?_⟩
  have hi' : f + i < l.length := by simp at hi; omega
  rw [List.getElem_take, List.getElem_drop, ← hc (f + i) hi', Nat.add_assoc]
theorem Rd.take {w : World} {A : Option Addr} {l : List UInt8} (h : Rd w A l) (k : Nat) : Rd w A (l.take k) := fun hp => by
  have hk : 0 < l.length := by simp at hp; omega
  obtain ⟨b, o, hA, hb, hc⟩ := h hk
  refine ⟨b, o, hA, hb, fun i hi => ?_⟩
  have hi' : i < l.length := by simp at hi; omega
  rw [hc i hi', List.getElem_take]

def noRec : Value := .agg #[.int .i64 0, .slice none 0 0]
set_option maxHeartbeats 400000 in
theorem get_more1 (A : Option Addr) (l : List UInt8) (c : Nat) (w : World) (h4 : l.length < 4) :
    Calls Tryd.prog 7 #[.slice A l.length c] w fun e w' => e = .returned (.tuple #[noRec, .int .i64 0, .int .i64 8]) ∧ Below w.heap.size w w' := by
  have h4' : (l.length : Int) < 4 := by omega
  have b := (Below.refl w.heap.size w).alloc (Nat.le_refl _) (.cells #[.int .i64 0, .slice none 0 0] 24)
  go_enter Tryd.func7, Tryd.ntmps7
  go_wp2
  refine bodyPost_ret (v := .tuple #[noRec, .int .i64 0, .int .i64 8]) (by simp [results, Tryd.results7, noRec, go_sem]) rfl ⟨rfl, b⟩

set_option maxRecDepth 100000 in
set_option maxHeartbeats 2000000 in
theorem get_form1 (g o : Nat) (l : List UInt8) (c : Nat) (w : World) (hr : Rd w (some ⟨g, o, none⟩) l) (hc : l.length ≤ c) (h4 : 4 ≤ l.length) (hbig : 200000 < beN (l.take 4)) :
    Calls Tryd.prog 7 #[.slice (some ⟨g, o, none⟩) l.length c] w fun e w' => e = .returned (.tuple #[noRec, .int .i64 0, .int .i64 3]) ∧ Below w.heap.size w w' := by
  have h4' : ¬ (l.length : Int) < 4 := by omega
  have b := (Below.refl w.heap.size w).alloc (Nat.le_refl _) (.cells #[.int .i64 0, .slice none 0 0] 24)
  have hn := number_any _ (l.take 4) c _ (Rd.take (hr.below b) 4) (by rw [List.length_take]; omega)
  rw [List.length_take, Nat.min_eq_left h4] at hn
  have hb2 : (200000 : Int) < (beN (l.take 4) : Int) := by omega
  have HN := Lib.hid hn
  have o1 : (4 : Int) ≤ (c : Int) := by omega
  generalize beN (l.take 4) = sz at *
  clear hn
  go_enter Tryd.func7, Tryd.ntmps7
  go_wp2_with fail
  refine HN.out.mono ?_
  rintro e w1 ⟨rfl, rfl⟩
  go_wp2
  refine bodyPost_ret (v := .tuple #[noRec, .int .i64 0, .int .i64 3]) (by simp [results, Tryd.results7, noRec, go_sem]) rfl ⟨rfl, b⟩

set_option maxRecDepth 100000 in
set_option maxHeartbeats 2000000 in
theorem get_more2 (g o : Nat) (l : List UInt8) (c : Nat) (w : World) (hr : Rd w (some ⟨g, o, none⟩) l) (hc : l.length ≤ c) (h4 : 4 ≤ l.length) (hsm : beN (l.take 4) ≤ 200000) (hsh : l.length < 16 + beN (l.take 4)) :
    Calls Tryd.prog 7 #[.slice (some ⟨g, o, none⟩) l.length c] w fun e w' => e = .returned (.tuple #[noRec, .int .i64 0, .int .i64 8]) ∧ Below w.heap.size w w' := by
  have h4' : ¬ (l.length : Int) < 4 := by omega
  have b := (Below.refl w.heap.size w).alloc (Nat.le_refl _) (.cells #[.int .i64 0, .slice none 0 0] 24)
  have hn := number_any _ (l.take 4) c _ (Rd.take (hr.below b) 4) (by rw [List.length_take]; omega)
  rw [List.length_take, Nat.min_eq_left h4] at hn
  have HN := Lib.hid hn
  have o1 : (4 : Int) ≤ (c : Int) := by omega
  generalize beN (l.take 4) = sz at *
  have o2 : (l.length : Int) < 12 + (sz : Int) + 4 := by omega
  have o3 : (sz : Int) ≤ 200000 := by omega
  clear hn
  go_enter Tryd.func7, Tryd.ntmps7
  go_wp2_with fail
  refine HN.out.mono ?_
  rintro e w1 ⟨rfl, rfl⟩
  go_wp2
  refine bodyPost_ret (v := .tuple #[noRec, .int .i64 0, .int .i64 8]) (by simp [results, Tryd.results7, noRec, go_sem]) rfl ⟨rfl, b⟩

/-- What lies in the record that Get reads: its fields' bytes. -/
theorem cell_rec (w : World) (g : Nat) (a b : Value) (t : TypeId) : (w.alloc (.cells #[a, b] t)).cell? ⟨w.heap.size, 0, none⟩ = some a ∧ (w.alloc (.cells #[a, b] t)).cell? ⟨w.heap.size, 1, none⟩ = some b := by simp

theorem clone_at (a : Addr) (l : List UInt8) (c : Nat) (w : World) (h : Rd w (some a) l) (hl : l.length ≤ 140737488355328) :
    Calls Tryd.prog 18 #[.slice (some a) l.length c] w fun e w' => ∃ A cap, e = .returned (.slice A l.length cap) ∧ Rd w' A l ∧ Below w.heap.size w w' ∧ (∀ a', A = some a' → w.heap.size ≤ a'.block) := by
  refine (Tryd.bytes_Clone_at a l.length c (l.map fun c => (c.toNat : Int)) w (by simp) hl (fun i hi => ?_)).mono ?_
  · obtain ⟨b, o, hA, _, hc⟩ := h (by omega)
    injection hA with hA
    subst hA
    have e : (⟨b, o, none⟩ : Addr).add i = ⟨b, o + i, none⟩ := by unfold Addr.add; split <;> simp_all
    rw [e, hc i hi]
    simp [List.getD, hi]
  · rintro e w' ⟨v', rfl, hown, hne, hb⟩
    have e : (l.map fun c => (c.toNat : Int)).map (Value.int .u8) = Lib.byteCells l := by simp [Lib.byteCells]
    rw [e] at hown
    obtain ⟨A, cap, rfl, _, hr⟩ := Bts.of_own hown
    refine ⟨A, cap, rfl, hr, hb, fun a' ha => ?_⟩
    subst ha
    rcases hown.2 with ⟨h0, _⟩ | ⟨g', cap', cur, hv, hg, _⟩
    · cases h0
    · injection hv with h1
      injection h1 with h1
      subst h1
      exact hg
theorem Rd.setCell {w : World} {A : Option Addr} {l : List UInt8} (h : Rd w A l) (p : Addr) (v : Value) (hne : ∀ a', A = some a' → a'.block ≠ p.block) : Rd (w.setCell p v) A l := fun hp => by
  obtain ⟨b, o, hA, hb, hc⟩ := h hp
  have hn := hne _ hA
  refine ⟨b, o, hA, by simpa [World.setCell] using hb, fun i hi => ?_⟩
  rw [← hc i hi]
  have hn' : ¬ p.block = b := fun h => hn h.symm
  simp [World.setCell, World.cell?, Array.getElem?_modify, hn']

set_option linter.unusedSimpArgs false
theorem cellL (w : World) (cs : Array Value) (t : TypeId) (fz : Nat × Nat) (g i : Nat) : (w.alloc (.cells cs t fz)).cell? ⟨g, i, none⟩ = if g = w.heap.size then cs[i]? else w.cell? ⟨g, i, none⟩ := by
  by_cases h : g = w.heap.size
  · rw [if_pos h]; subst h; simp [World.cell?, World.alloc, -World.alloc_eq]
  · rw [if_neg h]; simp [World.cell?, World.alloc, -World.alloc_eq, Array.getElem?_push, h]
theorem drewL (w : World) (p : Addr) : w.drew.cell? p = w.cell? p := rfl
theorem sizeL (w : World) (o : Obj) : (w.alloc o).heap.size = w.heap.size + 1 := by simp
theorem sizeD (w : World) : w.drew.heap.size = w.heap.size := rfl
theorem of_at (w : World) (g o c E y : Nat) (l : List UInt8) (hr : Rd w (some ⟨g, o, none⟩) l) (hE : E ≤ l.length) (hl : l.length ≤ 1000000) (ht : Hid (Steps w)) (hp : 0 < w.heap.size) (hy : Hid (crcAdd 0 (l.take E) = y)) (W : World) (G : Nat) (hc : W.cell? ⟨G, 0, none⟩ = some (.slice (some ⟨g, o, none⟩) E c)) (hb : Below w.heap.size w W) :
    Calls Tryd.prog 14 #[.slice (some ⟨G, 0, none⟩) 1 1] W fun e w' => e = .returned (.int .u32 (y : Int)) ∧ W = w' := by
  have hlen : (l.take E).length = E := by rw [List.length_take]; omega
  rw [← hy.out]
  exact of_any _ [l.take E] 1 _ (fun _ => ⟨G, 0, rfl, fun i hi => by
    have : i < 1 := hi
    match i, this with
    | 0, _ => exact ⟨_, c, by show _ = some (Value.slice _ (l.take E).length c); rw [hlen]; exact hc, Rd.take (hr.below hb) E⟩⟩) (by simp) (by intro x hx; simp at hx; subst hx; rw [hlen]; omega) (ht.out.below hb hp)
theorem num_at (w : World) (g o c E y : Nat) (l : List UInt8) (hr : Rd w (some ⟨g, o, none⟩) l) (hE : E + 4 ≤ l.length) (hy : Hid (beN ((l.drop E).take 4) = y)) (W : World) (hb : Below w.heap.size w W) :
    Calls Tryd.prog 17 #[.slice (some ⟨g, o + E, none⟩) 4 (c - E)] W fun e w' => e = .returned (.int .u64 (y : Int)) ∧ W = w' := by
  have h := number_any _ ((l.drop E).take 4) (c - E) W (Rd.win (hr.below hb) E 4) (by rw [List.length_take]; omega)
  rw [List.length_take, List.length_drop, Nat.min_eq_left (by omega), hy.out] at h
  exact h

attribute [local go_sem ↓] Go.wp_at_zero Go.wp_at_succ
set_option maxRecDepth 100000 in
set_option maxHeartbeats 4000000 in
theorem get_whole (g o : Nat) (l : List UInt8) (c sz x : Nat) (w : World) (hr : Rd w (some ⟨g, o, none⟩) l) (hc : l.length ≤ c) (hsz : Hid (beN (l.take 4) = sz)) (hsm : sz ≤ 200000) (hsh : 16 + sz ≤ l.length) (hll : l.length ≤ 1000000) (hx : Hid (beN ((l.drop 4).take 8) = x)) (hx1 : 1 ≤ x) (hx2 : x < 9223372036854775808) (ht : Steps w) (hp : 0 < w.heap.size)
    (y1 y2 E F : Nat) (HE : Hid (E = 12 + sz ∧ F = E + 4)) (hy1 : Hid (crcAdd 0 (l.take E) = y1)) (hy2 : Hid (beN ((l.drop E).take 4) = y2)) :
    Calls Tryd.prog 7 #[.slice (some ⟨g, o, none⟩) l.length c] w fun e w' => (y1 ≠ y2 → e = .returned (.tuple #[noRec, .int .i64 0, .int .i64 3])) ∧ (y1 = y2 → ∃ g' cap, e = .returned (.tuple #[.agg #[.int .i64 (x : Int), .slice g' sz cap], .int .i64 ((16 + sz : Nat) : Int), .int .i64 0]) ∧ Rd w' g' ((l.drop 12).take sz)) ∧ Below w.heap.size w w' := by
  have HT := Lib.hid ht
  clear ht
  have h4' : ¬ (l.length : Int) < 4 := by omega
  have b := (Below.refl w.heap.size w).alloc (Nat.le_refl _) (.cells #[.int .i64 0, .slice none 0 0] 24)
  have s1 := b.size
  have hrb := hr.below b
  have hn := number_any _ (l.take 4) c _ (Rd.take hrb 4) (by rw [List.length_take]; omega)
  rw [List.length_take, Nat.min_eq_left (by omega), hsz.out] at hn
  have HN := Lib.hid hn
  have hn2 := number_any _ ((l.drop 4).take 8) (c - 4) _ (Rd.win hrb 4 8) (by rw [List.length_take]; omega)
  rw [List.length_take, List.length_drop, Nat.min_eq_left (by omega), hx.out] at hn2
  have HN2 := Lib.hid hn2
  have hE1 : E = 12 + sz := HE.out.1
  have hF1 : F = E + 4 := HE.out.2
  have e1 : (12 : Int) + (sz : Int) = (E : Int) := by omega
  have e2 : (E : Int) + 4 = (F : Int) := by omega
  have e3 : F - E = 4 := by omega
  have e4 : E - 12 = sz := by omega
  have hEl : E + 4 ≤ l.length := by omega
  have o1 : (4 : Int) ≤ (c : Int) := by omega
  have o2 : ¬ (l.length : Int) < (F : Int) := by omega
  have o3 : (sz : Int) ≤ 200000 := by omega
  have o4 : (12 : Int) ≤ (c : Int) := by omega
  have o5 : (F : Int) ≤ (c : Int) := by omega
  have o6 : ¬ c = 4 := by omega
  have o7 : ¬ c = 12 := by omega
  have o8 : ¬ c = E := by omega
  have p1 : (E : Int) ≤ (F : Int) := by omega
  have p2 : (E : Int) ≤ (c : Int) := by omega
  have p3 : (0 : Int) ≤ (E : Int) := by omega
  have p4 : (12 : Int) ≤ (E : Int) := by omega
  have p5 : decide ((x : Int) < 1) = false := by simp; omega
  have p6 : y1 < 4294967296 := by rw [← hy1.out]; exact crcAdd_lt 0 _ (by decide)
  have p7 : IntKind.u64.wrap (y1 : Int) = y1 := by simp [IntKind.wrap, IntKind.bits, IntKind.signed]; omega
  have hcl := clone_at ⟨g, o + 12, none⟩ ((l.drop 12).take sz) (c - 12)
  have hcl0 : ((l.drop 12).take sz).length = sz := by rw [List.length_take, List.length_drop]; omega
  rw [hcl0] at hcl
  have HCL := Lib.hid hcl
  clear hn hn2 hE1 hF1 hsh hcl hcl0
  go_enter Tryd.func7, Tryd.ntmps7
  go_wp2_with fail
  refine HN.out.mono ?_
  rintro e w1 ⟨rfl, rfl⟩
  go_wp2_with fail
  refine HN2.out.mono ?_
  rintro e w1 ⟨rfl, rfl⟩
  go_wp2_with fail
  go_region_held3 (fun W => Below w.heap.size w W) (first | assumption | exact Below.alloc ‹_› (Below.size ‹_›) _ | exact Below.drew ‹_›) (first
    | (go_at_call 14; with_reducible refine (of_at w g o c E y1 l hr (by omega) hll HT hp hy1 _ _ ?_ (by assumption)).mono ?_; (focus (simp only [cellL, drewL, sizeL, sizeD]; first | (simp; done) | (simp; omega))); rintro e w5 ⟨rfl, rfl⟩)
    | (go_at_call 17; with_reducible refine (num_at w g o c E y2 l hr hEl hy2 _ (by assumption)).mono ?_; rintro e w5 ⟨rfl, rfl⟩))
  have t9 : Below w.heap.size w ((w.alloc (.cells #[.int .i64 0, .slice none 0 0] 24)).alloc (.cells #[.slice (some ⟨g, o, none⟩) E c] 22)).drew := (b.alloc s1 _).drew
  by_cases hyy : y1 = y2
  · have n1 : ((y1 : Int) != (y2 : Int)) = false := ne_f hyy
    have HYY := Lib.hid hyy
    clear hyy
    go_wp2_with fail
    refine (HCL.out _ (Rd.win (hr.below t9) 12 sz) (by omega)).mono ?_
    rintro e w9 ⟨A9, cap9, rfl, hr9, c9, hA9⟩
    have t10 := t9.trans (c9.mono t9.size)
    have k0 : w9.cell? ⟨w.heap.size, 0, none⟩ = some (.int .i64 0) := (c9.cell (p := ⟨w.heap.size, 0, none⟩) (by simp; omega)).trans (by (focus (simp only [cellL, drewL, sizeL, sizeD]; first | (simp; done) | (simp; omega))))
    have k1 : w9.cell? ⟨w.heap.size, 1, none⟩ = some (.slice none 0 0) := (c9.cell (p := ⟨w.heap.size, 1, none⟩) (by simp; omega)).trans (by (focus (simp only [cellL, drewL, sizeL, sizeD]; first | (simp; done) | (simp; omega))))
    have f0 : w9.frozen? ⟨w.heap.size, 0, none⟩ = false := (c9.frozen (p := ⟨w.heap.size, 0, none⟩) (by simp; omega)).trans (by simp)
    have f1 : w9.frozen? ⟨w.heap.size, 1, none⟩ = false := (c9.frozen (p := ⟨w.heap.size, 1, none⟩) (by simp; omega)).trans (by simp)
    have h2 : w.heap.size < ((w.alloc (.cells #[.int .i64 0, .slice none 0 0] 24)).alloc (.cells #[.slice (some ⟨g, o, none⟩) E c] 22)).drew.heap.size := by
      simp only [sizeD, sizeL]
      omega
    have hne : ∀ a', A9 = some a' → a'.block ≠ w.heap.size := by
      intro a' ha
      have h3 := hA9 a' ha
      omega
    clear h2
    have HNE := Lib.hid hne
    clear hne hA9
    go_wp2
    refine bodyPost_ret (v := .tuple #[.agg #[.int .i64 (x : Int), .slice A9 sz cap9], .int .i64 (F : Int), .int .i64 0]) (by simp [results, Tryd.results7, go_sem, k0, k1]) rfl ⟨fun h => absurd HYY.out h, fun _ => ⟨A9, cap9, ?_, (hr9.setCell _ _ HNE.out).setCell _ _ HNE.out⟩, (t10.setCell (p := ⟨w.heap.size, 0, none⟩) (Nat.le_refl _) _).setCell (p := ⟨w.heap.size, 1, none⟩) (Nat.le_refl _) _⟩
    have : (F : Int) = ((16 + sz : Nat) : Int) := by have := HE.out; omega
    rw [this]
  · have n1 : ((y1 : Int) != (y2 : Int)) = true := ne_t hyy
    have HYY := Lib.hid hyy
    clear hyy
    go_wp2
    refine bodyPost_ret (v := .tuple #[noRec, .int .i64 0, .int .i64 3]) (by simp [results, Tryd.results7, noRec, go_sem]) rfl ⟨fun _ => rfl, fun h => absurd h HYY.out, t9⟩
end Go.Proofs.YtjhmdgcfdelbkaaDoor
