/- The reference's Digits (chapter 1). -/
import Derived.Test.YtcioihimofcanaaDoorMa
import Derived.Lib.ItoaLen
import Derived.Lib.ItoaMem
import Derived.Deep.RegionWith
import Derived.Deep.DrawnRows
import Derived.Laws.BitsLemmas
set_option linter.unusedVariables false
namespace Go.Proofs.YtcioihimofcanaaDoor
open Go.RowKit

theorem add_plain_i (b o i : Nat) : (⟨b, o, none⟩ : Addr).add i = ⟨b, o + i, none⟩ := by unfold Addr.add; split <;> simp_all
theorem conv_one (x : UInt8) (n : Int) (hn : n = (x.toNat : Int)) (W : World) (g : Nat) (h : W.cell? ⟨g, 0, none⟩ = some (.int .u8 n)) :
    (convert 30 9 (.slice (some ⟨g, 0, none⟩) 1 1)).run Tryd.prog W = .ok (.string ⟨#[x]⟩) W := by
  subst hn
  have := run_convert_bytes_back (P := Tryd.prog) W 30 9 5 ⟨g, 0, none⟩ 1 [x] Tryd.underlying30 Tryd.underlying5 Tryd.underlying9 (fun j hj => by
    have : j < 1 := hj
    match j, this with
    | 0, _ => rw [add_plain_i]; exact h)
  exact this
theorem dig_byte (r : Nat) (h : r < 10) : (48 : Int) + (r : Int) = ((UInt8.ofNat (48 + r)).toNat : Int) := by
  rw [UInt8.toNat_ofNat', Nat.mod_eq_of_lt (by omega)]; omega

set_option linter.unusedSimpArgs false
theorem cellL (w : World) (cs : Array Value) (t : TypeId) (fz : Nat × Nat) (g i : Nat) : (w.alloc (.cells cs t fz)).cell? ⟨g, i, none⟩ = if g = w.heap.size then cs[i]? else w.cell? ⟨g, i, none⟩ := by
  by_cases h : g = w.heap.size
  · rw [if_pos h]; subst h; simp [World.cell?, World.alloc, -World.alloc_eq]
  · rw [if_neg h]; simp [World.cell?, World.alloc, -World.alloc_eq, Array.getElem?_push, h]
theorem drewL (w : World) (p : Addr) : w.drew.cell? p = w.cell? p := rfl
theorem sizeL (w : World) (o : Obj) : (w.alloc o).heap.size = w.heap.size + 1 := by simp
theorem sizeD (w : World) : w.drew.heap.size = w.heap.size := rfl
theorem dig_cell {f : FuncId} {args : Array Value} {v : Value} (W : World) (g : Nat) (X : Value) (h : W.cell? ⟨g, 0, none⟩ = some X) (hc : Calls Tryd.prog f args W fun e w' => e = .returned v ∧ Below W.heap.size W w') :
    Calls Tryd.prog f args W fun e w' => e = .returned v ∧ Below W.heap.size W w' ∧ w'.cell? ⟨g, 0, none⟩ = some X :=
  hc.mono fun e w' ⟨h1, h2⟩ => ⟨h1, h2, (h2.cell (p := ⟨g, 0, none⟩) (World.block_lt_of_cell? W _ h)).trans h⟩
attribute [local go_sem ↓] Go.wp_at_zero Go.wp_at_succ
set_option maxRecDepth 100000 in
set_option maxHeartbeats 2000000 in
theorem r_digits : ∀ (k n : Nat), n ≤ k → n ≤ 1000000000000 → ∀ w : World,
    Calls Tryd.prog 33 #[.int .i64 (n : Int)] w fun e w' => e = .returned (.string ⟨(Lib.decDigits n).toArray⟩) ∧ Below w.heap.size w w' := by
  intro k
  induction k with
  | zero =>
    intro n hn hm w
    obtain rfl : n = 0 := by omega
    have hk := conv_one 48 48 rfl
    go_enter Tryd.func33, Tryd.ntmps33
    go_wp2
    go_ret
    exact ⟨by rw [Lib.decDigits_one (by decide)]; rfl, (Below.refl w.heap.size w).alloc (Nat.le_refl _) _⟩
  | succ k ih =>
    intro n hn hm w
    by_cases h10 : n < 10
    · have h10' : (n : Int) < 10 := by omega
      obtain ⟨x, HX, hk⟩ : ∃ x, Hid (x = UInt8.ofNat (48 + n)) ∧ ∀ (W : World) (g : Nat) (h : W.cell? ⟨g, 0, none⟩ = some (.int .u8 (48 + n))), (convert 30 9 (.slice (some ⟨g, 0, none⟩) 1 1)).run Tryd.prog W = .ok (.string ⟨#[x]⟩) W := ⟨_, rfl, conv_one (UInt8.ofNat (48 + n)) (48 + n) (dig_byte n h10)⟩
      go_enter Tryd.func33, Tryd.ntmps33
      go_wp2
      go_ret
      exact ⟨by rw [Lib.decDigits_one h10, HX.out]; rfl, (Below.refl w.heap.size w).alloc (Nat.le_refl _) _⟩
    · have h10' : ¬ (n : Int) < 10 := by omega
      obtain ⟨m, r, hr, HM, d1, d2, d3, d4, hm'⟩ : ∃ m r : Nat, r < 10 ∧ Hid (n / 10 = m ∧ n % 10 = r) ∧ (n : Int) / 10 = (m : Int) ∧ Int.tdiv (n : Int) 10 = (m : Int) ∧ (n : Int) % 10 = (r : Int) ∧ Int.tmod (n : Int) 10 = (r : Int) ∧ m ≤ k := by
        refine ⟨n / 10, n % 10, Nat.mod_lt _ (by decide), ⟨rfl, rfl⟩, by omega, ?_, by omega, ?_, by omega⟩
        · rw [Int.tdiv_eq_ediv_of_nonneg (by omega)]; omega
        · rw [Int.tmod_eq_emod_of_nonneg (by omega)]; omega
      have hc := ih m hm' (by omega)
      obtain ⟨x, HX, hk⟩ : ∃ x, Hid (x = UInt8.ofNat (48 + r)) ∧ ∀ (W : World) (g : Nat) (h : W.cell? ⟨g, 0, none⟩ = some (.int .u8 (48 + r))), (convert 30 9 (.slice (some ⟨g, 0, none⟩) 1 1)).run Tryd.prog W = .ok (.string ⟨#[x]⟩) W := ⟨_, rfl, conv_one (UInt8.ofNat (48 + r)) (48 + r) (dig_byte r hr)⟩
      have HD : Hid (Lib.decDigits n = Lib.decDigits m ++ [x]) := by
        show _ = _
        rw [HX.out, Lib.decDigits, dif_neg h10, HM.out.1, HM.out.2]
      have q1 : IntKind.i64.wrap (m : Int) = m := by rw [IntKind.wrap_i64]; omega
      have q2 : IntKind.i64.wrap (48 + (r : Int)) = 48 + r := by rw [IntKind.wrap_i64]; omega
      have q3 : IntKind.u8.wrap (48 + (r : Int)) = 48 + r := by rw [IntKind.wrap_u8]; omega
      have hdl : (Lib.decDigits m).length ≤ 20 := by
        rw [Lib.decDigits_length]; exact Lib.nDigits_le20 m (by omega)
      generalize Lib.decDigits m = D at *
      have g3 : (IntKind.i64.max < (D.length : Int) + 1) = False := by simp [IntKind.max, IntKind.bits, IntKind.signed]; omega
      have HCC := Lib.hid hc
      clear ih hc
      go_enter Tryd.func33, Tryd.ntmps33
      go_wp2_with fail
      go_region_with (first
        | (go_at_call 33; with_reducible refine (dig_cell _ w.heap.size (.int .u8 (48 + (r : Int))) ?_ (HCC.out _)).mono ?_; (focus (simp only [cellL, drewL, sizeL, sizeD]; first | (simp; done) | (simp; omega))); rintro e w5 ⟨rfl, b5, hq⟩)
        | (go_at_call 33; with_reducible refine (HCC.out _).mono ?_; rintro e w5 ⟨rfl, b5⟩))
      all_goals
        go_wp2
        go_ret
        refine ⟨ret_str (by rw [HD.out]; apply ByteArray.ext; simp [ByteArray.data_append]), ?_⟩
        first
          | exact (Below.drew (Below.refl w.heap.size w)).trans b5 |>.alloc (((Below.drew (Below.refl w.heap.size w)).trans b5).size) _
          | exact (((Below.refl w.heap.size w).alloc (Nat.le_refl _) _).drew).trans (b5.mono (by simp))
          | exact (((Below.refl w.heap.size w).alloc (Nat.le_refl _) _)).trans (b5.mono (by simp))
end Go.Proofs.YtcioihimofcanaaDoor
