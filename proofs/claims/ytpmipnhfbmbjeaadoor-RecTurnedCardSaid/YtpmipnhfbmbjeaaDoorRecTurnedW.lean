/- The walk of the law RecTurned. -/
import Derived.Test.YtpmipnhfbmbjeaaDoorRecN
import Derived.Test.YtpmipnhfbmbjeaaDoorRecE
set_option linter.unusedVariables false
namespace Go.Proofs.YtpmipnhfbmbjeaaDoor
open Go.RowKit

set_option maxRecDepth 100000 in
set_option maxHeartbeats 4000000 in
theorem turned_walk (num : Int) (Ab : Option Addr) (body : List UInt8) (cb : Nat) (at_ bit : Int) (w : World) (hwn : (Lit.int .i64 num).wf = true) (hrb : Rd w Ab body) (hcb : body.length ≤ cb) (_hm : cb ≤ maxLen) (hwa : (Lit.int .i64 at_).wf = true) (hwb : (Lit.int .i64 bit).wf = true) (ht : Steps w) (hp : 0 < w.heap.size) :
    Calls Tryd.prog 6 #[.agg #[.int .i64 num, .slice Ab body.length cb], .int .i64 at_, .int .i64 bit] w fun e w' => e = .returned (.bool true) ∧ Below w.heap.size w w' := by
  have b0 := (Below.refl w.heap.size w).alloc (Nat.le_refl _) (.cells #[.int .i64 num, .slice Ab body.length cb] 28)
  have hp0 := Nat.lt_of_lt_of_le hp b0.size
  have HT := Lib.hid ht
  have haw := Lib.hid (rec_awake (w.alloc (.cells #[.int .i64 num, .slice Ab body.length cb] 28)) (ht.below b0 hp) hp0)
  clear ht
  have hwn' : -9223372036854775808 ≤ num ∧ num ≤ 9223372036854775807 := by simpa [Lit.wf, IntKind.min, IntKind.max, IntKind.signed, IntKind.bits] using hwn
  have hwa' : -9223372036854775808 ≤ at_ ∧ at_ ≤ 9223372036854775807 := by simpa [Lit.wf, IntKind.min, IntKind.max, IntKind.signed, IntKind.bits] using hwa
  clear hwn hwa
  go_enter Tryd.func6, Tryd.ntmps6
  go_wp2_with fail
  refine haw.out.mono ?_
  rintro e w1 ⟨rfl, c1⟩
  have b1 := b0.trans (c1.mono b0.size)
  have d0 : w1.cell? ⟨w.heap.size, 0, none⟩ = some (.int .i64 num) := (c1.cell (p := ⟨w.heap.size, 0, none⟩) (by simp)).trans (by simp)
  have d1 : w1.cell? ⟨w.heap.size, 1, none⟩ = some (.slice Ab body.length cb) := (c1.cell (p := ⟨w.heap.size, 1, none⟩) (by simp)).trans (by simp)
  clear c1 haw
  by_cases h1 : num < 1
  · go_wp2
    go_ret
    exact ⟨rfl, b1⟩
  by_cases h2 : (100 : Int) < (body.length : Int)
  · go_wp2
    go_ret
    exact ⟨rfl, b1⟩
  by_cases h3 : at_ < 4
  · go_wp2
    go_ret
    exact ⟨rfl, b1⟩
  by_cases h4 : bit < 0
  · go_wp2
    go_ret
    exact ⟨rfl, b1⟩
  by_cases h5 : (7 : Int) < bit
  · go_wp2
    go_ret
    exact ⟨rfl, b1⟩
  obtain ⟨n, rfl⟩ := Int.eq_ofNat_of_zero_le (by omega : 0 ≤ num)
  obtain ⟨j, rfl⟩ := Int.eq_ofNat_of_zero_le (by omega : 0 ≤ at_)
  obtain ⟨t, rfl⟩ := Int.eq_ofNat_of_zero_le (by omega : 0 ≤ bit)
  have hb100 : body.length ≤ 100 := by omega
  have hput := Lib.hid (put_any none [] 0 n Ab body cb w1 Rd.nil (hrb.below b1) (by decide) (by unfold goodB; simp; omega) (by omega) (HT.out.below b1 hp) (Nat.lt_of_lt_of_le hp b1.size))
  have hpl := putR_len n body
  obtain ⟨R, HR, HG⟩ : ∃ R : List UInt8, Hid (putR n body = R) ∧ Hid (∀ (hj : j < R.length) (g c : Nat) (W : World), Rd W (some ⟨g, 0, none⟩) (R.set j (R[j] ^^^ UInt8.ofNat (2 ^ t))) → R.length ≤ c → Steps W → 0 < W.heap.size → Calls Tryd.prog 9 #[.slice (some ⟨g, 0, none⟩) R.length c] W fun e w' => e = .returned (.tuple #[.agg #[.int .i64 0, .slice none 0 0], .int .i64 0, .int .i64 3]) ∧ Below W.heap.size W w') :=
    ⟨putR n body, rfl, fun hj g c W hr hc hst hp => get_turned g c n j t body W (by omega) hj (by omega) hb100 hr hc hst hp⟩
  rw [HR.out] at hput hpl
  have HPL := Lib.hid hpl
  clear hpl
  go_wp2_with fail
  refine hput.out.mono ?_
  rintro e w2 ⟨g, cap, rfl, hown, c2⟩
  have b2 := b1.trans (c2.mono b1.size)
  clear hput
  rw [List.nil_append] at hown ⊢
  by_cases h6 : (R.length : Int) ≤ (j : Int)
  · go_wp2
    go_ret
    exact ⟨rfl, b2⟩
  have hj : j < R.length := by omega
  obtain ⟨hBg, cc, ff⟩ := own_cell hown j hj
  have hst := own_set hown j hj (R[j] ^^^ UInt8.ofNat (2 ^ t))
  have hxo : Go.bits .xor .u8 (R[j].toNat : Int) (2 ^ t % 256) = ((R[j] ^^^ UInt8.ofNat (2 ^ t)).toNat : Int) := by
    have := u8_xor_nat R[j].toNat (2 ^ t % 256) R[j].toNat_lt (Nat.mod_lt _ (by decide))
    rw [UInt8.toNat_xor, UInt8.toNat_ofNat', ← this]
    congr 1
  rw [← hxo] at hst
  have hr2 := own_rd hst
  rw [List.length_set] at hr2
  have b3 := b2.setCell (p := ⟨g, j, none⟩) (Nat.le_trans b1.size hBg) (.int .u8 (Go.bits .xor .u8 (R[j].toNat : Int) (2 ^ t % 256)))
  have hg := Lib.hid (HG.out hj g cap _ hr2.1 hr2.2 (HT.out.below b3 hp) (Nat.lt_of_lt_of_le hp b3.size))
  have HB3 := Lib.hid b3
  clear hxo hst hr2 hown c2 b3
  go_wp2_with fail
  refine hg.out.mono ?_
  rintro e w4 ⟨rfl, c4⟩
  have b4 := HB3.out.trans (c4.mono HB3.out.size)
  have b5 := b4.alloc b4.size (.cells #[.int .i64 0, .slice none 0 0] 28)
  go_wp2
  go_ret
  exact ⟨rfl, b5⟩
end Go.Proofs.YtpmipnhfbmbjeaaDoor
