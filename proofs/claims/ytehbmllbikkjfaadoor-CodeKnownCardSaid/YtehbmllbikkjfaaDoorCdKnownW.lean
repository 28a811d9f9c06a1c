/- CodeKnown's walk. -/
import Derived.Test.YtehbmllbikkjfaaDoorCdJ
set_option linter.unusedVariables false
namespace Go.Proofs.YtehbmllbikkjfaaDoor
open Go.RowKit

theorem kn1 : fromB64 [89, 87, 74] = none := by decide +kernel
theorem kn2 : fromB64 [89, 87, 75, 61] = none := by decide +kernel
theorem kn3 : fromB64 [89, 81, 61, 61, 89, 81, 61, 61] = none := by decide +kernel
theorem kn4 : fromB64 [89, 33, 61, 61] = none := by decide +kernel
theorem kn5 : fromB64 [] = some [] := by decide +kernel
theorem kn7 : b64 0 [97] = (⟨#[89, 81, 61, 61, 13, 10]⟩ : ByteArray).data.toList := by decide +kernel
theorem kn8 : quo 0 [97, 32, 13, 10, 98, 9] = (⟨#[97, 61, 50, 48, 13, 10, 98, 61, 48, 57]⟩ : ByteArray).data.toList := by decide +kernel
theorem kn9 : quo 0 [13, 233] = (⟨#[61, 48, 68, 61, 69, 57]⟩ : ByteArray).data.toList := by decide +kernel
theorem kn10 : fq [97, 61, 13, 10, 98, 61, 51, 100, 61, 52, 120, 61, 32, 13, 10, 99, 32, 9] = (⟨#[97, 98, 61, 61, 52, 120, 61, 13, 10, 99]⟩ : ByteArray).data.toList := by decide +kernel
theorem kn11 : decF (⟨#[66, 65, 83, 69, 54, 52]⟩ : ByteArray).data.toList [89, 81, 61, 61] = (⟨#[97]⟩ : ByteArray).data.toList := by decide +kernel
theorem kn12 : decF (⟨#[98, 97, 115, 101, 54, 52]⟩ : ByteArray).data.toList [33] = (⟨#[33]⟩ : ByteArray).data.toList := by decide +kernel
theorem kn13 : decF (⟨#[55, 98, 105, 116]⟩ : ByteArray).data.toList [61, 52, 49] = (⟨#[61, 52, 49]⟩ : ByteArray).data.toList := by decide +kernel

set_option maxRecDepth 100000 in
set_option maxHeartbeats 4000000 in
theorem known_walk (w : World) : Calls Tryd.prog 3 #[] w fun e w' => e = .returned (.bool true) ∧ Below w.heap.size w w' := by
  have hlit := lit_conv
  go_enter Tryd.func3, Tryd.ntmps3
  go_wp2_with ((with_reducible refine (awake_t _).mono ?_))
  first | (rintro _ w0 rfl B0) | (rintro _ w0 ⟨rfl, B0⟩)
  have s0 := B0.size
  go_wp2_with ((with_reducible refine (from64_none (some ⟨w0.heap.size, 0, none⟩) [89, 87, 74] 3 3 _ rfl kn1 ?_ (by decide) (by decide)).mono ?_))
  · exact lit_rd w0 [89, 87, 74] _
  first | (rintro _ w1 rfl hb1) | (rintro _ w1 ⟨rfl, hb1⟩)
  have b1 := (below_one4 w0 _).trans (hb1.mono (by simp))
  have B1 := B0.trans (b1.mono s0)
  have s1 := B1.size
  go_wp2_with ((with_reducible refine (from64_none (some ⟨w1.heap.size, 0, none⟩) [89, 87, 75, 61] 4 4 _ rfl kn2 ?_ (by decide) (by decide)).mono ?_))
  · exact lit_rd w1 [89, 87, 75, 61] _
  first | (rintro _ w2 rfl hb2) | (rintro _ w2 ⟨rfl, hb2⟩)
  have b2 := (below_one4 w1 _).trans (hb2.mono (by simp))
  have B2 := B1.trans (b2.mono s1)
  have s2 := B2.size
  go_wp2_with ((with_reducible refine (from64_none (some ⟨w2.heap.size, 0, none⟩) [89, 81, 61, 61, 89, 81, 61, 61] 8 8 _ rfl kn3 ?_ (by decide) (by decide)).mono ?_))
  · exact lit_rd w2 [89, 81, 61, 61, 89, 81, 61, 61] _
  first | (rintro _ w3 rfl hb3) | (rintro _ w3 ⟨rfl, hb3⟩)
  have b3 := (below_one4 w2 _).trans (hb3.mono (by simp))
  have B3 := B2.trans (b3.mono s2)
  have s3 := B3.size
  go_wp2_with ((with_reducible refine (from64_none (some ⟨w3.heap.size, 0, none⟩) [89, 33, 61, 61] 4 4 _ rfl kn4 ?_ (by decide) (by decide)).mono ?_))
  · exact lit_rd w3 [89, 33, 61, 61] _
  first | (rintro _ w4 rfl hb4) | (rintro _ w4 ⟨rfl, hb4⟩)
  have b4 := (below_one4 w3 _).trans (hb4.mono (by simp))
  have B4 := B3.trans (b4.mono s3)
  have s4 := B4.size
  go_wp2_with ((with_reducible refine (from64_some none [] [] 0 0 _ rfl kn5 Rd.nil (by decide) (by decide)).mono ?_))
  first | (rintro _ w5 v5 rfl hv5 b5) | (rintro _ w5 ⟨v5, rfl, hv5, b5⟩)
  obtain ⟨A5, k5, rfl, _, _⟩ := hv5
  have B5 := B4.trans (b5.mono s4)
  have s5 := B5.size
  go_wp2_with ((with_reducible refine (base64_n none [] 0 0 _ rfl Rd.nil (by decide) (by decide)).mono ?_))
  first | (rintro _ w6 v6 rfl hv6 b6) | (rintro _ w6 ⟨v6, rfl, hv6, b6⟩)
  obtain ⟨A6, k6, rfl, _, _⟩ := hv6
  rw [show (b64 0 []).length = 0 from rfl]
  have B6 := B5.trans (b6.mono s5)
  have s6 := B6.size
  go_wp2_with ((with_reducible refine (base64_n (some ⟨w6.heap.size, 0, none⟩) [97] 1 1 _ rfl ?_ (by decide) (by decide)).mono ?_))
  · exact lit_rd w6 [97] _
  first | (rintro _ w7 v7 rfl hv7 hb7) | (rintro _ w7 ⟨v7, rfl, hv7, hb7⟩)
  have b7 := (below_one4 w6 _).trans (hb7.mono (by simp))
  have c7 := hv7.str _ kn7
  have B7 := B6.trans (b7.mono s6)
  have s7 := B7.size
  go_wp2_with ((with_reducible refine (quoted_n (some ⟨w7.heap.size, 0, none⟩) [97, 32, 13, 10, 98, 9] 6 6 _ rfl ?_ (by decide) (by decide)).mono ?_))
  · exact lit_rd w7 [97, 32, 13, 10, 98, 9] _
  first | (rintro _ w8 v8 rfl hv8 hb8) | (rintro _ w8 ⟨v8, rfl, hv8, hb8⟩)
  have b8 := (below_one4 w7 _).trans (hb8.mono (by simp))
  have c8 := hv8.str _ kn8
  have B8 := B7.trans (b8.mono s7)
  have s8 := B8.size
  go_wp2_with ((with_reducible refine (quoted_n (some ⟨w8.heap.size, 0, none⟩) [13, 233] 2 2 _ rfl ?_ (by decide) (by decide)).mono ?_))
  · exact lit_rd w8 [13, 233] _
  first | (rintro _ w9 v9 rfl hv9 hb9) | (rintro _ w9 ⟨v9, rfl, hv9, hb9⟩)
  have b9 := (below_one4 w8 _).trans (hb9.mono (by simp))
  have c9 := hv9.str _ kn9
  have B9 := B8.trans (b9.mono s8)
  have s9 := B9.size
  go_wp2_with ((with_reducible refine (fromq_n (some ⟨w9.heap.size, 0, none⟩) [97, 61, 13, 10, 98, 61, 51, 100, 61, 52, 120, 61, 32, 13, 10, 99, 32, 9] 18 18 _ rfl ?_ (by decide) (by decide)).mono ?_))
  · exact lit_rd w9 [97, 61, 13, 10, 98, 61, 51, 100, 61, 52, 120, 61, 32, 13, 10, 99, 32, 9] _
  first | (rintro _ w10 v10 rfl hv10 hb10) | (rintro _ w10 ⟨v10, rfl, hv10, hb10⟩)
  have b10 := (below_one4 w9 _).trans (hb10.mono (by simp))
  have c10 := hv10.str _ kn10
  have B10 := B9.trans (b10.mono s9)
  have s10 := B10.size
  go_wp2_with ((with_reducible refine (decode_n (⟨#[66, 65, 83, 69, 54, 52]⟩ : ByteArray) (some ⟨w10.heap.size, 0, none⟩) [89, 81, 61, 61] 4 4 _ (by decide) rfl ?_ (by decide) (by decide)).mono ?_))
  · exact lit_rd w10 [89, 81, 61, 61] _
  first | (rintro _ w11 v11 rfl hv11 hb11) | (rintro _ w11 ⟨v11, rfl, hv11, hb11⟩)
  have b11 := (below_one4 w10 _).trans (hb11.mono (by simp))
  have c11 := hv11.str _ kn11
  have B11 := B10.trans (b11.mono s10)
  have s11 := B11.size
  go_wp2_with ((with_reducible refine (decode_n (⟨#[98, 97, 115, 101, 54, 52]⟩ : ByteArray) (some ⟨w11.heap.size, 0, none⟩) [33] 1 1 _ (by decide) rfl ?_ (by decide) (by decide)).mono ?_))
  · exact lit_rd w11 [33] _
  first | (rintro _ w12 v12 rfl hv12 hb12) | (rintro _ w12 ⟨v12, rfl, hv12, hb12⟩)
  have b12 := (below_one4 w11 _).trans (hb12.mono (by simp))
  have c12 := hv12.str _ kn12
  have B12 := B11.trans (b12.mono s11)
  have s12 := B12.size
  go_wp2_with ((with_reducible refine (decode_n (⟨#[55, 98, 105, 116]⟩ : ByteArray) (some ⟨w12.heap.size, 0, none⟩) [61, 52, 49] 3 3 _ (by decide) rfl ?_ (by decide) (by decide)).mono ?_))
  · exact lit_rd w12 [61, 52, 49] _
  first | (rintro _ w13 v13 rfl hv13 hb13) | (rintro _ w13 ⟨v13, rfl, hv13, hb13⟩)
  have b13 := (below_one4 w12 _).trans (hb13.mono (by simp))
  have c13 := hv13.str _ kn13
  have B13 := B12.trans (b13.mono s12)
  have s13 := B13.size
  go_wp2
  go_ret
  exact ⟨rfl, B13⟩
end Go.Proofs.YtehbmllbikkjfaaDoor
