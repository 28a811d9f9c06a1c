/- The walk of the law CodeSays. -/
import Derived.Test.YtofgkahldhelaaaDoorCdY
import Derived.Test.YtofgkahldhelaaaDoorCdS
import Derived.Test.YtofgkahldhelaaaDoorHeld
set_option linter.unusedVariables false
namespace Go.Proofs.YtofgkahldhelaaaDoor
open Go.RowKit

def f64F (l : List UInt8) : List UInt8 × Int := match fromB64 l with
  | some o => (o, 0)
  | none => ([], 3)
def F64U (F : List UInt8 × Int) (w : World) (e : Ending) (w' : World) : Prop := ∃ v, e = .returned (.tuple #[v, .int .i64 F.2]) ∧ RdV w' v F.1 ∧ Below w.heap.size w w'
theorem from64_u (A : Option Addr) (l : List UInt8) (c : Nat) (w : World) (hr : Rd w A l) (hl : l.length ≤ 1000000) (hc : l.length ≤ c) :
    Calls Tryd.prog 5 #[.slice A l.length c] w (F64U (f64F l) w) := by
  unfold f64F
  cases ho : fromB64 l with
  | some o =>
    refine (from64_some A l o l.length c w rfl ho hr hl hc).mono ?_
    rintro e w' ⟨v, rfl, h, b⟩
    exact ⟨v, rfl, h, b⟩
  | none =>
    refine (from64_none A l l.length c w rfl ho hr hl hc).mono ?_
    rintro e w' ⟨rfl, b⟩
    exact ⟨_, rfl, ⟨none, 0, rfl, Nat.le_refl _, Rd.nil⟩, b⟩
theorem from64r_u (A : Option Addr) (l : List UInt8) (c : Nat) (w : World) (hr : Rd w A l) (hl : l.length ≤ 1000000) (hc : l.length ≤ c) :
    Calls Tryd.prog 6 #[.slice A l.length c] w (F64U (f64F l) w) := by
  unfold f64F
  refine (r_from64 A l c w hr hl hc).mono ?_
  cases fromB64 l with
  | some o =>
    rintro e w' ⟨⟨v, rfl, h⟩, b⟩
    exact ⟨v, rfl, h, b⟩
  | none =>
    rintro e w' ⟨rfl, b⟩
    exact ⟨_, rfl, ⟨none, 0, rfl, Nat.le_refl _, Rd.nil⟩, b⟩
theorem str_of (r : List UInt8) : ∃ s : ByteArray, Hid (r = s.data.toList) := ⟨⟨r.toArray⟩, rfl⟩

set_option maxRecDepth 100000 in
set_option maxHeartbeats 16000000 in
theorem says_walk (A : Option Addr) (l : List UInt8) (cap : Nat) (how : ByteArray) (w : World) (hr : Rd w A l) (hc : l.length ≤ cap) (hcm : cap ≤ maxLen) (hh : how.size ≤ maxLen) :
    Calls Tryd.prog 3 #[.slice A l.length cap, .string how] w fun e w' => e = .returned (.bool true) ∧ Below w.heap.size w w' := by
  have haw := Lib.hid (awake_t w)
  go_enter Tryd.func3, Tryd.ntmps3
  go_wp2_with fail
  (with_reducible refine haw.out.mono ?_)
  rintro _ w0 ⟨rfl, B0⟩
  by_cases h1 : (500 : Int) < (l.length : Int)
  · go_wp2
    go_ret
    exact ⟨rfl, B0⟩
  by_cases h2 : (50 : Int) < (how.size : Int)
  · go_wp2
    go_ret
    exact ⟨rfl, B0⟩
  have hl : l.length ≤ 1000000 := by omega
  have g1 := Lib.hid (from64_u A l cap w0 (hr.below B0) hl hc)
  have g2 : Hid (∀ V, Below w.heap.size w V → Calls Tryd.prog 6 #[.slice A l.length cap] V (F64U (f64F l) V)) := fun V hV => from64r_u A l cap V (hr.below hV) hl hc
  generalize f64F l = F at g1 g2
  obtain ⟨X, E⟩ := F
  go_wp2_with fail
  (with_reducible refine g1.out.mono ?_)
  rintro _ w1 ⟨vx, rfl, hvx1, b1⟩
  have B1 := B0.trans (b1.mono B0.size)
  go_wp2_with fail
  (with_reducible refine (g2.out _ B1).mono ?_)
  rintro _ W ⟨vy, rfl, hvy1, b2⟩
  have B2 := B1.trans (b2.mono B1.size)
  have hvx2 := hvx1.below b2
  dsimp only at hvx2 hvy1
  clear g1 g2 haw B0 B1 b1 b2 hvx1
  go_upto_region 7 with (fail)
  have hrW := hr.below B2
  have hvx : ∀ V, BelC W V → RdV V vx X := fun V hV => hvx2.below hV
  have hvy : ∀ V, BelC W V → RdV V vy X := fun V hV => hvy1.below hV
  have q5 : ∀ V, BelC W V → Calls Tryd.prog 7 #[.slice A l.length cap] V (DecP (b64 0 l) V) := fun V hV => base64_n A l l.length cap V rfl (hrW.below hV) hl hc
  have q6 : ∀ V, BelC W V → Calls Tryd.prog 8 #[.slice A l.length cap] V (DecP (b64 0 l) V) := fun V hV => r_base64 A l l.length cap V rfl (hrW.below hV) hl hc
  have q7 : ∀ V, BelC W V → Calls Tryd.prog 9 #[.slice A l.length cap] V (DecP (quo 0 l) V) := fun V hV => quoted_n A l l.length cap V rfl (hrW.below hV) hl hc
  have q8 : ∀ V, BelC W V → Calls Tryd.prog 10 #[.slice A l.length cap] V (DecP (quo 0 l) V) := fun V hV => r_quoted A l l.length cap V rfl (hrW.below hV) hl hc
  have q9 : ∀ V, BelC W V → Calls Tryd.prog 11 #[.slice A l.length cap] V (DecP (fq l) V) := fun V hV => fromq_n A l l.length cap V rfl (hrW.below hV) hl hc
  have q10 : ∀ V, BelC W V → Calls Tryd.prog 12 #[.slice A l.length cap] V (DecP (fq l) V) := fun V hV => r_fromq A l l.length cap V rfl (hrW.below hV) hl hc
  have q11 : ∀ V, BelC W V → Calls Tryd.prog 13 #[.string how, .slice A l.length cap] V (DecP (decF how.data.toList l) V) := fun V hV => decode_n how A l l.length cap V hh rfl (hrW.below hV) hl hc
  have q12 : ∀ V, BelC W V → Calls Tryd.prog 14 #[.string how, .slice A l.length cap] V (DecP (decF how.data.toList l) V) := fun V hV => r_decode how A l cap V hh (hrW.below hV) hl hc
  generalize b64 0 l = r1 at q5 q6
  generalize quo 0 l = r2 at q7 q8
  generalize fq l = r3 at q9 q10
  generalize decF how.data.toList l = r4 at q11 q12
  obtain ⟨s1, HS1⟩ := str_of r1
  obtain ⟨s2, HS2⟩ := str_of r2
  obtain ⟨s3, HS3⟩ := str_of r3
  obtain ⟨s4, HS4⟩ := str_of r4
  obtain ⟨s5, HS5⟩ := str_of X
  have hB9 : ∀ n, BelC W (W.drewN n) := fun n => below_drewN (Below.refl _ W) n
  clear hr hrW hvx2 hvy1 hh hcm hc hl
  refine wp_region_held_drew (S := BelC W) (by kernel_rfl) (hB9 1) (fun hHeld => ?_)
  have hW : BelC W W.drew := hB9 1
  replace hvx := hvx _ hW
  replace hvy := hvy _ hW
  refine wpAnyH_take (i := 0) (oi := { dst := some 29, op := Op.move (Operand.tmp 0), type := 22, pos := "law.go:39", after := #[], guard := none }) (v := ?vv0) rfl (by kernel_rfl) (by kernel_rfl) (by kernel_rfl) (fun _ _ _ h => h) (Or.inl ⟨by rfl, ?hy0⟩) hHeld ?rest0
  case hy0 =>
    intro V hSw
    go_simp
    try with_reducible rfl
  try simp only [Act.put, List.setIfInBounds_toArray, List.set_cons_zero, List.set_cons_succ]
  refine wpAnyH_take (i := 3) (oi := { dst := some 32, op := Op.move (Operand.tmp 0), type := 22, pos := "law.go:39", after := #[], guard := none }) (v := ?vv3) rfl (by kernel_rfl) (by kernel_rfl) (by kernel_rfl) (fun _ _ _ h => h) (Or.inl ⟨by rfl, ?hy3⟩) hHeld ?rest3
  case hy3 =>
    intro V hSw
    go_simp
    try with_reducible rfl
  try simp only [Act.put, List.setIfInBounds_toArray, List.set_cons_zero, List.set_cons_succ]
  refine wpAnyH_ready (rs := [1]) (by kernel_rfl) (by simp) ?_
  refine AllReadyH.cons (o := { dst := some 30, op := Op.call { callee := Callee.value (Operand.func 7), args := #[Operand.tmp 29], argTypes := #[22] }, type := 22, pos := "law.go:39", after := #[{ on := 0, ground := Ground.data }], guard := none }) rfl (fun K hK => ?_) AllReadyH.nil
  go_simp
  go_at_call 7
  (with_reducible refine (q5 _ hW).mono ?_)
  rintro _ w5 ⟨v5, rfl, hv5, b5⟩
  refine hK.out _ _ (belc_go b5 (hW)) (fun _ => ?_)
  clear hK K hHeld
  try simp only [Act.put, List.setIfInBounds_toArray, List.set_cons_zero, List.set_cons_succ]
  refine wpAnyH_mono (S' := BelC w5) (fun V h => belc_go h (belc_go b5 hW)) _ _ _ _ ?_
  have hHeld := (show BelC w5 w5 from Below.refl _ _)
  replace hvx := hvx.below b5
  replace hvy := hvy.below b5
  have hW5 := belc_go b5 hW
  refine wpAnyH_take (i := 2) (oi := { dst := some 31, op := Op.convert 22 9 (Operand.tmp 30), type := 9, pos := "law.go:39", after := #[{ on := 1, ground := Ground.data }], guard := none }) (v := ?vv2) rfl (by kernel_rfl) (by kernel_rfl) (by kernel_rfl) (fun _ _ _ h => h) (Or.inl ⟨by rfl, ?hy2⟩) hHeld ?rest2
  case hy2 =>
    intro V hSw
    have hcv := (hv5.below (show Below _ _ V from hSw)).str s1 HS1.out
    go_simp
    try with_reducible rfl
  try simp only [Act.put, List.setIfInBounds_toArray, List.set_cons_zero, List.set_cons_succ]
  refine wpAnyH_ready (rs := [4]) (by kernel_rfl) (by simp) ?_
  refine AllReadyH.cons (o := { dst := some 33, op := Op.call { callee := Callee.value (Operand.func 8), args := #[Operand.tmp 32], argTypes := #[22] }, type := 22, pos := "law.go:39", after := #[{ on := 3, ground := Ground.data }, { on := 1, ground := Ground.chain }], guard := none }) rfl (fun K hK => ?_) AllReadyH.nil
  go_simp
  go_at_call 8
  (with_reducible refine (q6 _ hW5).mono ?_)
  rintro _ w6 ⟨v6, rfl, hv6, b6⟩
  refine hK.out _ _ b6 (fun _ => ?_)
  clear hK K hHeld
  try simp only [Act.put, List.setIfInBounds_toArray, List.set_cons_zero, List.set_cons_succ]
  refine wpAnyH_mono (S' := BelC w6) (belc_mono b6) _ _ _ _ ?_
  have hHeld := (show BelC w6 w6 from Below.refl _ _)
  replace hvx := hvx.below b6
  replace hvy := hvy.below b6
  have hW6 := belc_go b6 hW5
  refine wpAnyH_take (i := 5) (oi := { dst := some 34, op := Op.convert 22 9 (Operand.tmp 33), type := 9, pos := "law.go:39", after := #[{ on := 4, ground := Ground.data }], guard := none }) (v := ?vv5) rfl (by kernel_rfl) (by kernel_rfl) (by kernel_rfl) (fun _ _ _ h => h) (Or.inl ⟨by rfl, ?hy5⟩) hHeld ?rest5
  case hy5 =>
    intro V hSw
    have hcv := (hv6.below (show Below _ _ V from hSw)).str s1 HS1.out
    go_simp
    try with_reducible rfl
  try simp only [Act.put, List.setIfInBounds_toArray, List.set_cons_zero, List.set_cons_succ]
  refine wpAnyH_take (i := 6) (oi := { dst := some 35, op := Op.binOp BinOp.eql 9 (Operand.tmp 31) (Operand.tmp 34) 9, type := 4, pos := "law.go:39", after := #[{ on := 2, ground := Ground.data }, { on := 5, ground := Ground.data }], guard := none }) (v := ?vv6) rfl (by kernel_rfl) (by kernel_rfl) (by kernel_rfl) (fun _ _ _ h => h) (Or.inl ⟨by rfl, ?hy6⟩) hHeld ?rest6
  case hy6 =>
    intro V hSw
    go_simp
    try with_reducible rfl
  try simp only [Act.put, List.setIfInBounds_toArray, List.set_cons_zero, List.set_cons_succ]
  refine wpAnyH_take (i := 7) (oi := { dst := some 36, op := Op.move (Operand.tmp 35), type := 4, pos := "law.go:39", after := #[{ on := 6, ground := Ground.data }, { on := 4, ground := Ground.chain }], guard := none }) (v := ?vv7) rfl (by kernel_rfl) (by kernel_rfl) (by kernel_rfl) (fun _ _ _ h => h) (Or.inl ⟨by rfl, ?hy7⟩) hHeld ?rest7
  case hy7 =>
    intro V hSw
    go_simp
    try with_reducible rfl
  try simp only [Act.put, List.setIfInBounds_toArray, List.set_cons_zero, List.set_cons_succ]
  refine wpAnyH_take (i := 8) (oi := { dst := some 37, op := Op.move (Operand.tmp 5), type := 22, pos := "law.go:39", after := #[{ on := 7, ground := Ground.guard }], guard := some (7, true) }) (v := ?vv8) rfl (by kernel_rfl) (by kernel_rfl) (by kernel_rfl) (fun _ _ _ h => h) (Or.inl ⟨by rfl, ?hy8⟩) hHeld ?rest8
  case hy8 =>
    intro V hSw
    go_simp
    try with_reducible rfl
  try simp only [Act.put, List.setIfInBounds_toArray, List.set_cons_zero, List.set_cons_succ]
  refine wpAnyH_take (i := 9) (oi := { dst := some 38, op := Op.convert 22 9 (Operand.tmp 37), type := 9, pos := "law.go:39", after := #[{ on := 8, ground := Ground.data }, { on := 7, ground := Ground.guard }], guard := some (7, true) }) (v := ?vv9) rfl (by kernel_rfl) (by kernel_rfl) (by kernel_rfl) (fun _ _ _ h => h) (Or.inl ⟨by rfl, ?hy9⟩) hHeld ?rest9
  case hy9 =>
    intro V hSw
    have hcv := (hvx.below (show Below _ _ V from hSw)).str s5 HS5.out
    go_simp
    try with_reducible rfl
  try simp only [Act.put, List.setIfInBounds_toArray, List.set_cons_zero, List.set_cons_succ]
  refine wpAnyH_take (i := 10) (oi := { dst := some 39, op := Op.move (Operand.tmp 7), type := 22, pos := "law.go:39", after := #[{ on := 7, ground := Ground.guard }], guard := some (7, true) }) (v := ?vv10) rfl (by kernel_rfl) (by kernel_rfl) (by kernel_rfl) (fun _ _ _ h => h) (Or.inl ⟨by rfl, ?hy10⟩) hHeld ?rest10
  case hy10 =>
    intro V hSw
    go_simp
    try with_reducible rfl
  try simp only [Act.put, List.setIfInBounds_toArray, List.set_cons_zero, List.set_cons_succ]
  refine wpAnyH_take (i := 11) (oi := { dst := some 40, op := Op.convert 22 9 (Operand.tmp 39), type := 9, pos := "law.go:39", after := #[{ on := 10, ground := Ground.data }, { on := 7, ground := Ground.guard }], guard := some (7, true) }) (v := ?vv11) rfl (by kernel_rfl) (by kernel_rfl) (by kernel_rfl) (fun _ _ _ h => h) (Or.inl ⟨by rfl, ?hy11⟩) hHeld ?rest11
  case hy11 =>
    intro V hSw
    have hcv := (hvy.below (show Below _ _ V from hSw)).str s5 HS5.out
    go_simp
    try with_reducible rfl
  try simp only [Act.put, List.setIfInBounds_toArray, List.set_cons_zero, List.set_cons_succ]
  refine wpAnyH_take (i := 12) (oi := { dst := some 41, op := Op.binOp BinOp.eql 9 (Operand.tmp 38) (Operand.tmp 40) 9, type := 4, pos := "law.go:39", after := #[{ on := 9, ground := Ground.data }, { on := 11, ground := Ground.data }, { on := 7, ground := Ground.guard }], guard := some (7, true) }) (v := ?vv12) rfl (by kernel_rfl) (by kernel_rfl) (by kernel_rfl) (fun _ _ _ h => h) (Or.inl ⟨by rfl, ?hy12⟩) hHeld ?rest12
  case hy12 =>
    intro V hSw
    go_simp
    try with_reducible rfl
  try simp only [Act.put, List.setIfInBounds_toArray, List.set_cons_zero, List.set_cons_succ]
  refine wpAnyH_take (i := 13) (oi := { dst := some 42, op := Op.pick (Operand.tmp 36) (Operand.tmp 41) (Operand.const (Value.bool false)), type := 4, pos := "law.go:39", after := #[{ on := 7, ground := Ground.data }, { on := 12, ground := Ground.data }], guard := none }) (v := ?vv13) rfl (by kernel_rfl) (by kernel_rfl) (by kernel_rfl) (fun _ _ _ h => h) (Or.inl ⟨by rfl, ?hy13⟩) hHeld ?rest13
  case hy13 =>
    intro V hSw
    go_simp
    try with_reducible rfl
  try simp only [Act.put, List.setIfInBounds_toArray, List.set_cons_zero, List.set_cons_succ]
  refine wpAnyH_take (i := 14) (oi := { dst := some 43, op := Op.move (Operand.tmp 42), type := 4, pos := "law.go:39", after := #[{ on := 13, ground := Ground.data }, { on := 7, ground := Ground.chain }], guard := none }) (v := ?vv14) rfl (by kernel_rfl) (by kernel_rfl) (by kernel_rfl) (fun _ _ _ h => h) (Or.inl ⟨by rfl, ?hy14⟩) hHeld ?rest14
  case hy14 =>
    intro V hSw
    go_simp
    try with_reducible rfl
  try simp only [Act.put, List.setIfInBounds_toArray, List.set_cons_zero, List.set_cons_succ]
  refine wpAnyH_take (i := 15) (oi := { dst := some 44, op := Op.move (Operand.tmp 6), type := 24, pos := "law.go:39", after := #[{ on := 14, ground := Ground.guard }], guard := some (14, true) }) (v := ?vv15) rfl (by kernel_rfl) (by kernel_rfl) (by kernel_rfl) (fun _ _ _ h => h) (Or.inl ⟨by rfl, ?hy15⟩) hHeld ?rest15
  case hy15 =>
    intro V hSw
    go_simp
    try with_reducible rfl
  try simp only [Act.put, List.setIfInBounds_toArray, List.set_cons_zero, List.set_cons_succ]
  refine wpAnyH_take (i := 16) (oi := { dst := some 45, op := Op.move (Operand.tmp 8), type := 24, pos := "law.go:39", after := #[{ on := 14, ground := Ground.guard }], guard := some (14, true) }) (v := ?vv16) rfl (by kernel_rfl) (by kernel_rfl) (by kernel_rfl) (fun _ _ _ h => h) (Or.inl ⟨by rfl, ?hy16⟩) hHeld ?rest16
  case hy16 =>
    intro V hSw
    go_simp
    try with_reducible rfl
  try simp only [Act.put, List.setIfInBounds_toArray, List.set_cons_zero, List.set_cons_succ]
  refine wpAnyH_take (i := 17) (oi := { dst := some 46, op := Op.binOp BinOp.eql 24 (Operand.tmp 44) (Operand.tmp 45) 24, type := 4, pos := "law.go:39", after := #[{ on := 15, ground := Ground.data }, { on := 16, ground := Ground.data }, { on := 14, ground := Ground.guard }], guard := some (14, true) }) (v := ?vv17) rfl (by kernel_rfl) (by kernel_rfl) (by kernel_rfl) (fun _ _ _ h => h) (Or.inl ⟨by rfl, ?hy17⟩) hHeld ?rest17
  case hy17 =>
    intro V hSw
    go_simp
    try with_reducible rfl
  try simp only [Act.put, List.setIfInBounds_toArray, List.set_cons_zero, List.set_cons_succ]
  refine wpAnyH_take (i := 18) (oi := { dst := some 47, op := Op.pick (Operand.tmp 43) (Operand.tmp 46) (Operand.const (Value.bool false)), type := 4, pos := "law.go:39", after := #[{ on := 14, ground := Ground.data }, { on := 17, ground := Ground.data }], guard := none }) (v := ?vv18) rfl (by kernel_rfl) (by kernel_rfl) (by kernel_rfl) (fun _ _ _ h => h) (Or.inl ⟨by rfl, ?hy18⟩) hHeld ?rest18
  case hy18 =>
    intro V hSw
    go_simp
    try with_reducible rfl
  try simp only [Act.put, List.setIfInBounds_toArray, List.set_cons_zero, List.set_cons_succ]
  refine wpAnyH_take (i := 19) (oi := { dst := some 48, op := Op.move (Operand.tmp 47), type := 4, pos := "law.go:39", after := #[{ on := 18, ground := Ground.data }, { on := 14, ground := Ground.chain }], guard := none }) (v := ?vv19) rfl (by kernel_rfl) (by kernel_rfl) (by kernel_rfl) (fun _ _ _ h => h) (Or.inl ⟨by rfl, ?hy19⟩) hHeld ?rest19
  case hy19 =>
    intro V hSw
    go_simp
    try with_reducible rfl
  try simp only [Act.put, List.setIfInBounds_toArray, List.set_cons_zero, List.set_cons_succ]
  refine wpAnyH_take (i := 20) (oi := { dst := some 49, op := Op.move (Operand.tmp 0), type := 22, pos := "law.go:39", after := #[{ on := 19, ground := Ground.guard }], guard := some (19, true) }) (v := ?vv20) rfl (by kernel_rfl) (by kernel_rfl) (by kernel_rfl) (fun _ _ _ h => h) (Or.inl ⟨by rfl, ?hy20⟩) hHeld ?rest20
  case hy20 =>
    intro V hSw
    go_simp
    try with_reducible rfl
  try simp only [Act.put, List.setIfInBounds_toArray, List.set_cons_zero, List.set_cons_succ]
  refine wpAnyH_take (i := 23) (oi := { dst := some 52, op := Op.move (Operand.tmp 0), type := 22, pos := "law.go:39", after := #[{ on := 19, ground := Ground.guard }], guard := some (19, true) }) (v := ?vv23) rfl (by kernel_rfl) (by kernel_rfl) (by kernel_rfl) (fun _ _ _ h => h) (Or.inl ⟨by rfl, ?hy23⟩) hHeld ?rest23
  case hy23 =>
    intro V hSw
    go_simp
    try with_reducible rfl
  try simp only [Act.put, List.setIfInBounds_toArray, List.set_cons_zero, List.set_cons_succ]
  refine wpAnyH_ready (rs := [21]) (by kernel_rfl) (by simp) ?_
  refine AllReadyH.cons (o := { dst := some 50, op := Op.call { callee := Callee.value (Operand.func 9), args := #[Operand.tmp 49], argTypes := #[22] }, type := 22, pos := "law.go:39", after := #[{ on := 20, ground := Ground.data }, { on := 19, ground := Ground.chain }, { on := 19, ground := Ground.guard }], guard := some (19, true) }) rfl (fun K hK => ?_) AllReadyH.nil
  go_simp
  go_at_call 9
  (with_reducible refine (q7 _ hW6).mono ?_)
  rintro _ w7 ⟨v7, rfl, hv7, b7⟩
  refine hK.out _ _ b7 (fun _ => ?_)
  clear hK K hHeld
  try simp only [Act.put, List.setIfInBounds_toArray, List.set_cons_zero, List.set_cons_succ]
  refine wpAnyH_mono (S' := BelC w7) (belc_mono b7) _ _ _ _ ?_
  have hHeld := (show BelC w7 w7 from Below.refl _ _)
  replace hvx := hvx.below b7
  replace hvy := hvy.below b7
  have hW7 := belc_go b7 hW6
  refine wpAnyH_take (i := 22) (oi := { dst := some 51, op := Op.convert 22 9 (Operand.tmp 50), type := 9, pos := "law.go:39", after := #[{ on := 21, ground := Ground.data }, { on := 19, ground := Ground.guard }], guard := some (19, true) }) (v := ?vv22) rfl (by kernel_rfl) (by kernel_rfl) (by kernel_rfl) (fun _ _ _ h => h) (Or.inl ⟨by rfl, ?hy22⟩) hHeld ?rest22
  case hy22 =>
    intro V hSw
    have hcv := (hv7.below (show Below _ _ V from hSw)).str s2 HS2.out
    go_simp
    try with_reducible rfl
  try simp only [Act.put, List.setIfInBounds_toArray, List.set_cons_zero, List.set_cons_succ]
  refine wpAnyH_ready (rs := [24]) (by kernel_rfl) (by simp) ?_
  refine AllReadyH.cons (o := { dst := some 53, op := Op.call { callee := Callee.value (Operand.func 10), args := #[Operand.tmp 52], argTypes := #[22] }, type := 22, pos := "law.go:39", after := #[{ on := 23, ground := Ground.data }, { on := 21, ground := Ground.chain }, { on := 19, ground := Ground.guard }], guard := some (19, true) }) rfl (fun K hK => ?_) AllReadyH.nil
  go_simp
  go_at_call 10
  (with_reducible refine (q8 _ hW7).mono ?_)
  rintro _ w8 ⟨v8, rfl, hv8, b8⟩
  refine hK.out _ _ b8 (fun _ => ?_)
  clear hK K hHeld
  try simp only [Act.put, List.setIfInBounds_toArray, List.set_cons_zero, List.set_cons_succ]
  refine wpAnyH_mono (S' := BelC w8) (belc_mono b8) _ _ _ _ ?_
  have hHeld := (show BelC w8 w8 from Below.refl _ _)
  replace hvx := hvx.below b8
  replace hvy := hvy.below b8
  have hW8 := belc_go b8 hW7
  refine wpAnyH_take (i := 25) (oi := { dst := some 54, op := Op.convert 22 9 (Operand.tmp 53), type := 9, pos := "law.go:39", after := #[{ on := 24, ground := Ground.data }, { on := 19, ground := Ground.guard }], guard := some (19, true) }) (v := ?vv25) rfl (by kernel_rfl) (by kernel_rfl) (by kernel_rfl) (fun _ _ _ h => h) (Or.inl ⟨by rfl, ?hy25⟩) hHeld ?rest25
  case hy25 =>
    intro V hSw
    have hcv := (hv8.below (show Below _ _ V from hSw)).str s2 HS2.out
    go_simp
    try with_reducible rfl
  try simp only [Act.put, List.setIfInBounds_toArray, List.set_cons_zero, List.set_cons_succ]
  refine wpAnyH_take (i := 26) (oi := { dst := some 55, op := Op.binOp BinOp.eql 9 (Operand.tmp 51) (Operand.tmp 54) 9, type := 4, pos := "law.go:39", after := #[{ on := 22, ground := Ground.data }, { on := 25, ground := Ground.data }, { on := 19, ground := Ground.guard }], guard := some (19, true) }) (v := ?vv26) rfl (by kernel_rfl) (by kernel_rfl) (by kernel_rfl) (fun _ _ _ h => h) (Or.inl ⟨by rfl, ?hy26⟩) hHeld ?rest26
  case hy26 =>
    intro V hSw
    go_simp
    try with_reducible rfl
  try simp only [Act.put, List.setIfInBounds_toArray, List.set_cons_zero, List.set_cons_succ]
  refine wpAnyH_take (i := 27) (oi := { dst := some 56, op := Op.pick (Operand.tmp 48) (Operand.tmp 55) (Operand.const (Value.bool false)), type := 4, pos := "law.go:39", after := #[{ on := 19, ground := Ground.data }, { on := 26, ground := Ground.data }], guard := none }) (v := ?vv27) rfl (by kernel_rfl) (by kernel_rfl) (by kernel_rfl) (fun _ _ _ h => h) (Or.inl ⟨by rfl, ?hy27⟩) hHeld ?rest27
  case hy27 =>
    intro V hSw
    go_simp
    try with_reducible rfl
  try simp only [Act.put, List.setIfInBounds_toArray, List.set_cons_zero, List.set_cons_succ]
  refine wpAnyH_take (i := 28) (oi := { dst := some 57, op := Op.move (Operand.tmp 56), type := 4, pos := "law.go:39", after := #[{ on := 27, ground := Ground.data }, { on := 24, ground := Ground.chain }], guard := none }) (v := ?vv28) rfl (by kernel_rfl) (by kernel_rfl) (by kernel_rfl) (fun _ _ _ h => h) (Or.inl ⟨by rfl, ?hy28⟩) hHeld ?rest28
  case hy28 =>
    intro V hSw
    go_simp
    try with_reducible rfl
  try simp only [Act.put, List.setIfInBounds_toArray, List.set_cons_zero, List.set_cons_succ]
  refine wpAnyH_take (i := 29) (oi := { dst := some 58, op := Op.move (Operand.tmp 0), type := 22, pos := "law.go:39", after := #[{ on := 28, ground := Ground.guard }], guard := some (28, true) }) (v := ?vv29) rfl (by kernel_rfl) (by kernel_rfl) (by kernel_rfl) (fun _ _ _ h => h) (Or.inl ⟨by rfl, ?hy29⟩) hHeld ?rest29
  case hy29 =>
    intro V hSw
    go_simp
    try with_reducible rfl
  try simp only [Act.put, List.setIfInBounds_toArray, List.set_cons_zero, List.set_cons_succ]
  refine wpAnyH_take (i := 32) (oi := { dst := some 61, op := Op.move (Operand.tmp 0), type := 22, pos := "law.go:39", after := #[{ on := 28, ground := Ground.guard }], guard := some (28, true) }) (v := ?vv32) rfl (by kernel_rfl) (by kernel_rfl) (by kernel_rfl) (fun _ _ _ h => h) (Or.inl ⟨by rfl, ?hy32⟩) hHeld ?rest32
  case hy32 =>
    intro V hSw
    go_simp
    try with_reducible rfl
  try simp only [Act.put, List.setIfInBounds_toArray, List.set_cons_zero, List.set_cons_succ]
  refine wpAnyH_ready (rs := [30]) (by kernel_rfl) (by simp) ?_
  refine AllReadyH.cons (o := { dst := some 59, op := Op.call { callee := Callee.value (Operand.func 11), args := #[Operand.tmp 58], argTypes := #[22] }, type := 22, pos := "law.go:39", after := #[{ on := 29, ground := Ground.data }, { on := 28, ground := Ground.chain }, { on := 28, ground := Ground.guard }], guard := some (28, true) }) rfl (fun K hK => ?_) AllReadyH.nil
  go_simp
  go_at_call 11
  (with_reducible refine (q9 _ hW8).mono ?_)
  rintro _ w9 ⟨v9, rfl, hv9, b9⟩
  refine hK.out _ _ b9 (fun _ => ?_)
  clear hK K hHeld
  try simp only [Act.put, List.setIfInBounds_toArray, List.set_cons_zero, List.set_cons_succ]
  refine wpAnyH_mono (S' := BelC w9) (belc_mono b9) _ _ _ _ ?_
  have hHeld := (show BelC w9 w9 from Below.refl _ _)
  replace hvx := hvx.below b9
  replace hvy := hvy.below b9
  have hW9 := belc_go b9 hW8
  refine wpAnyH_take (i := 31) (oi := { dst := some 60, op := Op.convert 22 9 (Operand.tmp 59), type := 9, pos := "law.go:39", after := #[{ on := 30, ground := Ground.data }, { on := 28, ground := Ground.guard }], guard := some (28, true) }) (v := ?vv31) rfl (by kernel_rfl) (by kernel_rfl) (by kernel_rfl) (fun _ _ _ h => h) (Or.inl ⟨by rfl, ?hy31⟩) hHeld ?rest31
  case hy31 =>
    intro V hSw
    have hcv := (hv9.below (show Below _ _ V from hSw)).str s3 HS3.out
    go_simp
    try with_reducible rfl
  try simp only [Act.put, List.setIfInBounds_toArray, List.set_cons_zero, List.set_cons_succ]
  refine wpAnyH_ready (rs := [33]) (by kernel_rfl) (by simp) ?_
  refine AllReadyH.cons (o := { dst := some 62, op := Op.call { callee := Callee.value (Operand.func 12), args := #[Operand.tmp 61], argTypes := #[22] }, type := 22, pos := "law.go:39", after := #[{ on := 32, ground := Ground.data }, { on := 30, ground := Ground.chain }, { on := 28, ground := Ground.guard }], guard := some (28, true) }) rfl (fun K hK => ?_) AllReadyH.nil
  go_simp
  go_at_call 12
  (with_reducible refine (q10 _ hW9).mono ?_)
  rintro _ w10 ⟨v10, rfl, hv10, b10⟩
  refine hK.out _ _ b10 (fun _ => ?_)
  clear hK K hHeld
  try simp only [Act.put, List.setIfInBounds_toArray, List.set_cons_zero, List.set_cons_succ]
  refine wpAnyH_mono (S' := BelC w10) (belc_mono b10) _ _ _ _ ?_
  have hHeld := (show BelC w10 w10 from Below.refl _ _)
  replace hvx := hvx.below b10
  replace hvy := hvy.below b10
  have hW10 := belc_go b10 hW9
  refine wpAnyH_take (i := 34) (oi := { dst := some 63, op := Op.convert 22 9 (Operand.tmp 62), type := 9, pos := "law.go:39", after := #[{ on := 33, ground := Ground.data }, { on := 28, ground := Ground.guard }], guard := some (28, true) }) (v := ?vv34) rfl (by kernel_rfl) (by kernel_rfl) (by kernel_rfl) (fun _ _ _ h => h) (Or.inl ⟨by rfl, ?hy34⟩) hHeld ?rest34
  case hy34 =>
    intro V hSw
    have hcv := (hv10.below (show Below _ _ V from hSw)).str s3 HS3.out
    go_simp
    try with_reducible rfl
  try simp only [Act.put, List.setIfInBounds_toArray, List.set_cons_zero, List.set_cons_succ]
  refine wpAnyH_take (i := 35) (oi := { dst := some 64, op := Op.binOp BinOp.eql 9 (Operand.tmp 60) (Operand.tmp 63) 9, type := 4, pos := "law.go:39", after := #[{ on := 31, ground := Ground.data }, { on := 34, ground := Ground.data }, { on := 28, ground := Ground.guard }], guard := some (28, true) }) (v := ?vv35) rfl (by kernel_rfl) (by kernel_rfl) (by kernel_rfl) (fun _ _ _ h => h) (Or.inl ⟨by rfl, ?hy35⟩) hHeld ?rest35
  case hy35 =>
    intro V hSw
    go_simp
    try with_reducible rfl
  try simp only [Act.put, List.setIfInBounds_toArray, List.set_cons_zero, List.set_cons_succ]
  refine wpAnyH_take (i := 36) (oi := { dst := some 65, op := Op.pick (Operand.tmp 57) (Operand.tmp 64) (Operand.const (Value.bool false)), type := 4, pos := "law.go:39", after := #[{ on := 28, ground := Ground.data }, { on := 35, ground := Ground.data }], guard := none }) (v := ?vv36) rfl (by kernel_rfl) (by kernel_rfl) (by kernel_rfl) (fun _ _ _ h => h) (Or.inl ⟨by rfl, ?hy36⟩) hHeld ?rest36
  case hy36 =>
    intro V hSw
    go_simp
    try with_reducible rfl
  try simp only [Act.put, List.setIfInBounds_toArray, List.set_cons_zero, List.set_cons_succ]
  refine wpAnyH_take (i := 37) (oi := { dst := some 66, op := Op.move (Operand.tmp 65), type := 4, pos := "law.go:39", after := #[{ on := 36, ground := Ground.data }, { on := 33, ground := Ground.chain }], guard := none }) (v := ?vv37) rfl (by kernel_rfl) (by kernel_rfl) (by kernel_rfl) (fun _ _ _ h => h) (Or.inl ⟨by rfl, ?hy37⟩) hHeld ?rest37
  case hy37 =>
    intro V hSw
    go_simp
    try with_reducible rfl
  try simp only [Act.put, List.setIfInBounds_toArray, List.set_cons_zero, List.set_cons_succ]
  refine wpAnyH_take (i := 38) (oi := { dst := some 67, op := Op.move (Operand.tmp 1), type := 9, pos := "law.go:39", after := #[{ on := 37, ground := Ground.guard }], guard := some (37, true) }) (v := ?vv38) rfl (by kernel_rfl) (by kernel_rfl) (by kernel_rfl) (fun _ _ _ h => h) (Or.inl ⟨by rfl, ?hy38⟩) hHeld ?rest38
  case hy38 =>
    intro V hSw
    go_simp
    try with_reducible rfl
  try simp only [Act.put, List.setIfInBounds_toArray, List.set_cons_zero, List.set_cons_succ]
  refine wpAnyH_take (i := 39) (oi := { dst := some 68, op := Op.move (Operand.tmp 0), type := 22, pos := "law.go:39", after := #[{ on := 37, ground := Ground.guard }], guard := some (37, true) }) (v := ?vv39) rfl (by kernel_rfl) (by kernel_rfl) (by kernel_rfl) (fun _ _ _ h => h) (Or.inl ⟨by rfl, ?hy39⟩) hHeld ?rest39
  case hy39 =>
    intro V hSw
    go_simp
    try with_reducible rfl
  try simp only [Act.put, List.setIfInBounds_toArray, List.set_cons_zero, List.set_cons_succ]
  refine wpAnyH_take (i := 42) (oi := { dst := some 71, op := Op.move (Operand.tmp 1), type := 9, pos := "law.go:39", after := #[{ on := 37, ground := Ground.guard }], guard := some (37, true) }) (v := ?vv42) rfl (by kernel_rfl) (by kernel_rfl) (by kernel_rfl) (fun _ _ _ h => h) (Or.inl ⟨by rfl, ?hy42⟩) hHeld ?rest42
  case hy42 =>
    intro V hSw
    go_simp
    try with_reducible rfl
  try simp only [Act.put, List.setIfInBounds_toArray, List.set_cons_zero, List.set_cons_succ]
  refine wpAnyH_take (i := 43) (oi := { dst := some 72, op := Op.move (Operand.tmp 0), type := 22, pos := "law.go:39", after := #[{ on := 37, ground := Ground.guard }], guard := some (37, true) }) (v := ?vv43) rfl (by kernel_rfl) (by kernel_rfl) (by kernel_rfl) (fun _ _ _ h => h) (Or.inl ⟨by rfl, ?hy43⟩) hHeld ?rest43
  case hy43 =>
    intro V hSw
    go_simp
    try with_reducible rfl
  try simp only [Act.put, List.setIfInBounds_toArray, List.set_cons_zero, List.set_cons_succ]
  refine wpAnyH_ready (rs := [40]) (by kernel_rfl) (by simp) ?_
  refine AllReadyH.cons (o := { dst := some 69, op := Op.call { callee := Callee.value (Operand.func 13), args := #[Operand.tmp 67, Operand.tmp 68], argTypes := #[9, 22] }, type := 22, pos := "law.go:39", after := #[{ on := 38, ground := Ground.data }, { on := 39, ground := Ground.data }, { on := 37, ground := Ground.chain }, { on := 37, ground := Ground.guard }], guard := some (37, true) }) rfl (fun K hK => ?_) AllReadyH.nil
  go_simp
  go_at_call 13
  (with_reducible refine (q11 _ hW10).mono ?_)
  rintro _ w11 ⟨v11, rfl, hv11, b11⟩
  refine hK.out _ _ b11 (fun _ => ?_)
  clear hK K hHeld
  try simp only [Act.put, List.setIfInBounds_toArray, List.set_cons_zero, List.set_cons_succ]
  refine wpAnyH_mono (S' := BelC w11) (belc_mono b11) _ _ _ _ ?_
  have hHeld := (show BelC w11 w11 from Below.refl _ _)
  replace hvx := hvx.below b11
  replace hvy := hvy.below b11
  have hW11 := belc_go b11 hW10
  refine wpAnyH_take (i := 41) (oi := { dst := some 70, op := Op.convert 22 9 (Operand.tmp 69), type := 9, pos := "law.go:39", after := #[{ on := 40, ground := Ground.data }, { on := 37, ground := Ground.guard }], guard := some (37, true) }) (v := ?vv41) rfl (by kernel_rfl) (by kernel_rfl) (by kernel_rfl) (fun _ _ _ h => h) (Or.inl ⟨by rfl, ?hy41⟩) hHeld ?rest41
  case hy41 =>
    intro V hSw
    have hcv := (hv11.below (show Below _ _ V from hSw)).str s4 HS4.out
    go_simp
    try with_reducible rfl
  try simp only [Act.put, List.setIfInBounds_toArray, List.set_cons_zero, List.set_cons_succ]
  refine wpAnyH_ready (rs := [44]) (by kernel_rfl) (by simp) ?_
  refine AllReadyH.cons (o := { dst := some 73, op := Op.call { callee := Callee.value (Operand.func 14), args := #[Operand.tmp 71, Operand.tmp 72], argTypes := #[9, 22] }, type := 22, pos := "law.go:39", after := #[{ on := 42, ground := Ground.data }, { on := 43, ground := Ground.data }, { on := 40, ground := Ground.chain }, { on := 37, ground := Ground.guard }], guard := some (37, true) }) rfl (fun K hK => ?_) AllReadyH.nil
  go_simp
  go_at_call 14
  (with_reducible refine (q12 _ hW11).mono ?_)
  rintro _ w12 ⟨v12, rfl, hv12, b12⟩
  refine hK.out _ _ b12 (fun _ => ?_)
  clear hK K hHeld
  try simp only [Act.put, List.setIfInBounds_toArray, List.set_cons_zero, List.set_cons_succ]
  refine wpAnyH_mono (S' := BelC w12) (belc_mono b12) _ _ _ _ ?_
  have hHeld := (show BelC w12 w12 from Below.refl _ _)
  replace hvx := hvx.below b12
  replace hvy := hvy.below b12
  have hW12 := belc_go b12 hW11
  refine wpAnyH_take (i := 45) (oi := { dst := some 74, op := Op.convert 22 9 (Operand.tmp 73), type := 9, pos := "law.go:39", after := #[{ on := 44, ground := Ground.data }, { on := 37, ground := Ground.guard }], guard := some (37, true) }) (v := ?vv45) rfl (by kernel_rfl) (by kernel_rfl) (by kernel_rfl) (fun _ _ _ h => h) (Or.inl ⟨by rfl, ?hy45⟩) hHeld ?rest45
  case hy45 =>
    intro V hSw
    have hcv := (hv12.below (show Below _ _ V from hSw)).str s4 HS4.out
    go_simp
    try with_reducible rfl
  try simp only [Act.put, List.setIfInBounds_toArray, List.set_cons_zero, List.set_cons_succ]
  refine wpAnyH_take (i := 46) (oi := { dst := some 75, op := Op.binOp BinOp.eql 9 (Operand.tmp 70) (Operand.tmp 74) 9, type := 4, pos := "law.go:39", after := #[{ on := 41, ground := Ground.data }, { on := 45, ground := Ground.data }, { on := 37, ground := Ground.guard }], guard := some (37, true) }) (v := ?vv46) rfl (by kernel_rfl) (by kernel_rfl) (by kernel_rfl) (fun _ _ _ h => h) (Or.inl ⟨by rfl, ?hy46⟩) hHeld ?rest46
  case hy46 =>
    intro V hSw
    go_simp
    try with_reducible rfl
  try simp only [Act.put, List.setIfInBounds_toArray, List.set_cons_zero, List.set_cons_succ]
  refine wpAnyH_take (i := 47) (oi := { dst := some 76, op := Op.pick (Operand.tmp 66) (Operand.tmp 75) (Operand.const (Value.bool false)), type := 4, pos := "law.go:39", after := #[{ on := 37, ground := Ground.data }, { on := 46, ground := Ground.data }], guard := none }) (v := ?vv47) rfl (by kernel_rfl) (by kernel_rfl) (by kernel_rfl) (fun _ _ _ h => h) (Or.inl ⟨by rfl, ?hy47⟩) hHeld ?rest47
  case hy47 =>
    intro V hSw
    go_simp
    try with_reducible rfl
  try simp only [Act.put, List.setIfInBounds_toArray, List.set_cons_zero, List.set_cons_succ]
  refine wpAnyH_take (i := 48) (oi := { dst := some 4, op := Op.assign (Operand.tmp 76), type := 4, pos := "law.go:39", after := #[{ on := 47, ground := Ground.data }, { on := 44, ground := Ground.chain }, { on := 0, ground := Ground.phase }, { on := 1, ground := Ground.phase }, { on := 2, ground := Ground.phase }, { on := 3, ground := Ground.phase }, { on := 4, ground := Ground.phase }, { on := 5, ground := Ground.phase }, { on := 6, ground := Ground.phase }, { on := 7, ground := Ground.phase }, { on := 8, ground := Ground.phase }, { on := 9, ground := Ground.phase }, { on := 10, ground := Ground.phase }, { on := 11, ground := Ground.phase }, { on := 12, ground := Ground.phase }, { on := 13, ground := Ground.phase }, { on := 14, ground := Ground.phase }, { on := 15, ground := Ground.phase }, { on := 16, ground := Ground.phase }, { on := 17, ground := Ground.phase }, { on := 18, ground := Ground.phase }, { on := 19, ground := Ground.phase }, { on := 20, ground := Ground.phase }, { on := 21, ground := Ground.phase }, { on := 22, ground := Ground.phase }, { on := 23, ground := Ground.phase }, { on := 24, ground := Ground.phase }, { on := 25, ground := Ground.phase }, { on := 26, ground := Ground.phase }, { on := 27, ground := Ground.phase }, { on := 28, ground := Ground.phase }, { on := 29, ground := Ground.phase }, { on := 30, ground := Ground.phase }, { on := 31, ground := Ground.phase }, { on := 32, ground := Ground.phase }, { on := 33, ground := Ground.phase }, { on := 34, ground := Ground.phase }, { on := 35, ground := Ground.phase }, { on := 36, ground := Ground.phase }, { on := 37, ground := Ground.phase }, { on := 38, ground := Ground.phase }, { on := 39, ground := Ground.phase }, { on := 40, ground := Ground.phase }, { on := 41, ground := Ground.phase }, { on := 42, ground := Ground.phase }, { on := 43, ground := Ground.phase }, { on := 44, ground := Ground.phase }, { on := 45, ground := Ground.phase }, { on := 46, ground := Ground.phase }, { on := 47, ground := Ground.phase }], guard := none }) (v := ?vv48) rfl (by kernel_rfl) (by kernel_rfl) (by kernel_rfl) (fun _ _ _ h => h) (Or.inl ⟨by rfl, ?hy48⟩) hHeld ?rest48
  case hy48 =>
    intro V hSw
    go_simp
    try with_reducible rfl
  try simp only [Act.put, List.setIfInBounds_toArray, List.set_cons_zero, List.set_cons_succ]
  refine wpAnyH_done (by kernel_rfl) ?_ _
  go_wp2
  go_ret
  exact ⟨rfl, B2.trans (Below.mono (show Below W.heap.size W _ from hW12) B2.size)⟩
end Go.Proofs.YtofgkahldhelaaaDoor
