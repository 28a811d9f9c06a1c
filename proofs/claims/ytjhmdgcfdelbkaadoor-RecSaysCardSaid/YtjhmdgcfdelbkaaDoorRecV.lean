/- The reference's Big with what it leaves as it was, and its PutRec (chapter 5). -/
import Derived.Test.YtjhmdgcfdelbkaaDoorRecR
import Derived.Test.YtjhmdgcfdelbkaaDoorRecG
import Derived.Test.YtjhmdgcfdelbkaaDoorApA
import Derived.Test.YtjhmdgcfdelbkaaDoorRdR
import Derived.Test.YtjhmdgcfdelbkaaDoorCrcR
import Derived.Deep.Cut
set_option linter.unusedVariables false
namespace Go.Proofs.YtjhmdgcfdelbkaaDoor
open Go.RowKit

section
variable {P : Program} (w : World)
/-- append onto a row of one's own, inside a region that draws its order. -/
theorem step_append_rda {ops : Array Oper} {o : Oper} {a : Act} {K : Act → World → Prop} {Q : Exit → Act → World → Prop} {E : Prop} (hgd : o.guard = none) (s x : Operand) (t : TypeId)
    (ho : o.op = .call { callee := .builtin .append, args := #[s, x], argTypes := #[t, t] })
    (base : Nat) (e : TypeId) (i : TypeInfo) (ht : P.underlying t = some (.slice e)) (hi : P.info? e = some i) (hz : i.zero = some (.int .u8 0)) (hsize : i.size = 1) (hby : i.bytes = 1)
    (v : Value) (l1 : List UInt8) (hs : a.eval s = v) (hown : w.ownsRow base e 1 v l1.length (Lib.byteCells l1)) (A : Option Addr) (l2 : List UInt8) (n c : Nat) (hn : n = l2.length) (hx : a.eval x = .slice A n c) (hr : Rd w A l2) (h63 : l1.length + l2.length ≤ 140737488355328) (hbase : base ≤ w.heap.size)
    (h : ∀ v' w', w'.ownsRow base e 1 v' (l1 ++ l2).length (Lib.byteCells (l1 ++ l2)) → w.grownBy w' v.ownBlock → (v'.ownBlock = v.ownBlock ∨ v'.ownBlock = some w.heap.size) → K (a.put o.dst v') w') :
    if Region.wanted o (yielded ops a.tmps) = true then Oper.wp P o a w K Q else E := by
  have hw : Region.wanted o (yielded ops a.tmps) = true := by simp [Region.wanted, hgd]
  rw [if_pos hw]
  subst hn
  obtain ⟨v', w', hrun, h2, h3, h4⟩ := run_append_rda (P := P) w base t o.type e i ht hi hz hsize hby v l1 hown A l2 c hr h63 hbase
  unfold Oper.wp execOp
  simp only [ho, resolve, invoke, builtin, Sem.run_bind, Sem.run_pure, Result.andThen_ok, List.map_toArray, List.map_cons, List.map_nil, hs, hx, hrun]
  exact h v' w' h2 h3 h4
end

/-- All old blocks but the row's own are as they were, and where the row lies. -/
def Fr (w : World) (row : Option Nat) (v : Value) (w' : World) : Prop := w.grownBy w' row ∧ ∀ j, v.ownBlock = some j → w.heap.size ≤ j ∨ row = some j
theorem Fr.start (w : World) (v : Value) : Fr w v.ownBlock v w := ⟨World.grownBy.refl w _, fun j h => .inr h⟩
theorem Fr.next {w wr w2 : World} {row : Option Nat} {v v2 : Value} (h : Fr w row v wr) (o : Obj) (hg : (wr.alloc o).grownBy w2 v.ownBlock) (hv : v2.ownBlock = v.ownBlock ∨ v2.ownBlock = some (wr.alloc o).heap.size) : Fr w row v2 w2 := by
  refine ⟨(h.1.andThen (World.grownBy_alloc wr o none) (by simp)).andThen hg h.2, fun j hj => ?_⟩
  rcases hv with e | e
  · exact h.2 j (e ▸ hj)
  · rw [e] at hj
    injection hj with hj
    subst hj
    left
    have := h.1.size
    simp
    omega

def BigPost (B : Nat) (L : List UInt8) (row : Option Nat) (w : World) (e : Ending) (w' : World) : Prop := ∃ A' cap', e = .returned (.slice A' L.length cap') ∧ w'.ownsRow B 5 1 (.slice A' L.length cap') L.length (Lib.byteCells L) ∧ Below B w w' ∧ Fr w row (.slice A' L.length cap') w'
set_option maxRecDepth 100000 in
set_option maxHeartbeats 2000000 in
theorem r_bigG (B cap n k : Nat) (A : Option Addr) (L : List UInt8) (w : World) (hown : w.ownsRow B 5 1 (.slice A L.length cap) L.length (Lib.byteCells L)) (hB : B ≤ w.heap.size) (hn : n < 18446744073709551616) (hk1 : 1 ≤ k) (hk8 : k ≤ 8) (hL : L.length ≤ 1000000) :
    Calls Tryd.prog 15 #[.slice A L.length cap, .int .u64 (n : Int), .int .i64 (k : Int)] w (BigPost B (L ++ be k n) (Value.slice A L.length cap).ownBlock w) := by
  obtain ⟨i0, hi0, hz0, hz1, hz2⟩ := info_parts u8Info
  have hk8' : (k : Int) ≤ 8 := by omega
  have hF0 := Fr.start w (.slice A L.length cap)
  generalize (Value.slice A L.length cap).ownBlock = row at hF0 ⊢
  go_enter Tryd.func15, Tryd.ntmps15
  go_wp2
  go_loopw [0, 7] (fun v i wr => ∃ (j : Nat) (C : List UInt8), j ≤ k ∧ i = .int .i64 j ∧ C.length ≤ L.length + j ∧ Hid (C = L ++ (be k n).take j) ∧ wr.ownsRow B 5 1 v C.length (Lib.byteCells C) ∧ Below B w wr ∧ Fr w row v wr) (fun _ i _ => k - (intOf i).toNat)
  case atStart => exact ⟨0, L, Nat.zero_le _, rfl, by omega, by simp [Hid], hown, Below.refl _ _, hF0⟩
  case round =>
    obtain ⟨j, C, hj, rfl, hC, HC, hI, hb, hF⟩ := hrel
    have hsz := hb.size
    by_cases hlt : j < k
    · have hlt' : (j : Int) < (k : Int) := by omega
      obtain ⟨z, HZ, hz, hz8⟩ : ∃ z : Nat, Hid (z = 8 * (k - 1 - j)) ∧ (8 : Int) * ((k : Int) - 1 - j) = (z : Int) ∧ z < 64 := ⟨8 * (k - 1 - j), rfl, by omega, by omega⟩
      obtain ⟨x, HX, hx⟩ : ∃ x : UInt8, Hid (x = UInt8.ofNat (n / 2 ^ z % 256)) ∧ Hid ((n : Int) / 2 ^ z % 256 = (x.toNat : Int)) := ⟨_, rfl, by
        show _ = _
        rw [UInt8.toNat_ofNat', Nat.mod_mod]
        simp⟩
      have hba := hb.alloc (by omega) (.cells #[.int .u8 ((n : Int) / 2 ^ z % 256)] 5)
      go_wp2_with (at_builtin; refine wpList_append_rda _ rfl _ _ 22 rfl B 5 i0 Tryd.underlying22 hi0 hz0 hz1 hz2 _ C rfl (hI.alloc _) _ [x] _ _ rfl rfl (push_rd_k wr _ x hx.out) (by simp; omega) (by simp; omega) ?_)
      intro v2 w2 hown2 g2 hv2
      have b2 := hba.grown g2 (by simp; omega) (fun k hk => (hI.lt k hk).1)
      have hF2 := hF.next (v2 := v2) _ g2 (by simpa using hv2)
      clear hv2
      obtain ⟨C2, HC2, hC2, hown2⟩ : ∃ C2, Hid (C2 = C ++ [x]) ∧ C2.length ≤ C.length + 1 ∧ w2.ownsRow B 5 1 v2 C2.length (Lib.byteCells C2) := ⟨C ++ [x], rfl, by simp, by rw [List.length_append]; exact hown2⟩
      go_wp2
      go_roundw
      case rel =>
        refine ⟨j + 1, C2, by omega, by go_num, by omega, ?_, hown2, b2, hF2⟩
        show _ = _
        rw [HC2.out, HC.out, be_take k n j hlt, HX.out, HZ.out, List.append_assoc]
      case measure => simp [intOf]; omega
    · obtain rfl : j = k := by omega
      have hlt' : ¬ (j : Int) < (j : Int) := by omega
      have e : C = L ++ be j n := by rw [HC.out, List.take_of_length_le (by rw [be_len]; exact Nat.le_refl _)]
      obtain ⟨A5, c5, hv, _, _⟩ := Bts.of_own hI
      subst hv
      have HE := Lib.hid e
      have HI := Lib.hid hI
      clear e HC hC hI
      go_wp2
      go_ret
      refine ⟨A5, c5, ?_, ?_, hb, ?_⟩
      · rw [← HE.out]; rfl
      · rw [← HE.out]
        exact HI.out
      · rw [← HE.out]
        exact hF

/-- What PutRec answers. -/
def putF (l : List UInt8) (num : Int) (body : List UInt8) : List UInt8 × Int := if goodB num body.length then (l ++ putR num.toNat body, 0) else ([], 1)
def PutP (F : List UInt8 × Int) (w : World) (e : Ending) (w' : World) : Prop := ∃ A cap, e = .returned (.tuple #[.slice A F.1.length cap, .int .i64 F.2]) ∧ Rd w' A F.1 ∧ F.1.length ≤ cap ∧ Below w.heap.size w w'
theorem put_p (A : Option Addr) (l : List UInt8) (c : Nat) (num : Int) (Ab : Option Addr) (body : List UInt8) (cb : Nat) (w : World) (hr : Rd w A l) (hrb : Rd w Ab body) (hl : l.length ≤ 100000) (hnum : num < 9223372036854775808) (ht : Steps w) (hp : 0 < w.heap.size) :
    Calls Tryd.prog 5 #[.slice A l.length c, .agg #[.int .i64 num, .slice Ab body.length cb]] w (PutP (putF l num body) w) := by
  unfold putF
  by_cases hg : goodB num body.length = true
  · rw [if_pos hg]
    obtain ⟨n, rfl⟩ := Int.eq_ofNat_of_zero_le (by unfold goodB at hg; simp at hg; omega : 0 ≤ num)
    refine (put_any A l c n Ab body cb w hr hrb hl hg (by omega) ht hp).mono ?_
    rintro e w' ⟨g, cap, rfl, hown, hb⟩
    have h := Bts.of_own hown
    obtain ⟨A9, c9, h9, h8, r9⟩ := h
    injection h9 with h9 _ h7
    subst h9 h7
    exact ⟨_, cap, rfl, r9, h8, hb⟩
  · rw [if_neg hg]
    refine (put_bad A l c num Ab body.length cb w (by simpa using hg)).mono ?_
    rintro e w' ⟨rfl, hb⟩
    exact ⟨none, 0, rfl, Rd.nil, Nat.le_refl _, hb⟩

theorem ow_empty' (w : World) : (w.alloc (.cells #[] 5)).ownsRow w.heap.size 5 1 (.slice (some ⟨w.heap.size, 0, none⟩) 0 0) ([] : List UInt8).length (Lib.byteCells []) :=
  World.ownsRow_made w #[] 0 (Nat.le_refl _) (Nat.zero_le _) rfl
theorem rd_of_own {w : World} {B : Nat} {e : TypeId} {A : Option Addr} {l : List UInt8} {c : Nat} (h : w.ownsRow B e 1 (.slice A l.length c) l.length (Lib.byteCells l)) : Rd w A l := by
  obtain ⟨A9, c9, h9, _, r9⟩ := Bts.of_own h
  injection h9 with h9
  subst h9
  exact r9
def BelR (w W V : World) : Prop := Below (w.heap.size + 1) W V
theorem rs_next {w W wx wy : World} {x y : Value} (hb : Below (w.heap.size + 1) wx wy) (hB : BelR w W wx) (c0 : wx.cell? ⟨w.heap.size, 0, none⟩ = some x) (c1 : wx.cell? ⟨w.heap.size, 1, none⟩ = some y) :
    wy.cell? ⟨w.heap.size, 0, none⟩ = some x ∧ wy.cell? ⟨w.heap.size, 1, none⟩ = some y ∧ BelR w W wy :=
  ⟨(hb.cell (p := ⟨w.heap.size, 0, none⟩) (Nat.lt_succ_self _)).trans c0, (hb.cell (p := ⟨w.heap.size, 1, none⟩) (Nat.lt_succ_self _)).trans c1, Below.trans hB hb⟩
theorem rel_go {w W wx wy : World} (hB : BelR w W wx) (hb : Below (w.heap.size + 1) wx wy) : BelR w W wy := Below.trans hB hb
theorem app_below {B n : Nat} {wx wy : World} {e : TypeId} {v : Value} {xs : List Value} (hown : wx.ownsRow B e 1 v n xs) (g : wx.grownBy wy v.ownBlock) (h : B ≤ wx.heap.size) : Below B wx wy := (Below.refl B wx).grown g h (fun k hk => (hown.lt k hk).1)
set_option maxHeartbeats 1000000 in
theorem putrec_bad1 (A : Option Addr) (l : List UInt8) (c : Nat) (num : Int) (Ab : Option Addr) (n cb : Nat) (w : World) (hbad : num < 1) :
    Calls Tryd.prog 6 #[.slice A l.length c, .agg #[.int .i64 num, .slice Ab n cb]] w (PutP ([], 1) w) := by
  have b := (Below.refl w.heap.size w).alloc (Nat.le_refl _) (.cells #[.int .i64 num, .slice Ab n cb] 30)
  go_enter Tryd.func6, Tryd.ntmps6
  go_wp2
  go_ret2
  exact ⟨none, 0, rfl, Rd.nil, Nat.le_refl _, b⟩
set_option maxHeartbeats 1000000 in
theorem putrec_bad2 (A : Option Addr) (l : List UInt8) (c : Nat) (num : Int) (Ab : Option Addr) (n cb : Nat) (w : World) (h1 : ¬ num < 1) (hbad : (200000 : Int) < (n : Int)) :
    Calls Tryd.prog 6 #[.slice A l.length c, .agg #[.int .i64 num, .slice Ab n cb]] w (PutP ([], 1) w) := by
  have b := (Below.refl w.heap.size w).alloc (Nat.le_refl _) (.cells #[.int .i64 num, .slice Ab n cb] 30)
  go_enter Tryd.func6, Tryd.ntmps6
  go_wp2
  go_ret2
  exact ⟨none, 0, rfl, Rd.nil, Nat.le_refl _, b⟩

set_option maxRecDepth 100000 in
set_option maxHeartbeats 8000000 in
theorem putrec_good (A : Option Addr) (l : List UInt8) (c : Nat) (num : Nat) (Ab : Option Addr) (body : List UInt8) (cb : Nat) (w : World) (hr : Rd w A l) (hrb : Rd w Ab body) (hl : l.length ≤ 100000) (hbl : body.length ≤ 200000) (h1 : 1 ≤ num) (hnum : num < 9223372036854775808) :
    Calls Tryd.prog 6 #[.slice A l.length c, .agg #[.int .i64 (num : Int), .slice Ab body.length cb]] w (PutP (l ++ putR num body, 0) w) := by
  have hR : l ++ putR num body = l ++ (headR num body ++ be 4 (crcAdd 0 (headR num body))) := rfl
  obtain ⟨R, hR1⟩ : ∃ R, R = l ++ putR num body := ⟨_, rfl⟩
  rw [← hR1] at hR ⊢
  have hR := Lib.hid hR
  clear hR1
  obtain ⟨i0, hi0, hz0, hz1, hz2⟩ := info_parts u8Info
  have b0 := (Below.refl w.heap.size w).alloc (Nat.le_refl _) (.cells #[.int .i64 (num : Int), .slice Ab body.length cb] 30)
  have o1 : ¬ (num : Int) < 1 := by omega
  have o2 : ¬ (200000 : Int) < (body.length : Int) := by omega
  go_enter Tryd.func6, Tryd.ntmps6
  go_upto_region 3 with (fail)
  obtain ⟨W, hW⟩ : ∃ W, W = w.alloc (.cells #[.int .i64 (num : Int), .slice Ab body.length cb] 30) := ⟨_, rfl⟩
  rw [← hW] at b0 ⊢
  have k0 : W.cell? ⟨w.heap.size, 0, none⟩ = some (.int .i64 (num : Int)) := by rw [hW]; simp
  have k1 : W.cell? ⟨w.heap.size, 1, none⟩ = some (.slice Ab body.length cb) := by rw [hW]; simp
  have sW : W.heap.size = w.heap.size + 1 := by rw [hW]; simp
  clear hW
  have hrW := hr.below b0
  have hrbW := hrb.below b0
  have hB9 : ∀ n, BelR w W (W.drewN n) := fun n => below_drewN (Below.refl _ W) n
  have sz9 : ∀ V, BelR w W V → w.heap.size + 1 ≤ V.heap.size := fun V hV => by have := Below.size hV; omega
  have hrb9 : ∀ V, BelR w W V → Rd V Ab body := fun V hV => hrbW.belowC hV (by omega)
  have q1 : ∀ V, BelR w W V → Calls Tryd.prog 15 #[.slice none 0 0, .int .u64 (body.length : Int), .int .i64 4] V (BigPost (w.heap.size + 1) (be 4 body.length) none V) := fun V hV => r_bigG (w.heap.size + 1) 0 body.length 4 none [] V (World.ownsRow_nil _ _ _ _) (sz9 V hV) (by omega) (by omega) (by omega) (by decide)
  have q2 : ∀ V A1 c1, BelR w W V → V.ownsRow (w.heap.size + 1) 5 1 (.slice A1 (be 4 body.length).length c1) (be 4 body.length).length (Lib.byteCells (be 4 body.length)) → Calls Tryd.prog 15 #[.slice A1 (be 4 body.length).length c1, .int .u64 (num : Int), .int .i64 8] V (BigPost (w.heap.size + 1) (be 4 body.length ++ be 8 num) (Value.slice A1 (be 4 body.length).length c1).ownBlock V) := fun V A1 c1 hV h => r_bigG (w.heap.size + 1) c1 num 8 A1 _ V h (sz9 V hV) (by omega) (by omega) (by omega) (by rw [be_len]; decide)
  have l1 : (be 4 body.length).length = 4 := be_len 4 _
  have l2 : (be 4 body.length ++ be 8 num).length = 12 := by rw [List.length_append, be_len, be_len]
  have hH : headR num body = be 4 body.length ++ be 8 num ++ body := rfl
  have hHl := headR_len num body
  have hcr := crcAdd_lt 0 (headR num body) (by decide)
  have o3 : IntKind.u64.wrap (num : Int) = num := by simp [IntKind.wrap, IntKind.bits, IntKind.signed]; omega
  have o4 : IntKind.u64.wrap (body.length : Int) = body.length := by simp [IntKind.wrap, IntKind.bits, IntKind.signed]; omega
  rw [hH] at hHl hcr hR
  clear hH hr hrb hrbW
  generalize be 4 body.length = L1 at *
  generalize be 8 num = L2x at *
  generalize L1 ++ L2x = L2 at *
  replace l1 := Lib.hid l1
  have l2' : L2.length ≤ 12 := by omega
  replace l2 := Lib.hid l2
  replace hHl := Lib.hid hHl
  go_region_held3 (fun V => V.cell? ⟨w.heap.size, 0, none⟩ = some (.int .i64 (num : Int)) ∧ V.cell? ⟨w.heap.size, 1, none⟩ = some (.slice Ab body.length cb) ∧ BelR w W V) (first | exact ⟨k0, k1, hB9 _⟩ | exact rs_next ‹_› (hB9 _) k0 k1 | (go_split_ands; exact rs_next ‹_› ‹_› ‹_› ‹_›)) (first
    | (go_at_call 15; (with_reducible refine (q1 _ ?_).mono ?_); (first | assumption | exact hB9 _ | (go_split_ands; assumption) | exact rel_go (hB9 _) b5); rintro e w5 ⟨A5, cap5, rfl, hown5, b5, f5⟩)
    | (go_at_call 15; (with_reducible refine (q2 _ _ _ ?_ ?_).mono ?_); (first | assumption | exact hB9 _ | (go_split_ands; assumption) | exact rel_go (hB9 _) b5); (first | exact hown5); rintro e w6 ⟨A6, cap6, rfl, hown6, b6, f6⟩)
    | (refine step_append_rda _ rfl (.tmp 24) (.tmp 26) 22 rfl (w.heap.size + 1) 5 i0 Tryd.underlying22 hi0 hz0 hz1 hz2 (.slice A6 L2.length cap6) L2 (by simp [Act.eval]) hown6 Ab body body.length cb rfl (by simp [Act.eval]) (hrb9 _ (by first | assumption | (go_split_ands; assumption) | exact rel_go (rel_go (hB9 _) b5) b6 | exact rel_go ‹BelR w W _› b6)) (by omega) (sz9 _ (by first | assumption | (go_split_ands; assumption) | exact rel_go (rel_go (hB9 _) b5) b6 | exact rel_go ‹BelR w W _› b6)) (fun v7 w7 hown7 g7 _ => ?_); have b7 := app_below hown6 g7 (sz9 _ (by first | assumption | (go_split_ands; assumption) | exact rel_go (rel_go (hB9 _) b5) b6 | exact rel_go ‹BelR w W _› b6))))
  have hB7 : BelR w W w7 := rel_go (rel_go (rel_go (hB9 1) b5) b6) b7
  have s7 := sz9 _ hB7
  have hl7 : (L2 ++ body).length ≤ 200012 := by rw [List.length_append]; omega
  clear hown5 hown6 g7 f5 f6 b5 b6 b7 q1 q2 hB9 sz9 hrb9 k0 k1 l1 l2 l2' hHl
  generalize L2 ++ body = H at *
  obtain ⟨A7, c7, rfl, hc7, hr7⟩ := Bts.of_own hown7
  have hrl7 := hrW.belowC hB7 (by omega)
  have ox := ow_empty' w7
  have bx := (Below.refl (w.heap.size + 1) w7).alloc s7 (.cells #[] 5)
  have hr7x : Rd (w7.alloc (.cells #[] 5)) A7 H := hr7.below ((Below.refl w7.heap.size w7).alloc (Nat.le_refl _) _)
  have hrlx : Rd (w7.alloc (.cells #[] 5)) A l := hrl7.below ((Below.refl w7.heap.size w7).alloc (Nat.le_refl _) _)
  have hown7x := hown7.alloc (.cells #[] 5)
  have hne : (Value.slice A7 H.length c7).ownBlock = none ∨ (Value.slice A7 H.length c7).ownBlock ≠ (Value.slice (some ⟨w7.heap.size, 0, none⟩) 0 0).ownBlock := by
    right
    intro h
    exact Nat.lt_irrefl _ (hown7.lt _ h).2
  have HNE := Lib.hid hne
  clear hne
  go_wp2_with (at_builtin; refine wpList_append_rda _ rfl _ _ 22 rfl w7.heap.size 5 i0 Tryd.underlying22 hi0 hz0 hz1 hz2 _ [] rfl ox A l _ _ rfl rfl hrlx (by simp; omega) (by simp) ?_)
  intro v8 w8 hown8 g8 hv8
  have hown78 := hown7x.kept g8 HNE.out
  have b8 : Below w7.heap.size w7 w8 := ((Below.refl _ w7).alloc (Nat.le_refl _) _).grown g8 (by simp) (fun k hk => (ox.lt k hk).1)
  have s8 := b8.size
  have hr8 := rd_of_own hown78
  have hcq : Calls Tryd.prog 16 #[.int .u32 0, .slice A7 H.length c7] w8 (fun e w' => e = .returned (.int .u32 (crcAdd 0 H : Int)) ∧ w8 = w') := says.ref_any 0 (by decide) A7 H c7 w8 hr8 (by omega)
  generalize crcAdd 0 H = y at *
  have hbq : Calls Tryd.prog 15 #[.slice A7 H.length c7, .int .u64 (y : Int), .int .i64 4] w8 (BigPost (w.heap.size + 1) (H ++ be 4 y) (Value.slice A7 H.length c7).ownBlock w8) := r_bigG (w.heap.size + 1) c7 y 4 A7 H w8 hown78 (by omega) (by omega) (by omega) (by omega) (by omega)
  have HV8 : Hid (∀ row, (∀ j, row = some j → j < w7.heap.size) → v8.ownBlock = none ∨ v8.ownBlock ≠ row) := by
    intro row hrow
    right
    intro h
    rcases hv8 with e | e
    · have h1 : w7.heap.size < w7.heap.size := hrow _ (h.symm.trans e)
      exact Nat.lt_irrefl _ h1
    · have h1 : w7.heap.size + 1 < w7.heap.size := hrow _ (h.symm.trans e)
      omega
  have HL7 : Hid (∀ j, (Value.slice A7 H.length c7).ownBlock = some j → j < w7.heap.size) := fun j hj => (hown7.lt j hj).2
  have HC := Lib.hid hcq
  have HB := Lib.hid hbq
  clear hown7 hr7 hrl7 ox bx hr7x hrlx hown7x HNE g8 hv8 hown78 hr8 hcq hbq
  have o5 : IntKind.u64.wrap (y : Int) = y := by simp [IntKind.wrap, IntKind.bits, IntKind.signed]; omega
  go_wp2_with fail
  (with_reducible refine HC.out.mono ?_)
  rintro e w9 ⟨rfl, rfl⟩
  go_wp2_with fail
  (with_reducible refine HB.out.mono ?_)
  rintro e w9 ⟨A9, c9, rfl, hown9, b9, f9⟩
  have hown89 := hown8.kept f9.1 (HV8.out _ HL7.out)
  have hr9 := rd_of_own hown9
  have hl9 : (H ++ be 4 y).length ≤ 200016 := by rw [List.length_append, be_len]; omega
  have s9 := b9.size
  clear HV8 HL7 HC HB hown9 f9 hown8
  generalize H ++ be 4 y = K at *
  go_wp2_with (at_builtin; refine wpList_append_rda _ rfl _ _ 22 rfl w7.heap.size 5 i0 Tryd.underlying22 hi0 hz0 hz1 hz2 _ l rfl hown89 A9 K _ _ rfl rfl hr9 (by omega) (by omega) ?_)
  intro v10 w10 hown10 g10 _
  have b10 : Below w7.heap.size w9 w10 := (Below.refl _ w9).grown g10 (by omega) (fun k hk => (hown89.lt k hk).1)
  have hb : Below w.heap.size w w10 := (((b0.trans (Below.mono hB7 (Nat.le_succ _))).trans (b8.mono (by omega))).trans (b9.mono (Nat.le_succ _))).trans (b10.mono (by omega))
  clear hown89 g10 b10 b9 b8 hB7
  rw [← List.length_append] at hown10
  rw [← hR.out] at hown10
  obtain ⟨A10, c10, rfl, hc10, hr10⟩ := Bts.of_own hown10
  clear hown10
  go_wp2
  go_ret2
  exact ⟨A10, c10, rfl, hr10, hc10, hb⟩

theorem putrec_p (A : Option Addr) (l : List UInt8) (c : Nat) (num : Int) (Ab : Option Addr) (body : List UInt8) (cb : Nat) (w : World) (hr : Rd w A l) (hrb : Rd w Ab body) (hl : l.length ≤ 100000) (hnum : num < 9223372036854775808) :
    Calls Tryd.prog 6 #[.slice A l.length c, .agg #[.int .i64 num, .slice Ab body.length cb]] w (PutP (putF l num body) w) := by
  unfold putF
  by_cases h1 : num < 1
  · rw [if_neg (by unfold goodB; simp; omega)]
    exact putrec_bad1 A l c num Ab body.length cb w h1
  by_cases h2 : (200000 : Int) < (body.length : Int)
  · rw [if_neg (by unfold goodB; simp; omega)]
    exact putrec_bad2 A l c num Ab body.length cb w h1 h2
  rw [if_pos (by unfold goodB; simp; omega)]
  obtain ⟨n, rfl⟩ := Int.eq_ofNat_of_zero_le (by omega : 0 ≤ num)
  exact putrec_good A l c n Ab body cb w hr hrb hl (by omega) (by omega) (by omega)
end Go.Proofs.YtjhmdgcfdelbkaaDoor
