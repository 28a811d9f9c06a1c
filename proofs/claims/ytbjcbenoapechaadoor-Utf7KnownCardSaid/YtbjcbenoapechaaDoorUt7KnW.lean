/- The walk of Utf7Known, run by the abstract machine in pieces: the closed statement answers true, whatever the memory, where the library's variable MaxLen holds some int, and the tables of utf8 are laid. -/
import Derived.Test.YtbjcbenoapechaaDoorAm24
import Derived.Test.YtbjcbenoapechaaDoorProg
import Derived.Test.YtbjcbenoapechaaDoorShelf
import Derived.Lib.LaidU8T
import Derived.KernelRfl
namespace Go.Proofs.YtbjcbenoapechaaDoor
open Go.RowKit Go.Proofs.YtbjcbenoapechaaDoor.Am

def ut7Xs : List (Nat × Nat × Nat) := [(141, 1, 0), (142, 2, 0), (186, 2, 0), (152, 3, 0), (158, 4, 5), (128, 5, 0)]
theorem ut7XsOK : xtAll Tryd.prog ut7Xs :=
  ⟨⟨by kernel_rfl, says1 (by kernel_rfl)⟩, ⟨by kernel_rfl, says2 (by kernel_rfl)⟩, ⟨by kernel_rfl, says2 (by kernel_rfl)⟩, ⟨by kernel_rfl, says3 (by kernel_rfl)⟩, ⟨by kernel_rfl, says4 #[3] 29 (by kernel_rfl) (by kernel_rfl)⟩, ⟨by kernel_rfl, says5 (by kernel_rfl)⟩, trivial⟩
def ut7V0 : List AV := bs [240, 240, 240, 240, 240, 240, 240, 240, 240, 240, 240, 240, 240, 240, 240, 240, 240, 240, 240, 240, 240, 240, 240, 240, 240, 240, 240, 240, 240, 240, 240, 240, 240, 240, 240, 240, 240, 240, 240, 240, 240, 240, 240, 240, 240, 240, 240, 240, 240, 240, 240, 240, 240, 240, 240, 240, 240, 240, 240, 240, 240, 240, 240, 240, 240, 240, 240, 240, 240, 240, 240, 240, 240, 240, 240, 240, 240, 240, 240, 240, 240, 240, 240, 240, 240, 240, 240, 240, 240, 240, 240, 240, 240, 240, 240, 240, 240, 240, 240, 240, 240, 240, 240, 240, 240, 240, 240, 240, 240, 240, 240, 240, 240, 240, 240, 240, 240, 240, 240, 240, 240, 240, 240, 240, 240, 240, 240, 240, 241, 241, 241, 241, 241, 241, 241, 241, 241, 241, 241, 241, 241, 241, 241, 241, 241, 241, 241, 241, 241, 241, 241, 241, 241, 241, 241, 241, 241, 241, 241, 241, 241, 241, 241, 241, 241, 241, 241, 241, 241, 241, 241, 241, 241, 241, 241, 241, 241, 241, 241, 241, 241, 241, 241, 241, 241, 241, 241, 241, 241, 241, 241, 241, 241, 241, 2, 2, 2, 2, 2, 2, 2, 2, 2, 2, 2, 2, 2, 2, 2, 2, 2, 2, 2, 2, 2, 2, 2, 2, 2, 2, 2, 2, 2, 2, 19, 3, 3, 3, 3, 3, 3, 3, 3, 3, 3, 3, 3, 35, 3, 3, 52, 4, 4, 4, 68, 241, 241, 241, 241, 241, 241, 241, 241, 241, 241, 241]
def ut7V1 : List AV := bs [128, 191, 160, 191, 128, 159, 144, 191, 128, 143, 0, 0, 0, 0, 0, 0, 0, 0, 0, 0, 0, 0, 0, 0, 0, 0, 0, 0, 0, 0, 0, 0]
def ut7V2 : List AV := [.unk .i64]
def ut7Gs : List (Nat × List AV) := [(0, ut7V0), (1, ut7V1), (2, ut7V2)]
noncomputable def ut7Over (f : FuncId) : Option (List AV → AH → Option (AV × AH)) := cond (Nat.beq f 146) (some (ovIndex 2)) (cond (Nat.beq f 105) (some (ovIndexS 2)) (none))
theorem ut7Con : IdxCon Tryd.prog 146 2 where
  none p q n c d w := Tryd.bytes_Index_none p q n c d w
  nil p2 k c2 w h1 h2 := Tryd.bytes_Index_nil p2 k c2 w h1 h2
  full a1 a2 n c1 k c2 xs ys m w hx hy h1 h2 h3 h4 h5 h6 h7 h8 := (Tryd.bytes_Index_at a1 a2 n c1 k c2 xs ys m w hx hy h1 h2 h3 h4 h5 h6 h7 h8).mono fun e w' ⟨he, q, hq⟩ => ⟨he, by rw [hq]; rfl⟩
theorem ut7ConS : IdxConS Tryd.prog 105 2 := fun s t m w hs hm => Tryd.strings_Index s t m w hs hm
noncomputable def ut7Gl : Gl Tryd.prog := Gl.mkG Tryd.prog ut7Gs ut7Xs ut7XsOK
theorem ut7Over_ok : OverOK Tryd.prog ut7Gl ut7Over := by
  intro f g hf args h v h' e
  unfold ut7Over at hf
  cases h_ovIndex : Nat.beq f 146 with
  | true =>
    have := Nat.eq_of_beq_eq_true h_ovIndex
    subst this
    rw [h_ovIndex] at hf
    injection hf with hf
    subst hf
    exact ovIndex_ok ut7Con rfl args h v h' e
  | false =>
    rw [h_ovIndex] at hf
    cases h_ovIndexS : Nat.beq f 105 with
    | true =>
      have := Nat.eq_of_beq_eq_true h_ovIndexS
      subst this
      rw [h_ovIndexS] at hf
      injection hf with hf
      subst hf
      exact ovIndexS_ok ut7ConS rfl args h v h' e
    | false =>
      rw [h_ovIndexS] at hf
      cases hf
theorem ut7Mix : Tryd.prog.follows .mixedOrders = true := by kernel_rfl
noncomputable def ut7R : Rec := aRec Tryd.prog ut7Gl ut7Over 1000000 1000000
theorem ut7Ra : RecAF ut7R := (aCall_ok ut7Mix ut7Over_ok 1000000 1000000).1
theorem ut7Rok : RecOK Tryd.prog ut7Gl ut7R := (aCall_ok ut7Mix ut7Over_ok 1000000 1000000).2
set_option maxRecDepth 100000
def ut7G0 : CF := .row ut7V0 256 true none
def ut7G1 : CF := .row ut7V1 32 true none
def ut7G2 : CF := .row ut7V2 1 true none
noncomputable def ut7t0 : Code := bodyC Tryd.prog 5
noncomputable def ut7h0 : Code := headC ut7t0
def ut7k0 : Ck := ⟨[(0, .bool false)], [(0, ut7G0), (1, ut7G1), (2, ut7G2)], 64⟩
theorem ut7e0 : prC [0] [0, 1, 2] (aCode Tryd.prog ut7Gl ut7R 1000000 ut7h0 (Ck.st 149 64 (ck0 ut7Gs 64))) = some (.normal, ut7k0) := by kernel_rfl
theorem ut7p0 {n0 : Nat} : Pc ut7Gl 149 64 n0 (ck0 ut7Gs 64) ut7h0 .normal ut7k0 := Pc.run ut7Mix ut7Ra ut7Rok ut7e0
noncomputable def ut7t1 : Code := tailC ut7t0
noncomputable def ut7h1 : Code := headC ut7t1
def ut7k1 : Ck := ⟨[(0, .bool false)], [(0, ut7G0), (1, ut7G1), (2, ut7G2)], 96⟩
theorem ut7e1 : prC [0] [0, 1, 2] (aCode Tryd.prog ut7Gl ut7R 1000000 ut7h1 (Ck.st 149 64 ut7k0)) = some (.normal, ut7k1) := by kernel_rfl
theorem ut7p1 {n0 : Nat} : Pc ut7Gl 149 64 n0 ut7k0 ut7h1 .normal ut7k1 := Pc.run ut7Mix ut7Ra ut7Rok ut7e1
noncomputable def ut7t2 : Code := tailC ut7t1
noncomputable def ut7h2 : Code := headC ut7t2
def ut7k2 : Ck := ⟨[(0, .bool false), (2, .int .i64 (.ofNat 1))], [(0, ut7G0), (1, ut7G1), (2, ut7G2)], 97⟩
theorem ut7e2 : prC [0, 2] [0, 1, 2] (aCode Tryd.prog ut7Gl ut7R 1000000 ut7h2 (Ck.st 149 64 ut7k1)) = some (.normal, ut7k2) := by kernel_rfl
theorem ut7p2 {n0 : Nat} : Pc ut7Gl 149 64 n0 ut7k1 ut7h2 .normal ut7k2 := Pc.run ut7Mix ut7Ra ut7Rok ut7e2
noncomputable def ut7t3 : Code := tailC ut7t2
noncomputable def ut7h3 : Code := headC ut7t3
def ut7k3 : Ck := ⟨[(0, .bool false), (2, .int .i64 (.ofNat 1)), (4, .int .i64 (.ofNat 3))], [(0, ut7G0), (1, ut7G1), (2, ut7G2)], 98⟩
theorem ut7e3 : prC [0, 2, 4] [0, 1, 2] (aCode Tryd.prog ut7Gl ut7R 1000000 ut7h3 (Ck.st 149 64 ut7k2)) = some (.normal, ut7k3) := by kernel_rfl
theorem ut7p3 {n0 : Nat} : Pc ut7Gl 149 64 n0 ut7k2 ut7h3 .normal ut7k3 := Pc.run ut7Mix ut7Ra ut7Rok ut7e3
noncomputable def ut7t4 : Code := tailC ut7t3
noncomputable def ut7h4 : Code := headC ut7t4
def ut7k4 : Ck := ⟨[(0, .bool false), (2, .int .i64 (.ofNat 1)), (4, .int .i64 (.ofNat 3)), (6, .int .i64 (.ofNat 3))], [(0, ut7G0), (1, ut7G1), (2, ut7G2)], 106⟩
theorem ut7e4 : prC [0, 2, 4, 6] [0, 1, 2] (aCode Tryd.prog ut7Gl ut7R 1000000 ut7h4 (Ck.st 149 64 ut7k3)) = some (.normal, ut7k4) := by kernel_rfl
theorem ut7p4 {n0 : Nat} : Pc ut7Gl 149 64 n0 ut7k3 ut7h4 .normal ut7k4 := Pc.run ut7Mix ut7Ra ut7Rok ut7e4
noncomputable def ut7t5 : Code := tailC ut7t4
noncomputable def ut7h5 : Code := headC ut7t5
def ut7k5 : Ck := ⟨[(0, .bool false), (2, .int .i64 (.ofNat 1)), (4, .int .i64 (.ofNat 3)), (6, .int .i64 (.ofNat 3)), (8, .int .i64 (.ofNat 3))], [(0, ut7G0), (1, ut7G1), (2, ut7G2)], 122⟩
theorem ut7e5 : prC [0, 2, 4, 6, 8] [0, 1, 2] (aCode Tryd.prog ut7Gl ut7R 1000000 ut7h5 (Ck.st 149 64 ut7k4)) = some (.normal, ut7k5) := by kernel_rfl
theorem ut7p5 {n0 : Nat} : Pc ut7Gl 149 64 n0 ut7k4 ut7h5 .normal ut7k5 := Pc.run ut7Mix ut7Ra ut7Rok ut7e5
noncomputable def ut7t6 : Code := tailC ut7t5
noncomputable def ut7h6 : Code := headC ut7t6
def ut7k6 : Ck := ⟨[(0, .bool false), (2, .int .i64 (.ofNat 1)), (4, .int .i64 (.ofNat 3)), (6, .int .i64 (.ofNat 3)), (8, .int .i64 (.ofNat 3)), (10, .int .i64 (.ofNat 3))], [(0, ut7G0), (1, ut7G1), (2, ut7G2)], 145⟩
theorem ut7e6 : prC [0, 2, 4, 6, 8, 10] [0, 1, 2] (aCode Tryd.prog ut7Gl ut7R 1000000 ut7h6 (Ck.st 149 64 ut7k5)) = some (.normal, ut7k6) := by kernel_rfl
theorem ut7p6 {n0 : Nat} : Pc ut7Gl 149 64 n0 ut7k5 ut7h6 .normal ut7k6 := Pc.run ut7Mix ut7Ra ut7Rok ut7e6
noncomputable def ut7t7 : Code := tailC ut7t6
noncomputable def ut7h7 : Code := headC ut7t7
def ut7k7 : Ck := ⟨[(0, .bool false), (2, .int .i64 (.ofNat 1)), (4, .int .i64 (.ofNat 3)), (6, .int .i64 (.ofNat 3)), (8, .int .i64 (.ofNat 3)), (10, .int .i64 (.ofNat 3)), (11, .str [38, 65, 79, 107, 65, 54, 81, 45]), (12, .int .i64 (.ofNat 0))], [(0, ut7G0), (1, ut7G1), (2, ut7G2)], 160⟩
theorem ut7e7 : prC [0, 2, 4, 6, 8, 10, 11, 12] [0, 1, 2] (aCode Tryd.prog ut7Gl ut7R 1000000 ut7h7 (Ck.st 149 64 ut7k6)) = some (.normal, ut7k7) := by kernel_rfl
theorem ut7p7 {n0 : Nat} : Pc ut7Gl 149 64 n0 ut7k6 ut7h7 .normal ut7k7 := Pc.run ut7Mix ut7Ra ut7Rok ut7e7
noncomputable def ut7t8 : Code := tailC ut7t7
noncomputable def ut7h8 : Code := headC ut7t8
def ut7k8 : Ck := ⟨[(0, .bool false), (2, .int .i64 (.ofNat 1)), (4, .int .i64 (.ofNat 3)), (6, .int .i64 (.ofNat 3)), (8, .int .i64 (.ofNat 3)), (10, .int .i64 (.ofNat 3)), (11, .str [38, 65, 79, 107, 65, 54, 81, 45]), (12, .int .i64 (.ofNat 0)), (13, .str [38, 50, 68, 51, 101, 65, 65, 45]), (14, .int .i64 (.ofNat 0))], [(0, ut7G0), (1, ut7G1), (2, ut7G2)], 174⟩
theorem ut7e8 : prC [0, 2, 4, 6, 8, 10, 11, 12, 13, 14] [0, 1, 2] (aCode Tryd.prog ut7Gl ut7R 1000000 ut7h8 (Ck.st 149 64 ut7k7)) = some (.normal, ut7k8) := by kernel_rfl
theorem ut7p8 {n0 : Nat} : Pc ut7Gl 149 64 n0 ut7k7 ut7h8 .normal ut7k8 := Pc.run ut7Mix ut7Ra ut7Rok ut7e8
noncomputable def ut7t9 : Code := tailC ut7t8
noncomputable def ut7h9 : Code := headC ut7t9
def ut7k9 : Ck := ⟨[(0, .bool false), (2, .int .i64 (.ofNat 1)), (4, .int .i64 (.ofNat 3)), (6, .int .i64 (.ofNat 3)), (8, .int .i64 (.ofNat 3)), (10, .int .i64 (.ofNat 3)), (11, .str [38, 65, 79, 107, 65, 54, 81, 45]), (12, .int .i64 (.ofNat 0)), (13, .str [38, 50, 68, 51, 101, 65, 65, 45]), (14, .int .i64 (.ofNat 0)), (15, .str [97, 47, 98]), (16, .bool true)], [(0, ut7G0), (1, ut7G1), (2, ut7G2)], 174⟩
theorem ut7e9 : prC [0, 2, 4, 6, 8, 10, 11, 12, 13, 14, 15, 16] [0, 1, 2] (aCode Tryd.prog ut7Gl ut7R 1000000 ut7h9 (Ck.st 149 64 ut7k8)) = some (.normal, ut7k9) := by kernel_rfl
theorem ut7p9 {n0 : Nat} : Pc ut7Gl 149 64 n0 ut7k8 ut7h9 .normal ut7k9 := Pc.run ut7Mix ut7Ra ut7Rok ut7e9
noncomputable def ut7t10 : Code := tailC ut7t9
noncomputable def ut7h10 : Code := headC ut7t10
def ut7k10 : Ck := ⟨[(0, .bool false), (2, .int .i64 (.ofNat 1)), (4, .int .i64 (.ofNat 3)), (6, .int .i64 (.ofNat 3)), (8, .int .i64 (.ofNat 3)), (10, .int .i64 (.ofNat 3)), (11, .str [38, 65, 79, 107, 65, 54, 81, 45]), (12, .int .i64 (.ofNat 0)), (13, .str [38, 50, 68, 51, 101, 65, 65, 45]), (14, .int .i64 (.ofNat 0)), (15, .str [97, 47, 98]), (16, .bool true), (18, .bool false)], [(0, ut7G0), (1, ut7G1), (2, ut7G2)], 174⟩
theorem ut7e10 : prC [0, 2, 4, 6, 8, 10, 11, 12, 13, 14, 15, 16, 18] [0, 1, 2] (aCode Tryd.prog ut7Gl ut7R 1000000 ut7h10 (Ck.st 149 64 ut7k9)) = some (.normal, ut7k10) := by kernel_rfl
theorem ut7p10 {n0 : Nat} : Pc ut7Gl 149 64 n0 ut7k9 ut7h10 .normal ut7k10 := Pc.run ut7Mix ut7Ra ut7Rok ut7e10
noncomputable def ut7t11 : Code := tailC ut7t10
noncomputable def ut7h11 : Code := headC ut7t11
def ut7k11 : Ck := ⟨[(0, .bool true)], [(0, ut7G0), (1, ut7G1), (2, ut7G2)], 182⟩
theorem ut7e11 : prC [0] [0, 1, 2] (aCode Tryd.prog ut7Gl ut7R 1000000 ut7h11 (Ck.st 149 64 ut7k10)) = some (.normal, ut7k11) := by kernel_rfl
theorem ut7p11 {n0 : Nat} : Pc ut7Gl 149 64 n0 ut7k10 ut7h11 .normal ut7k11 := Pc.run ut7Mix ut7Ra ut7Rok ut7e11
noncomputable def ut7t12 : Code := tailC ut7t11
def ut7k12 : Ck := ⟨[(0, .bool true)], [(0, ut7G0), (1, ut7G1), (2, ut7G2)], 182⟩
theorem ut7e12 : prC [0] [0, 1, 2] (aCode Tryd.prog ut7Gl ut7R 1000000 ut7t12 (Ck.st 149 64 ut7k11)) = some (.ret, ut7k12) := by kernel_rfl
theorem ut7p12 {n0 : Nat} : Pc ut7Gl 149 64 n0 ut7k11 ut7t12 .ret ut7k12 := Pc.run ut7Mix ut7Ra ut7Rok ut7e12
theorem ut7All (n0 : Nat) : Pc ut7Gl 149 64 n0 (ck0 ut7Gs 64) ut7t0 .ret ut7k12 := Pc.seq (c := ut7t0) (a := ut7h0) (b := ut7t1) (by kernel_rfl) ut7p0 (Pc.seq (c := ut7t1) (a := ut7h1) (b := ut7t2) (by kernel_rfl) ut7p1 (Pc.seq (c := ut7t2) (a := ut7h2) (b := ut7t3) (by kernel_rfl) ut7p2 (Pc.seq (c := ut7t3) (a := ut7h3) (b := ut7t4) (by kernel_rfl) ut7p3 (Pc.seq (c := ut7t4) (a := ut7h4) (b := ut7t5) (by kernel_rfl) ut7p4 (Pc.seq (c := ut7t5) (a := ut7h5) (b := ut7t6) (by kernel_rfl) ut7p5 (Pc.seq (c := ut7t6) (a := ut7h6) (b := ut7t7) (by kernel_rfl) ut7p6 (Pc.seq (c := ut7t7) (a := ut7h7) (b := ut7t8) (by kernel_rfl) ut7p7 (Pc.seq (c := ut7t8) (a := ut7h8) (b := ut7t9) (by kernel_rfl) ut7p8 (Pc.seq (c := ut7t9) (a := ut7h9) (b := ut7t10) (by kernel_rfl) ut7p9 (Pc.seq (c := ut7t10) (a := ut7h10) (b := ut7t11) (by kernel_rfl) ut7p10 (Pc.seq (c := ut7t11) (a := ut7h11) (b := ut7t12) (by kernel_rfl) ut7p11 (ut7p12))))))))))))
theorem ut7Pieces (w : World) (ha : GAll w ut7Gs) : Calls Tryd.prog 5 #[] w fun e w' => e = .returned (.bool true) ∧ Below w.heap.size w w' := known_pieces (fn := Tryd.f5) (c := ut7t0) (ck := ut7k12) Tryd.func5 (by kernel_rfl) (by kernel_rfl) ut7All (by first | exact .inl rfl | exact .inr rfl) (by kernel_rfl) w ha
theorem bs_get : ∀ (l : List Nat) (i : Nat) (a : AV), (bs l)[i]? = some a → ∃ n, l[i]? = some n ∧ a = .int .u8 (.ofNat n)
  | [], i, a, h => by simp [bs] at h
  | x :: l, 0, a, h => by simp [bs] at h; exact ⟨x, rfl, h.symm⟩
  | x :: l, i + 1, a, h => by
    simp only [bs, List.getElem?_cons_succ] at h
    obtain ⟨n, h1, h2⟩ := bs_get l i a h
    exact ⟨n, by simpa using h1, h2⟩
theorem gAt_bs {w : World} {g : Nat} (l : List Nat) (h0 : 0 < l.length) (h : ∀ i n : Nat, l[i]? = some n → w.cell? ⟨g, i, none⟩ = some (.int .u8 (n : Int))) : GAt w g (bs l) := by
  have h1 := h 0 l[0] (List.getElem?_eq_getElem h0)
  have key : ∃ arr et fz, w.heap[g]? = some (.cells arr et fz) := by
    unfold World.cell? at h1
    split at h1
    · rename_i c et fz hc
      exact ⟨c, et, fz, hc⟩
    · cases h1
  obtain ⟨arr, et, fz, hb⟩ := key
  refine ⟨arr, et, fz, hb, fun i a ha => ?_⟩
  obtain ⟨n, e1, rfl⟩ := bs_get l i a ha
  have h2 := h i n e1
  have h3 : w.cell? ⟨g, i, none⟩ = arr[i]? := by simp [World.cell?, hb]
  rw [h3] at h2
  exact ⟨_, h2, .int _ _⟩
theorem ut7Fst : ut7V0 = bs ((List.range 256).map Lib.firstT) := by kernel_rfl
theorem ut7Acc : ut7V1 = bs ((List.range 32).map fun i => if i % 2 = 0 then Lib.accLo (i / 2) else Lib.accHi (i / 2)) := by kernel_rfl
theorem ut7U8 {w : World} (ht : Lib.Utf8Tabs 0 1 w) (hm : ∃ m, w.cell? ⟨2, 0, none⟩ = some (.int .i64 m)) : GAll w ut7Gs := by
  intro g cs h
  simp only [ut7Gs, gLook] at h
  cases h1 : Nat.beq 0 g with
  | true =>
    rw [h1] at h
    have := Nat.eq_of_beq_eq_true h1
    subst this
    have h : ut7V0 = cs := Option.some.inj h
    subst h
    rw [ut7Fst]
    refine gAt_bs _ (by simp) fun i n hn => ?_
    have hi : i < 256 := by have := (List.getElem?_eq_some_iff.1 hn).1; simpa using this
    rw [List.getElem?_map, List.getElem?_range hi] at hn
    have hn : Lib.firstT i = n := Option.some.inj hn
    subst hn
    exact ht.1 i hi
  | false =>
  rw [h1] at h
  cases h2 : Nat.beq 1 g with
  | true =>
    rw [h2] at h
    have := Nat.eq_of_beq_eq_true h2
    subst this
    have h : ut7V1 = cs := Option.some.inj h
    subst h
    rw [ut7Acc]
    refine gAt_bs _ (by simp) fun i n hn => ?_
    have hi : i < 32 := by have := (List.getElem?_eq_some_iff.1 hn).1; simpa using this
    rw [List.getElem?_map, List.getElem?_range hi] at hn
    have hn : (if i % 2 = 0 then Lib.accLo (i / 2) else Lib.accHi (i / 2)) = n := Option.some.inj hn
    subst hn
    by_cases hp : i % 2 = 0
    · rw [if_pos hp]
      have := (ht.2 (i / 2) (by omega)).1
      rwa [show 2 * (i / 2) = i by omega] at this
    · rw [if_neg hp]
      have := (ht.2 (i / 2) (by omega)).2
      rwa [show 2 * (i / 2) + 1 = i by omega] at this
  | false =>
  rw [h2] at h
  cases h3 : Nat.beq 2 g with
  | true =>
    rw [h3] at h
    have := Nat.eq_of_beq_eq_true h3
    subst this
    have h : ut7V2 = cs := Option.some.inj h
    subst h
    exact gAt_int hm
  | false => rw [h3] at h; cases h
theorem ut7Walk (w : World) (ht : Lib.Utf8Tabs 0 1 w) (hm : ∃ m, w.cell? ⟨2, 0, none⟩ = some (.int .i64 m)) (_ : 2 < w.heap.size) : Calls Tryd.prog 5 #[] w fun e w' => e = .returned (.bool true) ∧ Below w.heap.size w w' :=
  ut7Pieces w (ut7U8 ht hm)
end Go.Proofs.YtbjcbenoapechaaDoor
