/- The walk of awake, run by the abstract machine in pieces: the closed statement answers true, whatever the memory, where the library's variable MaxLen holds some int, and the tables of utf8 are laid. -/
import Derived.Test.YtokblnjnbkpchaaDoorAm26
import Derived.Test.YtokblnjnbkpchaaDoorProg
import Derived.Test.YtokblnjnbkpchaaDoorShelf
import Derived.Lib.LaidU8T
import Derived.KernelRfl
namespace Go.Proofs.YtokblnjnbkpchaaDoor
open Go.RowKit Go.Proofs.YtokblnjnbkpchaaDoor.Am

def aw8Xs : List (Nat × Nat × Nat) := [(32, 1, 0), (33, 2, 0)]
theorem aw8XsOK : xtAll Tryd.prog aw8Xs :=
  ⟨⟨by kernel_rfl, says1 (by kernel_rfl)⟩, ⟨by kernel_rfl, says2 (by kernel_rfl)⟩, trivial⟩
def aw8V0 : List AV := bs [240, 240, 240, 240, 240, 240, 240, 240, 240, 240, 240, 240, 240, 240, 240, 240, 240, 240, 240, 240, 240, 240, 240, 240, 240, 240, 240, 240, 240, 240, 240, 240, 240, 240, 240, 240, 240, 240, 240, 240, 240, 240, 240, 240, 240, 240, 240, 240, 240, 240, 240, 240, 240, 240, 240, 240, 240, 240, 240, 240, 240, 240, 240, 240, 240, 240, 240, 240, 240, 240, 240, 240, 240, 240, 240, 240, 240, 240, 240, 240, 240, 240, 240, 240, 240, 240, 240, 240, 240, 240, 240, 240, 240, 240, 240, 240, 240, 240, 240, 240, 240, 240, 240, 240, 240, 240, 240, 240, 240, 240, 240, 240, 240, 240, 240, 240, 240, 240, 240, 240, 240, 240, 240, 240, 240, 240, 240, 240, 241, 241, 241, 241, 241, 241, 241, 241, 241, 241, 241, 241, 241, 241, 241, 241, 241, 241, 241, 241, 241, 241, 241, 241, 241, 241, 241, 241, 241, 241, 241, 241, 241, 241, 241, 241, 241, 241, 241, 241, 241, 241, 241, 241, 241, 241, 241, 241, 241, 241, 241, 241, 241, 241, 241, 241, 241, 241, 241, 241, 241, 241, 241, 241, 241, 241, 2, 2, 2, 2, 2, 2, 2, 2, 2, 2, 2, 2, 2, 2, 2, 2, 2, 2, 2, 2, 2, 2, 2, 2, 2, 2, 2, 2, 2, 2, 19, 3, 3, 3, 3, 3, 3, 3, 3, 3, 3, 3, 3, 35, 3, 3, 52, 4, 4, 4, 68, 241, 241, 241, 241, 241, 241, 241, 241, 241, 241, 241]
def aw8V1 : List AV := bs [128, 191, 160, 191, 128, 159, 144, 191, 128, 143, 0, 0, 0, 0, 0, 0, 0, 0, 0, 0, 0, 0, 0, 0, 0, 0, 0, 0, 0, 0, 0, 0]
def aw8V2 : List AV := [.unk .i64]
def aw8Gs : List (Nat × List AV) := [(0, aw8V0), (1, aw8V1), (2, aw8V2)]
noncomputable def aw8Over (f : FuncId) : Option (List AV → AH → Option (AV × AH)) := cond (Nat.beq f 25) (some (ovIndexS 2)) (none)
theorem aw8ConS : IdxConS Tryd.prog 25 2 := fun s t m w hs hm => Tryd.strings_Index s t m w hs hm
noncomputable def aw8Gl : Gl Tryd.prog := Gl.mkG Tryd.prog aw8Gs aw8Xs aw8XsOK
theorem aw8Over_ok : OverOK Tryd.prog aw8Gl aw8Over := by
  intro f g hf args h v h' e
  unfold aw8Over at hf
  cases h_ovIndexS : Nat.beq f 25 with
  | true =>
    have := Nat.eq_of_beq_eq_true h_ovIndexS
    subst this
    rw [h_ovIndexS] at hf
    injection hf with hf
    subst hf
    exact ovIndexS_ok aw8ConS rfl args h v h' e
  | false =>
    rw [h_ovIndexS] at hf
    cases hf
theorem aw8Mix : Tryd.prog.follows .mixedOrders = true := by kernel_rfl
noncomputable def aw8R : Rec := aRec Tryd.prog aw8Gl aw8Over 1000000 1000000
theorem aw8Ra : RecAF aw8R := (aCall_ok aw8Mix aw8Over_ok 1000000 1000000).1
theorem aw8Rok : RecOK Tryd.prog aw8Gl aw8R := (aCall_ok aw8Mix aw8Over_ok 1000000 1000000).2
set_option maxRecDepth 100000
def aw8G0 : CF := .row aw8V0 256 true none
def aw8G1 : CF := .row aw8V1 32 true none
def aw8G2 : CF := .row aw8V2 1 true none
noncomputable def aw8t0 : Code := bodyC Tryd.prog 5
noncomputable def aw8start : Ck := ck0 aw8Gs 64
noncomputable def aw8c0 : Code := headC aw8t0
def aw8k1 : Ck := ⟨[(0, .bool false)], [(0, aw8G0), (1, aw8G1), (2, aw8G2)], 64⟩
theorem aw8e2 : prC [0] [0, 1, 2] (aCode Tryd.prog aw8Gl aw8R 1000000 aw8c0 (Ck.st 47 64 aw8start)) = some (.normal, aw8k1) := by kernel_rfl
theorem aw8p3 {n0 : Nat} : Pc aw8Gl 47 64 n0 aw8start aw8c0 .normal aw8k1 := Pc.run aw8Mix aw8Ra aw8Rok aw8e2
noncomputable def aw8c5 : Code := tailC aw8t0
def aw8k6 : Ck := ⟨[(0, .bool true)], [(0, aw8G0), (1, aw8G1), (2, aw8G2)], 96⟩
theorem aw8e7 : prC [0] [0, 1, 2] (aCode Tryd.prog aw8Gl aw8R 1000000 aw8c5 (Ck.st 47 64 aw8k1)) = some (.ret, aw8k6) := by kernel_rfl
theorem aw8p8 {n0 : Nat} : Pc aw8Gl 47 64 n0 aw8k1 aw8c5 .ret aw8k6 := Pc.run aw8Mix aw8Ra aw8Rok aw8e7
theorem aw8p4 {n0 : Nat} : Pc aw8Gl 47 64 n0 aw8start aw8t0 .ret aw8k6 := Pc.seq (a := aw8c0) (b := aw8c5) (by kernel_rfl) aw8p3 aw8p8
theorem aw8All (n0 : Nat) : Pc aw8Gl 47 64 n0 (ck0 aw8Gs 64) aw8t0 .ret aw8k6 := aw8p4
theorem aw8Pieces (w : World) (ha : GAll w aw8Gs) : Calls Tryd.prog 5 #[] w fun e w' => e = .returned (.bool true) ∧ Below w.heap.size w w' := known_pieces (fn := Tryd.f5) (c := aw8t0) (ck := aw8k6) Tryd.func5 (by kernel_rfl) (by kernel_rfl) aw8All (by first | exact .inl rfl | exact .inr rfl) (by kernel_rfl) w ha
theorem bs_get : ∀ (l : List Nat) (i : Nat) (a : AV), (bs l)[i]? = some a → ∃ n, l[i]? = some n ∧ a = .int .u8 (.ofNat n)
  | [], i, a, h => by simp [bs] at h
  | x :: l, 0, a, h => by simp [bs] at h; exact ⟨x, rfl, h.symm⟩
  | x :: l, i + 1, a, h => by
    simp only [bs, List.getElem?_cons_succ] at h
    obtain ⟨n, h1, h2⟩ := bs_get l i a h
    exact ⟨n, by simpa using h1, h2⟩
theorem gAt_bs {w : World} {g : Nat} (l : List Nat) (h0 : 0 < l.length) (h : ∀ i n : Nat, l[i]? = some n → w.cell? ⟨g, i, none⟩ = some (.int .u8 (n : Int))) : GAt w g (bs l) := by
  have h1 := h 0 l[0] (List.getElem?_eq_getElem h0)
  have key : ∃ arr et fz, w.heap[g]? = some (.cells arr et fz) := by
    unfold World.cell? at h1
    split at h1
    · rename_i c et fz hc
      exact ⟨c, et, fz, hc⟩
    · cases h1
  obtain ⟨arr, et, fz, hb⟩ := key
  refine ⟨arr, et, fz, hb, fun i a ha => ?_⟩
  obtain ⟨n, e1, rfl⟩ := bs_get l i a ha
  have h2 := h i n e1
  have h3 : w.cell? ⟨g, i, none⟩ = arr[i]? := by simp [World.cell?, hb]
  rw [h3] at h2
  exact ⟨_, h2, .int _ _⟩
theorem aw8Fst : aw8V0 = bs ((List.range 256).map Lib.firstT) := by kernel_rfl
theorem aw8Acc : aw8V1 = bs ((List.range 32).map fun i => if i % 2 = 0 then Lib.accLo (i / 2) else Lib.accHi (i / 2)) := by kernel_rfl
theorem aw8U8 {w : World} (ht : Lib.Utf8Tabs 0 1 w) (hm : ∃ m, w.cell? ⟨2, 0, none⟩ = some (.int .i64 m)) : GAll w aw8Gs := by
  intro g cs h
  simp only [aw8Gs, gLook] at h
  cases h1 : Nat.beq 0 g with
  | true =>
    rw [h1] at h
    have := Nat.eq_of_beq_eq_true h1
    subst this
    have h : aw8V0 = cs := Option.some.inj h
    subst h
    rw [aw8Fst]
    refine gAt_bs _ (by simp) fun i n hn => ?_
    have hi : i < 256 := by have := (List.getElem?_eq_some_iff.1 hn).1; simpa using this
    rw [List.getElem?_map, List.getElem?_range hi] at hn
    have hn : Lib.firstT i = n := Option.some.inj hn
    subst hn
    exact ht.1 i hi
  | false =>
  rw [h1] at h
  cases h2 : Nat.beq 1 g with
  | true =>
    rw [h2] at h
    have := Nat.eq_of_beq_eq_true h2
    subst this
    have h : aw8V1 = cs := Option.some.inj h
    subst h
    rw [aw8Acc]
    refine gAt_bs _ (by simp) fun i n hn => ?_
    have hi : i < 32 := by have := (List.getElem?_eq_some_iff.1 hn).1; simpa using this
    rw [List.getElem?_map, List.getElem?_range hi] at hn
    have hn : (if i % 2 = 0 then Lib.accLo (i / 2) else Lib.accHi (i / 2)) = n := Option.some.inj hn
    subst hn
    by_cases hp : i % 2 = 0
    · rw [if_pos hp]
      have := (ht.2 (i / 2) (by omega)).1
      rwa [show 2 * (i / 2) = i by omega] at this
    · rw [if_neg hp]
      have := (ht.2 (i / 2) (by omega)).2
      rwa [show 2 * (i / 2) + 1 = i by omega] at this
  | false =>
  rw [h2] at h
  cases h3 : Nat.beq 2 g with
  | true =>
    rw [h3] at h
    have := Nat.eq_of_beq_eq_true h3
    subst this
    have h : aw8V2 = cs := Option.some.inj h
    subst h
    exact gAt_int hm
  | false => rw [h3] at h; cases h
theorem aw8Walk (w : World) (ht : Lib.Utf8Tabs 0 1 w) (hm : ∃ m, w.cell? ⟨2, 0, none⟩ = some (.int .i64 m)) (_ : 2 < w.heap.size) : Calls Tryd.prog 5 #[] w fun e w' => e = .returned (.bool true) ∧ Below w.heap.size w w' :=
  aw8Pieces w (aw8U8 ht hm)
end Go.Proofs.YtokblnjnbkpchaaDoor
