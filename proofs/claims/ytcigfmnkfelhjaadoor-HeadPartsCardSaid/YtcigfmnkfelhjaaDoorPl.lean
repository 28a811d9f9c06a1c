/- Plain lemmas that every layer's texts share: of no program. -/
import Derived.Test.YtcigfmnkfelhjaaDoorChecked
import Derived.WalkKit
import Derived.WalkLawsBesides
import Derived.WalkSpells
import Derived.Lib.Hide
import Derived.Outline
import Derived.Deep.QuietTactic
import Derived.BigQuiet
import Derived.Lib.OthersKept
import Derived.Lib.FrozenHead
import Derived.Lib.UnsafeStr
import Derived.Laws.IdiomStrings
import Derived.Laws.BytesArg
set_option linter.unusedVariables false
namespace Go.Proofs.YtcigfmnkfelhjaaDoor
open Go.RowKit

theorem ret_bool {a b : Bool} (h : a = b) : Ending.returned (.bool a) = .returned (.bool b) := by rw [h]
theorem ret_int {k : IntKind} {a b : Int} (h : a = b) : Ending.returned (.int k a) = .returned (.int k b) := by rw [h]
theorem ret_str {a b : ByteArray} (h : a = b) : Ending.returned (.string a) = .returned (.string b) := by rw [h]
theorem take_snoc (s : ByteArray) (k : Nat) (h : k < s.size) : s.data.toList.take (k + 1) = s.data.toList.take k ++ [s[k]] := by
  rw [List.take_succ_eq_append_getElem (by simpa using h)]; rfl
theorem drop_cons (s : ByteArray) (k : Nat) (h : k < s.size) : s.data.toList.drop k = s[k] :: s.data.toList.drop (k + 1) := by
  rw [List.drop_eq_getElem_cons (by simpa using h)]; rfl
theorem take_all (s : ByteArray) : s.data.toList.take s.size = s.data.toList := List.take_of_length_le (by simp)
theorem len_data (s : ByteArray) : s.data.toList.length = s.size := by simp
theorem get_data (s : ByteArray) (k : Nat) (h : k < s.data.toList.length) : s.data.toList[k] = s[k]'(by simpa using h) := rfl
/-- A list that is mapped up to k and old from k on. -/
theorem mapped_len {α} (f : α → α) (l : List α) (k : Nat) (h : k ≤ l.length) : ((l.take k).map f ++ l.drop k).length = l.length := by
  simp; omega
theorem mapped_get {α} (f : α → α) (l : List α) (k : Nat) (h : k < l.length) (h' : k < ((l.take k).map f ++ l.drop k).length) : ((l.take k).map f ++ l.drop k)[k] = l[k] := by
  rw [List.getElem_append_right (by simp; omega)]; simp [Nat.min_eq_left (Nat.le_of_lt h)]
theorem mapped_set {α} (f : α → α) (l : List α) (k : Nat) (h : k < l.length) : ((l.take k).map f ++ l.drop k).set k (f l[k]) = (l.take (k + 1)).map f ++ l.drop (k + 1) := by
  have e : k - ((l.take k).map f).length = 0 := by simp; omega
  rw [List.set_append_right _ _ (by simp; omega), e, List.drop_eq_getElem_cons h, List.set_cons_zero, List.take_succ_eq_append_getElem h, List.map_append]
  simp only [List.map_cons, List.map_nil, List.append_assoc, List.singleton_append]
theorem toList_data (s : ByteArray) : s.toList = s.data.toList := ByteArray.toList_eq s
theorem str_nil {s : ByteArray} (h : s.size = 0) : s.data.toList = [] := List.eq_nil_of_length_eq_zero (by rw [len_data]; exact h)
theorem str_isnil {s : ByteArray} (h : s.size = 0) : s.toList.isEmpty = true := by rw [toList_data, str_nil h]; rfl
theorem str_some {s : ByteArray} (h : ¬ s.size = 0) : s.toList.isEmpty = false := by
  rw [toList_data]
  cases e : s.data.toList with
  | nil => have := len_data s; rw [e] at this; exact absurd this.symm h
  | cons => rfl
theorem eq_t {c n : Nat} (h : c = n) : ((c : Int) == (n : Int)) = true := by simp [h]
theorem eq_f {c n : Nat} (h : ¬ c = n) : ((c : Int) == (n : Int)) = false := by simp; omega
theorem ne_f {c n : Nat} (h : c = n) : ((c : Int) != (n : Int)) = false := by simp [h]
theorem ne_t {c n : Nat} (h : ¬ c = n) : ((c : Int) != (n : Int)) = true := by rw [bne_iff_ne]; omega
theorem ret_tup2 {a b x y : Value} (h1 : a = x) (h2 : b = y) : Ending.returned (.tuple #[a, b]) = .returned (.tuple #[x, y]) := by rw [h1, h2]
theorem ret_tup3 {a b c x y z : Value} (h1 : a = x) (h2 : b = y) (h3 : c = z) : Ending.returned (.tuple #[a, b, c]) = .returned (.tuple #[x, y, z]) := by rw [h1, h2, h3]
theorem bcell {W w1 : World} (hb : Below W.heap.size W w1) : (∀ b o, b < W.heap.size → w1.cell? ⟨b, o, none⟩ = W.cell? ⟨b, o, none⟩) ∧ (∀ b o, b < W.heap.size → w1.frozen? ⟨b, o, none⟩ = W.frozen? ⟨b, o, none⟩) :=
  ⟨fun b o h => hb.cell (p := ⟨b, o, none⟩) h, fun b o h => hb.frozen (p := ⟨b, o, none⟩) h⟩
theorem below_of_eq {B : Nat} {w w' : World} (h : w = w') : Below B w w' := h ▸ Below.refl B w
theorem below_drewN {B : Nat} {a w : World} (h : Below B a w) (n : Nat) : Below B a (w.drewN n) := ⟨h.os, h.tape, h.output, h.size, h.block⟩

/-! Rows of bytes -/
/-- '[]byte(s)': the new row, its capacity open. -/
theorem conv_bytes {P : Program} (w : World) (src dst e : TypeId) (s : ByteArray) (hs : P.underlying src = some .string) (hd : P.underlying dst = some (.slice e)) (he : P.underlying e = some (.int .u8)) :
    ∃ (cap : Nat) (C : Array Value), (convert src dst (.string s)).run P w = .ok (.slice (some ⟨w.heap.size, 0, none⟩) s.size cap) (w.drew.alloc (.cells C e (C.size, C.size + 1))) ∧ s.size ≤ cap ∧ ∀ j (h : j < s.size), C[j]? = some (.int .u8 (s[j].toNat : Int)) := by
  refine ⟨_, _, run_bytes_of_string w src dst e s hs hd he, grownCap_ge w s.size 0 e, fun j h => ?_⟩
  exact bytesRow_at s _ j h

/-- Block g holds the bytes l from cell 0 on; none of its cells is frozen. -/
def Bts (e : TypeId) (w : World) (g : Nat) (l : List UInt8) : Prop :=
  ∃ cur fz, w.heap[g]? = some (.cells cur e fz) ∧ (cur.size ≤ fz.1 ∨ fz = (0, 0)) ∧ ∀ j (h : j < l.length), cur[j]? = some (.int .u8 (l[j].toNat : Int))
section
variable {e : TypeId} {w w' : World} {g : Nat} {l : List UInt8}
theorem Bts.lt (h : Bts e w g l) : g < w.heap.size := by
  obtain ⟨_, _, hg, _⟩ := h
  exact (Array.getElem?_eq_some_iff.1 hg).1
theorem Bts.cell (h : Bts e w g l) (j : Nat) (hj : j < l.length) : w.cell? ⟨g, j, none⟩ = some (.int .u8 (l[j].toNat : Int)) := by
  obtain ⟨cur, fz, hg, _, hc⟩ := h
  simp [World.cell?, hg, hc j hj]
theorem Bts.frozen (h : Bts e w g l) (j : Nat) (hj : j < l.length) : w.frozen? ⟨g, j, none⟩ = false := by
  obtain ⟨cur, fz, hg, hz, hc⟩ := h
  have : j < cur.size := (Array.getElem?_eq_some_iff.1 (hc j hj)).1
  simp only [World.frozen?, hg]
  rcases hz with hz | rfl
  · simp; omega
  · simp
theorem Bts.set_ (h : Bts e w g l) (j : Nat) (hj : j < l.length) (c : UInt8) : Bts e (w.setCell ⟨g, j, none⟩ (.int .u8 (c.toNat : Int))) g (l.set j c) := by
  obtain ⟨cur, fz, hg, hz, hc⟩ := h
  refine ⟨cur.setIfInBounds j (.int .u8 (c.toNat : Int)), fz, by simp [World.setCell, Array.getElem?_modify, hg], by simpa using hz, fun i hi => ?_⟩
  have hi' : i < l.length := by simpa using hi
  have hcj : j < cur.size := (Array.getElem?_eq_some_iff.1 (hc j hj)).1
  rw [Array.getElem?_setIfInBounds]
  by_cases hij : j = i
  · subst hij; simp [hcj]
  · simp [hij, hc i hi']
theorem Bts.drew (h : Bts e w g l) : Bts e w.drew g l := h
theorem Bts.drewN (h : Bts e w g l) (n : Nat) : Bts e (w.drewN n) g l := h
theorem Bts.alloc (h : Bts e w g l) (o : Obj) : Bts e (w.alloc o) g l := by
  have hlt := h.lt
  obtain ⟨cur, fz, hg, r⟩ := h
  exact ⟨cur, fz, (Below.heap_alloc w o g hlt).trans hg, r⟩
theorem Bts.below {B : Nat} (h : Bts e w g l) (hb : Below B w w') (hg : g < B) : Bts e w' g l := by
  obtain ⟨cur, fz, hg', r⟩ := h
  exact ⟨cur, fz, (hb.block g hg).trans hg', r⟩
theorem Bts.new {C : Array Value} (w : World) (hC : ∀ j (h : j < l.length), C[j]? = some (.int .u8 (l[j].toNat : Int))) : Bts e (w.alloc (.cells C e (C.size, C.size + 1))) w.heap.size l :=
  ⟨C, (C.size, C.size + 1), by simp [World.alloc, -World.alloc_eq], .inl (Nat.le_refl _), hC⟩
/-- 'string(b)' of such a row. -/
theorem Bts.back {P : Program} (h : Bts e w g l) (src dst : TypeId) (cap : Nat) (hs : P.underlying src = some (.slice e)) (he : P.underlying e = some (.int .u8)) (hd : P.underlying dst = some .string) :
    (convert src dst (.slice (some ⟨g, 0, none⟩) l.length cap)).run P w = .ok (.string ⟨l.toArray⟩) w :=
  run_convert_bytes_back w src dst e ⟨g, 0, none⟩ cap l hs he hd fun j hj => by
    have : (⟨g, 0, none⟩ : Addr).add j = ⟨g, j, none⟩ := by unfold Addr.add; split <;> simp_all
    rw [this]; exact h.cell j hj
end

/-! A slice of bytes that is only read -/
/-- The slice value with the pointer A and the length of l reads as the bytes l. -/
def Rd (w : World) (A : Option Addr) (l : List UInt8) : Prop :=
  0 < l.length → ∃ b o, A = some ⟨b, o, none⟩ ∧ b < w.heap.size ∧ ∀ i (h : i < l.length), w.cell? ⟨b, o + i, none⟩ = some (.int .u8 (l[i].toNat : Int))
theorem Rd.below {w w' : World} {A : Option Addr} {l : List UInt8} (h : Rd w A l) (hb : Below w.heap.size w w') : Rd w' A l := fun hp => by
  obtain ⟨b, o, rfl, hlt, hc⟩ := h hp
  exact ⟨b, o, rfl, Nat.lt_of_lt_of_le hlt hb.size, fun i hi => (hb.cell (p := ⟨b, o + i, none⟩) hlt).trans (hc i hi)⟩
theorem Rd.nil {w : World} {A : Option Addr} : Rd w A [] := fun h => absurd h (by simp)
theorem Rd.of_bts {e : TypeId} {w : World} {g : Nat} {l : List UInt8} (h : Bts e w g l) : Rd w (some ⟨g, 0, none⟩) l := fun _ =>
  ⟨g, 0, rfl, h.lt, fun i hi => by rw [Nat.zero_add]; exact h.cell i hi⟩
theorem rd_nil {w : World} (len : Nat) (h : len = 0) : ∃ l : List UInt8, l.length = len ∧ Rd w none l := ⟨[], by simp [h], Rd.nil⟩
theorem rd_ints {w : World} (x : Addr) (len cap : Nat) (zs : List Int) (hl : len ≤ cap) (hz : zs.length = cap) (hc : ∀ i, i < zs.length → w.cell? (x.add i) = some (.int .u8 (zs.getD i 0))) (hw : ∀ n ∈ zs, (Lit.int .u8 n).wf = true) :
    ∃ l : List UInt8, l.length = len ∧ Rd w (some x) l := by
  refine ⟨(zs.take len).map fun n => UInt8.ofNat n.toNat, by simp; omega, fun hp => ?_⟩
  have hp' : 0 < zs.length := by simp at hp; omega
  obtain ⟨b, o, sp⟩ := x
  have hsp : sp = none := by simpa [Addr.add] using World.cell?_spot (hc 0 hp')
  subst hsp
  have hadd : ∀ i, (⟨b, o, none⟩ : Addr).add i = ⟨b, o + i, none⟩ := fun i => by unfold Addr.add; split <;> simp_all
  refine ⟨b, o, rfl, ?_, fun i hi => ?_⟩
  · have h0 := hc 0 hp'
    rw [hadd] at h0
    exact World.block_lt_of_cell? w _ h0
  · have hi' : i < zs.length := by simp at hi; omega
    have h1 := hc i hi'
    rw [hadd] at h1
    rw [h1]
    simp only [List.getD, List.getElem?_eq_getElem hi', Option.getD_some, List.getElem_map, List.getElem_take]
    have hm := hw zs[i] (List.getElem_mem hi')
    have hb : 0 ≤ zs[i] ∧ zs[i] ≤ 255 := by simpa [Lit.wf, IntKind.min, IntKind.max, IntKind.signed, IntKind.bits] using hm
    congr 2
    have : (zs[i]).toNat < 256 := by omega
    simp [Nat.mod_eq_of_lt this]
    omega
end Go.Proofs.YtcigfmnkfelhjaaDoor
