/- Channels in one goroutine: the ordinary walk of what stands ahead of and behind a select; a queue's block. Of no program but for the type of bytes. -/
import Derived.Test.YtfkhkifgcjpfnaaRow
import Derived.Conc.LoneSelectN
import Derived.Conc.LoneSelect
import Derived.Conc.LoneCalls
set_option linter.unusedVariables false
namespace Go.Proofs.Ytfkhkifgcjpfnaa
open Go.Conc Go.RowKit

section
variable {P : Program} {F : Goroutine → World → Prop} {b : Frame} {a : Act} {k : List Item} {cs : List Frame} {w : World}
theorem lone_seq {x y : Code} (h : LoneTo P F (G (b.at a (.code x :: .code y :: k)) cs) w) : LoneTo P F (G (b.at a (.code (.seq x y) :: k)) cs) w :=
  LoneTo.step step_seq h
/-- A piece of code that the ordinary walk passes. -/
theorem lone_code {c : Code} (h : ∀ K : Act → World → Prop, (∀ a' w', LoneTo P F (G (b.at a' k) cs) w' → K a' w') → c.wp P (fun e a' w' => e = .normal ∧ K a' w') a w) : LoneTo P F (G (b.at a (.code c :: k)) cs) w := by
  obtain ⟨e, a', w', ⟨rfl, g', w2, hs, hq⟩, harr⟩ := h _ (fun _ _ h => h) b k cs
  exact ⟨g', w2, Steps.trans harr hs, hq⟩
/-- The last piece, from which the function returns. -/
theorem lone_tail {c : Code} {f : FuncId} {fn : Func} {R : Ending → World → Prop} (hb : b.fn = f) (hk : b.kind = .normal) (hf : P.funcs[f]? = some fn) (hno : ∀ w', ¬ R .outgrown w')
    (h : c.wp P (bodyPost P fn R) a w) :
    LoneTo P (fun g' w' => ∃ e fr, g' = G fr cs ∧ R e w' ∧ fr.fn = f ∧ fr.leaving P w' e) (G (b.at a [.code c]) cs) w := by
  subst hb
  obtain ⟨e, a', w', hq, harr⟩ := h b [] cs
  cases e with
  | normal =>
    obtain ⟨hd, v, hr, hR⟩ := hq
    exact ⟨_, w', Steps.trans harr (.one step_end), .returned v, _, rfl, hR, rfl, rfl, hd, hk, fn, hf, hr⟩
  | ret =>
    obtain ⟨hd, v, hr, hR⟩ := hq
    obtain ⟨todo, hs⟩ := harr
    exact ⟨_, w', hs, .returned v, _, rfl, hR, rfl, rfl, hd, hk, fn, hf, hr⟩
  | panic chain =>
    obtain ⟨hd, hR⟩ := hq
    obtain ⟨todo, hs⟩ := harr
    exact ⟨_, w', hs, .panicked chain, _, rfl, hR, rfl, rfl, hd, fn, hf⟩
  | exit id => exact hq.elim
  | goto l => exact hq.elim
  | outgrown => exact absurd hq (hno _)
theorem lone_region {id : Nat} {ops : Array Oper} (h : LoneTo P F (G (b.at a (.inRegion ops (List.range ops.size) :: k)) cs) w) : LoneTo P F (G (b.at a (.code (.region id ops false) :: k)) cs) w :=
  LoneTo.step step_region h
theorem lone_ops {ops : Array Oper} {l : List Nat} (h : wpOps P ops (fun e a' w' => e = .normal ∧ LoneTo P F (G (b.at a' k) cs) w') l a w) : LoneTo P F (G (b.at a (.inRegion ops l :: k)) cs) w := by
  obtain ⟨e, a', w', ⟨rfl, g', w2, hs, hq⟩, harr⟩ := wp_ops l a w h b k cs
  exact ⟨g', w2, Steps.trans harr hs, hq⟩
end

/-! ### A queue's block -/
/-- The queue q: its channel c of that room, its buffer; closed or not. -/
def QS (w : World) (q c cap : Nat) (cl : Bool) (buf : Array Value) : Prop :=
  ∃ s r, w.heap[q]? = some (.cells #[.chan (some c), .bool cl] 49 (0, 0)) ∧ w.heap[c]? = some (.chan cap buf false s r false)
section
variable {w w' : World} {q c cap : Nat} {cl : Bool} {buf : Array Value}
theorem QS.cell0 (h : QS w q c cap cl buf) : w.cell? ⟨q, 0, none⟩ = some (.chan (some c)) := by
  obtain ⟨s, r, h1, _⟩ := h
  simp [World.cell?, h1]
theorem QS.cell1 (h : QS w q c cap cl buf) : w.cell? ⟨q, 1, none⟩ = some (.bool cl) := by
  obtain ⟨s, r, h1, _⟩ := h
  simp [World.cell?, h1]
theorem QS.frozen1 (h : QS w q c cap cl buf) : w.frozen? ⟨q, 1, none⟩ = false := by
  obtain ⟨s, r, h1, _⟩ := h
  simp [World.frozen?, h1]
theorem QS.ltq (h : QS w q c cap cl buf) : q < w.heap.size := by
  obtain ⟨s, r, h1, _⟩ := h
  exact (Array.getElem?_eq_some_iff.1 h1).1
theorem QS.ltc (h : QS w q c cap cl buf) : c < w.heap.size := by
  obtain ⟨s, r, _, h1⟩ := h
  exact (Array.getElem?_eq_some_iff.1 h1).1
theorem QS.ne (h : QS w q c cap cl buf) : q ≠ c := by
  obtain ⟨s, r, h1, h2⟩ := h
  intro e
  subst e
  rw [h1] at h2
  simp at h2
/-- Two queues: their blocks are apart, or they are one. -/
theorem QS.apart {q' c' cap' : Nat} {cl' : Bool} {buf' : Array Value} (h : QS w q c cap cl buf) (h' : QS w q' c' cap' cl' buf') : q ≠ c' := by
  obtain ⟨s, r, h1, _⟩ := h
  obtain ⟨s, r, _, h2⟩ := h'
  intro e
  subst e
  rw [h1] at h2
  simp at h2
theorem QS.grown {row : Option Nat} (h : QS w q c cap cl buf) (hg : w.grownBy w' row) (h1 : row ≠ some q) (h2 : row ≠ some c) : QS w' q c cap cl buf := by
  have l1 := h.ltq
  have l2 := h.ltc
  obtain ⟨s, r, k1, k3⟩ := h
  refine ⟨s, r, ?_, ?_⟩
  · rw [hg.block q l1 (by intro e; exact h1 e.symm)]; exact k1
  · rw [hg.block c l2 (by intro e; exact h2 e.symm)]; exact k3
theorem QS.below {B : Nat} (h : QS w q c cap cl buf) (hb : Below B w w') (h1 : q < B) (h2 : c < B) : QS w' q c cap cl buf := by
  obtain ⟨s, r, k1, k3⟩ := h
  exact ⟨s, r, (hb.block q h1).trans k1, (hb.block c h2).trans k3⟩
theorem grown_setChan (h : c < w.heap.size) (cap : Nat) (buf : Array Value) (cl : Bool) (s r : Nat) (tm : Bool) : w.grownBy (w.setChan c cap buf cl s r tm) (some c) :=
  ⟨rfl, rfl, rfl, by simp [World.setChan], fun k _ hk => by simp only [World.setChan]; rw [Array.getElem?_setIfInBounds_ne (by intro e; exact hk (by rw [e]))]⟩
theorem QS.setChan (h : QS w q c cap cl buf) (buf' : Array Value) (s r : Nat) : QS (w.setChan c cap buf' false s r false) q c cap cl buf' := by
  have l1 := h.ltq
  have l2 := h.ltc
  have hn := h.ne
  obtain ⟨s', r', k1, k3⟩ := h
  refine ⟨s, r, ?_, heap_setChan _ _ _ _ _ _ _ _ l2⟩
  simp only [World.setChan]
  rw [Array.getElem?_setIfInBounds_ne (Ne.symm hn)]
  exact k1
/-- Behind a Close. -/
theorem QS.shut (h : QS w q c cap cl buf) : QS (w.setCell ⟨q, 1, none⟩ (.bool true)) q c cap true buf := by
  have hn := h.ne
  obtain ⟨s, r, k1, k3⟩ := h
  refine ⟨s, r, ?_, ?_⟩
  · simp [World.setCell, Array.getElem?_modify, k1]
  · simp only [World.setCell]
    rw [Array.getElem?_modify, if_neg hn]
    exact k3
theorem grown_trans {w1 w2 : World} {row : Option Nat} (h1 : w.grownBy w1 row) (h2 : w1.grownBy w2 row) : w.grownBy w2 row :=
  ⟨h2.os.trans h1.os, h2.tape.trans h1.tape, h2.output.trans h1.output, Nat.le_trans h1.size h2.size, fun k hk hr => (h2.block k (Nat.lt_of_lt_of_le hk h1.size) hr).trans (h1.block k hk hr)⟩
theorem grown_of_below {row : Option Nat} (h : Below w.heap.size w w') : w.grownBy w' row := ⟨h.os, h.tape, h.output, h.size, fun k hk _ => h.block k hk⟩

/-- Blocks other than those of X are as they were. -/
structure Tn (X : List Nat) (w w' : World) : Prop where
  os : w'.os = w.os
  tape : w'.tape = w.tape
  output : w'.output = w.output
  size : w.heap.size ≤ w'.heap.size
  block : ∀ k, k < w.heap.size → k ∉ X → w'.heap[k]? = w.heap[k]?
theorem Tn.refl (X : List Nat) (w : World) : Tn X w w := ⟨rfl, rfl, rfl, Nat.le_refl _, fun _ _ _ => rfl⟩
theorem Tn.of_grown (h : w.grownBy w' (some c)) : Tn [c] w w' := ⟨h.os, h.tape, h.output, h.size, fun k hk hx => h.block k hk (by intro e; injection e with e; exact hx (by simp [e]))⟩
theorem Tn.of_below (h : Below w.heap.size w w') : Tn [] w w' := ⟨h.os, h.tape, h.output, h.size, fun k hk _ => h.block k hk⟩
theorem Tn.below {X : List Nat} {B : Nat} (h : Tn X w w') (hB : B ≤ w.heap.size) (hX : ∀ x ∈ X, B ≤ x) : Below B w w' := ⟨h.os, h.tape, h.output, h.size, fun k hk => h.block k (by omega) (fun hm => by have := hX k hm; omega)⟩
theorem Tn.mono {X Y : List Nat} (h : Tn X w w') (hX : ∀ x ∈ X, x ∈ Y) : Tn Y w w' := ⟨h.os, h.tape, h.output, h.size, fun k hk hx => h.block k hk (fun hm => hx (hX k hm))⟩
theorem Tn.trans {X : List Nat} {w1 : World} (h1 : Tn X w w1) (h2 : Tn X w1 w') : Tn X w w' :=
  ⟨h2.os.trans h1.os, h2.tape.trans h1.tape, h2.output.trans h1.output, Nat.le_trans h1.size h2.size, fun k hk hr => (h2.block k (Nat.lt_of_lt_of_le hk h1.size) hr).trans (h1.block k hk hr)⟩
theorem Tn.set {a : Addr} {v : Value} : Tn [a.block] w (w.setCell a v) := ⟨rfl, rfl, rfl, by simp [World.setCell], fun k _ hk => by
  simp only [World.setCell]
  rw [Array.getElem?_modify]
  rw [if_neg (by intro e; exact hk (by simp [e]))]⟩
theorem QS.tn {X : List Nat} (h : QS w q c cap cl buf) (ht : Tn X w w') (h1 : q ∉ X) (h2 : c ∉ X) : QS w' q c cap cl buf := by
  have l1 := h.ltq
  have l2 := h.ltc
  obtain ⟨s, r, k1, k3⟩ := h
  exact ⟨s, r, (ht.block q l1 h1).trans k1, (ht.block c l2 h2).trans k3⟩
/-- Block k holds no bytes. -/
def NB (w : World) (k : Nat) : Prop := ∀ cur fz, w.heap[k]? ≠ some (.cells cur 5 fz)
theorem QS.nbq (h : QS w q c cap cl buf) : NB w q := by
  obtain ⟨s, r, k1, k3⟩ := h
  intro cur fz h
  rw [k1] at h
  simp at h
theorem QS.nbc (h : QS w q c cap cl buf) : NB w c := by
  obtain ⟨s, r, k1, k3⟩ := h
  intro cur fz h
  rw [k3] at h
  simp at h

/-- An element of a queue: a slice value whose bytes are l, in a block of which S tells. -/
def Elem (S : Nat → Prop) (w : World) (v : Value) (l : List UInt8) : Prop := ∃ A cap, v = .slice A l.length cap ∧ l.length ≤ cap ∧ cap ≤ maxLen ∧ TB w A l ∧ ∀ x, 0 < l.length → A = some x → S x.block
/-- The elements that wait, the eldest first. -/
def Buf (S : Nat → Prop) (w : World) (buf : Array Value) (ls : List (List UInt8)) : Prop := buf.size = ls.length ∧ ∀ i (h : i < ls.length), Elem S w (buf.getD i undef) ls[i]
variable {S : Nat → Prop} {v : Value} {l : List UInt8} {ls : List (List UInt8)}
theorem Elem.mono {S' : Nat → Prop} (h : Elem S w v l) (hS : ∀ b, S b → S' b) : Elem S' w v l := by
  obtain ⟨A, cap, h1, h2, h3, h4, h5⟩ := h
  exact ⟨A, cap, h1, h2, h3, h4, fun x hp hx => hS _ (h5 x hp hx)⟩
theorem TB.lt {A : Option Addr} (h : TB w A l) (hp : 0 < l.length) : ∃ x, A = some x ∧ x.block < w.heap.size := by
  obtain ⟨b, o, cur, fz, hA, hh, hc⟩ := h hp
  exact ⟨_, hA, (Array.getElem?_eq_some_iff.1 hh).1⟩
/-- A world in which all blocks of bytes that S tells of are as they were. -/
theorem Elem.kept (h : Elem S w v l) (hk : ∀ b cur fz, S b → w.heap[b]? = some (.cells cur 5 fz) → w'.heap[b]? = w.heap[b]?) : Elem S w' v l := by
  obtain ⟨A, cap, h1, h2, h3, h4, h5⟩ := h
  refine ⟨A, cap, h1, h2, h3, fun hp => ?_, h5⟩
  obtain ⟨b, o, cur, fz, hA, hh, hc⟩ := h4 hp
  exact ⟨b, o, cur, fz, hA, (hk b cur fz (h5 _ hp hA) hh).trans hh, hc⟩
theorem Elem.below (h : Elem S w v l) (hb : Below w.heap.size w w') : Elem S w' v l := h.kept fun b cur fz _ hh => hb.block b (Array.getElem?_eq_some_iff.1 hh).1
/-- Behind the turning of a channel. -/
theorem Elem.chan {s r : Nat} {tm : Bool} (h : Elem S w v l) (hg : w.grownBy w' (some c)) (hc : w.heap[c]? = some (.chan cap buf cl s r tm)) : Elem S w' v l := h.kept fun b cur fz _ hh => by
  refine hg.block b (Array.getElem?_eq_some_iff.1 hh).1 ?_
  intro e
  injection e with e
  subst e
  rw [hc] at hh
  simp at hh
theorem Buf.mono {S' : Nat → Prop} (h : Buf S w buf ls) (hS : ∀ b, S b → S' b) : Buf S' w buf ls := ⟨h.1, fun i hi => (h.2 i hi).mono hS⟩
theorem Buf.kept (h : Buf S w buf ls) (hk : ∀ b cur fz, S b → w.heap[b]? = some (.cells cur 5 fz) → w'.heap[b]? = w.heap[b]?) : Buf S w' buf ls := ⟨h.1, fun i hi => (h.2 i hi).kept hk⟩
theorem Buf.below (h : Buf S w buf ls) (hb : Below w.heap.size w w') : Buf S w' buf ls := ⟨h.1, fun i hi => (h.2 i hi).below hb⟩
theorem Buf.chan {c' cap' s r : Nat} {tm cl' : Bool} {buf' : Array Value} (h : Buf S w buf ls) (hg : w.grownBy w' (some c')) (hc : w.heap[c']? = some (.chan cap' buf' cl' s r tm)) : Buf S w' buf ls := ⟨h.1, fun i hi => (h.2 i hi).chan hg hc⟩
theorem Elem.tn {X : List Nat} (h : Elem S w v l) (ht : Tn X w w') (hX : ∀ x ∈ X, NB w x ∨ ¬ S x) : Elem S w' v l := h.kept fun b cur fz hs hh => ht.block b (Array.getElem?_eq_some_iff.1 hh).1 fun hm => by
  rcases hX b hm with h1 | h1
  · exact h1 cur fz hh
  · exact h1 hs
theorem Buf.tn {X : List Nat} (h : Buf S w buf ls) (ht : Tn X w w') (hX : ∀ x ∈ X, NB w x ∨ ¬ S x) : Buf S w' buf ls := ⟨h.1, fun i hi => (h.2 i hi).tn ht hX⟩
/-- What can be read lies below the heap's end. -/
theorem Elem.lab (h : Elem S w v l) : Elem (fun b => S b ∧ b < w.heap.size) w v l := by
  obtain ⟨A, cap, h1, h2, h3, h4, h5⟩ := h
  refine ⟨A, cap, h1, h2, h3, h4, fun x hp hx => ⟨h5 x hp hx, ?_⟩⟩
  obtain ⟨y, hy, hlt⟩ := h4.lt hp
  rw [hx] at hy
  injection hy with hy
  subst hy
  exact hlt
theorem Buf.lab (h : Buf S w buf ls) : Buf (fun b => S b ∧ b < w.heap.size) w buf ls := ⟨h.1, fun i hi => (h.2 i hi).lab⟩
theorem Elem.rd (h : Elem S w v l) : ∃ A cap, v = .slice A l.length cap ∧ Rd w A l := by
  obtain ⟨A, cap, h1, _, _, h4, _⟩ := h
  exact ⟨A, cap, h1, h4.rd⟩
theorem Buf.nil : Buf S w #[] [] := ⟨rfl, fun i h => absurd h (by simp)⟩
theorem Buf.push (h : Buf S w buf ls) (hv : Elem S w v l) : Buf S w (buf.push v) (ls ++ [l]) := by
  refine ⟨by simp [h.1], fun i hi => ?_⟩
  have h1 := h.1
  by_cases hlt : i < ls.length
  · rw [List.getElem_append_left hlt]
    have := h.2 i hlt
    simpa [Array.getD, h1, hlt, Array.getElem_push, Nat.lt_succ_of_lt hlt] using this
  · obtain rfl : i = ls.length := by simp at hi; omega
    rw [List.getElem_append_right (Nat.le_refl _)]
    simpa [Array.getD, h1, Array.getElem_push] using hv
theorem Buf.head (h : Buf S w buf (l :: ls)) : Elem S w (buf.getD 0 undef) l := h.2 0 (by simp)
theorem Buf.tail (h : Buf S w buf (l :: ls)) : Buf S w (buf.extract 1 buf.size) ls := by
  have h1 := h.1
  simp at h1
  refine ⟨by simp [h1], fun i hi => ?_⟩
  have := h.2 (i + 1) (by simp; omega)
  rw [List.getElem_cons_succ] at this
  have e : (buf.extract 1 buf.size).getD i undef = buf.getD (i + 1) undef := by
    simp [Array.getD, h1, hi, Nat.add_comm 1 i]
  rw [e]
  exact this
end
end Go.Proofs.Ytfkhkifgcjpfnaa
