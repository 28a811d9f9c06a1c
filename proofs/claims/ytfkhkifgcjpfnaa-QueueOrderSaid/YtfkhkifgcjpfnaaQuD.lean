/- Queues: helpers for the laws over rows of strings. -/
import Derived.Test.YtfkhkifgcjpfnaaQuAw
import Derived.Test.YtfkhkifgcjpfnaaArg
set_option linter.unusedVariables false
namespace Go.Proofs.Ytfkhkifgcjpfnaa
open Go.Conc Go.RowKit

theorem EmptyQ.of {w : World} {q c cap : Nat} {cl : Bool} (h : QS w q c cap cl #[]) : EmptyQ w (.pointer (some ⟨q, 0, none⟩)) := .inr ⟨q, c, cap, cl, rfl, h⟩
theorem EmptyQ.of0 {w : World} {q c cap : Nat} {cl : Bool} {buf : Array Value} (h : QS w q c cap cl buf) (h0 : buf.size = 0) : EmptyQ w (.pointer (some ⟨q, 0, none⟩)) := by
  have : buf = #[] := Array.eq_empty_of_size_eq_zero h0
  subst this
  exact EmptyQ.of h
theorem close_v (q c cap : Nat) (cl : Bool) (buf : Array Value) (w : World) (hq : QS w q c cap cl buf) :
    Calls Try.prog 12 #[.pointer (some ⟨q, 0, none⟩)] w fun e w' => e = .returned (.tuple #[]) ∧ QS w' q c cap true buf ∧ Tn [q] w w' := by
  refine (close_q q c cap cl buf w hq).mono ?_
  rintro e w' ⟨rfl, rfl⟩
  exact ⟨rfl, hq.shut, Tn.set (a := ⟨q, 1, none⟩)⟩
theorem ready_v (b o n k m q c cap : Nat) (mi : Int) (hmi : mi = (m : Int)) (cl : Bool) (buf : Array Value) (v : Value) (hb : buf.getD 0 undef = v) (V : Nat → Value) (w : World) (hm : m < n) (hn : n ≤ 100) (hV : ∀ i, i < n → w.cell? ⟨b, o + i, none⟩ = some (V i)) (he : ∀ i, i < m → EmptyQ w (V i)) (hv : V m = .pointer (some ⟨q, 0, none⟩)) (hq : QS w q c cap cl buf) (hsome : 0 < buf.size) :
    Calls Try.prog 10 #[.slice (some ⟨b, o, none⟩) n k] w fun e w' => e = .returned (.tuple #[.int .i64 mi, v, .bool true]) ∧ QS w' q c cap cl (buf.extract 1 buf.size) ∧ Tn [c] w w' := by
  subst hmi
  subst hb
  exact ready_at b o n m k q c cap cl buf V w hm hn hV he hv hq hsome
theorem NB.of_ge {w : World} {k : Nat} (h : w.heap.size ≤ k) : NB w k := by
  intro cur fz h2
  rw [Array.getElem?_eq_none h] at h2
  cases h2
theorem tn_one (w : World) (o : Obj) (X : List Nat) : Tn X w (w.alloc o) := (Tn.of_below (below_one w o)).mono (by simp)
theorem Tn.drewN {X : List Nat} {w w' : World} (h : Tn X w w') (n : Nat) : Tn X w (w'.drewN n) := ⟨h.os, h.tape, h.output, h.size, h.block⟩
theorem Tn.drew {X : List Nat} {w w' : World} (h : Tn X w w') : Tn X w w'.drew := ⟨h.os, h.tape, h.output, h.size, h.block⟩
theorem nb1 {w : World} {c : Nat} {S : Nat → Prop} (h : NB w c) : ∀ x ∈ [c], NB w x ∨ ¬ S x := by
  intro x hx
  simp at hx
  subst hx
  exact .inl h
theorem tn_conv (w : World) (o : Obj) (X : List Nat) : Tn X w (w.alloc o).drew := (tn_one w o X).drew
/-- The bytes of a string. -/
def bs (s : ByteArray) : List UInt8 := s.data.toList
theorem bs_len (s : ByteArray) : (bs s).length = s.size := by simp [bs]
theorem bs_back (s : ByteArray) : (⟨(bs s).toArray⟩ : ByteArray) = s := by cases s; rfl
/-- '[]byte(s)'. -/
theorem conv_arg (w : World) (s : ByteArray) : ∃ (cap : Nat) (o : Obj), (convert 9 27 (.string s)).run Try.prog w = .ok (.slice (some ⟨w.heap.size, 0, none⟩) s.size cap) (w.drew.alloc o) ∧ Hid (ArgB (w.alloc o).drew (.slice (some ⟨w.heap.size, 0, none⟩) s.size cap) (bs s)) := by
  obtain ⟨cap, C, hconv, hcap, hC⟩ := conv_bytes (P := Try.prog) w 9 27 5 s Try.underlying9 Try.underlying27 Try.underlying5
  refine ⟨cap, _, hconv, ⟨some ⟨w.heap.size, 0, none⟩, cap, by rw [bs_len], ?_⟩⟩
  have hB : Bts 5 (w.drew.alloc (.cells C 5 (C.size, C.size + 1))) w.drew.heap.size (bs s) := Bts.new w.drew (fun j h => by
    have h' : j < s.size := by rw [← bs_len]; exact h
    have := hC j h'
    rw [this]
    rfl)
  exact Rd.of_bts (w := w.drew.alloc _) hB
theorem ArgB.str {w : World} {v : Value} {s : ByteArray} (h : ArgB w v (bs s)) : (convert 27 9 v).run Try.prog w = .ok (.string s) w := by
  have := h.back
  rwa [bs_back] at this
end Go.Proofs.Ytfkhkifgcjpfnaa
