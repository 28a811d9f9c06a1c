/- Queues: arguments that read as bytes; what 'awake' answers. -/
import Derived.Test.YtfkhkifgcjpfnaaQuC
import Derived.Test.YtfkhkifgcjpfnaaRdR
import Derived.Lib.SlBytesConst
set_option linter.unusedVariables false
namespace Go.Proofs.Ytfkhkifgcjpfnaa
open Go.Conc Go.RowKit

/-- A value that reads as these bytes. -/
def ArgB (w : World) (v : Value) (l : List UInt8) : Prop := ∃ A k, v = .slice A l.length k ∧ Rd w A l
theorem Elem.arg {S : Nat → Prop} {w : World} {v : Value} {l : List UInt8} (h : Elem S w v l) : ArgB w v l := h.rd
theorem arg1 {w : World} {g k : Nat} {x : UInt8} (h : w.cell? ⟨g, 0, none⟩ = some (.int .u8 (x.toNat : Int))) : ArgB w (.slice (some ⟨g, 0, none⟩) 1 k) [x] :=
  ⟨some ⟨g, 0, none⟩, k, rfl, fun _ => ⟨g, 0, rfl, World.block_lt_of_cell? w _ h, fun i hi => by
    have h0 : i = 0 := by simpa using hi
    subst h0
    simpa using h⟩⟩
theorem ArgB.back {w : World} {v : Value} {l : List UInt8} (h : ArgB w v l) : (convert 27 9 v).run Try.prog w = .ok (.string ⟨l.toArray⟩) w := by
  obtain ⟨A, k, rfl, hr⟩ := h
  exact hr.backs 27 9 5 k Try.underlying27 Try.underlying5 Try.underlying9
theorem ArgB.below {w w' : World} {v : Value} {l : List UInt8} (h : ArgB w v l) (hb : Below w.heap.size w w') : ArgB w' v l := by
  obtain ⟨A, k, rfl, hr⟩ := h
  exact ⟨A, k, rfl, hr.below hb⟩
theorem new_k (r : Int) (n : Nat) (w : World) (hr : r = (n : Int)) (h1 : 1 ≤ n) (h2 : n ≤ 64) :
    Calls Try.prog 9 #[.int .i64 r] w fun e w' => ∃ q c, e = .returned (.tuple #[.pointer (some ⟨q, 0, none⟩), .int .i64 0]) ∧ QS w' q c n false #[] ∧ w.heap.size ≤ q ∧ w.heap.size ≤ c ∧ Below w.heap.size w w' := by
  subst hr
  exact new_ok n w h1 h2
theorem put_v (q c cap : Nat) (buf : Array Value) (bv : Value) (l : List UInt8) (w : World) (hq : QS w q c cap false buf) (hroom : buf.size < cap) (h : ArgB w bv l) (hl : l.length ≤ 140737488355328) :
    Calls Try.prog 11 #[.pointer (some ⟨q, 0, none⟩), bv] w fun e w' => e = .returned (.bool true) ∧ ∃ v, Elem (fun b => w.heap.size ≤ b) w' v l ∧ QS w' q c cap false (buf.push v) ∧ Tn [c] w w' := by
  obtain ⟨A, k, rfl, hr⟩ := h
  refine (put_room q c cap buf A l k w hq hroom hr hl).mono ?_
  rintro e w' ⟨rfl, v, h1, h2, h3⟩
  exact ⟨rfl, v, h1, h2, Tn.of_grown h3⟩
theorem put_vf (q c cap : Nat) (buf : Array Value) (bv : Value) (l : List UInt8) (w : World) (hq : QS w q c cap false buf) (hroom : cap ≤ buf.size) (h : ArgB w bv l) (hl : l.length ≤ 140737488355328) :
    Calls Try.prog 11 #[.pointer (some ⟨q, 0, none⟩), bv] w fun e w' => e = .returned (.bool false) ∧ Below w.heap.size w w' := by
  obtain ⟨A, k, rfl, hr⟩ := h
  exact put_full q c cap buf A l k w hq hroom hr hl
theorem take_v (q c cap : Nat) (cl : Bool) (buf : Array Value) (v : Value) (w : World) (hq : QS w q c cap cl buf) (hsome : 0 < buf.size) (hv : buf.getD 0 undef = v) :
    Calls Try.prog 14 #[.pointer (some ⟨q, 0, none⟩)] w fun e w' => e = .returned (.tuple #[v, .bool true]) ∧ QS w' q c cap cl (buf.extract 1 buf.size) ∧ Tn [c] w w' := by
  subst hv
  refine (take_some q c cap cl buf w hq hsome).mono ?_
  rintro e w' ⟨rfl, h2, h3⟩
  exact ⟨rfl, h2, Tn.of_grown h3⟩

/-- '[]byte("x")'. -/
theorem lit1 (w : World) (x : Int) : (convert 27 27 (.slice (some ⟨w.heap.size, 0, none⟩) 1 1)).run Try.prog (w.alloc (.cells #[.int .u8 x] 5)) = .ok (.slice (some ⟨w.heap.size, 0, none⟩) 1 1) (w.alloc (.cells #[.int .u8 x] 5 (1, 2))) :=
  Lib.run_convert_bytes_const w 27 5 #[.int .u8 x] 1 1 Try.underlying27 Try.underlying5
theorem lit1_arg (w : World) (x : UInt8) (fz : Nat × Nat) : ArgB (w.alloc (.cells #[.int .u8 (x.toNat : Int)] 5 fz)) (.slice (some ⟨w.heap.size, 0, none⟩) 1 1) [x] :=
  arg1 (by simp [World.cell?, World.alloc, -World.alloc_eq])
theorem below_one (w : World) (o : Obj) : Below w.heap.size w (w.alloc o) := (Below.refl w.heap.size w).alloc (Nat.le_refl _) o
theorem QS.one {w : World} {q c cap : Nat} {cl : Bool} {buf : Array Value} (h : QS w q c cap cl buf) (o : Obj) : QS (w.alloc o) q c cap cl buf := h.below (below_one w o) h.ltq h.ltc

set_option maxRecDepth 100000 in
set_option maxHeartbeats 1000000 in
theorem awake_t (w : World) : Calls Try.prog 8 #[] w fun e w' => e = .returned (.bool true) ∧ Below w.heap.size w w' := by
  have hlit := lit1
  go_enter Try.func8, Try.ntmps8
  go_wp2_with ((with_reducible refine (new_k 2 2 _ rfl (by decide) (by decide)).mono ?_))
  rintro _ w1 ⟨q, c, rfl, hq, lq, lc, hb⟩
  have hnb := hq.nbc
  go_wp2_with ((with_reducible refine (put_v q c 2 #[] _ [120] _ (hq.one _) (by decide) ?_ (by decide)).mono ?_))
  · exact lit1_arg _ 120 _
  rintro _ w2 ⟨rfl, v1, hv1, hq2, ht2⟩
  go_wp2_with ((with_reducible refine (put_v q c 2 _ _ [121] _ (hq2.one _) (by simp) ?_ (by decide)).mono ?_))
  · exact lit1_arg _ 121 _
  rintro _ w3 ⟨rfl, v2, hv2, hq3, ht3⟩
  go_wp2_with ((with_reducible refine (put_vf q c 2 _ _ [122] _ (hq3.one _) (by simp) ?_ (by decide)).mono ?_))
  · exact lit1_arg _ 122 _
  rintro _ w4 ⟨rfl, hb4⟩
  have b4 := (below_one w3 _).trans (hb4.mono (by simp))
  have hq4 := hq3.below b4 hq3.ltq hq3.ltc
  have hn2 : NB (w2.alloc (.cells #[.int .u8 121] 5 (1, 2))) c := (hq2.one _).nbc
  have k1 : Elem (fun _ => True) w4 v1 [120] := (((hv1.mono (fun _ _ => trivial)).below (below_one w2 (.cells #[.int .u8 121] 5 (1, 2)))).tn ht3 (by intro x hx; simp at hx; subst hx; exact .inl hn2)).below b4
  go_wp2_with ((with_reducible refine (take_v q c 2 false _ v1 _ hq4 (by simp) (by simp [Array.getD])).mono ?_))
  rintro _ w5 ⟨rfl, hq5, ht5⟩
  have k5 := k1.tn ht5 (by intro x hx; simp at hx; subst hx; exact .inl hq4.nbc)
  have hback := k5.arg.back
  go_wp2_with ((with_reducible refine (len_q q c 2 false _ _ hq5).mono ?_))
  rintro _ w6 ⟨rfl, rfl⟩
  go_wp2
  go_ret
  refine ⟨rfl, ?_⟩
  have s1 := hb.size
  have tall : Tn [c] w1 w5 := (((((Tn.of_below (below_one w1 (.cells #[.int .u8 120] 5 (1, 2)))).mono (by simp)).trans ht2).trans (((Tn.of_below (below_one w2 (.cells #[.int .u8 121] 5 (1, 2)))).mono (by simp)).trans ht3)).trans ((Tn.of_below b4).mono (by simp))).trans ht5
  exact hb.trans (tall.below s1 (by intro x hx; simp at hx; subst hx; exact lc))
end Go.Proofs.Ytfkhkifgcjpfnaa
