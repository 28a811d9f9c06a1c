/- The walk of RespKnown, run by the abstract machine in pieces: the closed statement answers true, whatever the memory, where the library's variable MaxLen holds some int. -/
import Derived.Test.YteeabadldfkdiaaGreatDoorRspE1
import Derived.Test.YteeabadldfkdiaaGreatDoorRspE2
import Derived.Test.YteeabadldfkdiaaGreatDoorRspE3
namespace Go.Proofs.YteeabadldfkdiaaGreatDoor
open Go.RowKit Go.Proofs.YteeabadldfkdiaaGreatDoor.Am
set_option maxRecDepth 100000
theorem rep3 {n0 : Nat} : Pc reGl 148 64 n0 restart rec0 .normal rek1 := Pc.run reMix reRa reRok ree2
theorem rep9 {n0 : Nat} : Pc reGl 148 64 n0 rek1 rec6 .normal rek7 := Pc.run reMix reRa reRok ree8
theorem rep15 {n0 : Nat} : Pc reGl 148 64 n0 rek7 rec12 .normal rek13 := Pc.run reMix reRa reRok ree14
theorem rep21 {n0 : Nat} : Pc reGl 148 64 n0 rek13 rec18 .normal rek19 := Pc.run reMix reRa reRok ree20
theorem rep27 {n0 : Nat} : Pc reGl 148 64 n0 rek19 rec24 .normal rek25 := Pc.run reMix reRa reRok ree26
theorem rep33 {n0 : Nat} : Pc reGl 148 64 n0 rek25 rec30 .normal rek31 := Pc.run reMix reRa reRok ree32
theorem rep39 {n0 : Nat} : Pc reGl 148 64 n0 rek31 rec36 .normal rek37 := Pc.run reMix reRa reRok ree38
theorem rep45 {n0 : Nat} : Pc reGl 148 64 n0 rek37 rec42 .normal rek43 := Pc.run reMix reRa reRok ree44
theorem rep51 {n0 : Nat} : Pc reGl 148 64 n0 rek43 rec48 .normal rek49 := Pc.run reMix reRa reRok ree50
theorem rep57 {n0 : Nat} : Pc reGl 148 64 n0 rek49 rec54 .normal rek55 := Pc.run reMix reRa reRok ree56
theorem rep65 {n0 : Nat} : Pc reGl 148 64 n0 rek55 rec60 .normal rek63 := Pc.region (id := idC rec60) (ops := opsC rec60) (by kernel_rfl) (n := 86) (by kernel_rfl) (Ps.cons reRa reRok (n := 54) (k := 32) ree62 (Ps.cons reRa reRok (n := 32) (k := 0) ree64 Ps.nil))
theorem rep70 {n0 : Nat} : Pc reGl 148 64 n0 rek63 rec67 .ret rek68 := Pc.run reMix reRa reRok ree69
theorem rep66 {n0 : Nat} : Pc reGl 148 64 n0 rek55 rec59 .ret rek68 := Pc.seq (a := rec60) (b := rec67) (by kernel_rfl) rep65 rep70
theorem rep58 {n0 : Nat} : Pc reGl 148 64 n0 rek49 rec53 .ret rek68 := Pc.seq (a := rec54) (b := rec59) (by kernel_rfl) rep57 rep66
theorem rep52 {n0 : Nat} : Pc reGl 148 64 n0 rek43 rec47 .ret rek68 := Pc.seq (a := rec48) (b := rec53) (by kernel_rfl) rep51 rep58
theorem rep46 {n0 : Nat} : Pc reGl 148 64 n0 rek37 rec41 .ret rek68 := Pc.seq (a := rec42) (b := rec47) (by kernel_rfl) rep45 rep52
theorem rep40 {n0 : Nat} : Pc reGl 148 64 n0 rek31 rec35 .ret rek68 := Pc.seq (a := rec36) (b := rec41) (by kernel_rfl) rep39 rep46
theorem rep34 {n0 : Nat} : Pc reGl 148 64 n0 rek25 rec29 .ret rek68 := Pc.seq (a := rec30) (b := rec35) (by kernel_rfl) rep33 rep40
theorem rep28 {n0 : Nat} : Pc reGl 148 64 n0 rek19 rec23 .ret rek68 := Pc.seq (a := rec24) (b := rec29) (by kernel_rfl) rep27 rep34
theorem rep22 {n0 : Nat} : Pc reGl 148 64 n0 rek13 rec17 .ret rek68 := Pc.seq (a := rec18) (b := rec23) (by kernel_rfl) rep21 rep28
theorem rep16 {n0 : Nat} : Pc reGl 148 64 n0 rek7 rec11 .ret rek68 := Pc.seq (a := rec12) (b := rec17) (by kernel_rfl) rep15 rep22
theorem rep10 {n0 : Nat} : Pc reGl 148 64 n0 rek1 rec5 .ret rek68 := Pc.seq (a := rec6) (b := rec11) (by kernel_rfl) rep9 rep16
theorem rep4 {n0 : Nat} : Pc reGl 148 64 n0 restart ret0 .ret rek68 := Pc.seq (a := rec0) (b := rec5) (by kernel_rfl) rep3 rep10
theorem reAll (n0 : Nat) : Pc reGl 148 64 n0 (ck0 reGs 64) ret0 .ret rek68 := rep4
theorem rePieces (w : World) (ha : GAll w reGs) : Calls Tryz.prog 5 #[] w fun e w' => e = .returned (.bool true) ∧ Below w.heap.size w w' := known_pieces (fn := Tryz.f5) (c := ret0) (ck := rek68) Tryz.func5 (by kernel_rfl) (by kernel_rfl) reAll (by first | exact .inl rfl | exact .inr rfl) (by kernel_rfl) w ha
theorem gAt_nts {P : Program} {w : World} {g : Nat} {name : String} {k : IntKind} (l : List Nat) (cs : List AV) (hcs : cs = l.map fun n => .int k (.ofNat n)) (h0 : 0 < l.length) (h : Lib.TabIs P w name k (l.map Int.ofNat)) (hg : P.globalNamed name = some g) : GAt w g cs := by
  have hc : ∀ i, i < l.length → w.cell? ⟨g, i, none⟩ = some (.int k (Int.ofNat l[i]!)) := fun i hi => by
    have h1 := Lib.TabIs.cell h hg i (by simpa using hi)
    rw [h1]
    simp [hi]
  have key : ∃ arr et fz, w.heap[g]? = some (.cells arr et fz) := by
    have h1 := hc 0 h0
    unfold World.cell? at h1
    split at h1
    · rename_i c et fz hc
      exact ⟨c, et, fz, hc⟩
    · cases h1
  obtain ⟨arr, et, fz, hb⟩ := key
  refine ⟨arr, et, fz, hb, fun i a ha => ?_⟩
  subst hcs
  rw [List.getElem?_map] at ha
  cases hl : l[i]? with
  | none => rw [hl] at ha; cases ha
  | some n =>
    rw [hl] at ha
    injection ha with ha
    subst ha
    obtain ⟨hi, hn⟩ := List.getElem?_eq_some_iff.1 hl
    have h2 := hc i hi
    have h3 : w.cell? ⟨g, i, none⟩ = arr[i]? := by simp [World.cell?, hb]
    rw [h3] at h2
    refine ⟨_, h2, ?_⟩
    have h4 : l[i]! = n := by simp [hi, hn]
    rw [h4]
    exact .int _ _
theorem gAll_cons {w : World} {g : Nat} {cs : List AV} {r : List (Nat × List AV)} (h1 : GAt w g cs) (h2 : GAll w r) : GAll w ((g, cs) :: r) := by
  intro g2 cs2 h
  simp only [gLook] at h
  cases hb : Nat.beq g g2 with
  | true =>
    rw [hb] at h
    have := Nat.eq_of_beq_eq_true hb
    subst this
    injection h with h
    subst h
    exact h1
  | false => rw [hb] at h; exact h2 g2 cs2 h
theorem gAll_nil {w : World} : GAll w [] := fun g cs h => by cases h
theorem reWalk (w : World) (ht3 : Lib.TabIs Tryz.prog w "internal/strconv.uint64pow10" .u64 reT3) (_ : 3 < w.heap.size) (hm : ∃ m, w.cell? ⟨0, 0, none⟩ = some (.int .i64 m)) (_ : 0 < w.heap.size) : Calls Tryz.prog 5 #[] w fun e w' => e = .returned (.bool true) ∧ Below w.heap.size w w' :=
  rePieces w (gAll_cons (gAt_int hm) (gAll_cons (gAt_nts reL3 reV3 (by kernel_rfl) (by decide) ht3 (by kernel_rfl)) (gAll_nil)))
end Go.Proofs.YteeabadldfkdiaaGreatDoor
