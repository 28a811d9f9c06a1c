/- The walk of the law DateOrder. -/
import Derived.Test.YtfigddnkkdgjhaaDoorDatAw
set_option linter.unusedVariables false
namespace Go.Proofs.YtfigddnkkdgjhaaDoor
open Go.RowKit

/-- Of, both ways, its fields named. -/
theorem of_any (u z : Int) (hu : (Lit.int .i64 u).wf = true) : ∃ y m d h i s zz n : Int, Hid ((n = 0 ∧ OfIs u z ⟨y, m, d, h, i, s, zz⟩) ∨ (n = 1 ∧ ofOk u z = false ∧ y = 0 ∧ m = 0 ∧ d = 0 ∧ h = 0 ∧ i = 0 ∧ s = 0 ∧ zz = 0)) ∧
    ∀ w : World, Calls Tryd.prog 10 #[.int .i64 u, .int .i64 z] w fun e w' => e = .returned (.tuple #[.agg #[.int .i64 y, .int .i64 m, .int .i64 d, .int .i64 h, .int .i64 i, .int .i64 s, .int .i64 zz], .int .i64 n]) ∧ Below w.heap.size w w' := by
  cases hok : ofOk u z
  · exact ⟨0, 0, 0, 0, 0, 0, 0, 1, .inr ⟨rfl, rfl, rfl, rfl, rfl, rfl, rfl, rfl, rfl⟩, fun w => of_no u z w hok hu⟩
  · obtain ⟨⟨y, m, d, h, i, s, zz⟩, H⟩ := of_exists u z hok
    obtain rfl : zz = z := H.2.1
    exact ⟨y, m, d, h, i, s, zz, 0, .inl ⟨rfl, H⟩, fun w => of_yes u y m d h i s zz w H⟩

/-- What the fields' differences say of two moments. -/
def Ordered (L : List Int) (p q : Int) : Prop := (∀ k, k < 6 → (∀ j, j < k → L.getD j 0 = 0) → ¬ L.getD k 0 = 0 → L.getD k 0 < 0) ∧ ((∀ j, j < 6 → L.getD j 0 = 0) → p = q)
theorem ordered_of {p q z : Int} {a b : DT} (ha : OfIs p z a) (hb : OfIs q z b) (h : p ≤ q) : Ordered [a.y - b.y, a.m - b.m, a.d - b.d, a.h - b.h, a.i - b.i, a.s - b.s] p q := by
  have hlt : ¬ lexLt b a := by
    intro hl
    have := unix_lt hb.1 ha.1 (by rw [ha.2.1, hb.2.1]) hl
    have := ha.2.2
    have := hb.2.2
    omega
  unfold lexLt at hlt
  refine ⟨fun k hk hz hn => ?_, fun hz => ?_⟩
  · have z0 := hz 0
    have z1 := hz 1
    have z2 := hz 2
    have z3 := hz 3
    have z4 := hz 4
    match k, hk with
    | 0, _ => simp at *; omega
    | 1, _ => simp at *; omega
    | 2, _ => simp at *; omega
    | 3, _ => simp at *; omega
    | 4, _ => simp at *; omega
    | 5, _ => simp at *; omega
  · have z0 := hz 0 (by decide)
    have z1 := hz 1 (by decide)
    have z2 := hz 2 (by decide)
    have z3 := hz 3 (by decide)
    have z4 := hz 4 (by decide)
    have z5 := hz 5 (by decide)
    simp at z0 z1 z2 z3 z4 z5
    have : a = b := by
      have := ha.2.1
      have := hb.2.1
      cases a; cases b; simp at *; omega
    rw [← ha.2.2, ← hb.2.2, this]
theorem diff_bd {u z : Int} {t : DT} (h : OfIs u z t) : 0 ≤ t.y ∧ t.y ≤ 9999 ∧ 0 ≤ t.m ∧ t.m ≤ 12 ∧ 0 ≤ t.d ∧ t.d ≤ 31 ∧ 0 ≤ t.h ∧ t.h ≤ 23 ∧ 0 ≤ t.i ∧ t.i ≤ 59 ∧ 0 ≤ t.s ∧ t.s ≤ 59 := by
  have := good_parts h.1
  have := dim_lo t.y t.m
  omega
set_option maxRecDepth 100000 in
set_option maxHeartbeats 4000000 in
theorem order_le (a b z : Int) (w : World) (ha : (Lit.int .i64 a).wf = true) (hb : (Lit.int .i64 b).wf = true) (hz : (Lit.int .i64 z).wf = true) (ht : Pow10 w) (hp : 0 < w.heap.size) (hle : ¬ b < a) :
    Calls Tryd.prog 6 #[.int .i64 a, .int .i64 b, .int .i64 z] w fun e w' => e = .returned (.bool true) ∧ Below w.heap.size w w' := by
  obtain ⟨y, m, d, h, i, s, zz, n, HN, hc1⟩ := of_any a z ha
  obtain ⟨y2, m2, d2, h2, i2, s2, zz2, n2, HN2, hc2⟩ := of_any b z hb
  have H0 := Lib.hid (date_awake w ht hp)
  clear ht ha hb hz
  rcases HN.out with ⟨rfl, H1⟩ | ⟨rfl, -⟩
  · rcases HN2.out with ⟨rfl, H2⟩ | ⟨rfl, -⟩
    · obtain ⟨L, HL⟩ : ∃ L, L = [y - y2, m - m2, d - d2, h - h2, i - i2, s - s2] := ⟨_, rfl⟩
      have hO := ordered_of H1 H2 (by omega)
      simp only at hO
      rw [← HL] at hO
      obtain ⟨p1, p2, p3, p4, p5, p6, p7, p8, p9, p10, p11, p12⟩ := diff_bd H1
      obtain ⟨q1, q2, q3, q4, q5, q6, q7, q8, q9, q10, q11, q12⟩ := diff_bd H2
      simp only at p1 p2 p3 p4 p5 p6 p7 p8 p9 p10 p11 p12 q1 q2 q3 q4 q5 q6 q7 q8 q9 q10 q11 q12
      have HO := Lib.hid hO
      have HLL := Lib.hid HL
      clear hO HL H1 H2 HN HN2
      go_enter Tryd.func6, Tryd.ntmps6
      go_wp2_with fail
      refine H0.out.mono ?_
      rintro e w1 ⟨rfl, b1⟩
      go_wp2_with fail
      refine (hc1 _).mono ?_
      rintro e w2 ⟨rfl, b2⟩
      have c2 := (b1.trans (b2.mono b1.size))
      have c2 := c2.alloc c2.size (.cells #[.int .i64 y, .int .i64 m, .int .i64 d, .int .i64 h, .int .i64 i, .int .i64 s, .int .i64 zz] 24)
      have hF := Fld.new w2 24 y m d h i s zz
      go_wp2_with fail
      refine (hc2 _).mono ?_
      rintro e w3 ⟨rfl, b3⟩
      obtain ⟨k0, k1, k2, k3, k4, k5, k6⟩ := hF.below b3
      have c3 := c2.trans (b3.mono c2.size)
      have hs3 : w2.heap.size < w3.heap.size := World.block_lt_of_cell? w3 _ k0
      have hcell : ∀ k, k < 6 → ((w3.alloc (.cells #[.int .i64 y2, .int .i64 m2, .int .i64 d2, .int .i64 h2, .int .i64 i2, .int .i64 s2, .int .i64 zz2] 24)).alloc (.cells #[.int .i64 (y - y2), .int .i64 (m - m2), .int .i64 (d - d2), .int .i64 (h - h2), .int .i64 (i - i2), .int .i64 (s - s2)] 3)).cell? ⟨w3.heap.size + 1, k, none⟩ = some (.int .i64 (L.getD k 0)) := by
        intro k hk
        rw [HLL.out]
        match k, hk with
        | 0, _ => simp
        | 1, _ => simp
        | 2, _ => simp
        | 3, _ => simp
        | 4, _ => simp
        | 5, _ => simp
      have HC := Lib.hid hcell
      clear hcell
      go_wp2_with fail
      go_loop [12] (fun t => ∃ k : Nat, k ≤ 6 ∧ t = .int .i64 k ∧ Hid (∀ j, j < k → L.getD j 0 = 0)) (fun t => 6 - (intOf t).toNat)
      case atStart => exact ⟨0, by omega, rfl, fun j hj => absurd hj (Nat.not_lt_zero j)⟩
      case round =>
        obtain ⟨k, hk, rfl, HZ⟩ := hrel
        by_cases hlt : k < 6
        · have hcl := HC.out k hlt
          by_cases h0 : L.getD k 0 = 0
          · have HH0 := Lib.hid h0
            rw [h0] at hcl
            clear h0
            go_wp2
            go_round
            case rel =>
              refine ⟨k + 1, by omega, by go_num, fun j hj => ?_⟩
              by_cases hjk : j < k
              · exact HZ.out j hjk
              · obtain rfl : j = k := by omega
                exact HH0.out
            case measure => simp [intOf]; omega
          · have hneg := HO.out.1 k hlt HZ.out h0
            generalize L.getD k 0 = v at hcl hneg h0
            have e0 : (v != 0) = true := by simp [h0]
            clear h0
            go_wp2
            go_ret
            exact ⟨rfl, (c3.alloc c3.size _).alloc (by have := c3.size; simp; omega) _⟩
        · obtain rfl : k = 6 := by omega
          have hab := HO.out.2 HZ.out
          subst hab
          go_wp2
          go_ret
          exact ⟨rfl, (c3.alloc c3.size _).alloc (by have := c3.size; simp; omega) _⟩
    · clear HN HN2
      go_enter Tryd.func6, Tryd.ntmps6
      go_wp2_with fail
      refine H0.out.mono ?_
      rintro e w1 ⟨rfl, b1⟩
      go_wp2_with fail
      refine (hc1 _).mono ?_
      rintro e w2 ⟨rfl, b2⟩
      have c2 := (b1.trans (b2.mono b1.size))
      have c2 := c2.alloc c2.size (.cells #[.int .i64 y, .int .i64 m, .int .i64 d, .int .i64 h, .int .i64 i, .int .i64 s, .int .i64 zz] 24)
      go_wp2_with fail
      refine (hc2 _).mono ?_
      rintro e w3 ⟨rfl, b3⟩
      have c3 := c2.trans (b3.mono c2.size)
      go_wp2
      go_ret
      exact ⟨rfl, c3.alloc c3.size _⟩
  · clear HN HN2
    go_enter Tryd.func6, Tryd.ntmps6
    go_wp2_with fail
    refine H0.out.mono ?_
    rintro e w1 ⟨rfl, b1⟩
    go_wp2_with fail
    refine (hc1 _).mono ?_
    rintro e w2 ⟨rfl, b2⟩
    have c2 := (b1.trans (b2.mono b1.size))
    have c2 := c2.alloc c2.size (.cells #[.int .i64 y, .int .i64 m, .int .i64 d, .int .i64 h, .int .i64 i, .int .i64 s, .int .i64 zz] 24)
    go_wp2_with fail
    refine (hc2 _).mono ?_
    rintro e w3 ⟨rfl, b3⟩
    have c3 := c2.trans (b3.mono c2.size)
    go_wp2
    go_ret
    exact ⟨rfl, c3.alloc c3.size _⟩
set_option maxRecDepth 100000 in
set_option maxHeartbeats 4000000 in
theorem order_gt (a b z : Int) (w : World) (ha : (Lit.int .i64 a).wf = true) (hb : (Lit.int .i64 b).wf = true) (hz : (Lit.int .i64 z).wf = true) (ht : Pow10 w) (hp : 0 < w.heap.size) (hle : b < a) :
    Calls Tryd.prog 6 #[.int .i64 a, .int .i64 b, .int .i64 z] w fun e w' => e = .returned (.bool true) ∧ Below w.heap.size w w' := by
  obtain ⟨y, m, d, h, i, s, zz, n, HN, hc1⟩ := of_any b z hb
  obtain ⟨y2, m2, d2, h2, i2, s2, zz2, n2, HN2, hc2⟩ := of_any a z ha
  have H0 := Lib.hid (date_awake w ht hp)
  clear ht ha hb hz
  rcases HN.out with ⟨rfl, H1⟩ | ⟨rfl, -⟩
  · rcases HN2.out with ⟨rfl, H2⟩ | ⟨rfl, -⟩
    · obtain ⟨L, HL⟩ : ∃ L, L = [y - y2, m - m2, d - d2, h - h2, i - i2, s - s2] := ⟨_, rfl⟩
      have hO := ordered_of H1 H2 (by omega)
      simp only at hO
      rw [← HL] at hO
      obtain ⟨p1, p2, p3, p4, p5, p6, p7, p8, p9, p10, p11, p12⟩ := diff_bd H1
      obtain ⟨q1, q2, q3, q4, q5, q6, q7, q8, q9, q10, q11, q12⟩ := diff_bd H2
      simp only at p1 p2 p3 p4 p5 p6 p7 p8 p9 p10 p11 p12 q1 q2 q3 q4 q5 q6 q7 q8 q9 q10 q11 q12
      have HO := Lib.hid hO
      have HLL := Lib.hid HL
      clear hO HL H1 H2 HN HN2
      go_enter Tryd.func6, Tryd.ntmps6
      go_wp2_with fail
      refine H0.out.mono ?_
      rintro e w1 ⟨rfl, b1⟩
      go_wp2_with fail
      refine (hc1 _).mono ?_
      rintro e w2 ⟨rfl, b2⟩
      have c2 := (b1.trans (b2.mono b1.size))
      have c2 := c2.alloc c2.size (.cells #[.int .i64 y, .int .i64 m, .int .i64 d, .int .i64 h, .int .i64 i, .int .i64 s, .int .i64 zz] 24)
      have hF := Fld.new w2 24 y m d h i s zz
      go_wp2_with fail
      refine (hc2 _).mono ?_
      rintro e w3 ⟨rfl, b3⟩
      obtain ⟨k0, k1, k2, k3, k4, k5, k6⟩ := hF.below b3
      have c3 := c2.trans (b3.mono c2.size)
      have hs3 : w2.heap.size < w3.heap.size := World.block_lt_of_cell? w3 _ k0
      have hcell : ∀ k, k < 6 → ((w3.alloc (.cells #[.int .i64 y2, .int .i64 m2, .int .i64 d2, .int .i64 h2, .int .i64 i2, .int .i64 s2, .int .i64 zz2] 24)).alloc (.cells #[.int .i64 (y - y2), .int .i64 (m - m2), .int .i64 (d - d2), .int .i64 (h - h2), .int .i64 (i - i2), .int .i64 (s - s2)] 3)).cell? ⟨w3.heap.size + 1, k, none⟩ = some (.int .i64 (L.getD k 0)) := by
        intro k hk
        rw [HLL.out]
        match k, hk with
        | 0, _ => simp
        | 1, _ => simp
        | 2, _ => simp
        | 3, _ => simp
        | 4, _ => simp
        | 5, _ => simp
      have HC := Lib.hid hcell
      clear hcell
      go_wp2_with fail
      go_loop [12] (fun t => ∃ k : Nat, k ≤ 6 ∧ t = .int .i64 k ∧ Hid (∀ j, j < k → L.getD j 0 = 0)) (fun t => 6 - (intOf t).toNat)
      case atStart => exact ⟨0, by omega, rfl, fun j hj => absurd hj (Nat.not_lt_zero j)⟩
      case round =>
        obtain ⟨k, hk, rfl, HZ⟩ := hrel
        by_cases hlt : k < 6
        · have hcl := HC.out k hlt
          by_cases h0 : L.getD k 0 = 0
          · have HH0 := Lib.hid h0
            rw [h0] at hcl
            clear h0
            go_wp2
            go_round
            case rel =>
              refine ⟨k + 1, by omega, by go_num, fun j hj => ?_⟩
              by_cases hjk : j < k
              · exact HZ.out j hjk
              · obtain rfl : j = k := by omega
                exact HH0.out
            case measure => simp [intOf]; omega
          · have hneg := HO.out.1 k hlt HZ.out h0
            generalize L.getD k 0 = v at hcl hneg h0
            have e0 : (v != 0) = true := by simp [h0]
            clear h0
            go_wp2
            go_ret
            exact ⟨rfl, (c3.alloc c3.size _).alloc (by have := c3.size; simp; omega) _⟩
        · obtain rfl : k = 6 := by omega
          have hab := HO.out.2 HZ.out
          subst hab
          go_wp2
          go_ret
          exact ⟨rfl, (c3.alloc c3.size _).alloc (by have := c3.size; simp; omega) _⟩
    · clear HN HN2
      go_enter Tryd.func6, Tryd.ntmps6
      go_wp2_with fail
      refine H0.out.mono ?_
      rintro e w1 ⟨rfl, b1⟩
      go_wp2_with fail
      refine (hc1 _).mono ?_
      rintro e w2 ⟨rfl, b2⟩
      have c2 := (b1.trans (b2.mono b1.size))
      have c2 := c2.alloc c2.size (.cells #[.int .i64 y, .int .i64 m, .int .i64 d, .int .i64 h, .int .i64 i, .int .i64 s, .int .i64 zz] 24)
      go_wp2_with fail
      refine (hc2 _).mono ?_
      rintro e w3 ⟨rfl, b3⟩
      have c3 := c2.trans (b3.mono c2.size)
      go_wp2
      go_ret
      exact ⟨rfl, c3.alloc c3.size _⟩
  · clear HN HN2
    go_enter Tryd.func6, Tryd.ntmps6
    go_wp2_with fail
    refine H0.out.mono ?_
    rintro e w1 ⟨rfl, b1⟩
    go_wp2_with fail
    refine (hc1 _).mono ?_
    rintro e w2 ⟨rfl, b2⟩
    have c2 := (b1.trans (b2.mono b1.size))
    have c2 := c2.alloc c2.size (.cells #[.int .i64 y, .int .i64 m, .int .i64 d, .int .i64 h, .int .i64 i, .int .i64 s, .int .i64 zz] 24)
    go_wp2_with fail
    refine (hc2 _).mono ?_
    rintro e w3 ⟨rfl, b3⟩
    have c3 := c2.trans (b3.mono c2.size)
    go_wp2
    go_ret
    exact ⟨rfl, c3.alloc c3.size _⟩
theorem order_walk (a b z : Int) (w : World) (ha : (Lit.int .i64 a).wf = true) (hb : (Lit.int .i64 b).wf = true) (hz : (Lit.int .i64 z).wf = true) (ht : Pow10 w) (hp : 0 < w.heap.size) :
    Calls Tryd.prog 6 #[.int .i64 a, .int .i64 b, .int .i64 z] w fun e w' => e = .returned (.bool true) ∧ Below w.heap.size w w' := by
  by_cases h : b < a
  · exact order_gt a b z w ha hb hz ht hp h
  · exact order_le a b z w ha hb hz ht hp h
end Go.Proofs.YtfigddnkkdgjhaaDoor
