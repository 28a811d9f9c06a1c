/- The calendar: plain mathematics of dates (chapter 10): of no program. -/
import Derived.Test.YtfigddnkkdgjhaaDoorMa
set_option linter.unusedVariables false
namespace Go.Proofs.YtfigddnkkdgjhaaDoor

def lpB (y : Int) : Bool := decide (y % 4 = 0 ∧ (y % 100 ≠ 0 ∨ y % 400 = 0))
def dim (y m : Int) : Int := if m = 2 then (if lpB y then 29 else 28) else if m = 4 ∨ m = 6 ∨ m = 9 ∨ m = 11 then 30 else 31
def dby (y : Int) : Int := (y - 1970) * 365 + ((y - 1) / 4 - (y - 1) / 100 + (y - 1) / 400) - 477
def cumN (y : Int) : Nat → Int
  | 0 => 0
  | k + 1 => cumN y k + dim y ((k : Int) + 1)
def dayN (y m d : Int) : Int := dby y + cumN y (m - 1).toNat + d - 1

theorem dim_lo (y m : Int) : 28 ≤ dim y m ∧ dim y m ≤ 31 := by
  unfold dim
  split
  · split <;> omega
  · split <;> omega
theorem lp_t (y : Int) (h : lpB y = true) : y % 4 = 0 ∧ (y % 100 ≠ 0 ∨ y % 400 = 0) := of_decide_eq_true h
theorem lp_f (y : Int) (h : lpB y = false) : ¬ (y % 4 = 0 ∧ (y % 100 ≠ 0 ∨ y % 400 = 0)) := of_decide_eq_false h
theorem cum12 (y : Int) : cumN y 12 = 365 + (if lpB y then 1 else 0) := by
  simp only [cumN, dim]
  cases h : lpB y <;> simp
theorem dby_succ (y : Int) : dby (y + 1) = dby y + cumN y 12 := by
  rw [cum12]
  unfold dby
  cases h : lpB y
  · have := lp_f y h
    simp
    omega
  · have := lp_t y h
    simp
    omega
theorem dby_step (y : Int) : dby y + 365 ≤ dby (y + 1) ∧ dby (y + 1) ≤ dby y + 366 := by
  rw [dby_succ, cum12]; split <;> omega
theorem dby_mono (a b : Int) (h : a ≤ b) : dby a ≤ dby b := by
  unfold dby; omega
theorem dby_lt (a b : Int) (h : a < b) : dby a < dby b := by
  have h1 := dby_mono (a + 1) b (by omega)
  have := dby_step a
  omega
theorem dby_1970 : dby 1970 = 0 := by decide
theorem dby_10000 : dby 10000 = 2932897 := by decide
theorem cum_mono (y : Int) : ∀ (j k : Nat), cumN y j ≤ cumN y (j + k)
  | j, 0 => Int.le_refl _
  | j, k + 1 => by
    have h := cum_mono y j k
    have e : cumN y (j + (k + 1)) = cumN y (j + k) + dim y (((j + k : Nat) : Int) + 1) := rfl
    have := dim_lo y (((j + k : Nat) : Int) + 1)
    omega
theorem cum_le (y : Int) (j k : Nat) (h : j ≤ k) : cumN y j ≤ cumN y k := by
  obtain ⟨i, rfl⟩ := Nat.exists_eq_add_of_le h
  exact cum_mono y j i
theorem cum_nonneg (y : Int) (k : Nat) : 0 ≤ cumN y k := cum_le y 0 k (Nat.zero_le _)
theorem cum_succ (y m : Int) (h : 1 ≤ m) : cumN y m.toNat = cumN y (m - 1).toNat + dim y m := by
  have e : m.toNat = (m - 1).toNat + 1 := by omega
  rw [e]
  show cumN y (m - 1).toNat + dim y (((m - 1).toNat : Int) + 1) = _
  congr 2
  omega
theorem day_year (y m d : Int) (h1 : 1 ≤ m) (h2 : m ≤ 12) (h3 : 1 ≤ d) (h4 : d ≤ dim y m) : dby y ≤ dayN y m d ∧ dayN y m d < dby (y + 1) := by
  have a := cum_nonneg y (m - 1).toNat
  have b := cum_succ y m h1
  have c := cum_le y m.toNat 12 (by omega)
  rw [dby_succ]
  unfold dayN
  omega
theorem day_month (y m1 m2 : Int) (h1 : 1 ≤ m1) (h : m1 < m2) : cumN y (m1 - 1).toNat + dim y m1 ≤ cumN y (m2 - 1).toNat := by
  rw [← cum_succ y m1 h1]
  exact cum_le y _ _ (by omega)

structure DT where
  (y m d h i s z : Int)
def goodB (t : DT) : Bool := decide (1970 ≤ t.y ∧ t.y ≤ 9999 ∧ 1 ≤ t.m ∧ t.m ≤ 12 ∧ 1 ≤ t.d ∧ t.d ≤ dim t.y t.m ∧ 0 ≤ t.h ∧ t.h ≤ 23 ∧ 0 ≤ t.i ∧ t.i ≤ 59 ∧ 0 ≤ t.s ∧ t.s ≤ 59 ∧ -1439 ≤ t.z ∧ t.z ≤ 1439)
theorem good_parts {t : DT} (h : goodB t = true) : 1970 ≤ t.y ∧ t.y ≤ 9999 ∧ 1 ≤ t.m ∧ t.m ≤ 12 ∧ 1 ≤ t.d ∧ t.d ≤ dim t.y t.m ∧ 0 ≤ t.h ∧ t.h ≤ 23 ∧ 0 ≤ t.i ∧ t.i ≤ 59 ∧ 0 ≤ t.s ∧ t.s ≤ 59 ∧ -1439 ≤ t.z ∧ t.z ≤ 1439 := of_decide_eq_true h
def unixI (t : DT) : Int := ((dayN t.y t.m t.d * 24 + t.h) * 60 + t.i - t.z) * 60 + t.s
def unixF (t : DT) : Int := if goodB t then unixI t else 0
theorem day_bounds (y m d : Int) (h0 : 1970 ≤ y) (h9 : y ≤ 9999) (h1 : 1 ≤ m) (h2 : m ≤ 12) (h3 : 1 ≤ d) (h4 : d ≤ dim y m) : 0 ≤ dayN y m d ∧ dayN y m d ≤ 2932896 := by
  have a := day_year y m d h1 h2 h3 h4
  have b := dby_mono 1970 y h0
  have c := dby_mono (y + 1) 10000 (by omega)
  rw [dby_1970] at b
  rw [dby_10000] at c
  omega
/-- The fields in order, compared one by one. -/
def lexLt (a b : DT) : Prop := a.y < b.y ∨ a.y = b.y ∧ (a.m < b.m ∨ a.m = b.m ∧ (a.d < b.d ∨ a.d = b.d ∧ (a.h < b.h ∨ a.h = b.h ∧ (a.i < b.i ∨ a.i = b.i ∧ a.s < b.s))))
theorem lex_tri (a b : DT) : lexLt a b ∨ lexLt b a ∨ (a.y = b.y ∧ a.m = b.m ∧ a.d = b.d ∧ a.h = b.h ∧ a.i = b.i ∧ a.s = b.s) := by
  unfold lexLt; omega
theorem unix_lt {a b : DT} (ha : goodB a = true) (hb : goodB b = true) (hz : a.z = b.z) (h : lexLt a b) : unixI a < unixI b := by
  obtain ⟨a1, a2, a3, a4, a5, a6, a7, a8, a9, a10, a11, a12, _, _⟩ := good_parts ha
  obtain ⟨b1, b2, b3, b4, b5, b6, b7, b8, b9, b10, b11, b12, _, _⟩ := good_parts hb
  have ya := day_year a.y a.m a.d a3 a4 a5 a6
  have yb := day_year b.y b.m b.d b3 b4 b5 b6
  have hd : dayN a.y a.m a.d < dayN b.y b.m b.d ∨ (dayN a.y a.m a.d = dayN b.y b.m b.d ∧ (a.h < b.h ∨ a.h = b.h ∧ (a.i < b.i ∨ a.i = b.i ∧ a.s < b.s))) := by
    rcases h with h | ⟨ey, h⟩
    · have := dby_mono (a.y + 1) b.y (by omega)
      left; omega
    · rcases h with h | ⟨em, h⟩
      · have := day_month b.y a.m b.m a3 h
        left
        unfold dayN
        rw [ey] at a6 ⊢
        omega
      · rcases h with h | ⟨ed, h⟩
        · left; unfold dayN; rw [ey, em]; omega
        · right; exact ⟨by rw [ey, em, ed], h⟩
  unfold unixI
  rw [hz]
  omega
theorem unix_inj {a b : DT} (ha : goodB a = true) (hb : goodB b = true) (hz : a.z = b.z) (h : unixI a = unixI b) : a = b := by
  rcases lex_tri a b with h1 | h1 | ⟨h1, h2, h3, h4, h5, h6⟩
  · have := unix_lt ha hb hz h1; omega
  · have := unix_lt hb ha hz.symm h1; omega
  · cases a; cases b; simp_all
theorem unix_lex {a b : DT} (ha : goodB a = true) (hb : goodB b = true) (hz : a.z = b.z) (h : unixI a < unixI b) : lexLt a b := by
  rcases lex_tri a b with h1 | h1 | ⟨h1, h2, h3, h4, h5, h6⟩
  · exact h1
  · have := unix_lt hb ha hz.symm h1; omega
  · exact absurd h (by obtain rfl : a = b := by cases a; cases b; simp_all
                       omega)
theorem unix_bounds {t : DT} (h : goodB t = true) : 0 ≤ unixI t + t.z * 60 ∧ unixI t + t.z * 60 < 253402300800 := by
  obtain ⟨a1, a2, a3, a4, a5, a6, a7, a8, a9, a10, a11, a12, _, _⟩ := good_parts h
  have := day_bounds t.y t.m t.d a1 a2 a3 a4 a5 a6
  unfold unixI
  omega
theorem unix_sec {a b : DT} (ha : goodB a = true) (hb : goodB b = true) (h : unixI b = unixI a + 1) : b.s = (a.s + 1) % 60 := by
  obtain ⟨a1, a2, a3, a4, a5, a6, a7, a8, a9, a10, a11, a12, _, _⟩ := good_parts ha
  obtain ⟨b1, b2, b3, b4, b5, b6, b7, b8, b9, b10, b11, b12, _, _⟩ := good_parts hb
  unfold unixI at h
  omega
/-- What the clocks of a zone show: the relation. -/
def OfIs (u z : Int) (t : DT) : Prop := goodB t = true ∧ t.z = z ∧ unixI t = u
theorem of_uniq {u z : Int} {a b : DT} (ha : OfIs u z a) (hb : OfIs u z b) : a = b := unix_inj ha.1 hb.1 (by rw [ha.2.1, hb.2.1]) (by rw [ha.2.2, hb.2.2])
def okZone (z : Int) : Bool := decide (-1439 ≤ z ∧ z ≤ 1439)
/-- Is there one? -/
def ofOk (u z : Int) : Bool := decide (-1439 ≤ z ∧ z ≤ 1439 ∧ 0 ≤ u + z * 60 ∧ u + z * 60 < 253402300800)
theorem of_ok {u z : Int} {t : DT} (h : OfIs u z t) : ofOk u z = true := by
  obtain ⟨h1, h2, h3⟩ := h
  have := unix_bounds h1
  have := good_parts h1
  unfold ofOk
  rw [h2, h3] at *
  simp
  omega
/-- The date of a local moment, from its parts. -/
theorem of_make (u z y m d : Int) (h : ofOk u z = true) (hy : 1970 ≤ y) (hy2 : y ≤ 9999) (hm : 1 ≤ m) (hm2 : m ≤ 12) (hd : 1 ≤ d) (hd2 : d ≤ dim y m) (e : dayN y m d = (u + z * 60) / 86400) :
    OfIs u z ⟨y, m, d, (u + z * 60) % 86400 / 3600, (u + z * 60) % 86400 / 60 % 60, (u + z * 60) % 86400 % 60, z⟩ := by
  have h' := of_decide_eq_true h
  refine ⟨?_, rfl, ?_⟩
  · unfold goodB
    simp
    omega
  · unfold unixI
    show ((dayN y m d * 24 + (u + z * 60) % 86400 / 3600) * 60 + (u + z * 60) % 86400 / 60 % 60 - z) * 60 + (u + z * 60) % 86400 % 60 = u
    rw [e]
    omega
end Go.Proofs.YtfigddnkkdgjhaaDoor
