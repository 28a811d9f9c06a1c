/- Package date: Show. -/
import Derived.Test.YtfigddnkkdgjhaaDoorDatC
import Derived.Test.YtfigddnkkdgjhaaDoorIto
set_option linter.unusedVariables false
namespace Go.Proofs.YtfigddnkkdgjhaaDoor
open Go.RowKit

def mons : List UInt8 := [74, 97, 110, 70, 101, 98, 77, 97, 114, 65, 112, 114, 77, 97, 121, 74, 117, 110, 74, 117, 108, 65, 117, 103, 83, 101, 112, 79, 99, 116, 78, 111, 118, 68, 101, 99]
def monL (m : Int) : List UInt8 := (mons.drop (3 * m - 3).toNat).take 3
def dayL (d : Int) : List UInt8 := if d < 10 then 32 :: (d2 d).drop 1 else d2 d
def showL (t : DT) : List UInt8 :=
  dayL t.d ++ [45] ++ monL t.m ++ [45] ++ Lib.itoa t.y ++ [32] ++ d2 t.h ++ [58] ++ d2 t.i ++ [58] ++ d2 t.s ++ [32] ++
    (if t.z < 0 then [45] else [43]) ++ d2 ((if t.z < 0 then -t.z else t.z) / 60) ++ d2 ((if t.z < 0 then -t.z else t.z) % 60)
def showF (t : DT) : List UInt8 := if goodB t then showL t else []

theorem mon_cut (m : Int) (h1 : 1 ≤ m) (h2 : m ≤ 12) : (⟨#[74, 97, 110, 70, 101, 98, 77, 97, 114, 65, 112, 114, 77, 97, 121, 74, 117, 110, 74, 117, 108, 65, 117, 103, 83, 101, 112, 79, 99, 116, 78, 111, 118, 68, 101, 99]⟩ : ByteArray).extract (3 * m - 3).toNat (3 * m).toNat = ⟨(monL m).toArray⟩ := by
  have : m = 1 ∨ m = 2 ∨ m = 3 ∨ m = 4 ∨ m = 5 ∨ m = 6 ∨ m = 7 ∨ m = 8 ∨ m = 9 ∨ m = 10 ∨ m = 11 ∨ m = 12 := by omega
  rcases this with rfl | rfl | rfl | rfl | rfl | rfl | rfl | rfl | rfl | rfl | rfl | rfl <;> decide +kernel

/-- The concatenation that the walk leaves, as one list. -/
theorem cat_all (a b c d e f g h k : List UInt8) :
    (((((((((((((((⟨a.toArray⟩ : ByteArray) ++ ⟨#[45]⟩) ++ ⟨b.toArray⟩) ++ ⟨#[45]⟩) ++ ⟨c.toArray⟩) ++ ⟨#[32]⟩) ++ ⟨d.toArray⟩) ++ ⟨#[58]⟩) ++ ⟨e.toArray⟩) ++ ⟨#[58]⟩) ++ ⟨f.toArray⟩) ++ ⟨#[32]⟩) ++ ⟨g.toArray⟩) ++ ⟨h.toArray⟩) ++ ⟨k.toArray⟩ : ByteArray) = ⟨(a ++ [45] ++ b ++ [45] ++ c ++ [32] ++ d ++ [58] ++ e ++ [58] ++ f ++ [32] ++ g ++ h ++ k).toArray⟩ := by
  apply ByteArray.ext
  simp [ByteArray.data_append]
theorem show_neg (y m d h i s z : Int) (hz : z < 0) : showL ⟨y, m, d, h, i, s, z⟩ = dayL d ++ [45] ++ monL m ++ [45] ++ Lib.itoa y ++ [32] ++ d2 h ++ [58] ++ d2 i ++ [58] ++ d2 s ++ [32] ++ [45] ++ d2 (-z / 60) ++ d2 (-z % 60) := by
  unfold showL
  simp only [hz, if_true]
theorem show_pos (y m d h i s z : Int) (hz : ¬ z < 0) : showL ⟨y, m, d, h, i, s, z⟩ = dayL d ++ [45] ++ monL m ++ [45] ++ Lib.itoa y ++ [32] ++ d2 h ++ [58] ++ d2 i ++ [58] ++ d2 s ++ [32] ++ [43] ++ d2 (z / 60) ++ d2 (z % 60) := by
  unfold showL
  simp only [hz, if_false]

/-- 'Below' from the size of the first world's heap on, behind a name that the walk does not open. -/
def Bel (w W : World) : Prop := Below w.heap.size w W
theorem sh_next {w wx wy : World} {g : Nat} {y m h i s : Int} (hb : Below wx.heap.size wx wy) (hB : Bel w wx)
    (c0 : wx.cell? ⟨g, 0, none⟩ = some (.int .i64 y)) (c1 : wx.cell? ⟨g, 1, none⟩ = some (.int .i64 m)) (c3 : wx.cell? ⟨g, 3, none⟩ = some (.int .i64 h)) (c4 : wx.cell? ⟨g, 4, none⟩ = some (.int .i64 i)) (c5 : wx.cell? ⟨g, 5, none⟩ = some (.int .i64 s)) :
    wy.cell? ⟨g, 0, none⟩ = some (.int .i64 y) ∧ wy.cell? ⟨g, 1, none⟩ = some (.int .i64 m) ∧ wy.cell? ⟨g, 3, none⟩ = some (.int .i64 h) ∧ wy.cell? ⟨g, 4, none⟩ = some (.int .i64 i) ∧ wy.cell? ⟨g, 5, none⟩ = some (.int .i64 s) ∧ Bel w wy := by
  have hg := World.block_lt_of_cell? wx _ c0
  exact ⟨(hb.cell (p := ⟨g, 0, none⟩) hg).trans c0, (hb.cell (p := ⟨g, 1, none⟩) hg).trans c1, (hb.cell (p := ⟨g, 3, none⟩) hg).trans c3, (hb.cell (p := ⟨g, 4, none⟩) hg).trans c4, (hb.cell (p := ⟨g, 5, none⟩) hg).trans c5, Below.trans hB (hb.mono (Below.size hB))⟩
theorem bel_end {w wx wy : World} (hb : Below wx.heap.size wx wy) (hB : Bel w wx) : Below w.heap.size w wy := Below.trans hB (hb.mono (Below.size hB))
end Go.Proofs.YtfigddnkkdgjhaaDoor
