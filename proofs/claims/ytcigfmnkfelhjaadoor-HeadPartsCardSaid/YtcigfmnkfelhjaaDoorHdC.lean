/- Package head: Value, Split; Fields as it is. -/
import Derived.Test.YtcigfmnkfelhjaaDoorHdB
import Derived.Test.YtcigfmnkfelhjaaDoorLnE
import Derived.Shelf.Strings.SlTrimAscii
set_option linter.unusedVariables false
namespace Go.Proofs.YtcigfmnkfelhjaaDoor
open Go.RowKit

def valL (l : List UInt8) : List UInt8 := Lib.trimS (Lib.replaceAll l [13, 10] []) [32, 9]
def valF (s : ByteArray) : ByteArray := ⟨(valL s.data.toList).toArray⟩
theorem replaceK_le (old : List UInt8) : ∀ (k : Nat) (s : List UInt8), (Lib.replaceK old [] k s).length ≤ s.length
  | 0, s => Nat.le_refl _
  | k + 1, s => by
    unfold Lib.replaceK
    split
    · exact Nat.le_refl _
    · rename_i h
      have h2 := replaceK_le old k (s.drop ((Lib.index s old).toNat + old.length))
      rw [List.length_append, List.length_append, List.length_take]
      rw [List.length_drop] at h2
      simp only [List.length_nil]
      omega
theorem replaceAll_le (old s : List UInt8) : (Lib.replaceAll s old []).length ≤ s.length := by
  unfold Lib.replaceAll Lib.replace
  split
  · exact Nat.le_refl _
  · exact replaceK_le _ _ _
/-- The package variable MaxLen holds some number. -/
def MaxLenIs (w : World) : Prop := ∃ m, w.cell? ⟨0, 0, none⟩ = some (.int .i64 m)
theorem set256 : (Tryd.prog.info? (Tryd.lays160_ren.t 116)).map (fun i => (i.zero, i.size)) = some (some (.agg (Array.replicate 256 (.bool false))), 256) := by kernel_rfl
set_option maxHeartbeats 1000000 in
theorem value_any (s : ByteArray) (w : World) (hs : s.size ≤ 1000000) (hm : MaxLenIs w) (hg : 0 < w.heap.size) :
    Calls Tryd.prog 9 #[.string s] w fun e w' => e = .returned (.string (valF s)) ∧ Below w.heap.size w w' := by
  obtain ⟨m, hm⟩ := hm
  have h1 := Tryd.strings_ReplaceAll s ⟨#[13, 10]⟩ ⟨#[]⟩ m w (by omega) hm (by decide) (by
    have : (⟨#[]⟩ : ByteArray).size = 0 := rfl
    rw [this]
    omega)
  obtain ⟨r, hr⟩ : ∃ r : ByteArray, r = ⟨(Lib.replaceAll s.data.toList [13, 10] []).toArray⟩ := ⟨_, rfl⟩
  have h1' : Calls Tryd.prog 23 #[.string s, .string ⟨#[13, 10]⟩, .string ⟨#[]⟩] w fun e w' => e = .returned (.string r) ∧ Below w.heap.size w w' := by rw [hr]; exact h1
  have hrs : r.size ≤ 1000000 := by
    rw [hr]
    have h := replaceAll_le [13, 10] s.data.toList
    show (Lib.replaceAll s.data.toList [13, 10] []).toArray.size ≤ 1000000
    rw [List.size_toArray]
    have e : s.data.toList.length = s.size := by rw [Array.length_toList]; rfl
    omega
  have h2 := fun W => Any.strings_Trim_laid Tryd.lays160 set256 r ⟨#[32, 9]⟩ W (by omega) (by decide) (by
    intro j b hb
    match j, hb with
    | 0, hb => simp at hb; subst hb; decide
    | 1, hb => simp at hb; subst hb; decide)
  have hv : (⟨(Lib.trimS r.data.toList (⟨#[32, 9]⟩ : ByteArray).data.toList).toArray⟩ : ByteArray) = valF s := by rw [hr]; rfl
  rw [hv] at h2
  have H1 := Lib.hid h1'
  have H2 : Hid (∀ W, Calls Tryd.prog 22 #[.string r, .string ⟨#[32, 9]⟩] W fun e w' => e = .returned (.string (valF s)) ∧ Below W.heap.size W w') := h2
  obtain ⟨v, hv2⟩ : ∃ v, v = valF s := ⟨_, rfl⟩
  rw [← hv2] at H2 ⊢
  clear h1 h1' h2 hr hv hv2 hm
  go_enter Tryd.func9, Tryd.ntmps9
  go_wp2_with fail
  (with_reducible refine H1.out.mono ?_)
  rintro _ w1 ⟨rfl, b1⟩
  go_wp2_with fail
  (with_reducible refine (H2.out _).mono ?_)
  rintro _ w2 ⟨rfl, b2⟩
  have B := b1.trans (b2.mono b1.size)
  go_wp2
  go_ret
  exact ⟨rfl, B⟩
end Go.Proofs.YtcigfmnkfelhjaaDoor
