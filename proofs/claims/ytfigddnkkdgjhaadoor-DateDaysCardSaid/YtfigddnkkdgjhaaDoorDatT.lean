/- Package date: Show, the walk. -/
import Derived.Test.YtfigddnkkdgjhaaDoorDatS
set_option linter.unusedVariables false
namespace Go.Proofs.YtfigddnkkdgjhaaDoor
open Go.RowKit

theorem day_lt (d : Int) (h0 : 1 ≤ d) (h : d < 10) : (⟨#[32]⟩ : ByteArray) ++ ((⟨(d2 d).toArray⟩ : ByteArray).extract 1 (⟨(d2 d).toArray⟩ : ByteArray).size) = ⟨(dayL d).toArray⟩ := by
  have : d = 1 ∨ d = 2 ∨ d = 3 ∨ d = 4 ∨ d = 5 ∨ d = 6 ∨ d = 7 ∨ d = 8 ∨ d = 9 := by omega
  rcases this with rfl | rfl | rfl | rfl | rfl | rfl | rfl | rfl | rfl <;> decide +kernel
end Go.Proofs.YtfigddnkkdgjhaaDoor
