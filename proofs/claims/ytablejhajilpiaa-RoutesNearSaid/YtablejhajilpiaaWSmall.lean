/- The contracts of window's small functions and of the reference's. -/
import Derived.Test.YtablejhajilpiaaIKit
namespace Go.Proofs.Ytablejhajilpiaa.Wn
open Go.RowKit
open Go.Proofs.Ytablejhajilpiaa.Mi
set_option linter.unusedVariables false
set_option linter.unusedSimpArgs false

theorem tm (n : Int) : Int.tmod n 128 = if 0 ≤ n ∨ n % 128 = 0 then n % 128 else n % 128 - 128 := by
  rw [Int.tmod_eq_emod]
  have e : ((128 : Int) ∣ n) ↔ n % 128 = 0 := Int.dvd_iff_emod_eq_zero
  by_cases h : 0 ≤ n ∨ n % 128 = 0
  · rw [if_pos h, if_pos (by rw [e]; exact h)]; omega
  · rw [if_neg h, if_neg (by rw [e]; exact h)]; rfl
end Go.Proofs.Ytablejhajilpiaa.Wn
