/- The contracts of the reference's Sort and Missing. -/
import Derived.Test.YtnfjfcoonabmmaaWList
namespace Go.Proofs.Ytnfjfcoonabmmaa.Wn
open Go.RowKit
open Go.Proofs.Ytnfjfcoonabmmaa.Mi
set_option linter.unusedVariables false
set_option linter.unusedSimpArgs false

theorem pick_step {p : Int → Bool} {base x : Int} {m : Nat} (hx : (base + (m : Int)) % 128 = x) : pick p base (m + 1) = if p x = true then pick p base m ++ [x] else pick p base m := by
  by_cases h : p x = true
  · rw [if_pos h, pick_yes (by rw [hx]; exact h), hx]
  · rw [if_neg h, pick_no (by rw [hx]; simpa using h)]
end Go.Proofs.Ytnfjfcoonabmmaa.Wn
