/- An id's numbers, as an array; how they stand in bytes and texts. -/
import Derived.Test.YtohfoieibgmmdabMgCheck
import Derived.Deep.RegionHeld
namespace Go.Proofs.Ytohfoieibgmmdab.Mg
open Go.RowKit
open Go.Proofs.Ytohfoieibgmmdab.Me
set_option linter.unusedVariables false
set_option linter.unusedSimpArgs false

theorem numbers_any (i : Id4) (w : World) : Calls Try.prog 31 #[.agg (idC i)] w fun e w' => e = .returned (.agg (idC i)) ∧ Hid (Below w.heap.size w w') := by
  obtain ⟨o, d, ee, c⟩ := i
  simp only [idC]
  go_enter Try.func31, Try.ntmps31
  go_wp2
  go_returns
  exact ⟨rfl, by show Below _ _ _; repeat (first | exact Below.refl _ _ | apply Me.below_alloc)⟩
def formsV : Value := .agg #[.string ⟨#[]⟩, .int .i64 1, .string ⟨#[62]⟩, .int .i64 1, .string ⟨#[58]⟩, .int .i64 2, .string ⟨#[46]⟩, .int .i64 2]
theorem forms_any (w : World) : Calls Try.prog 64 #[] w fun e w' => e = .returned formsV ∧ Hid (Below w.heap.size w w') := by
  unfold formsV
  go_enter Try.func64, Try.ntmps64
  go_wp2
  go_returns
  exact ⟨rfl, by show Below _ _ _; repeat (first | exact Below.refl _ _ | apply Me.below_alloc)⟩
end Go.Proofs.Ytohfoieibgmmdab.Mg
