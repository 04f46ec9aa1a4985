/- An id's numbers, as an array; how they stand in bytes and texts. -/
import Derived.Test.YtohfoieibgmmdaaMgCheck
import Derived.Deep.RegionHeld
namespace Go.Proofs.Ytohfoieibgmmdaa.Mg
open Go.RowKit
open Go.Proofs.Ytohfoieibgmmdaa.Me
set_option linter.unusedVariables false
set_option linter.unusedSimpArgs false

theorem numbers_any (i : Id4) (w : World) : Calls Try.prog 69 #[.agg (idC i)] w fun e w' => e = .returned (.agg (idC i)) ∧ Hid (Below w.heap.size w w') := by
  obtain ⟨o, d, ee, c⟩ := i
  simp only [idC]
  go_enter Try.func69, Try.ntmps69
  go_wp2
  go_returns
  exact ⟨rfl, by show Below _ _ _; repeat (first | exact Below.refl _ _ | apply Me.below_alloc)⟩
def formsV : Value := .agg #[.string ⟨#[]⟩, .int .i64 1, .string ⟨#[62]⟩, .int .i64 1, .string ⟨#[58]⟩, .int .i64 2, .string ⟨#[46]⟩, .int .i64 2]
theorem forms_any (w : World) : Calls Try.prog 70 #[] w fun e w' => e = .returned formsV ∧ Hid (Below w.heap.size w w') := by
  unfold formsV
  go_enter Try.func70, Try.ntmps70
  go_wp2
  go_returns
  exact ⟨rfl, by show Below _ _ _; repeat (first | exact Below.refl _ _ | apply Me.below_alloc)⟩
theorem Numbers_any (i : Id4) (w : World) : Calls Try.prog 117 #[.agg (idC i)] w fun e w' => ∃ g, e = .returned (.slice (some ⟨g, 0, none⟩) 4 4) ∧ w.heap.size ≤ g ∧ Hid (g < w'.heap.size ∧ w'.cell? ⟨g, 0, none⟩ = some (.int .i64 i.o) ∧ w'.cell? ⟨g, 1, none⟩ = some (.int .i64 i.d) ∧ w'.cell? ⟨g, 2, none⟩ = some (.int .i64 i.e) ∧ w'.cell? ⟨g, 3, none⟩ = some (.int .i64 i.c)) ∧ Hid (Below w.heap.size w w') := by
  obtain ⟨o, d, ee, c⟩ := i
  simp only [idC]
  go_enter Try.func117, Try.ntmps117
  go_wp2
  go_ret
  refine ⟨_, rfl, by simp, ?_, ?_⟩
  · refine ⟨by simp, ?_, ?_, ?_, ?_⟩
    all_goals
      have h := heap_alloc_new (w.alloc (.cells #[.int .i64 o, .int .i64 d, .int .i64 ee, .int .i64 c] 23)) (.cells #[.int .i64 o, .int .i64 d, .int .i64 ee, .int .i64 c] 3)
      rw [World.size_alloc] at h
      rw [cell_of_row _ _ _ _ _ (0, 0) h]
      rfl
  · show Below _ _ _
    repeat (first | exact Below.refl _ _ | apply Me.below_alloc)
end Go.Proofs.Ytohfoieibgmmdaa.Mg
