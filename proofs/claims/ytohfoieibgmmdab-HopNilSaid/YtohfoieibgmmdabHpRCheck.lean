/- The document's Check of a word. -/
import Derived.Test.YtohfoieibgmmdabHpCheck
import Derived.Test.YtohfoieibgmmdabMgSame
namespace Go.Proofs.Ytohfoieibgmmdab.Hp
open Go.RowKit Go.Shelf
open Go.Proofs.Ytohfoieibgmmdab.Me Go.Proofs.Ytohfoieibgmmdab.Sb Go.Proofs.Ytohfoieibgmmdab.Mg
set_option linter.unusedVariables false
set_option linter.unusedSimpArgs false

theorem eqS_nil (l : List Nat) (h : ∀ z ∈ l, z < 256) : eqS l [] = decide (l.length = 0) := by
  cases l with
  | nil => rw [eqS_self]; rfl
  | cons a l =>
    have : (strOf (a :: l)).toList ≠ (strOf []).toList := by
      intro e
      have := congrArg List.length e
      simp [strOf] at this
    unfold eqS
    rw [beq_eq_false_iff_ne.2 this]
    simp
theorem sm_zero (i : Id4) (l : List Nat) (h : ∀ z ∈ l, z < 256) : sm i ⟨0, 0, 0, 0⟩ l [] = (zeroB i && decide (l.length = 0)) := by
  unfold sm
  rw [eqS_nil l h]
  rfl
end Go.Proofs.Ytohfoieibgmmdab.Hp
