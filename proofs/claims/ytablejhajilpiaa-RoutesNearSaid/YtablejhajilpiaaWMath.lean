/- Windows as lists of numbers: those gone over, those sorted, those missing. -/
import Derived.Test.YtablejhajilpiaaWSmall
namespace Go.Proofs.Ytablejhajilpiaa.Wn
open Go.RowKit
open Go.Proofs.Ytablejhajilpiaa.Mi
set_option linter.unusedVariables false

/-- The first m numbers from base on. -/
def goes (base : Int) (m : Nat) : List Int := (List.range m).map fun i => (base + (i : Nat)) % 128
theorem goes_length (base : Int) (m : Nat) : (goes base m).length = m := by simp [goes]
theorem goes_at {base : Int} {m i : Nat} (h : i < m) : at_ (goes base m) i = (base + i) % 128 := by simp [at_, goes, h]
theorem goes_succ (base : Int) (m : Nat) : goes base (m + 1) = goes base m ++ [(base + m) % 128] := by simp [goes, List.range_succ]
/-- How many numbers a size lets be gone over. -/
def cut (size : Int) : Nat := (min size 128).toNat
theorem cut_le (size : Int) : cut size ≤ 128 := by unfold cut; omega
/-- Is n one of l's numbers, reduced? -/
def has (l : List Int) (n : Int) : Bool := l.any fun x => decide (x % 128 = n)
theorem has_nil (n : Int) : has [] n = false := rfl
theorem has_snoc (l : List Int) (x n : Int) : has (l ++ [x]) n = (has l n || decide (x % 128 = n)) := by simp [has]
/-- The first m numbers from base on that p lets be. -/
def pick (p : Int → Bool) (base : Int) (m : Nat) : List Int := (goes base m).filter p
theorem pick_yes {p : Int → Bool} {base : Int} {m : Nat} (h : p ((base + m) % 128) = true) : pick p base (m + 1) = pick p base m ++ [(base + m) % 128] := by simp [pick, goes_succ, h]
theorem pick_no {p : Int → Bool} {base : Int} {m : Nat} (h : p ((base + m) % 128) = false) : pick p base (m + 1) = pick p base m := by simp [pick, goes_succ, h]
theorem pick_le (p : Int → Bool) (base : Int) (m : Nat) : (pick p base m).length ≤ m := by
  have := List.length_filter_le p (goes base m)
  rw [goes_length] at this
  exact this
end Go.Proofs.Ytablejhajilpiaa.Wn
