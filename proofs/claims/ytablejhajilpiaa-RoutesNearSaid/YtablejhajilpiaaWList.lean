/- The contracts of the reference's lists, and of Each. -/
import Derived.Test.YtablejhajilpiaaWMath
namespace Go.Proofs.Ytablejhajilpiaa.Wn
open Go.RowKit
open Go.Proofs.Ytablejhajilpiaa.Mi
set_option linter.unusedVariables false
set_option linter.unusedSimpArgs false

/-- What a call answers that makes a new slice of numbers. -/
def NewI (w : World) (l : List Int) (e : Ending) (w' : World) : Prop := ∃ v, e = .returned v ∧ Hid (Own w' w.heap.size v l) ∧ Hid (Below w.heap.size w w')
/-- Two slices with the same numbers are the same. -/
theorem Same_one (A1 A2 : Option Addr) (n1 n2 c1 c2 : Nat) (l : List Int) (w : World) (h1 : Hid (Rd w w.heap.size A1 l)) (h2 : Hid (Rd w w.heap.size A2 l)) (e1 : n1 = l.length) (e2 : n2 = l.length) (hl : l.length ≤ 9223372036854775807) :
    Calls Try.prog 13 #[.slice A1 n1 c1, .slice A2 n2 c2] w fun e w' => e = .returned (.bool true) ∧ Hid (Below w.heap.size w w') := by
  subst e1 e2
  go_enter Try.func13, Try.ntmps13
  go_wp2
  go_loopw [5] (fun k wr => ∃ i : Nat, i ≤ l.length ∧ k = .int .i64 i ∧ Below w.heap.size w wr) (fun k _ => l.length - (intOf k).toNat)
  case atStart => exact ⟨0, Nat.zero_le _, rfl, Below.refl _ _⟩
  case round =>
    obtain ⟨i, hi, rfl, hb⟩ := hrel
    have HB := Lib.hid hb
    by_cases hlt : i < l.length
    · obtain ⟨b1, off1, rfl, hb1, hc1⟩ := h1.out (by omega)
      obtain ⟨b2, off2, rfl, hb2, hc2⟩ := h2.out (by omega)
      have k1 := (hb.cell (p := ⟨b1, off1 + i, none⟩) hb1).trans (hc1 i hlt)
      have k2 := (hb.cell (p := ⟨b2, off2 + i, none⟩) hb2).trans (hc2 i hlt)
      obtain ⟨y, hy⟩ : ∃ y, at_ l i = y := ⟨_, rfl⟩
      rw [hy] at k1 k2
      clear hc1 hc2 hy hb
      go_wp2
      go_quiet (fail)
      go_wp2
      go_roundw
      case rel => exact ⟨i + 1, by omega, by go_num, below_drewN HB.out _⟩
      case measure => simp [intOf]; omega
    · obtain rfl : i = l.length := by omega
      clear hb
      go_wp2
      go_ret
      exact ⟨rfl, HB⟩
end Go.Proofs.Ytablejhajilpiaa.Wn
