/- The contracts of the reference's lists, and of Each. -/
import Derived.Test.YtnfjfcoonabmmaaWMath
namespace Go.Proofs.Ytnfjfcoonabmmaa.Wn
open Go.RowKit
open Go.Proofs.Ytnfjfcoonabmmaa.Mi
set_option linter.unusedVariables false
set_option linter.unusedSimpArgs false

/-- What a call answers that makes a new slice of numbers. -/
def NewI (w : World) (l : List Int) (e : Ending) (w' : World) : Prop := ∃ v, e = .returned v ∧ Hid (Own w' w.heap.size v l) ∧ Hid (Below w.heap.size w w')
theorem Has_any (A : Option Addr) (c B : Nat) (l : List Int) (n : Int) (w : World) (hr : Hid (Rd w B A l)) (hc : l.length ≤ 9223372036854775807) : Calls Try.prog 11 #[.slice A l.length c, .int .i64 n] w fun e w' => e = .returned (.bool (has l n)) ∧ w = w' := by
  have hN := Lib.hid RReduce_any
  go_enter Try.func11, Try.ntmps11
  go_wp2
  go_loopw [5] (fun k wr => ∃ i : Nat, i ≤ l.length ∧ k = .int .i64 i ∧ has (l.take i) n = false ∧ wr = w) (fun k _ => l.length - (intOf k).toNat)
  case atStart => exact ⟨0, Nat.zero_le _, rfl, rfl, rfl⟩
  case round =>
    obtain ⟨i, hi, rfl, hf, rfl⟩ := hrel
    by_cases hlt : i < l.length
    · obtain ⟨b, off, rfl, hb, hcs⟩ := hr.out (by omega)
      have hcell := hcs i hlt
      have ht : l.take (i + 1) = l.take i ++ [at_ l i] := by rw [at_get hlt]; exact (List.take_append_getElem hlt).symm
      have hs := has_snoc (l.take i) (at_ l i) n
      rw [← ht, hf, Bool.false_or] at hs
      obtain ⟨y, hy⟩ : ∃ y, at_ l i = y := ⟨_, rfl⟩
      rw [hy] at hcell hs
      have HF := Lib.hid hf
      clear hcs hf
      obtain ⟨z, hz⟩ : ∃ z, y % 128 = z := ⟨_, rfl⟩
      have hY := Lib.hid (hN.out y)
      rw [hz] at hs hY
      by_cases he : z = n
      · have HS : Hid (has l n = true) := by
          show _ = _
          rw [decide_eq_true he] at hs
          unfold has at hs ⊢
          obtain ⟨q, hq, hq2⟩ := List.any_eq_true.mp hs
          exact List.any_eq_true.mpr ⟨q, List.mem_of_mem_take hq, hq2⟩
        subst he
        clear hs ht hy hz
        go_wp2_with (go_at_call 30; refine (hY.out _).mono ?_; rintro e w' ⟨rfl, rfl⟩)
        go_ret
        exact ⟨by rw [HS.out]; rfl, rfl⟩
      · rw [decide_eq_false he] at hs
        have HS := Lib.hid hs
        clear hs ht hy hz
        go_wp2_with (go_at_call 30; refine (hY.out _).mono ?_; rintro e w' ⟨rfl, rfl⟩)
        go_roundw
        case rel => exact ⟨i + 1, by omega, by go_num, HS.out, trivial⟩
        case measure => simp [intOf]; omega
    · obtain rfl : i = l.length := by omega
      rw [List.take_length] at hf
      have HF := Lib.hid hf
      clear hf
      go_wp2
      go_ret
      exact ⟨by rw [HF.out]; rfl, rfl⟩
/-- Two slices with the same numbers are the same. -/
theorem Same_one (A1 A2 : Option Addr) (n1 n2 c1 c2 : Nat) (l : List Int) (w : World) (h1 : Hid (Rd w w.heap.size A1 l)) (h2 : Hid (Rd w w.heap.size A2 l)) (e1 : n1 = l.length) (e2 : n2 = l.length) (hl : l.length ≤ 9223372036854775807) :
    Calls Try.prog 24 #[.slice A1 n1 c1, .slice A2 n2 c2] w fun e w' => e = .returned (.bool true) ∧ Hid (Below w.heap.size w w') := by
  subst e1 e2
  go_enter Try.func24, Try.ntmps24
  go_wp2
  go_loopw [5] (fun k wr => ∃ i : Nat, i ≤ l.length ∧ k = .int .i64 i ∧ Below w.heap.size w wr) (fun k _ => l.length - (intOf k).toNat)
  case atStart => exact ⟨0, Nat.zero_le _, rfl, Below.refl _ _⟩
  case round =>
    obtain ⟨i, hi, rfl, hb⟩ := hrel
    have HB := Lib.hid hb
    by_cases hlt : i < l.length
    · obtain ⟨b1, off1, rfl, hb1, hc1⟩ := h1.out (by omega)
      obtain ⟨b2, off2, rfl, hb2, hc2⟩ := h2.out (by omega)
      have k1 := (hb.cell (p := ⟨b1, off1 + i, none⟩) hb1).trans (hc1 i hlt)
      have k2 := (hb.cell (p := ⟨b2, off2 + i, none⟩) hb2).trans (hc2 i hlt)
      obtain ⟨y, hy⟩ : ∃ y, at_ l i = y := ⟨_, rfl⟩
      rw [hy] at k1 k2
      clear hc1 hc2 hy hb
      go_wp2
      go_quiet (fail)
      go_wp2
      go_roundw
      case rel => exact ⟨i + 1, by omega, by go_num, below_drewN HB.out _⟩
      case measure => simp [intOf]; omega
    · obtain rfl : i = l.length := by omega
      clear hb
      go_wp2
      go_ret
      exact ⟨rfl, HB⟩
end Go.Proofs.Ytnfjfcoonabmmaa.Wn
