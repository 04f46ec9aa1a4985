/- The contracts of window's small functions and of the reference's. -/
import Derived.Test.YtnfjfcoonabmmaaIKit
namespace Go.Proofs.Ytnfjfcoonabmmaa.Wn
open Go.RowKit
open Go.Proofs.Ytnfjfcoonabmmaa.Mi
set_option linter.unusedVariables false
set_option linter.unusedSimpArgs false

theorem Reduce_any (n : Int) (w : World) : Calls Try.prog 45 #[.int .i64 n] w fun e w' => e = .returned (.int .i64 (n % 128)) ∧ w = w' := by
  have h := Lib.hid (and127 n)
  go_enter Try.func45, Try.ntmps45
  go_wp2
  go_ret
  exact ⟨by rw [h.out]; rfl, rfl⟩
theorem Reduce_at {n m : Int} (h : n % 128 = m) (w : World) : Calls Try.prog 45 #[.int .i64 n] w fun e w' => e = .returned (.int .i64 m) ∧ w = w' := h ▸ Reduce_any n w
theorem Way_any (a b : Int) (w : World) : Calls Try.prog 39 #[.int .i64 a, .int .i64 b] w fun e w' => e = .returned (.int .i64 ((b - a) % 128)) ∧ w = w' := by
  have hR := Lib.hid (Reduce_at (wrap_mod (b - a)))
  go_enter Try.func39, Try.ntmps39
  go_wp2_with (go_at_call 45; refine (hR.out _).mono ?_; rintro e w' ⟨rfl, rfl⟩)
  go_ret
  exact ⟨rfl, rfl⟩
theorem Next_any (n : Int) (w : World) : Calls Try.prog 43 #[.int .i64 n] w fun e w' => e = .returned (.int .i64 ((n + 1) % 128)) ∧ w = w' := by
  have hR := Lib.hid (Reduce_at (wrap_mod (n + 1)))
  go_enter Try.func43, Try.ntmps43
  go_wp2_with (go_at_call 45; refine (hR.out _).mono ?_; rintro e w' ⟨rfl, rfl⟩)
  go_ret
  exact ⟨rfl, rfl⟩
theorem In_any (base size n : Int) (w : World) : Calls Try.prog 38 #[.int .i64 base, .int .i64 size, .int .i64 n] w fun e w' => e = .returned (.bool (decide ((n - base) % 128 < size))) ∧ w = w' := by
  have hW := Lib.hid Way_any
  go_enter Try.func38, Try.ntmps38
  go_wp2_with (go_at_call 39; refine (hW.out _ _ _).mono ?_; rintro e w' ⟨rfl, rfl⟩)
  go_ret
  exact ⟨rfl, rfl⟩
theorem tm (n : Int) : Int.tmod n 128 = if 0 ≤ n ∨ n % 128 = 0 then n % 128 else n % 128 - 128 := by
  rw [Int.tmod_eq_emod]
  have e : ((128 : Int) ∣ n) ↔ n % 128 = 0 := Int.dvd_iff_emod_eq_zero
  by_cases h : 0 ≤ n ∨ n % 128 = 0
  · rw [if_pos h, if_pos (by rw [e]; exact h)]; omega
  · rw [if_neg h, if_neg (by rw [e]; exact h)]; rfl
theorem RReduce_any (n : Int) (w : World) : Calls Try.prog 30 #[.int .i64 n] w fun e w' => e = .returned (.int .i64 (n % 128)) ∧ w = w' := by
  have ht := tm n
  obtain ⟨t, htd⟩ : ∃ t, Int.tmod n 128 = t := ⟨_, rfl⟩
  rw [htd] at ht
  by_cases h : t < 0
  · have h2 := Lib.hid (show wrap64 (t + 128) = n % 128 by
      rw [fits ⟨by split at ht <;> omega, by omega⟩]
      split at ht <;> omega)
    clear ht
    go_enter Try.func30, Try.ntmps30
    go_wp2
    go_ret
    exact ⟨by rw [h2.out]; rfl, rfl⟩
  · have h2 := Lib.hid (show t = n % 128 by split at ht <;> omega)
    clear ht
    go_enter Try.func30, Try.ntmps30
    go_wp2
    go_ret
    exact ⟨by rw [h2.out]; rfl, rfl⟩
end Go.Proofs.Ytnfjfcoonabmmaa.Wn
