/- The contracts of window's small functions and of the reference's. -/
import Derived.Test.YtdfjlhiliifapaaIKit
namespace Go.Proofs.Ytdfjlhiliifapaa.Wn
open Go.RowKit
open Go.Proofs.Ytdfjlhiliifapaa.Mi
set_option linter.unusedVariables false
set_option linter.unusedSimpArgs false

theorem Reduce_any (n : Int) (w : World) : Calls Try.prog 38 #[.int .i64 n] w fun e w' => e = .returned (.int .i64 (n % 128)) ∧ w = w' := by
  have h := Lib.hid (and127 n)
  go_enter Try.func38, Try.ntmps38
  go_wp2
  go_ret
  exact ⟨by rw [h.out]; rfl, rfl⟩
theorem Reduce_at {n m : Int} (h : n % 128 = m) (w : World) : Calls Try.prog 38 #[.int .i64 n] w fun e w' => e = .returned (.int .i64 m) ∧ w = w' := h ▸ Reduce_any n w
theorem Way_any (a b : Int) (w : World) : Calls Try.prog 36 #[.int .i64 a, .int .i64 b] w fun e w' => e = .returned (.int .i64 ((b - a) % 128)) ∧ w = w' := by
  have hR := Lib.hid (Reduce_at (wrap_mod (b - a)))
  go_enter Try.func36, Try.ntmps36
  go_wp2_with (go_at_call 38; refine (hR.out _).mono ?_; rintro e w' ⟨rfl, rfl⟩)
  go_ret
  exact ⟨rfl, rfl⟩
theorem In_any (base size n : Int) (w : World) : Calls Try.prog 39 #[.int .i64 base, .int .i64 size, .int .i64 n] w fun e w' => e = .returned (.bool (decide ((n - base) % 128 < size))) ∧ w = w' := by
  have hW := Lib.hid Way_any
  go_enter Try.func39, Try.ntmps39
  go_wp2_with (go_at_call 36; refine (hW.out _ _ _).mono ?_; rintro e w' ⟨rfl, rfl⟩)
  go_ret
  exact ⟨rfl, rfl⟩
theorem tm (n : Int) : Int.tmod n 128 = if 0 ≤ n ∨ n % 128 = 0 then n % 128 else n % 128 - 128 := by
  rw [Int.tmod_eq_emod]
  have e : ((128 : Int) ∣ n) ↔ n % 128 = 0 := Int.dvd_iff_emod_eq_zero
  by_cases h : 0 ≤ n ∨ n % 128 = 0
  · rw [if_pos h, if_pos (by rw [e]; exact h)]; omega
  · rw [if_neg h, if_neg (by rw [e]; exact h)]; rfl
theorem RReduce_any (n : Int) (w : World) : Calls Try.prog 40 #[.int .i64 n] w fun e w' => e = .returned (.int .i64 (n % 128)) ∧ w = w' := by
  have ht := tm n
  obtain ⟨t, htd⟩ : ∃ t, Int.tmod n 128 = t := ⟨_, rfl⟩
  rw [htd] at ht
  by_cases h : t < 0
  · have h2 := Lib.hid (show wrap64 (t + 128) = n % 128 by
      rw [fits ⟨by split at ht <;> omega, by omega⟩]
      split at ht <;> omega)
    clear ht
    go_enter Try.func40, Try.ntmps40
    go_wp2
    go_ret
    exact ⟨by rw [h2.out]; rfl, rfl⟩
  · have h2 := Lib.hid (show t = n % 128 by split at ht <;> omega)
    clear ht
    go_enter Try.func40, Try.ntmps40
    go_wp2
    go_ret
    exact ⟨by rw [h2.out]; rfl, rfl⟩
theorem RNext_any (n : Int) (w : World) : Calls Try.prog 45 #[.int .i64 n] w fun e w' => e = .returned (.int .i64 ((n + 1) % 128)) ∧ w = w' := by
  have hR := Lib.hid (RReduce_any n)
  obtain ⟨t, htd⟩ : ∃ t, n % 128 = t := ⟨_, rfl⟩
  rw [htd] at hR
  by_cases h : t = 127
  · have h2 := Lib.hid (show 0 = (n + 1) % 128 by omega)
    subst h
    clear htd
    go_enter Try.func45, Try.ntmps45
    go_wp2_with (go_at_call 40; refine (hR.out _).mono ?_; rintro e w' ⟨rfl, rfl⟩)
    go_ret
    exact ⟨by rw [← h2.out]; rfl, rfl⟩
  · have h2 := Lib.hid (show t + 1 = (n + 1) % 128 by omega)
    have h3 : 0 ≤ t ∧ t < 128 := by omega
    have h4 : wrap64 (t + 1) = t + 1 := fits ⟨by omega, by omega⟩
    clear htd
    go_enter Try.func45, Try.ntmps45
    go_wp2_with (go_at_call 40; refine (hR.out _).mono ?_; rintro e w' ⟨rfl, rfl⟩)
    go_ret
    exact ⟨by rw [← h2.out]; rfl, rfl⟩
set_option maxHeartbeats 1000000 in
set_option maxRecDepth 10000 in
theorem RWay_any (a b : Int) (w : World) : Calls Try.prog 42 #[.int .i64 a, .int .i64 b] w fun e w' => e = .returned (.int .i64 ((b - a) % 128)) ∧ w = w' := by
  have hA := Lib.hid (RReduce_any a)
  have hB := Lib.hid (RReduce_any b)
  obtain ⟨x, hx⟩ : ∃ x, (b - a) % 128 = x := ⟨_, rfl⟩
  obtain ⟨s, hs⟩ : ∃ s, a % 128 = s := ⟨_, rfl⟩
  obtain ⟨t, ht⟩ : ∃ t, b % 128 = t := ⟨_, rfl⟩
  rw [hs] at hA
  rw [ht] at hB
  have hX := Lib.hid (show x = (t - s) % 128 by omega)
  have hS := Lib.hid (show 0 ≤ s ∧ s < 128 by omega)
  have hT := Lib.hid (show 0 ≤ t ∧ t < 128 by omega)
  rw [hx]
  clear hx hs ht
  go_enter Try.func42, Try.ntmps42
  go_wp2_with (go_at_call 40; refine (hA.out _).mono ?_; rintro e w' ⟨rfl, rfl⟩)
  go_loopw [5, 6] (fun n k wr => ∃ i : Nat, (i : Int) ≤ x ∧ k = .int .i64 i ∧ n = .int .i64 ((s + i) % 128) ∧ wr = w) (fun _ k _ => 128 - (intOf k).toNat)
  case atStart => exact ⟨0, by have := hX.out; omega, rfl, by have := hS.out; congr 1; omega, rfl⟩
  case round =>
    obtain ⟨i, hi, rfl, rfl, rfl⟩ := hrel
    have h128 : (i : Int) < 128 := by have := hX.out; omega
    obtain ⟨m, hm⟩ : ∃ m, (s + (i : Int)) % 128 = m := ⟨_, rfl⟩
    rw [hm]
    by_cases he : m = t
    · have hI := Lib.hid (show (i : Int) = x by have := hX.out; have := hS.out; have := hT.out; omega)
      subst he
      clear hm
      go_wp2_with (go_at_call 40; refine (hB.out _).mono ?_; rintro e w' ⟨rfl, rfl⟩)
      go_ret
      exact ⟨by rw [← hI.out]; rfl, rfl⟩
    · have hI := Lib.hid (show (i : Int) + 1 ≤ x by
        have := hX.out; have := hS.out; have := hT.out
        have hne : (i : Int) ≠ x := fun e => he (by omega)
        omega)
      have hm2 : 0 ≤ m ∧ m < 128 := by omega
      by_cases h127 : m = 127
      · subst h127
        have hM := Lib.hid (show (s + ((i + 1 : Nat) : Int)) % 128 = 0 by omega)
        clear hm
        go_wp2_with (go_at_call 40; refine (hB.out _).mono ?_; rintro e w' ⟨rfl, rfl⟩)
        go_roundw
        case rel => exact ⟨i + 1, by have := hI.out; omega, by go_num, by rw [hM.out], trivial⟩
        case measure => simp [intOf]; omega
      · have hM := Lib.hid (show (s + ((i + 1 : Nat) : Int)) % 128 = m + 1 by omega)
        have h4 : wrap64 (m + 1) = m + 1 := fits ⟨by omega, by omega⟩
        have h5 : ¬ m + 1 = 128 := by omega
        clear hm
        go_wp2_with (go_at_call 40; refine (hB.out _).mono ?_; rintro e w' ⟨rfl, rfl⟩)
        go_roundw
        case rel => exact ⟨i + 1, by have := hI.out; omega, by go_num, by rw [hM.out], trivial⟩
        case measure => simp [intOf]; omega
end Go.Proofs.Ytdfjlhiliifapaa.Wn
