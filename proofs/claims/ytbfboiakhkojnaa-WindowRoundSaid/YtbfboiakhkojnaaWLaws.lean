/- The walks of the laws of numbers: Reduces, Ways, Ins, Round, Halves. -/
import Derived.Test.YtbfboiakhkojnaaWWoke
namespace Go.Proofs.Ytbfboiakhkojnaa.Wn
open Go.RowKit
open Go.Proofs.Ytbfboiakhkojnaa.Mi
set_option linter.unusedVariables false
set_option linter.unusedSimpArgs false

theorem reduces (n : Int) (w : World) (w0 : (Lit.int .i64 n).wf = true) : Calls Try.prog 3 #[.int .i64 n] w fun e w' => e = .returned (.bool true) ∧ Below w.heap.size w w' := by
  have h1 := Lib.hid (Reduce_any n)
  have h2 := Lib.hid (RReduce_any n)
  have h3 := Lib.hid (Next_any n)
  have h4 := Lib.hid (RNext_any n)
  obtain ⟨x, hx⟩ : ∃ x, n % 128 = x := ⟨_, rfl⟩
  obtain ⟨y, hy⟩ : ∃ y, (n + 1) % 128 = y := ⟨_, rfl⟩
  rw [hx] at h1 h2
  rw [hy] at h3 h4
  clear hx hy w0
  go_enter Try.func3, Try.ntmps3
  go_wp2_with (first
    | (go_at_call 11; refine (h1.out _).mono ?_; rintro e w' ⟨rfl, rfl⟩)
    | (go_at_call 12; refine (h2.out _).mono ?_; rintro e w' ⟨rfl, rfl⟩)
    | (go_at_call 13; refine (h3.out _).mono ?_; rintro e w' ⟨rfl, rfl⟩)
    | (go_at_call 14; refine (h4.out _).mono ?_; rintro e w' ⟨rfl, rfl⟩)
    | (go_at_call 15; refine (awake_any _).mono ?_; rintro e w2 ⟨rfl, hb2⟩))
  go_ret
  exact ⟨rfl, hb2⟩
theorem ways (a b : Int) (w : World) (w0 : (Lit.int .i64 a).wf = true) (w1 : (Lit.int .i64 b).wf = true) : Calls Try.prog 4 #[.int .i64 a, .int .i64 b] w fun e w' => e = .returned (.bool true) ∧ Below w.heap.size w w' := by
  have h1 := Lib.hid (Way_any a b)
  have h2 := Lib.hid (RWay_any a b)
  obtain ⟨x, hx⟩ : ∃ x, (b - a) % 128 = x := ⟨_, rfl⟩
  rw [hx] at h1 h2
  clear hx w0 w1
  go_enter Try.func4, Try.ntmps4
  go_wp2_with (first
    | (go_at_call 16; refine (h1.out _).mono ?_; rintro e w' ⟨rfl, rfl⟩)
    | (go_at_call 17; refine (h2.out _).mono ?_; rintro e w' ⟨rfl, rfl⟩)
    | (go_at_call 15; refine (awake_any _).mono ?_; rintro e w2 ⟨rfl, hb2⟩))
  go_ret
  exact ⟨rfl, hb2⟩
theorem ins (a s n : Int) (w : World) (w0 : (Lit.int .i64 a).wf = true) (w1 : (Lit.int .i64 s).wf = true) (w2 : (Lit.int .i64 n).wf = true) : Calls Try.prog 5 #[.int .i64 a, .int .i64 s, .int .i64 n] w fun e w' => e = .returned (.bool true) ∧ Below w.heap.size w w' := by
  have h1 := Lib.hid (In_any a s n)
  have h2 := Lib.hid (RIn_any a s n)
  obtain ⟨x, hx⟩ : ∃ x, decide ((n - a) % 128 < s) = x := ⟨_, rfl⟩
  rw [hx] at h1 h2
  clear hx w0 w1 w2
  cases x
  all_goals
    go_enter Try.func5, Try.ntmps5
    go_wp2_with (first
      | (go_at_call 18; refine (h1.out _).mono ?_; rintro e w' ⟨rfl, rfl⟩)
      | (go_at_call 19; refine (h2.out _).mono ?_; rintro e w' ⟨rfl, rfl⟩)
      | (go_at_call 15; refine (awake_any _).mono ?_; rintro e w2 ⟨rfl, hb2⟩))
    go_ret
    exact ⟨rfl, hb2⟩
set_option maxRecDepth 100000 in
set_option maxHeartbeats 2000000 in
theorem round (a b c : Int) (w : World) (w0 : (Lit.int .i64 a).wf = true) (w1 : (Lit.int .i64 b).wf = true) (w2 : (Lit.int .i64 c).wf = true) : Calls Try.prog 8 #[.int .i64 a, .int .i64 b, .int .i64 c] w fun e w' => e = .returned (.bool true) ∧ Below w.heap.size w w' := by
  have h1 := Lib.hid (Way_any a b)
  have h2 := Lib.hid (Way_any b c)
  have h3 := Lib.hid (Way_any a c)
  have h4 := Lib.hid (Way_any b a)
  have h5 := Lib.hid (Reduce_any a)
  have h6 := Lib.hid (Reduce_any b)
  obtain ⟨x, hx⟩ : ∃ x, (b - a) % 128 = x := ⟨_, rfl⟩
  obtain ⟨y, hy⟩ : ∃ y, (c - b) % 128 = y := ⟨_, rfl⟩
  obtain ⟨z, hz⟩ : ∃ z, (c - a) % 128 = z := ⟨_, rfl⟩
  obtain ⟨v, hv⟩ : ∃ v, (a - b) % 128 = v := ⟨_, rfl⟩
  obtain ⟨p, hp⟩ : ∃ p, a % 128 = p := ⟨_, rfl⟩
  obtain ⟨q, hq⟩ : ∃ q, b % 128 = q := ⟨_, rfl⟩
  rw [hx] at h1
  rw [hy] at h2
  rw [hz] at h3
  rw [hv] at h4
  rw [hp] at h5
  rw [hq] at h6
  have x0 : ¬ x < 0 := by omega
  have x1 : ¬ 127 < x := by omega
  have y0 : ¬ y < 0 := by omega
  have y1 : ¬ 127 < y := by omega
  have e5 : x = 0 → y % 128 = z := by omega
  have e1 : wrap64 (x + y) = x + y := fits ⟨by omega, by omega⟩
  have e2 : Int.tmod (x + y) 128 = z := by rw [Int.tmod_eq_emod_of_nonneg (by omega)]; omega
  have hxv : (x = 0 ∧ v = 0 ∧ p = q) ∨ (v = 128 - x ∧ x ≠ 0 ∧ p ≠ q) := by omega
  clear hx hy hz hv hp hq w0 w1 w2
  rcases hxv with ⟨rfl, rfl, rfl⟩ | ⟨hv, hx0, hpq⟩
  · have e6 := e5 rfl
    clear e5
    go_enter Try.func8, Try.ntmps8
    go_wp2_with (first
      | (go_at_call 16; with_reducible refine (h1.out _).mono ?_; rintro e w' ⟨rfl, rfl⟩)
      | (go_at_call 16; with_reducible refine (h2.out _).mono ?_; rintro e w' ⟨rfl, rfl⟩)
      | (go_at_call 16; with_reducible refine (h3.out _).mono ?_; rintro e w' ⟨rfl, rfl⟩)
      | (go_at_call 16; with_reducible refine (h4.out _).mono ?_; rintro e w' ⟨rfl, rfl⟩)
      | (go_at_call 11; with_reducible refine (h5.out _).mono ?_; rintro e w' ⟨rfl, rfl⟩)
      | (go_at_call 11; with_reducible refine (h6.out _).mono ?_; rintro e w' ⟨rfl, rfl⟩)
      | (go_at_call 15; refine (awake_any _).mono ?_; rintro e w2 ⟨rfl, hb2⟩))
    go_ret
    exact ⟨rfl, hb2⟩
  · have e3 : wrap64 (x + v) = 128 := by rw [hv, show x + (128 - x) = 128 by omega]; exact fits ⟨by decide, by decide⟩
    have e4 : (p == q) = false := by simp [hpq]
    clear hv hpq hx0 e5
    go_enter Try.func8, Try.ntmps8
    go_wp2_with (first
      | (go_at_call 16; with_reducible refine (h1.out _).mono ?_; rintro e w' ⟨rfl, rfl⟩)
      | (go_at_call 16; with_reducible refine (h2.out _).mono ?_; rintro e w' ⟨rfl, rfl⟩)
      | (go_at_call 16; with_reducible refine (h3.out _).mono ?_; rintro e w' ⟨rfl, rfl⟩)
      | (go_at_call 16; with_reducible refine (h4.out _).mono ?_; rintro e w' ⟨rfl, rfl⟩)
      | (go_at_call 11; with_reducible refine (h5.out _).mono ?_; rintro e w' ⟨rfl, rfl⟩)
      | (go_at_call 11; with_reducible refine (h6.out _).mono ?_; rintro e w' ⟨rfl, rfl⟩)
      | (go_at_call 15; refine (awake_any _).mono ?_; rintro e w2 ⟨rfl, hb2⟩))
    go_ret
    exact ⟨rfl, hb2⟩
set_option maxHeartbeats 1000000 in
theorem halves (a s n : Int) (w : World) (w0 : (Lit.int .i64 a).wf = true) (w1 : (Lit.int .i64 s).wf = true) (w2 : (Lit.int .i64 n).wf = true) : Calls Try.prog 10 #[.int .i64 a, .int .i64 s, .int .i64 n] w fun e w' => e = .returned (.bool true) ∧ Below w.heap.size w w' := by
  by_cases hs0 : s < 0
  · go_enter Try.func10, Try.ntmps10
    go_wp2_with (go_at_call 15; refine (awake_any _).mono ?_; rintro e w2 ⟨rfl, hb2⟩)
    go_ret
    exact ⟨rfl, hb2⟩
  · by_cases hs1 : 64 < s
    · go_enter Try.func10, Try.ntmps10
      go_wp2_with (go_at_call 15; refine (awake_any _).mono ?_; rintro e w2 ⟨rfl, hb2⟩)
      go_ret
      exact ⟨rfl, hb2⟩
    · have h1 := Lib.hid (In_any a s n)
      have h2 := Lib.hid (Reduce_any a)
      obtain ⟨o, ho⟩ : ∃ o, wrap64 (a % 128 - s) = o := ⟨_, rfl⟩
      have h3 := Lib.hid (In_any o s n)
      have hw : o % 128 = (a % 128 - s) % 128 := by rw [← ho, wrap_mod]
      obtain ⟨p, hp⟩ : ∃ p, a % 128 = p := ⟨_, rfl⟩
      rw [hp] at h2 ho hw
      by_cases hx : (n - a) % 128 < s
      · have hy : ¬ (n - o) % 128 < s := by omega
        rw [decide_eq_true hx] at h1
        rw [decide_eq_false hy] at h3
        clear hx hy hw hp w0 w1 w2
        go_enter Try.func10, Try.ntmps10
        go_wp2_with (first
          | (go_at_call 11; refine (h2.out _).mono ?_; rintro e w' ⟨rfl, rfl⟩)
          | (go_at_call 18; with_reducible refine (h1.out _).mono ?_; rintro e w' ⟨rfl, rfl⟩)
          | (go_at_call 18; with_reducible refine (h3.out _).mono ?_; rintro e w' ⟨rfl, rfl⟩)
          | (go_at_call 15; refine (awake_any _).mono ?_; rintro e w2 ⟨rfl, hb2⟩))
        go_ret
        exact ⟨rfl, hb2⟩
      · rw [decide_eq_false hx] at h1
        clear hx hw hp w0 w1 w2
        go_enter Try.func10, Try.ntmps10
        go_wp2_with (first
          | (go_at_call 11; refine (h2.out _).mono ?_; rintro e w' ⟨rfl, rfl⟩)
          | (go_at_call 18; with_reducible refine (h1.out _).mono ?_; rintro e w' ⟨rfl, rfl⟩)
          | (go_at_call 15; refine (awake_any _).mono ?_; rintro e w2 ⟨rfl, hb2⟩))
        go_ret
        exact ⟨rfl, hb2⟩
end Go.Proofs.Ytbfboiakhkojnaa.Wn
