/- The walk of the law WindowTurns. -/
import Derived.Test.YtbfboiakhkojnaaWWoke
import Derived.Deep.RegionHeld
namespace Go.Proofs.Ytbfboiakhkojnaa.Wn
open Go.RowKit
open Go.Proofs.Ytbfboiakhkojnaa.Mi
set_option linter.unusedVariables false
set_option linter.unusedSimpArgs false

set_option maxHeartbeats 4000000 in
theorem turns (a s n b : Int) (w : World) (w0 : (Lit.int .i64 a).wf = true) (w1 : (Lit.int .i64 s).wf = true) (w2 : (Lit.int .i64 n).wf = true) (w3 : (Lit.int .i64 b).wf = true) : Calls Try.prog 9 #[.agg #[.int .i64 a, .int .i64 s], .int .i64 n, .int .i64 b] w fun e w' => e = .returned (.bool true) ∧ Below w.heap.size w w' := by
  have h1 := Lib.hid (Reduce_any a)
  have h2 := Lib.hid (Reduce_any b)
  have h3 := Lib.hid (Reduce_any n)
  have e1 : wrap64 (a % 128 + b % 128) = a % 128 + b % 128 := fits ⟨by omega, by omega⟩
  have e2 : wrap64 (n % 128 + b % 128) = n % 128 + b % 128 := fits ⟨by omega, by omega⟩
  obtain ⟨p, hp⟩ : ∃ p, a % 128 = p := ⟨_, rfl⟩
  obtain ⟨q, hq⟩ : ∃ q, b % 128 = q := ⟨_, rfl⟩
  obtain ⟨r, hr⟩ : ∃ r, n % 128 = r := ⟨_, rfl⟩
  rw [hp] at h1 e1
  rw [hq] at h2 e1 e2
  rw [hr] at h3 e2
  obtain ⟨A, hA⟩ : ∃ A, p + q = A := ⟨_, rfl⟩
  obtain ⟨M, hM⟩ : ∃ M, r + q = M := ⟨_, rfl⟩
  replace e1 := e1.trans hA
  replace e2 := e2.trans hM
  have hs : (M - A) % 128 = (n - a) % 128 := by omega
  have f1 := fun (W : World) (hW : Below w.heap.size w W) => In_any a s n W
  have f2 := fun (W : World) (hW : Below w.heap.size w W) => In_any A s M W
  have f3 := fun (W : World) (hW : Below w.heap.size w W) => Way_any a n W
  have f4 := fun (W : World) (hW : Below w.heap.size w W) => Way_any A M W
  rw [hs] at f2 f4
  obtain ⟨x, hx⟩ : ∃ x, (n - a) % 128 = x := ⟨_, rfl⟩
  rw [hx] at f1 f2 f3 f4
  obtain ⟨d, hd⟩ : ∃ d, decide (x < s) = d := ⟨_, rfl⟩
  rw [hd] at f1 f2
  have F1 := Lib.hid f1
  have F2 := Lib.hid f2
  have F3 := Lib.hid f3
  have F4 := Lib.hid f4
  have c1 : (w.alloc (.cells #[.int .i64 a, .int .i64 s] 38)).cell? ⟨w.heap.size, 0, none⟩ = some (.int .i64 a) := by rw [cell_of_row _ w.heap.size 0 _ _ (0, 0) (heap_alloc_new w _)]; rfl
  have c2 : (w.alloc (.cells #[.int .i64 a, .int .i64 s] 38)).cell? ⟨w.heap.size, 1, none⟩ = some (.int .i64 s) := by rw [cell_of_row _ w.heap.size 1 _ _ (0, 0) (heap_alloc_new w _)]; rfl
  have hb0 : Below w.heap.size w (w.alloc (.cells #[.int .i64 a, .int .i64 s] 38)) := below_alloc (Below.refl _ _)
  have F5 : Hid (∀ W : World, (W.cell? ⟨w.heap.size, 0, none⟩ = some (.int .i64 a) ∧ W.cell? ⟨w.heap.size, 1, none⟩ = some (.int .i64 s) ∧ Below w.heap.size w W) → Calls Try.prog 15 #[] W fun e W' => e = .returned (.bool true) ∧ (W'.cell? ⟨w.heap.size, 0, none⟩ = some (.int .i64 a) ∧ W'.cell? ⟨w.heap.size, 1, none⟩ = some (.int .i64 s) ∧ Below w.heap.size w W')) :=
    fun W ⟨q1, q2, q3⟩ => (awake_any W).mono fun _ _ ⟨he, hb⟩ => ⟨he, (hb.cell (World.block_lt_of_cell? W _ q1)).trans q1, (hb.cell (World.block_lt_of_cell? W _ q2)).trans q2, q3.trans (hb.mono q3.size)⟩
  have C1 := Lib.hid c1
  have C2 := Lib.hid c2
  have HB0 := Lib.hid hb0
  clear hd hx hs hA hM hp hq hr f1 f2 f3 f4 w0 w1 w2 w3 c1 c2 hb0
  cases d
  all_goals
    go_enter Try.func9, Try.ntmps9
    go_wp2_with (first
      | (go_at_call 11; with_reducible refine (h1.out _).mono ?_; rintro e w' ⟨rfl, rfl⟩)
      | (go_at_call 11; with_reducible refine (h2.out _).mono ?_; rintro e w' ⟨rfl, rfl⟩)
      | (go_at_call 11; with_reducible refine (h3.out _).mono ?_; rintro e w' ⟨rfl, rfl⟩))
    go_region_held (fun W => W.cell? ⟨w.heap.size, 0, none⟩ = some (.int .i64 a) ∧ W.cell? ⟨w.heap.size, 1, none⟩ = some (.int .i64 s) ∧ Below w.heap.size w W)
      (first | assumption | exact ⟨C1.out, C2.out, HB0.out.drew⟩)
      (first
        | (go_at_call 18; ((with_reducible refine (F1.out _ ?_).mono ?_); (exact (And.right (And.right (by assumption)))); rintro e w1 ⟨rfl, rfl⟩))
        | (go_at_call 18; ((with_reducible refine (F2.out _ ?_).mono ?_); (exact (And.right (And.right (by assumption)))); rintro e w1 ⟨rfl, rfl⟩))
        | (go_at_call 16; ((with_reducible refine (F3.out _ ?_).mono ?_); (exact (And.right (And.right (by assumption)))); rintro e w1 ⟨rfl, rfl⟩))
        | (go_at_call 16; ((with_reducible refine (F4.out _ ?_).mono ?_); (exact (And.right (And.right (by assumption)))); rintro e w1 ⟨rfl, rfl⟩))
        | (go_at_call 15; refine (F5.out _ ?_).mono ?_; (exact (by assumption)); rintro e w2 ⟨rfl, hS2⟩))
    all_goals
      rename_i hfin
      go_wp2
      go_ret
      exact ⟨rfl, hfin.2.2⟩
end Go.Proofs.Ytbfboiakhkojnaa.Wn
