/- The law's own question 'does the program answer at all?' is answered true, whatever the memory. -/
import Derived.Test.YtbfboiakhkojnaaWSort
namespace Go.Proofs.Ytbfboiakhkojnaa.Wn
open Go.RowKit
open Go.Proofs.Ytbfboiakhkojnaa.Mi
set_option linter.unusedVariables false
set_option linter.unusedSimpArgs false

set_option maxRecDepth 100000 in
set_option maxHeartbeats 1000000 in
theorem awake_any (w : World) : Calls Try.prog 15 #[] w fun e w' => e = .returned (.bool true) ∧ Below w.heap.size w w' := by
  have h1 : Hid (∀ w, Calls Try.prog 16 #[.int .i64 126, .int .i64 3] w fun e w' => e = .returned (.int .i64 5) ∧ w = w') := Way_any 126 3
  have h2 : Hid (∀ w, Calls Try.prog 18 #[.int .i64 126, .int .i64 4, .int .i64 1] w fun e w' => e = .returned (.bool true) ∧ w = w') := In_any 126 4 1
  have h3 : Hid (∀ w, Calls Try.prog 18 #[.int .i64 126, .int .i64 4, .int .i64 2] w fun e w' => e = .returned (.bool false) ∧ w = w') := In_any 126 4 2
  have hp : pick (has [1, 127]) 126 128 = [127, 1] := by decide +kernel
  have hr : Hid (Rd (w.alloc (.cells #[.int .i64 1, .int .i64 127] 3)) (w.alloc (.cells #[.int .i64 1, .int .i64 127] 3)).heap.size (some ⟨w.heap.size, 0, none⟩) [1, 127]) := by
    have := rd_lit (w := w) [1, 127] 3
    rw [World.size_alloc]; exact this
  have h4 := Lib.hid (Sort_any 126 (some ⟨w.heap.size, 0, none⟩) 2 [1, 127] _ hr (by decide))
  rw [hp] at h4
  clear hp
  have h5 := fun (w1 : World) (A : Option Addr) (c : Nat) (hA : Rd w1 w1.heap.size A [127, 1]) => Same_one A (some ⟨w1.heap.size, 0, none⟩) 2 2 c 2 [127, 1] (w1.alloc (.cells #[.int .i64 127, .int .i64 1] 3)) ((hA.below ((Below.refl _ w1).alloc (Nat.le_refl _) _)).more (by simp)) (by have := rd_lit (w := w1) [127, 1] 3; rw [World.size_alloc]; exact this) rfl rfl (by decide)
  have H5 := Lib.hid h5
  clear h5
  go_enter Try.func15, Try.ntmps15
  go_wp2_with (first
    | (go_at_call 16; refine (h1.out _).mono ?_; rintro e w' ⟨rfl, rfl⟩)
    | (go_at_call 18; with_reducible refine (h2.out _).mono ?_; rintro e w' ⟨rfl, rfl⟩)
    | (go_at_call 18; with_reducible refine (h3.out _).mono ?_; rintro e w' ⟨rfl, rfl⟩)
    | (go_at_call 23; refine h4.out.mono ?_; rintro e w1 ⟨v1, rfl, ho1, hb1⟩; obtain ⟨A1, c1, rfl, _, _, g3, _, _⟩ := Mi.Own.form ho1.out; have HR1 := Lib.hid g3; clear g3 ho1)
    | (go_at_call 22; refine (H5.out _ _ _ HR1.out).mono ?_; rintro e w2 ⟨rfl, hb2⟩))
  go_ret
  refine ⟨rfl, ?_⟩
  have b1 : Below w.heap.size w w1 := (below_alloc (Below.refl _ w)).trans (hb1.out.mono (by simp))
  exact (below_alloc b1).trans (hb2.out.mono (by have := b1.size; simp; omega))
theorem awake_below {w0 w : World} (hb : Hid (Below w0.heap.size w0 w)) : Calls Try.prog 15 #[] w fun e w' => e = .returned (.bool true) ∧ Hid (Below w0.heap.size w0 w') :=
  (awake_any w).mono fun _ _ ⟨he, h⟩ => ⟨he, hb.out.trans (h.mono hb.out.size)⟩
end Go.Proofs.Ytbfboiakhkojnaa.Wn
