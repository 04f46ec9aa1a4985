/- RoutesNil. -/
import Derived.Test.YtablejhajilpiaaRtWoke
import Derived.Test.YtablejhajilpiaaRtIn
namespace Go.Proofs.Ytablejhajilpiaa.Rt
open Go.RowKit Go.Maps
open Go.Proofs.Ytablejhajilpiaa.Sb
set_option linter.unusedVariables false
set_option linter.unusedSimpArgs false
set_option maxRecDepth 100000 in
set_option maxHeartbeats 4000000 in
theorem routesNil (k d q : Int) (R : Option Addr) (n c : Nat) (w : World) : Calls Try.prog 8 #[.agg #[.int .i64 k, .int .i64 d, .int .i64 q, .slice R n c]] w fun e w' => e = .returned (.bool true) ∧ Below w.heap.size w w' := by
  have HB : Hid (Below w.heap.size w (w.alloc (.cells #[.int .i64 k, .int .i64 d, .int .i64 q, .slice R n c] 40))) := Mi.below_alloc (Below.refl _ _)
  have h1 := heap_alloc_new w (.cells #[.int .i64 k, .int .i64 d, .int .i64 q, .slice R n c] 40)
  have c1 : (w.alloc (.cells #[.int .i64 k, .int .i64 d, .int .i64 q, .slice R n c] 40)).cell? ⟨w.heap.size, 1, none⟩ = some (.int .i64 d) := cell_of_row _ _ 1 _ _ (0, 0) h1
  have c2 : (w.alloc (.cells #[.int .i64 k, .int .i64 d, .int .i64 q, .slice R n c] 40)).cell? ⟨w.heap.size, 2, none⟩ = some (.int .i64 q) := cell_of_row _ _ 2 _ _ (0, 0) h1
  have c3 : (w.alloc (.cells #[.int .i64 k, .int .i64 d, .int .i64 q, .slice R n c] 40)).cell? ⟨w.heap.size, 3, none⟩ = some (.slice R n c) := cell_of_row _ _ 3 _ _ (0, 0) h1
  have H1 := Lib.hid Next_nil
  have H2 := Lib.hid Set_nil
  have H3 := Lib.hid Hear_nil
  have H4 := Lib.hid Tick_nil
  have H5 := Lib.hid Cost_nil
  have H6 := Lib.hid Vector_nil
  have H7 := Lib.hid Heard_nil
  have HA := Lib.hid awake_any
  clear h1
  go_enter Try.func8, Try.ntmps8
  go_wp2_with (first
    | (go_at_call 16; refine (H1.out _ _).mono ?_; rintro e w' ⟨rfl, rfl⟩)
    | (go_at_call 30; refine (H2.out _ _ _).mono ?_; rintro e w' ⟨rfl, rfl⟩)
    | (go_at_call 23; refine (H3.out _ _ _).mono ?_; rintro e w' ⟨rfl, rfl⟩)
    | (go_at_call 24; refine (H4.out _).mono ?_; rintro e w' ⟨rfl, rfl⟩)
    | (go_at_call 18; refine (H5.out _ _).mono ?_; rintro e w' ⟨rfl, rfl⟩)
    | (go_at_call 21; refine (H6.out _ _).mono ?_; rintro e w' ⟨rfl, rfl⟩)
    | (go_at_call 14; refine (H7.out _).mono ?_; rintro e w' ⟨rfl, rfl⟩)
    | (go_at_call 11; refine (HA.out _).mono ?_; rintro e w' ⟨rfl, hb⟩))
  go_ret
  exact ⟨rfl, go_on HB.out hb.out⟩
end Go.Proofs.Ytablejhajilpiaa.Rt
