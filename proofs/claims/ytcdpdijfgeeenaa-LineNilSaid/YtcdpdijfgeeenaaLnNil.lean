/- The calls of no line; the walk of the law LineNil. -/
import Derived.Test.YtcdpdijfgeeenaaLnWoke
import Derived.Test.YtcdpdijfgeeenaaLnIn
namespace Go.Proofs.Ytcdpdijfgeeenaa.Li
open Go.RowKit
open Go.Proofs.Ytcdpdijfgeeenaa.Sb
set_option linter.unusedVariables false
set_option linter.unusedSimpArgs false

theorem Drop_nil (k n : Int) (w : World) : Calls Try.prog 18 #[.pointer none, .int .i64 k, .int .i64 n] w fun e w' => e = .returned (.int .i64 7) ∧ w = w' := by
  go_enter Try.func18, Try.ntmps18
  go_wp2
  go_ret
  exact ⟨rfl, rfl⟩
theorem Insert_nil (k : Int) (b : Value) (w : World) : Calls Try.prog 17 #[.pointer none, .int .i64 k, b] w fun e w' => e = .returned (.int .i64 7) ∧ w = w' := by
  go_enter Try.func17, Try.ntmps17
  go_wp2
  go_ret
  exact ⟨rfl, rfl⟩
set_option maxRecDepth 100000 in
set_option maxHeartbeats 2000000 in
theorem lnil (a0 a1 a2 : Int) (A : Option Addr) (n c : Nat) (w : World) : Calls Try.prog 6 #[.agg #[.int .i64 a0, .int .i64 a1, .int .i64 a2, .slice A n c]] w fun e w' => e = .returned (.bool true) ∧ Below w.heap.size w w' := by
  have HP := Lib.hid Put_nil
  have HT := Lib.hid Tick_nil
  have HK := Lib.hid Take_nil
  have HD := Lib.hid Drop_nil
  have HF := Lib.hid Flip_nil
  have HI := Lib.hid Insert_nil
  have HB := Lib.hid Bytes_nil
  have HL := Lib.hid Len_nil
  have HA := Lib.hid awake_any
  go_enter Try.func6, Try.ntmps6
  go_wp2_with (first
    | (go_at_call 14; with_reducible refine (HP.out _ _).mono ?_; rintro e w' ⟨rfl, rfl⟩)
    | (go_at_call 16; with_reducible refine (HT.out _).mono ?_; rintro e w' ⟨rfl, rfl⟩)
    | (go_at_call 15; with_reducible refine (HK.out _).mono ?_; rintro e w' ⟨rfl, rfl⟩)
    | (go_at_call 18; with_reducible refine (HD.out _ _ _).mono ?_; rintro e w' ⟨rfl, rfl⟩)
    | (go_at_call 19; with_reducible refine (HF.out _ _ _).mono ?_; rintro e w' ⟨rfl, rfl⟩)
    | (go_at_call 17; with_reducible refine (HI.out _ _ _).mono ?_; rintro e w' ⟨rfl, rfl⟩)
    | (go_at_call 11; with_reducible refine (HB.out _).mono ?_; rintro e w' ⟨rfl, rfl⟩)
    | (go_at_call 13; with_reducible refine (HL.out _).mono ?_; rintro e w' ⟨rfl, rfl⟩)
    | (go_at_call 9; refine (HA.out _).mono ?_; rintro e w' ⟨rfl, hb⟩))
  go_ret
  exact ⟨rfl, (Me.below_alloc (Below.refl _ _)).trans (hb.out.mono (by simp))⟩
end Go.Proofs.Ytcdpdijfgeeenaa.Li
