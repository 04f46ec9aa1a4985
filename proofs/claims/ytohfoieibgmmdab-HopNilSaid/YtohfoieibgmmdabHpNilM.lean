/- The other calls of no desk: Tick, Offered, Reset. -/
import Derived.Test.YtohfoieibgmmdabHpPlanW
namespace Go.Proofs.Ytohfoieibgmmdab.Hp
open Go.RowKit Go.Maps
open Go.Proofs.Ytohfoieibgmmdab.Me Go.Proofs.Ytohfoieibgmmdab.Sb
set_option linter.unusedVariables false
set_option linter.unusedSimpArgs false

theorem Tick_nil (w : World) : Calls Try.prog 5 #[.pointer none] w fun e w' => e = .returned (.int .i64 7) ∧ w = w' := by
  go_enter Try.func5, Try.ntmps5
  go_wp2
  go_ret
  exact ⟨rfl, rfl⟩
theorem Offered_nil (n : Int) (w : World) : Calls Try.prog 11 #[.pointer none, .int .i64 n] w fun e w' => e = .returned (.slice none 0 0) ∧ w = w' := by
  go_enter Try.func11, Try.ntmps11
  go_wp2
  go_ret
  exact ⟨rfl, rfl⟩
theorem Reset_nil (n : Int) (w : World) : Calls Try.prog 10 #[.pointer none, .int .i64 n] w fun e w' => e = .returned (.int .i64 0) ∧ w = w' := by
  have HO := Lib.hid (fun W => Offered_nil n W)
  go_enter Try.func10, Try.ntmps10
  go_wp2_with (go_at_call 11; refine (HO.out _).mono ?_; rintro e w1 ⟨rfl, rfl⟩)
  go_loopw [13] (fun v wr => v = .int .i64 0 ∧ Hid (w = wr)) (fun _ _ => 0)
  case atStart => exact ⟨rfl, rfl⟩
  case round =>
    obtain ⟨rfl, HW⟩ := hrel
    go_wp2
    go_ret
    exact ⟨rfl, HW.out⟩
end Go.Proofs.Ytohfoieibgmmdab.Hp
