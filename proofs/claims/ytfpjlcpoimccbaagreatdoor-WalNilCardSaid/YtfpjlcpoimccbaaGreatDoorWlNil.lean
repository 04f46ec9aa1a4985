/- The calls of no log; the walk of the law WalNil. -/
import Derived.Test.YtfpjlcpoimccbaaGreatDoorZ18
import Derived.Handy
namespace Go.Proofs.YtfpjlcpoimccbaaGreatDoor.Wl
open Go.RowKit
open Go.Proofs.YtfpjlcpoimccbaaGreatDoor.Me Go.Proofs.YtfpjlcpoimccbaaGreatDoor.Hd Go.Proofs.YtfpjlcpoimccbaaGreatDoor.Dk
set_option linter.unusedVariables false
set_option linter.unusedSimpArgs false

theorem Sync_nil (w : World) : Calls Tryz.prog 13 #[.pointer none] w fun e w' => e = .returned (.int .i64 7) ∧ w = w' := by
  go_enter Tryz.func13, Tryz.ntmps13
  go_wp2
  go_ret
  exact ⟨rfl, rfl⟩
theorem Begin_nil (w : World) : Calls Tryz.prog 14 #[.pointer none] w fun e w' => e = .returned (.tuple #[.int .i64 0, .int .i64 7]) ∧ w = w' := by
  go_enter Tryz.func14, Tryz.ntmps14
  go_wp2_with (go_at_call 13; refine (Sync_nil _).mono ?_; rintro e w' ⟨rfl, rfl⟩)
  go_returns
  exact ⟨rfl, rfl⟩
theorem Append_nil (v : Value) (w : World) : Calls Tryz.prog 12 #[.pointer none, v] w fun e w' => e = .returned (.int .i64 7) ∧ w = w' := by
  go_enter Tryz.func12, Tryz.ntmps12
  go_wp2
  go_ret
  exact ⟨rfl, rfl⟩
theorem Drop_nil (n : Int) (w : World) : Calls Tryz.prog 26 #[.pointer none, .int .i64 n] w fun e w' => e = .returned (.int .i64 7) ∧ Hid (Below w.heap.size w w') := by
  go_enter Tryz.func26, Tryz.ntmps26
  go_wp2
  go_ret
  exact ⟨rfl, by show Below _ _ _; repeat (first | exact Below.refl _ _ | apply Me.below_alloc)⟩
theorem First_nil (w : World) : Calls Tryz.prog 27 #[.pointer none] w fun e w' => e = .returned (.int .i64 0) ∧ w = w' := by
  go_enter Tryz.func27, Tryz.ntmps27
  go_wp2
  go_ret
  exact ⟨rfl, rfl⟩
theorem Last_nil (w : World) : Calls Tryz.prog 22 #[.pointer none] w fun e w' => e = .returned (.int .i64 0) ∧ w = w' := by
  go_enter Tryz.func22, Tryz.ntmps22
  go_wp2
  go_ret
  exact ⟨rfl, rfl⟩
theorem Size_nil (w : World) : Calls Tryz.prog 23 #[.pointer none] w fun e w' => e = .returned (.int .i64 0) ∧ Hid (Below w.heap.size w w') := by
  go_enter Tryz.func23, Tryz.ntmps23
  go_wp2
  go_ret
  exact ⟨rfl, by show Below _ _ _; repeat (first | exact Below.refl _ _ | apply Me.below_alloc)⟩
theorem Open_nil (n : Int) (w : World) : Calls Tryz.prog 17 #[.pointer none, .int .i64 n, .int .i64 20] w fun e w' => e = .returned (.tuple #[.pointer none, .slice none 0 0, .int .i64 7]) ∧ Hid (Below w.heap.size w w') := by
  go_enter Tryz.func17, Tryz.ntmps17
  go_wp2
  go_returns
  exact ⟨rfl, by show Below _ _ _; repeat (first | exact Below.refl _ _ | apply Me.below_alloc)⟩
set_option maxRecDepth 100000 in
set_option maxHeartbeats 2000000 in
theorem wnil (a0 a1 : Int) (v2 v3 : Value) (w : World) : Calls Tryz.prog 6 #[.agg #[.int .i64 a0, .int .i64 a1, v2, v3]] w fun e w' => e = .returned (.bool true) ∧ Below w.heap.size w w' := by
  have HS := Lib.hid Sync_nil
  have HG := Lib.hid Begin_nil
  have HA := Lib.hid Append_nil
  have HD := Lib.hid Drop_nil
  have HF := Lib.hid First_nil
  have HL := Lib.hid Last_nil
  have HZ := Lib.hid Size_nil
  have HO := Lib.hid Open_nil
  obtain ⟨w1, hw1⟩ : ∃ w1, w.alloc (.cells #[.int .i64 a0, .int .i64 a1, v2, v3] 34) = w1 := ⟨_, rfl⟩
  have HW1 := Lib.hid hw1
  have B1 : Hid (Below w.heap.size w w1) := by
    show Below _ _ _
    rw [← hw1]; exact Me.below_alloc (Below.refl _ _)
  have HC : Hid (∀ W, Below w1.heap.size w1 W → W.cell? ⟨w.heap.size, 1, none⟩ = some (.int .i64 a1) ∧ W.cell? ⟨w.heap.size, 2, none⟩ = some v2) := fun W hW => by
    have hl : w.heap.size < w1.heap.size := by rw [← hw1]; simp
    rw [hW.cell (p := ⟨w.heap.size, 1, none⟩) hl, hW.cell (p := ⟨w.heap.size, 2, none⟩) hl, ← hw1]
    exact ⟨cell_of_row _ w.heap.size 1 _ _ (0, 0) (heap_alloc_new w _), cell_of_row _ w.heap.size 2 _ _ (0, 0) (heap_alloc_new w _)⟩
  obtain ⟨x1, x2⟩ := HC.out w1 (Below.refl _ _)
  clear hw1
  go_enter Tryz.func6, Tryz.ntmps6
  go_wp2_with (first
    | (go_at_call 14; try rw [HW1.out]; refine (HG.out _).mono ?_; rintro e w' ⟨rfl, rfl⟩)
    | (go_at_call 17; refine (HO.out _ _).mono ?_; rintro e w2 ⟨rfl, b2⟩; obtain ⟨y1, y2⟩ := HC.out w2 b2.out)
    | (go_at_call 12; refine (HA.out _ _).mono ?_; rintro e w' ⟨rfl, rfl⟩)
    | (go_at_call 13; refine (HS.out _).mono ?_; rintro e w' ⟨rfl, rfl⟩)
    | (go_at_call 26; refine (HD.out _ _).mono ?_; rintro e w3 ⟨rfl, b3⟩)
    | (go_at_call 27; refine (HF.out _).mono ?_; rintro e w' ⟨rfl, rfl⟩)
    | (go_at_call 22; refine (HL.out _).mono ?_; rintro e w' ⟨rfl, rfl⟩)
    | (go_at_call 23; refine (HZ.out _).mono ?_; rintro e w4 ⟨rfl, b4⟩; have B4 : Hid (Below w.heap.size w w4) := ((B1.out.trans (b2.out.mono B1.out.size)).trans (b3.out.mono (Nat.le_trans B1.out.size b2.out.size))).trans (b4.out.mono (Nat.le_trans B1.out.size (Nat.le_trans b2.out.size b3.out.size))))
    | (go_at_call 9; refine (awake_below B4).mono ?_; rintro e w5 ⟨rfl, b5⟩))
  go_ret
  exact ⟨rfl, b5.out⟩
end Go.Proofs.YtfpjlcpoimccbaaGreatDoor.Wl
