/- The walk of the law DiskNil. -/
import Derived.Test.YtdjgkoklkoahbaaDkWoke
namespace Go.Proofs.Ytdjgkoklkoahbaa.Dk
open Go.RowKit
open Go.Proofs.Ytdjgkoklkoahbaa.Me Go.Proofs.Ytdjgkoklkoahbaa.Hd
set_option linter.unusedVariables false
set_option linter.unusedSimpArgs false

set_option maxRecDepth 100000 in
set_option maxHeartbeats 4000000 in
theorem dnil_any (k n : Int) (nm to : ByteArray) (p kp : Value) (w : World) : Calls Try.prog 8 #[.agg #[.int .i64 k, .string nm, .string to, p, .int .i64 n, kp]] w fun e w' => e = .returned (.bool true) ∧ Below w.heap.size w w' := by
  have HR := Lib.hid Read_nil
  have HA := Lib.hid Append_nil
  have HS := Lib.hid Sync_nil
  have HC := Lib.hid Cut_nil
  have HN := Lib.hid Rename_nil
  have HM := Lib.hid Remove_nil
  have HF := Lib.hid Safe_nil
  have HNm := Lib.hid Names_nil
  have HU := Lib.hid Used_nil
  have HL := Lib.hid Limit_nil
  have HAr := Lib.hid Arm_nil
  have HD := Lib.hid Down_nil
  have HCr := Lib.hid Crash_nil
  have HFk := Lib.hid Fork_nil
  have HW := Lib.hid awake_any
  obtain ⟨s, hs⟩ : ∃ s, w.heap.size = s := ⟨_, rfl⟩
  obtain ⟨w0, hw0⟩ : ∃ w0, w.alloc (.cells #[.int .i64 k, .string nm, .string to, p, .int .i64 n, kp] 36) = w0 := ⟨_, rfl⟩
  have HB0 : Hid (Below s w w0) := by show Below s w w0; rw [← hw0, ← hs]; exact Me.below_alloc (Below.refl _ _)
  have hsz : w0.heap.size = s + 1 := by rw [← hw0, ← hs]; simp
  have HSZ := Lib.hid hsz
  have hrow : w0.heap[s]? = some (.cells #[.int .i64 k, .string nm, .string to, p, .int .i64 n, kp] 36 (0, 0)) := by rw [← hw0, ← hs]; exact heap_alloc_new _ _
  have HK : Hid (∀ W, Below w0.heap.size w0 W → W.cell? ⟨s, 1, none⟩ = some (.string nm) ∧ W.cell? ⟨s, 2, none⟩ = some (.string to) ∧ W.cell? ⟨s, 3, none⟩ = some p ∧ W.cell? ⟨s, 4, none⟩ = some (.int .i64 n) ∧ W.cell? ⟨s, 5, none⟩ = some kp) := fun W hb => by
    have h := (hb.block s (by omega)).trans hrow
    exact ⟨cell_of_row W s 1 _ _ (0, 0) h, cell_of_row W s 2 _ _ (0, 0) h, cell_of_row W s 3 _ _ (0, 0) h, cell_of_row W s 4 _ _ (0, 0) h, cell_of_row W s 5 _ _ (0, 0) h⟩
  have HO : Hid (∀ W, Below w0.heap.size w0 W → Below s w W) := fun W hb => HB0.out.trans (hb.mono (by omega))
  have HS0 := Lib.hid hs
  rw [← hs] at HK
  obtain ⟨a1, a2, a3, a4, a5⟩ := HK.out w0 (Below.refl _ _)
  rw [← hw0] at a1
  have HW0 := Lib.hid hw0
  clear hs hw0 hsz hrow
  go_enter Try.func8, Try.ntmps8
  go_wp2_with (first
    | (go_at_call 20; rw [HW0.out]; refine (HR.out _ _).mono ?_; rintro e w1 ⟨rfl, b1⟩; obtain ⟨c1, c2, c3, c4, c5⟩ := HK.out w1 b1; have B1 := Lib.hid b1; clear b1)
    | (go_at_call 14; refine (HA.out _ _ _).mono ?_; rintro e w2 ⟨rfl, b2⟩; have B2 : Hid (Below w0.heap.size w0 w2) := B1.out.trans (b2.mono B1.out.size); clear b2 c1 c2 c3 c4 c5; obtain ⟨c1, c2, c3, c4, c5⟩ := HK.out w2 B2.out)
    | (go_at_call 23; refine (HS.out _ _).mono ?_; rintro e w3 ⟨rfl, b2⟩; have B3 : Hid (Below w0.heap.size w0 w3) := B2.out.trans (b2.mono B2.out.size); clear b2 c1 c2 c3 c4 c5; obtain ⟨c1, c2, c3, c4, c5⟩ := HK.out w3 B3.out)
    | (go_at_call 26; refine (HC.out _ _ _).mono ?_; rintro e w4 ⟨rfl, b2⟩; have B4 : Hid (Below w0.heap.size w0 w4) := B3.out.trans (b2.mono B3.out.size); clear b2 c1 c2 c3 c4 c5; obtain ⟨c1, c2, c3, c4, c5⟩ := HK.out w4 B4.out)
    | (go_at_call 27; refine (HN.out _ _ _).mono ?_; rintro e w5 ⟨rfl, b2⟩; have B5 : Hid (Below w0.heap.size w0 w5) := B4.out.trans (b2.mono B4.out.size); clear b2 c1 c2 c3 c4 c5; obtain ⟨c1, c2, c3, c4, c5⟩ := HK.out w5 B5.out)
    | (go_at_call 28; refine (HM.out _ _).mono ?_; rintro e w6 ⟨rfl, b2⟩; have B6 : Hid (Below w0.heap.size w0 w6) := B5.out.trans (b2.mono B5.out.size); clear b2 c1 c2 c3 c4 c5; obtain ⟨c1, c2, c3, c4, c5⟩ := HK.out w6 B6.out)
    | (go_at_call 21; refine (HF.out _ _).mono ?_; rintro e w' ⟨rfl, rfl⟩)
    | (go_at_call 19; refine (HNm.out _).mono ?_; rintro e w' ⟨rfl, rfl⟩)
    | (go_at_call 25; refine (HU.out _).mono ?_; rintro e w' ⟨rfl, rfl⟩)
    | (go_at_call 30; refine (HL.out _ _).mono ?_; rintro e w' ⟨rfl, rfl⟩)
    | (go_at_call 29; refine (HAr.out _ _).mono ?_; rintro e w' ⟨rfl, rfl⟩)
    | (go_at_call 22; refine (HD.out _).mono ?_; rintro e w' ⟨rfl, rfl⟩)
    | (go_at_call 13; refine (HCr.out _ _).mono ?_; rintro e w' ⟨rfl, rfl⟩)
    | (go_at_call 12; refine (HFk.out _).mono ?_; rintro e w' ⟨rfl, rfl⟩)
    | (go_at_call 11; refine (HW.out _).mono ?_; rintro e w9 ⟨rfl, hb9⟩))
  go_ret
  exact ⟨rfl, HS0.out ▸ HO.out _ (B6.out.trans (hb9.out.mono B6.out.size))⟩
theorem dnil (z : DAc) (r s : Option Addr × Nat) (w : World) (h : AcIn w z r s) : Calls Try.prog 8 #[.agg (acV z r s).toArray] w fun e w' => e = .returned (.bool true) ∧ Below w.heap.size w w' :=
  dnil_any z.k z.n ⟨z.name.toArray⟩ ⟨z.to.toArray⟩ (.slice r.1 z.p.length r.2) (.slice s.1 z.keep.length s.2) w
end Go.Proofs.Ytdjgkoklkoahbaa.Dk
