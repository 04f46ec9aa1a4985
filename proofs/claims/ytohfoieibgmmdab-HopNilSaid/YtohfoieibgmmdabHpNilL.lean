/- The law HopNil. -/
import Derived.Test.YtohfoieibgmmdabHpNilM
import Derived.Test.YtohfoieibgmmdabHpWoke
import Derived.Test.YtohfoieibgmmdabHpActV
namespace Go.Proofs.Ytohfoieibgmmdab.Hp
open Go.RowKit Go.Maps
open Go.Proofs.Ytohfoieibgmmdab.Me Go.Proofs.Ytohfoieibgmmdab.Sb
set_option linter.unusedVariables false
set_option linter.unusedSimpArgs false

theorem ac_box (k : Int) (x y z : Value) (f n : Int) (i : Mg.Id4) (w : World) : ∀ W, Below (w.alloc (.cells (acC k x y z f n i) 27 (0, 0))).heap.size (w.alloc (.cells (acC k x y z f n i) 27 (0, 0))) W →
    (W.cell? ⟨w.heap.size, 0, none⟩ = some (.int .i64 k) ∧ W.cell? ⟨w.heap.size, 1, none⟩ = some x ∧ W.cell? ⟨w.heap.size, 2, none⟩ = some y ∧ W.cell? ⟨w.heap.size, 3, none⟩ = some z ∧ W.cell? ⟨w.heap.size, 4, none⟩ = some (.int .i64 f) ∧ W.cell? ⟨w.heap.size, 5, none⟩ = some (.int .i64 n) ∧
      W.cell? ⟨w.heap.size, 6, none⟩ = some (.int .i64 i.o) ∧ W.cell? ⟨w.heap.size, 7, none⟩ = some (.int .i64 i.d) ∧ W.cell? ⟨w.heap.size, 8, none⟩ = some (.int .i64 i.e) ∧ W.cell? ⟨w.heap.size, 9, none⟩ = some (.int .i64 i.c)) ∧ Below w.heap.size w W := fun W hW => by
  have hl : w.heap.size < (w.alloc (.cells (acC k x y z f n i) 27 (0, 0))).heap.size := by simp
  have hb := (hW.block _ hl).trans (heap_alloc_new w (.cells (acC k x y z f n i) 27 (0, 0)))
  refine ⟨⟨?_, ?_, ?_, ?_, ?_, ?_, ?_, ?_, ?_, ?_⟩, (Me.below_alloc (Below.refl _ _)).trans (hW.mono (by simp))⟩
  all_goals
    rw [cell_of_row W _ _ _ _ (0, 0) hb]
    rfl
set_option maxRecDepth 100000 in
set_option maxHeartbeats 4000000 in
theorem nils (k : Int) (A : Option Addr) (an ac : Nat) (B : Option Addr) (bn bc : Nat) (C : Option Addr) (cn cc : Nat) (f n : Int) (i : Mg.Id4) (w : World) :
    Calls Try.prog 3 #[.agg (acC k (.slice A an ac) (.slice B bn bc) (.slice C cn cc) f n i)] w fun e w' => e = .returned (.bool true) ∧ Below w.heap.size w w' := by
  have HX := Lib.hid (ac_box k (.slice A an ac) (.slice B bn bc) (.slice C cn cc) f n i w)
  have HP := Lib.hid (fun W => Plan_nil (.slice A an ac) (.slice B bn bc) (.slice C cn cc) W)
  have HT := Lib.hid (fun W => Tick_nil W)
  have HA := Lib.hid (fun W => Ack_nil f n i W)
  have HR := Lib.hid (fun W => Ref_nil f n i W)
  have HI := Lib.hid (fun W => Is_nil i W)
  have HB := Lib.hid (fun W => Back_nil i W)
  have HRs := Lib.hid (fun W => Reset_nil f W)
  have HO := Lib.hid (fun W => Offered_nil f W)
  have HW := Lib.hid (fun W => Waits_nil i W)
  have HK := Lib.hid (fun W => awake_any W)
  obtain ⟨o, d, ee, c⟩ := i
  simp only [Mg.idC, acC] at HX HA HR HI HB HW ⊢
  obtain ⟨W0, hW0⟩ : ∃ W, w.alloc (.cells #[.int .i64 k, .slice A an ac, .slice B bn bc, .slice C cn cc, .int .i64 f, .int .i64 n, .int .i64 o, .int .i64 d, .int .i64 ee, .int .i64 c] 27) = W := ⟨_, rfl⟩
  have HW0 := Lib.hid hW0
  rw [hW0] at HX
  obtain ⟨⟨x0, x1, x2, x3, x4, x5, x6, x7, x8, x9⟩, bw⟩ := HX.out W0 (Below.refl _ _)
  clear hW0
  go_enter Try.func3, Try.ntmps3
  go_wp2_with (first
    | (rw [HW0.out])
    | (go_at_call 4; refine (HP.out _).mono ?_; rintro e w1 ⟨rfl, rfl⟩)
    | (go_at_call 5; refine (HT.out _).mono ?_; rintro e w1 ⟨rfl, rfl⟩)
    | (go_at_call 6; refine (HA.out _).mono ?_; rintro e w1 ⟨rfl, b1⟩; obtain ⟨⟨x0, x1, x2, x3, x4, x5, x6, x7, x8, x9⟩, bw⟩ := HX.out w1 b1.out)
    | (go_at_call 7; refine (HR.out _).mono ?_; rintro e w2 ⟨rfl, c2⟩; have b2 : Hid (Below W0.heap.size W0 w2) := b1.out.trans (c2.out.mono b1.out.size); obtain ⟨⟨x0, x1, x2, x3, x4, x5, x6, x7, x8, x9⟩, bw⟩ := HX.out w2 b2.out)
    | (go_at_call 8; refine (HI.out _).mono ?_; rintro e w3 ⟨rfl, c3⟩; have b3 : Hid (Below W0.heap.size W0 w3) := b2.out.trans (c3.out.mono b2.out.size); obtain ⟨⟨x0, x1, x2, x3, x4, x5, x6, x7, x8, x9⟩, bw⟩ := HX.out w3 b3.out)
    | (go_at_call 9; refine (HB.out _).mono ?_; rintro e w4 ⟨rfl, c4⟩; have b4 : Hid (Below W0.heap.size W0 w4) := b3.out.trans (c4.out.mono b3.out.size); obtain ⟨⟨x0, x1, x2, x3, x4, x5, x6, x7, x8, x9⟩, bw⟩ := HX.out w4 b4.out)
    | (go_at_call 10; refine (HRs.out _).mono ?_; rintro e w1 ⟨rfl, rfl⟩)
    | (go_at_call 11; refine (HO.out _).mono ?_; rintro e w1 ⟨rfl, rfl⟩)
    | (go_at_call 12; refine (HW.out _).mono ?_; rintro e w5 ⟨rfl, c5⟩; have b5 : Hid (Below W0.heap.size W0 w5) := b4.out.trans (c5.out.mono b4.out.size); obtain ⟨⟨x0, x1, x2, x3, x4, x5, x6, x7, x8, x9⟩, bw⟩ := HX.out w5 b5.out)
    | (go_at_call 13; refine (HK.out _).mono ?_; rintro e w6 ⟨rfl, c6⟩; have b6 : Hid (Below W0.heap.size W0 w6) := b5.out.trans (c6.out.mono b5.out.size); obtain ⟨_, bw6⟩ := HX.out w6 b6.out))
  go_ret
  exact ⟨rfl, bw6⟩
end Go.Proofs.Ytohfoieibgmmdab.Hp
