/- The reference's bytes of an id. -/
import Derived.Test.YtohfoieibgmmdaaMgPut
import Derived.Test.YtohfoieibgmmdaaMgLex
import Derived.Test.YtohfoieibgmmdaaIKit
namespace Go.Proofs.Ytohfoieibgmmdaa.Mg
open Go.RowKit
open Go.Proofs.Ytohfoieibgmmdaa.Me Go.Proofs.Ytohfoieibgmmdaa.Ba Go.Proofs.Ytohfoieibgmmdaa.Ma
set_option linter.unusedVariables false
set_option linter.unusedSimpArgs false

theorem RPutId_no (i : Id4) (h : Hid (chkN i ≠ 0)) (w : World) : Calls Try.prog 41 #[.agg (idC i)] w fun e w' => e = .returned (.tuple #[.slice none 0 0, .int .i64 (chkN i : Int)]) ∧ Hid (Below w.heap.size w w') := by
  have HC := Lib.hid (fun W => RCheck_any i W)
  obtain ⟨x, hx⟩ : ∃ x, chkN i = x := ⟨_, rfl⟩
  rw [hx] at HC h ⊢
  have h1 : ((x : Int) == 0) = false := nz h.out
  clear hx
  obtain ⟨o, d, ee, c⟩ := i
  have HB4 := Lib.hid (box4 o d ee c w)
  simp only [idC] at HC ⊢
  go_enter Try.func41, Try.ntmps41
  go_wp2_with (first
    | (go_at_call 43; refine (HC.out _).mono ?_; rintro e w1 ⟨rfl, b1⟩; first
        | (have hb2 := Lib.hid (hb1.out.trans (b1.out.mono hb1.out.size)))
        | (have hb1 := b1; obtain ⟨q0, q1, q2, q3⟩ := HB4.out w1 hb1.out)))
  go_ret2
  exact ⟨rfl, Below.trans (Me.below_alloc (Below.refl _ _)) (hb2.out.mono (by simp))⟩
set_option maxRecDepth 100000 in
theorem RPutId_ok (i : Id4) (hR : Hid (Right i)) (w : World) : Calls Try.prog 41 #[.agg (idC i)] w fun e w' => ∃ g, e = .returned (.tuple #[.slice (some ⟨g, 0, none⟩) 6 6, .int .i64 0]) ∧ w.heap.size ≤ g ∧ Hid (Row w' g (idL i)) ∧ Hid (Below w.heap.size w w') := by
  have HC : Hid (∀ W, Calls Try.prog 43 #[.agg (idC i)] W fun e w' => e = .returned (.int .i64 0) ∧ Hid (Below W.heap.size W w')) := fun W => (RCheck_any i W).mono fun e w' h => by
    rw [right_iff.2 hR.out] at h
    exact h
  have HL := idL_six i
  have a0 := hR.out.o0; have a1 := hR.out.o1; have a2 := hR.out.d0; have a3 := hR.out.d1; have a4 := hR.out.e0; have a5 := hR.out.e1; have a6 := hR.out.c0; have a7 := hR.out.c1
  clear hR
  obtain ⟨l, hl⟩ : ∃ l, idL i = l := ⟨_, rfl⟩
  rw [hl] at HL ⊢
  clear hl
  obtain ⟨o, d, ee, c⟩ := i
  simp only at *
  obtain ⟨o, rfl⟩ := Int.eq_ofNat_of_zero_le a0
  obtain ⟨d, rfl⟩ := Int.eq_ofNat_of_zero_le a2
  obtain ⟨ee, rfl⟩ := Int.eq_ofNat_of_zero_le (show 0 ≤ ee by omega)
  obtain ⟨c, rfl⟩ := Int.eq_ofNat_of_zero_le (show 0 ≤ c by omega)
  simp only [Int.toNat_natCast] at HL
  have HL := Lib.hid HL
  have HB4 := Lib.hid (box4 o d ee c w)
  have A1 := Lib.hid a1; have A3 := Lib.hid a3; have A5 := Lib.hid a5; have A7 := Lib.hid a7
  clear a0 a1 a2 a3 a4 a5 a6 a7
  simp only [idC] at HC ⊢
  go_enter Try.func41, Try.ntmps41
  go_wp2_with (go_at_call 43; refine (HC.out _).mono ?_; rintro e w1 ⟨rfl, b1⟩; obtain ⟨q0, q1, q2, q3⟩ := HB4.out w1 b1.out)
  go_ret2
  refine ⟨_, rfl, ?_, ?_, ?_⟩
  · have := b1.out.size
    rw [World.size_alloc] at this
    omega
  · have e1 : wrap64 ((ee : Int) / 256) = (ee : Int) / 256 := Mi.fits (Mi.small (by have := A5.out; omega) (by have := A5.out; omega))
    have e2 : wrap64 ((c : Int) / 256) = (c : Int) / 256 := Mi.fits (Mi.small (by have := A7.out; omega) (by have := A7.out; omega))
    rw [e1, e2, HL.out]
    exact heap_alloc_new w1 _
  · exact Me.below_alloc ((Me.below_alloc (Below.refl _ _)).trans (b1.out.mono (by simp)))
end Go.Proofs.Ytohfoieibgmmdaa.Mg
