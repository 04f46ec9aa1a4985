/- The law's own question 'do bytes come?' is answered true, whatever the memory. -/
import Derived.Test.YtcdpdijfgeeenaaLnState
import Derived.Lib.SlBytesConst
namespace Go.Proofs.Ytcdpdijfgeeenaa.Li
open Go.RowKit
open Go.Proofs.Ytcdpdijfgeeenaa.Sb
set_option linter.unusedVariables false
set_option linter.unusedSimpArgs false

def sab : Ln := ⟨1, 0, [97, 98], [1, 1]⟩
theorem putL_ab : putL (newL 1) [97, 98] = sab ∧ putN (newL 1) [97, 98] = 0 := ⟨by kernel_rfl, by kernel_rfl⟩
theorem come_ab : comeN sab = 0 ∧ takeL sab = sab ∧ comeN (tickL sab) = 2 ∧ sab.passed = 0 := by
  refine ⟨by kernel_rfl, by kernel_rfl, by kernel_rfl, rfl⟩
theorem Put_ab (w0 w : World) (D : Nat) (h : Hid (Lr w0.heap.size (fun _ => False) w D (newL 1))) :
    Calls Try.prog 14 #[.pointer (some ⟨D, 0, none⟩), .slice (some ⟨w.heap.size, 0, none⟩) 2 2] (w.alloc (.cells #[.int .u8 97, .int .u8 98] 5 (2, 3))) fun e w' => e = .returned (.int .i64 0) ∧ Hid (Lr w0.heap.size (fun _ => False) w' D sab) ∧ Hid (Below w0.heap.size w w') := by
  have hr : Me.Rd (w.alloc (.cells #[.int .u8 97, .int .u8 98] 5 (2, 3))) (w.alloc (.cells #[.int .u8 97, .int .u8 98] 5 (2, 3))).heap.size (some ⟨w.heap.size, 0, none⟩) [97, 98] := by
    have := Me.rd_lit (w := w) (r := [97, 98]) (by decide) 5 (2, 3)
    exact this.more (by simp)
  have hl : Lr w0.heap.size (fun _ => False) (w.alloc (.cells #[.int .u8 97, .int .u8 98] 5 (2, 3))) D (newL 1) := h.out.below (Me.below_alloc (Below.refl _ _))
  refine (Put_s (Lib.hid hl) (some ⟨w.heap.size, 0, none⟩) 2 2 [97, 98] rfl hr (fun e => by cases e) (by decide)).mono ?_
  rintro e w' ⟨rfl, h1, hb⟩
  rw [putL_ab.1] at h1
  rw [putL_ab.2]
  exact ⟨rfl, h1, ((Me.below_alloc (Below.refl _ _)).mono h.out.m).trans (but_out hb.out hl.m)⟩
theorem Take_0 (w0 w : World) (D : Nat) (h : Hid (Lr w0.heap.size (fun _ => False) w D sab)) :
    Calls Try.prog 15 #[.pointer (some ⟨D, 0, none⟩)] w fun e w' => ∃ A, e = .returned (.slice A 0 0) ∧ Hid (Lr w0.heap.size (fun _ => False) w' D sab) ∧ Hid (Below w0.heap.size w w') := by
  refine (Take_s h).mono ?_
  rintro e w' ⟨A, rfl, _, _, h1, hb⟩
  rw [come_ab.1]
  rw [come_ab.2.1] at h1
  exact ⟨A, rfl, h1, but_out hb.out h.out.m⟩
theorem Take_2 (w0 w : World) (D : Nat) (h : Hid (Lr w0.heap.size (fun _ => False) w D (tickL sab))) :
    Calls Try.prog 15 #[.pointer (some ⟨D, 0, none⟩)] w fun e w' => ∃ A, e = .returned (.slice A 2 2) ∧ (convert 33 9 (.slice A 2 2)).run Try.prog w' = .ok (.string { data := #[97, 98] }) w' ∧ Hid (Below w0.heap.size w w') := by
  refine (Take_s h).mono ?_
  rintro e w' ⟨A, rfl, hr, hA, h1, hb⟩
  have e2 := come_ab.2.2.1
  rw [e2] at hr hA ⊢
  have e3 : (tickL sab).bs.take 2 = [97, 98] := rfl
  rw [e3] at hr
  exact ⟨A, rfl, Me.conv_rd w' _ A [97, 98] 2 hr.out (fun e => by have := hA.out e; cases this), but_out hb.out h.out.m⟩
set_option maxRecDepth 100000 in
theorem awake_any (w : World) : Calls Try.prog 9 #[] w fun e w' => e = .returned (.bool true) ∧ Hid (Below w.heap.size w w') := by
  have kc := fun (w : World) (C : Array Value) (n c : Nat) => Lib.run_convert_bytes_const (P := Try.prog) w 33 5 C n c Try.underlying33 Try.underlying5
  have HN := Lib.hid (New_s w.heap.size (fun _ => False) 1 (by decide) w (Nat.le_refl _) (fun _ h => h.elim))
  have q : ((1 : Nat) : Int) = 1 := rfl
  rw [q] at HN
  have HT : ∀ (W : World) (D : Nat), Hid (Lr w.heap.size (fun _ => False) W D sab) → Calls Try.prog 16 #[.pointer (some ⟨D, 0, none⟩)] W fun e w' => e = .returned (.int .i64 0) ∧ Hid (Lr w.heap.size (fun _ => False) w' D (tickL sab)) ∧ Hid (Below w.heap.size W w') := fun W D h => (Tick_s h (by decide)).mono fun e w' ⟨h1, h2, h3⟩ => ⟨h1, h2, but_out h3.out h.out.m⟩
  have HT := Lib.hid HT
  clear q
  go_enter Try.func9, Try.ntmps9
  go_wp2_with (first
    | (go_at_call 7; refine HN.out.mono ?_; rintro e w1 ⟨rfl, HL1, HB1⟩)
    | (go_at_call 14; refine (Put_ab w w1 w.heap.size HL1).mono ?_; rintro e w2 ⟨rfl, HL2, HB2⟩)
    | (go_at_call 16; refine (HT.out _ _ HL3).mono ?_; rintro e w4 ⟨rfl, HL4, HB4⟩)
    | (go_at_call 15; refine (Take_0 w w2 w.heap.size HL2).mono ?_; rintro e w3 ⟨A3, rfl, HL3, HB3⟩)
    | (go_at_call 15; refine (Take_2 w w4 w.heap.size HL4).mono ?_; rintro e w5 ⟨A5, rfl, k5, HB5⟩))
  go_ret
  exact ⟨rfl, HB1.out.trans (HB2.out.trans (HB3.out.trans (HB4.out.trans HB5.out)))⟩
end Go.Proofs.Ytcdpdijfgeeenaa.Li
