/- The law's own question 'does the program answer at all?' is answered true, whatever the memory. -/
import Derived.Test.YtpnmigfgeieggaaStRef
namespace Go.Proofs.Ytpnmigfgeieggaa.St
open Go.RowKit
open Go.Proofs.Ytpnmigfgeieggaa.Me
set_option linter.unusedVariables false

theorem awake_any (w : World) : Calls Try.prog 13 #[] w fun e w' => e = .returned (.bool true) ∧ Below w.heap.size w w' := by
  have D1 := Unstuff_any (some ⟨w.heap.size, 0, none⟩) 3 (w.heap.size + 1) [125, 94, 1] (w.alloc (.cells #[.int .u8 125, .int .u8 94, .int .u8 1] 5)) (rd_lit (w := w) (r := [125, 94, 1]) (by simp) 5) (by simp) (by simp)
  rw [show unstuffL [125, 94, 1] = some [126, 1] by decide] at D1
  have HD := Lib.hid D1
  have D2 := fun (W : World) => Stuff_any (some ⟨W.heap.size, 0, none⟩) 1 (W.heap.size + 1) [125] (W.alloc (.cells #[.int .u8 125] 5)) (rd_lit (w := W) (r := [125]) (by simp) 5) (by simp) (by decide)
  rw [show stuffL [125] = [125, 93] by decide] at D2
  have HD2 := Lib.hid D2
  clear D1 D2
  go_enter Try.func13, Try.ntmps13
  go_wp2_with (first
    | (go_at_call 14; refine HD.out.mono ?_; rintro e w1 ⟨A1, c1, rfl, h1, h2, HH, hb1⟩; have k1 : (convert 22 9 (.slice A1 2 c1)).run Try.prog w1 = .ok (.string { data := #[126, 1] }) w1 := conv_rd w1 _ A1 [126, 1] c1 HH.out.rd HH.out.2.2)
    | (go_at_call 10; refine (HD2.out w1).mono ?_; rintro e w2 ⟨A2, c2, rfl, h3, h4, HH2, hb2⟩; have k2 : (convert 22 9 (.slice A2 2 c2)).run Try.prog w2 = .ok (.string { data := #[125, 93] }) w2 := conv_rd w2 _ A2 [125, 93] c2 HH2.out.rd HH2.out.2.2))
  go_ret
  refine ⟨rfl, ?_⟩
  have b1 : Below w.heap.size w w1 := (below_alloc (Below.refl _ _)).trans (hb1.out.mono (by simp))
  have b2 : Below w.heap.size w1 w2 := ((Below.refl _ _).alloc b1.size _).trans (hb2.out.mono (by have := b1.size; simp; omega))
  exact b1.trans b2
theorem awake_below {w0 w : World} (hb : Hid (Below w0.heap.size w0 w)) : Calls Try.prog 13 #[] w fun e w' => e = .returned (.bool true) ∧ Hid (Below w0.heap.size w0 w') :=
  (awake_any w).mono fun _ _ ⟨he, h⟩ => ⟨he, hb.out.trans (h.mono hb.out.size)⟩
end Go.Proofs.Ytpnmigfgeieggaa.St
