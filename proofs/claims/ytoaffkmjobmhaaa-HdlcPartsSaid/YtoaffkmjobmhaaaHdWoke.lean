/- The law's own question 'is a frame found?' is answered true, whatever the memory. -/
import Derived.Test.YtoaffkmjobmhaaaHdClone
import Derived.Lib.SlBytesConst
namespace Go.Proofs.Ytoaffkmjobmhaaa.Hd
open Go.RowKit
open Go.Proofs.Ytoaffkmjobmhaaa.Me Go.Proofs.Ytoaffkmjobmhaaa.St
open Go.Proofs.Ytoaffkmjobmhaaa.Cr (addL rightB)
set_option linter.unusedVariables false
set_option linter.unusedSimpArgs false

def wk : List Nat := [255, 126, 1, 241, 225, 126, 126]
theorem wk_feed : feedD rightB newD wk = (⟨false, [], ⟨1, 0, 0, 0, 0⟩⟩, [[1]]) := by
  have h : rightB [1, 241, 225] = true := by decide +kernel
  simp [wk, feedD, byteD, newD, met0, kindL, unstuffL, ust, urun, ustep, metMore, told, h]
/-- A row of slices that lie in memory, read. -/
theorem row_conv {w : World} {A : Option Addr} {ps : List (List Nat)} (h : Lst w w.heap.size A ps) (n : Nils w A ps) {j : Nat} (hj : j < ps.length) : ∃ b off R cr, A = some ⟨b, off, none⟩ ∧ w.cell? ⟨b, off + j, none⟩ = some (.slice R (lsAt ps j).length cr) ∧ (lsAt ps j).length ≤ cr ∧ cr ≤ 9223372036854775807 ∧ Rd w w.heap.size R (lsAt ps j) ∧ (R = none → (lsAt ps j).length = 0 ∧ cr = 0) := by
  obtain ⟨b, off, rfl, hb, hc⟩ := h (by omega)
  obtain ⟨R, cr, g1, g2, g3, g4⟩ := hc j hj
  exact ⟨b, off, R, cr, rfl, g1, g2, g3, g4, by rintro rfl; exact n b off rfl j hj _ _ g1⟩
set_option maxRecDepth 100000 in
set_option maxHeartbeats 1000000 in
theorem awake_any (w : World) : Calls Try.prog 12 #[] w fun e w' => e = .returned (.bool true) ∧ Below w.heap.size w w' := by
  have N := Lib.hid (New_any w)
  have kc := fun (w : World) (C : Array Value) (n c : Nat) => Lib.run_convert_bytes_const (P := Try.prog) w 22 5 C n c Try.underlying22 Try.underlying5
  have F := Lib.hid (fun (w1 : World) (D : Nat) (hd1 : Hid (Dblk w1 D newD (.slice none 0 0))) => Feed_any (w1.alloc (.cells (wk.map byV).toArray 5 (7, 8))) D newD none 0 (hd1.out.alloc _) (Me.Own.nil _ _) Good.new (some ⟨w1.heap.size, 0, none⟩) 7 wk
    (by have := rd_lit (w := w1) (r := wk) (by decide) 5 (7, 8); exact this.more (by simp)) (fun a _ => by simp [Value.ownBlock]) (by decide) (by decide))
  rw [wk_feed] at F
  go_enter Try.func12, Try.ntmps12
  go_wp2_with (first
    | (go_at_call 13; refine N.out.mono ?_; rintro e w1 ⟨rfl, hd1, hb1⟩)
    | (go_at_call 15; refine (F.out w1 w.heap.size hd1).mono ?_; rintro e w3 ⟨vr, rfl, hF⟩; obtain ⟨A3, c3, hd3, ho3, hf3, hb3, hr3⟩ := hF.out; obtain ⟨A4, c4, rfl, q1, q2, q3, q4, q5⟩ := hr3.lst (by decide); obtain ⟨b, off, R, cr, rfl, g1, g2, g3, g4, g5⟩ := row_conv (j := 0) q3 q4 (by decide); have k1 : (convert 22 9 (.slice R 1 cr)).run Try.prog w3 = .ok (.string { data := #[1] }) w3 := conv_rd w3 _ R [1] cr g4 g5; have g1' : w3.cell? ⟨b, off, none⟩ = some (.slice R 1 cr) := g1; have HB3 := Lib.hid hb3; have HD3 := Lib.hid hd3; clear hd3 ho3 hf3 hb3 hr3 q1 q2 q3 q4 q5 g1 g4 g5)
    | (go_at_call 18; refine (Stats_any w3 w.heap.size _ _ HD3.out).mono ?_; rintro e w4 ⟨he, hb4⟩; unfold mval at he; subst he))
  go_ret
  refine ⟨rfl, ?_⟩
  have b2 : Below w.heap.size w (w1.alloc (.cells (wk.map byV).toArray 5 (7, 8))) := below_alloc hb1.out
  have b3 : Below w.heap.size w w3 := b2.trans (HB3.out.below b2.size fun k e => by
    rcases e with e | e
    · omega
    · cases e)
  exact b3.trans (hb4.out.mono b3.size)
theorem awake_below {w0 w : World} (hb : Hid (Below w0.heap.size w0 w)) : Calls Try.prog 12 #[] w fun e w' => e = .returned (.bool true) ∧ Hid (Below w0.heap.size w0 w') :=
  (awake_any w).mono fun _ _ ⟨he, h⟩ => ⟨he, hb.out.trans (h.mono hb.out.size)⟩
end Go.Proofs.Ytoaffkmjobmhaaa.Hd
