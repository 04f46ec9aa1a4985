/- The law's own question 'is a record found?' is answered true, whatever the memory. -/
import Derived.Test.YtcdijhenfddmcaaRcScan
import Derived.Lib.SlBytesConst
namespace Go.Proofs.Ytcdijhenfddmcaa.Rc
open Go.RowKit
open Go.Proofs.Ytcdijhenfddmcaa.Me Go.Proofs.Ytcdijhenfddmcaa.Ma Go.Proofs.Ytcdijhenfddmcaa.Hd
set_option linter.unusedVariables false
set_option linter.unusedSimpArgs false

/-- A row of slices that lie in memory, read. -/
theorem row_conv {w : World} {A : Option Addr} {ps : List (List Nat)} (h : Me.Lst w w.heap.size A ps) (n : Me.Nils w A ps) {j : Nat} (hj : j < ps.length) : ∃ b off R cr, A = some ⟨b, off, none⟩ ∧ w.cell? ⟨b, off + j, none⟩ = some (.slice R (lsAt ps j).length cr) ∧ (lsAt ps j).length ≤ cr ∧ cr ≤ 9223372036854775807 ∧ Rd w w.heap.size R (lsAt ps j) ∧ (R = none → (lsAt ps j).length = 0 ∧ cr = 0) := by
  obtain ⟨b, off, rfl, hb, hc⟩ := h (by omega)
  obtain ⟨R, cr, g1, g2, g3, g4⟩ := hc j hj
  exact ⟨b, off, R, cr, rfl, g1, g2, g3, g4, by rintro rfl; exact n b off rfl j hj _ _ g1⟩
theorem fine_a : Fine [[97]] := by
  intro p hp
  simp at hp; subst hp
  exact ⟨by decide, by decide⟩
theorem flat_a : flatR [[97]] = recL [97] := by simp [flatR]
theorem recs_a : recs (recL [97]) = [[97]] := by rw [← flat_a]; exact recs_flat fine_a
theorem Put_a (w : World) : Calls Try.prog 9 #[.slice (some ⟨w.heap.size, 0, none⟩) 1 1] (w.alloc (.cells #[.int .u8 97] 5 (1, 2))) fun e w' => ∃ A k, e = .returned (.tuple #[.slice A 9 k, .int .i64 0]) ∧ Hid (Rd w' w'.heap.size A (recL [97])) ∧ 9 ≤ k ∧ k ≤ 9223372036854775807 ∧ Hid (Below w.heap.size w w') := by
  have hr : Rd (w.alloc (.cells #[.int .u8 97] 5 (1, 2))) (w.alloc (.cells #[.int .u8 97] 5 (1, 2))).heap.size (some ⟨w.heap.size, 0, none⟩) [97] := by
    have := rd_lit (w := w) (r := [97]) (by decide) 5 (1, 2)
    exact this.more (by simp)
  have hl : (recL [97]).length = 9 := rec_len _
  refine (Put_any (some ⟨w.heap.size, 0, none⟩) 1 [97] _ hr (fun e => by cases e) (by decide) (by decide)).mono ?_
  rintro e w' ⟨A, k, he, hO, hB⟩
  rw [(put_fit (p := [97]) (by decide)).1, (put_fit (p := [97]) (by decide)).2, hl] at he
  rw [(put_fit (p := [97]) (by decide)).1] at hO
  obtain ⟨r1, r2, r3, r4⟩ := own_rd hO.out (rec_bytes (by decide))
  exact ⟨A, k, he, r1, by rw [hl] at r3; exact r3, r4, (below_alloc (Below.refl _ _)).trans (hB.out.mono (by simp))⟩
theorem Scan_a (A : Option Addr) (k : Nat) (w : World) (hr : Hid (Rd w w.heap.size A (recL [97]))) (h1 : 9 ≤ k) (h2 : k ≤ 9223372036854775807) :
    Calls Try.prog 14 #[.slice A 9 k] w fun e w' => ∃ b off c R cr, e = .returned (.tuple #[.slice (some ⟨b, off, none⟩) 1 c, .int .i64 9]) ∧ w'.cell? ⟨b, off, none⟩ = some (.slice R 1 cr) ∧ (convert 22 9 (.slice R 1 cr)).run Try.prog w' = .ok (.string { data := #[97] }) w' ∧ Hid (Below w.heap.size w w') := by
  have hl : (recL [97]).length = 9 := rec_len _
  have h := Scan_any A k (recL [97]) w hr (by omega) h2 (by omega)
  rw [hl] at h
  refine h.mono ?_
  rintro e w' ⟨v, he, hR, hB⟩
  rw [recs_a] at he hR
  obtain ⟨A4, c4, rfl, q1, q2, q3, q4, q5⟩ := hR.out.lst (by decide)
  obtain ⟨b, off, R, cr, rfl, g1, g2, g3, g4, g5⟩ := row_conv (j := 0) q3 q4 (by decide)
  exact ⟨b, off, c4, R, cr, he, g1, conv_rd w' _ R [97] cr g4 g5, hB⟩
set_option maxRecDepth 100000 in
set_option maxHeartbeats 1000000 in
theorem awake_any (w : World) : Calls Try.prog 11 #[] w fun e w' => e = .returned (.bool true) ∧ Below w.heap.size w w' := by
  have kc := fun (w : World) (C : Array Value) (n c : Nat) => Lib.run_convert_bytes_const (P := Try.prog) w 22 5 C n c Try.underlying22 Try.underlying5
  have D := Lib.hid (Put_a w)
  go_enter Try.func11, Try.ntmps11
  go_wp2_with (first
    | (go_at_call 9; refine D.out.mono ?_; rintro e w1 ⟨A1, k1, rfl, HR1, h1, h2, HB1⟩)
    | (go_at_call 14; refine (Scan_a A1 k1 w1 HR1 h1 h2).mono ?_; rintro e w2 ⟨b, off, c2, R, cr, rfl, g1, g2, HB2⟩))
  go_ret
  exact ⟨rfl, HB1.out.trans (HB2.out.mono HB1.out.size)⟩
theorem awake_below {w0 w : World} (hb : Hid (Below w0.heap.size w0 w)) : Calls Try.prog 11 #[] w fun e w' => e = .returned (.bool true) ∧ Hid (Below w0.heap.size w0 w') :=
  (awake_any w).mono fun _ _ ⟨he, h⟩ => ⟨he, hb.out.trans (h.mono hb.out.size)⟩
end Go.Proofs.Ytcdijhenfddmcaa.Rc
