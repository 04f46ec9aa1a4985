/- The law's own question 'does the program answer?' is answered true, whatever the memory. -/
import Derived.Test.YtljndfkmppmbkaaDoorMgText
import Derived.Test.YtljndfkmppmbkaaDoorMgLess
namespace Go.Proofs.YtljndfkmppmbkaaDoor.Mg
open Go.RowKit
open Go.Proofs.YtljndfkmppmbkaaDoor.Me Go.Proofs.YtljndfkmppmbkaaDoor.Ba Go.Proofs.YtljndfkmppmbkaaDoor.Ma Go.Proofs.YtljndfkmppmbkaaDoor.Bt
set_option linter.unusedVariables false
set_option linter.unusedSimpArgs false

/-- An answered id's bytes, read as a string. -/
theorem id_conv {w w2 : World} {g : Nat} {i : Id4} (h : Row w g (idL i)) (hb : Below w.heap.size w w2) : (convert 24 9 (.slice (some ⟨g, 0, none⟩) 6 6)).run Tryd.prog w2 = .ok (.string (strOf (idL i))) w2 := by
  have := conv_rd w2 (g + 1) (some ⟨g, 0, none⟩) (idL i) 6 ((h.below hb h.lt).rd (Nat.lt_succ_self g) (bytK_lt i 4)) (fun e => by cases e)
  rw [idL_len] at this
  exact this
def iA : Id4 := ⟨1, 2, 3, 4⟩
theorem right_a : Right iA := right_iff.1 (by decide)
theorem it_small (w : World) : ItH iA w := fun k hk W _ => by
  obtain rfl | rfl | rfl | rfl : k = 0 ∨ k = 1 ∨ k = 2 ∨ k = 3 := by omega
  · exact (Tryd.ItoaS 1 (by decide) W).mono fun e w' h => ⟨h.1, h.2 ▸ Below.refl _ _⟩
  · exact (Tryd.ItoaS 2 (by decide) W).mono fun e w' h => ⟨h.1, h.2 ▸ Below.refl _ _⟩
  · exact (Tryd.ItoaS 3 (by decide) W).mono fun e w' h => ⟨h.1, h.2 ▸ Below.refl _ _⟩
  · exact (Tryd.ItoaS 4 (by decide) W).mono fun e w' h => ⟨h.1, h.2 ▸ Below.refl _ _⟩
theorem dd_one {n : Nat} (h : n < 10) : Lib.decDigits n = [UInt8.ofNat (48 + n)] := Lib.decDigits_one h
theorem text_a : sB (txK iA 4) = ⟨#[49, 62, 50, 58, 51, 46, 52]⟩ := by
  have h0 : dK iA 0 = [49] := dd_one (n := 1) (by decide)
  have h1 : dK iA 1 = [50] := dd_one (n := 2) (by decide)
  have h2 : dK iA 2 = [51] := dd_one (n := 3) (by decide)
  have h3 : dK iA 3 = [52] := dd_one (n := 4) (by decide)
  simp only [txK, h0, h1, h2, h3]
  rfl
theorem bytes_a : strOf (idL iA) = ⟨#[1, 2, 0, 3, 0, 4]⟩ := by rfl
set_option maxRecDepth 100000 in
set_option maxHeartbeats 1000000 in
theorem awake_any (w : World) : Calls Tryd.prog 14 #[] w fun e w' => e = .returned (.bool true) ∧ Hid (Below w.heap.size w w') := by
  have HP := Lib.hid (fun W => PutId_ok iA right_a W)
  have HT : Hid (∀ W, Calls Tryd.prog 27 #[.agg (idC iA)] W fun e w' => e = .returned (.tuple #[.string ⟨#[49, 62, 50, 58, 51, 46, 52]⟩, .int .i64 0]) ∧ Hid (Below W.heap.size W w')) := fun W => (Text_ok iA right_a W (it_small W)).mono fun e w' h => by
    rw [text_a] at h
    exact h
  have HL : Hid (∀ W, Calls Tryd.prog 15 #[.agg (idC iA), .agg (idC ⟨2, 0, 0, 0⟩)] W fun e w' => e = .returned (.bool true) ∧ Hid (Below W.heap.size W w')) := fun W => Less_any iA ⟨2, 0, 0, 0⟩ W
  have HCV : Hid (∀ (w w2 : World) (g : Nat), Row w g (idL iA) → Below w.heap.size w w2 → (convert 24 9 (.slice (some ⟨g, 0, none⟩) 6 6)).run Tryd.prog w2 = .ok (.string ⟨#[1, 2, 0, 3, 0, 4]⟩) w2) := fun w w2 g h hb => by
    rw [id_conv h hb, bytes_a]
  have HB4 := Lib.hid (box4 1 2 3 4 w)
  have HB0 : Hid (Below w.heap.size w (w.alloc (.cells #[.int .i64 1, .int .i64 2, .int .i64 3, .int .i64 4] 23))) := Me.below_alloc (Below.refl _ _)
  have HZ : Hid ((w.alloc (.cells #[.int .i64 1, .int .i64 2, .int .i64 3, .int .i64 4] 23)).heap.size = w.heap.size + 1) := by simp [Hid]
  obtain ⟨rw1, hrw1⟩ : ∃ r, idL iA = r := ⟨_, rfl⟩
  rw [hrw1] at HP HCV
  clear hrw1
  simp only [idC, iA] at HP HT HL
  go_enter Tryd.func14, Tryd.ntmps14
  go_wp2_with (first
    | (go_at_call 21; refine (HP.out _).mono ?_; rintro e w1 ⟨g, rfl, hg, hr, hb1⟩; obtain ⟨q0, q1, q2, q3⟩ := HB4.out w1 hb1.out)
    | (go_at_call 27; refine (HT.out _).mono ?_; rintro e w2 ⟨rfl, hb2⟩; have hb12 := Lib.hid (hb1.out.trans (hb2.out.mono hb1.out.size)); obtain ⟨p0, p1, p2, p3⟩ := HB4.out w2 hb12.out; have hcv := HCV.out w1 w2 g hr.out hb2.out)
    | (go_at_call 15; refine (HL.out _).mono ?_; rintro e w3 ⟨rfl, hb3⟩))
  go_ret
  exact ⟨rfl, HB0.out.trans ((hb12.out.trans (hb3.out.mono hb12.out.size)).mono (by have := HZ.out; omega))⟩
theorem awake_below {w0 w : World} (hb : Hid (Below w0.heap.size w0 w)) : Calls Tryd.prog 14 #[] w fun e w' => e = .returned (.bool true) ∧ Hid (Below w0.heap.size w0 w') :=
  (awake_any w).mono fun _ _ ⟨he, h⟩ => ⟨he, hb.out.trans (h.out.mono hb.out.size)⟩
end Go.Proofs.YtljndfkmppmbkaaDoor.Mg
