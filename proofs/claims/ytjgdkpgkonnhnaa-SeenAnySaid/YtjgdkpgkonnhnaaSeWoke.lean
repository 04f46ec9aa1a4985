/- The law's own question 'does the program answer?' is answered true; the law of the nil set. -/
import Derived.Test.YtjgdkpgkonnhnaaSeAdd
import Derived.Test.YtjgdkpgkonnhnaaSeHasM
namespace Go.Proofs.Ytjgdkpgkonnhnaa.Se
open Go.RowKit
open Go.Proofs.Ytjgdkpgkonnhnaa.Me Go.Proofs.Ytjgdkpgkonnhnaa.Sb
set_option linter.unusedVariables false
set_option linter.unusedSimpArgs false

def iA : Mg.Id4 := ⟨0, 1, 1, 1⟩
def sA : St := ⟨3, 0, fun _ _ => none⟩
theorem may_a : mayN sA iA = 0 := by decide
theorem has_b : hasS (addS sA iA) iA = true := by decide
theorem may_b : mayN (addS sA iA) iA = 5 := by decide
set_option maxRecDepth 100000 in
set_option maxHeartbeats 8000000 in
theorem awake_any (w : World) : Calls Try.prog 11 #[] w fun e w' => e = .returned (.bool true) ∧ Hid (Below w.heap.size w w') := by
  have HN := Lib.hid (New_ok 3 (by omega) (by omega) w)
  have HA : Hid (∀ D b W, Set W true D b 0 sA → Calls Try.prog 18 #[.pointer (some ⟨D, 0, none⟩), .agg (Mg.idC iA)] W fun e w' => e = .returned (.int .i64 0) ∧ ∃ n', n' ≤ 1 ∧ Hid (Set w' true D b n' (addS sA iA)) ∧ Hid (But (fun k => k = D ∨ k = b) W w')) := fun D b W h => (Add_any D b 0 sA iA W h (by omega) (fun _ A W' hS => insAt_end hS (by simp [getM, sA]) (by simp [getM, sA, lb]))).mono fun e w' h => by
    unfold AddP at h
    rw [may_a] at h
    exact h
  have HH : Hid (∀ D b n W, Set W true D b n (addS sA iA) → Calls Try.prog 23 #[.pointer (some ⟨D, 0, none⟩), .agg (Mg.idC iA)] W fun e w' => e = .returned (.bool true) ∧ Hid (Below W.heap.size W w')) := fun D b n W h => by
    have := Has_any true D b n (addS sA iA) iA W h
    rw [has_b] at this
    exact this
  have HA2 : Hid (∀ D b n W, n ≤ 1 → Set W true D b n (addS sA iA) → Calls Try.prog 18 #[.pointer (some ⟨D, 0, none⟩), .agg (Mg.idC iA)] W fun e w' => e = .returned (.int .i64 5) ∧ Hid (But (fun k => k = D ∨ k = b) W w')) := fun D b n W hn h => (Add_any D b n (addS sA iA) iA W h (by omega) (fun h0 => absurd (may_b.symm.trans h0) (by decide))).mono fun e w' h => by
    unfold AddP at h
    rw [may_b] at h
    exact ⟨h.1, h.2.choose_spec.2.2⟩
  simp only [Mg.idC, iA] at HA HH HA2
  obtain ⟨s1, hs1⟩ : ∃ s, addS sA ⟨0, 1, 1, 1⟩ = s := ⟨_, rfl⟩
  have hsA : (⟨3, 0, fun _ _ => none⟩ : St) = sA := rfl
  rw [hsA] at HN
  obtain ⟨s0, hs0⟩ : ∃ s, sA = s := ⟨_, rfl⟩
  simp only [hs1] at HA HH HA2
  simp only [hs0] at HA HN
  clear hs0 hs1 hsA
  go_enter Try.func11, Try.ntmps11
  go_wp2_with (first
    | (go_at_call 9; refine HN.out.mono ?_; rintro e w1 ⟨D, b, rfl, hs1, hD, hb, hB1⟩; have hlt := Lib.hid hs1.lt; have hb2 := Lib.hid (Me.below_alloc (o := .cells #[.int .i64 0, .int .i64 1, .int .i64 1, .int .i64 1] 39) (Below.refl w1.heap.size w1)); have hs2 := Lib.hid (hs1.below hb2.out); have hr2 := Lib.hid (heap_alloc_new w1 (.cells #[.int .i64 0, .int .i64 1, .int .i64 1, .int .i64 1] 39)); have hD' := Lib.hid hD; have hbb := Lib.hid hb; clear hs1 hD hb)
    | (go_at_call 18; first
        | (refine (HA2.out D b n3 _ hn3.out hs4.out).mono ?_; rintro e w5 ⟨rfl, hc5⟩)
        | (refine (HA.out D b _ hs2.out).mono ?_; rintro e w3 ⟨rfl, n3, hn, hs3, hc3⟩; have hn3 := Lib.hid hn; clear hn; have hr3 := Lib.hid (hc3.out.at_ hr2.out (by intro e; have := hlt.out; rcases e with e | e <;> omega)); obtain ⟨x0, x1, x2, x3⟩ := id_cells hr3.out))
    | (go_at_call 23; refine (HH.out D b n3 _ hs3.out).mono ?_; rintro e w4 ⟨rfl, hb4⟩; have hs4 := Lib.hid (hs3.out.below hb4.out); obtain ⟨x0, x1, x2, x3⟩ := id_cells ((hb4.out.block _ (Array.getElem?_eq_some_iff.1 hr3.out).1).trans hr3.out)))
  go_ret
  have k2 := go_on hB1.out hb2.out
  have k3 := k2.trans (hc3.out.below k2.size fun k e => by have h1 := hD'.out; have h2 := hbb.out; rcases e with e | e <;> omega)
  have k4 := go_on k3 hb4.out
  exact ⟨rfl, k4.trans (hc5.out.below k4.size fun k e => by have h1 := hD'.out; have h2 := hbb.out; rcases e with e | e <;> omega)⟩
set_option maxRecDepth 100000 in
theorem Marks_nil (w : World) : Calls Try.prog 20 #[.pointer none] w fun e w' => e = .returned (.slice none 0 0) ∧ w = w' := by
  go_enter Try.func20, Try.ntmps20
  go_wp2
  go_ret
  exact ⟨rfl, rfl⟩
set_option maxRecDepth 100000 in
theorem Gaps_nil (w : World) : Calls Try.prog 21 #[.pointer none] w fun e w' => e = .returned (.int .i64 0) ∧ w = w' := by
  go_enter Try.func21, Try.ntmps21
  go_wp2
  go_ret
  exact ⟨rfl, rfl⟩
set_option maxRecDepth 100000 in
theorem Clone_nil (w : World) : Calls Try.prog 13 #[.pointer none] w fun e w' => e = .returned (.pointer none) ∧ w = w' := by
  go_enter Try.func13, Try.ntmps13
  go_wp2
  go_ret
  exact ⟨rfl, rfl⟩
set_option maxRecDepth 100000 in
set_option maxHeartbeats 4000000 in
theorem nils (o d ee c : Int) (w : World) (q0 : (Lit.int .i64 o).wf = true) (q1 : (Lit.int .i64 d).wf = true) (q2 : (Lit.int .i64 ee).wf = true) (q3 : (Lit.int .i64 c).wf = true) :
    Calls Try.prog 8 #[.agg #[.int .i64 o, .int .i64 d, .int .i64 ee, .int .i64 c]] w fun e w' => e = .returned (.bool true) ∧ Below w.heap.size w w' := by
  have HM := Lib.hid (fun W => May_nil ⟨o, d, ee, c⟩ W)
  have HA := Lib.hid (fun W => Add_nil ⟨o, d, ee, c⟩ W)
  have HH := Lib.hid (fun W => Has_nil ⟨o, d, ee, c⟩ W)
  simp only [Mg.idC] at HM HA HH
  have HB := Lib.hid (Me.below_alloc (o := .cells #[.int .i64 o, .int .i64 d, .int .i64 ee, .int .i64 c] 39) (Below.refl w.heap.size w))
  have HR := Lib.hid (heap_alloc_new w (.cells #[.int .i64 o, .int .i64 d, .int .i64 ee, .int .i64 c] 39))
  clear q0 q1 q2 q3
  go_enter Try.func8, Try.ntmps8
  go_wp2_with (first
    | (go_at_call 17; refine (HM.out _).mono ?_; rintro e w1 ⟨rfl, b1⟩; have r1 := Lib.hid ((b1.out.block _ (Array.getElem?_eq_some_iff.1 HR.out).1).trans HR.out); obtain ⟨x0, x1, x2, x3⟩ := id_cells r1.out; have k1 := Lib.hid (go_on HB.out b1.out))
    | (go_at_call 18; refine (HA.out _).mono ?_; rintro e w2 ⟨rfl, b2⟩; have r2 := Lib.hid ((b2.out.block _ (Array.getElem?_eq_some_iff.1 r1.out).1).trans r1.out); obtain ⟨x0, x1, x2, x3⟩ := id_cells r2.out; have k2 := Lib.hid (go_on k1.out b2.out))
    | (go_at_call 23; refine (HH.out _).mono ?_; rintro e w3 ⟨rfl, b3⟩; have k3 := Lib.hid (go_on k2.out b3.out))
    | (go_at_call 20; refine (Marks_nil _).mono ?_; rintro e w4 ⟨rfl, rfl⟩)
    | (go_at_call 21; refine (Gaps_nil _).mono ?_; rintro e w5 ⟨rfl, rfl⟩)
    | (go_at_call 13; refine (Clone_nil _).mono ?_; rintro e w6 ⟨rfl, rfl⟩)
    | (go_at_call 11; refine (awake_any _).mono ?_; rintro e w7 ⟨rfl, b7⟩))
  go_ret
  exact ⟨rfl, go_on k3.out b7.out⟩
end Go.Proofs.Ytjgdkpgkonnhnaa.Se
