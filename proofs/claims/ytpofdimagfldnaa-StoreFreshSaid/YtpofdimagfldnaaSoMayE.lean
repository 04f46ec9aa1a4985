/- What an event would be told: May. -/
import Derived.Test.YtpofdimagfldnaaSoMayH
namespace Go.Proofs.Ytpofdimagfldnaa.So
open Go.RowKit
open Go.Proofs.Ytpofdimagfldnaa.Me Go.Proofs.Ytpofdimagfldnaa.Sb
set_option linter.unusedVariables false
set_option linter.unusedSimpArgs false

set_option maxHeartbeats 4000000 in
theorem May_nil (k : Int) (i : Mg.Id4) (A : Option Addr) (n c : Nat) (w : World) : Calls Try.prog 29 #[.pointer none, .agg (evC k i A n c)] w fun e w' => e = .returned (.int .i64 7) ∧ Hid (Below w.heap.size w w') := by
  have HB : Hid (Below w.heap.size w (w.alloc (.cells (evC k i A n c) 60))) := Me.below_alloc (Below.refl _ _)
  obtain ⟨o, d, ee, cc⟩ := i
  simp only [evC] at HB ⊢
  go_enter Try.func29, Try.ntmps29
  go_wp2
  go_ret
  exact ⟨rfl, HB.out⟩
set_option maxHeartbeats 4000000 in
theorem Apply_nil (k : Int) (i : Mg.Id4) (A : Option Addr) (n c : Nat) (w : World) : Calls Try.prog 19 #[.pointer none, .agg (evC k i A n c)] w fun e w' => e = .returned (.int .i64 7) ∧ Hid (Below w.heap.size w w') := by
  have HM := Lib.hid (fun W => May_nil k i A n c W)
  have HB : Hid (Below w.heap.size w (w.alloc (.cells (evC k i A n c) 60))) := Me.below_alloc (Below.refl _ _)
  obtain ⟨o, d, ee, cc⟩ := i
  simp only [evC] at HB HM ⊢
  go_enter Try.func19, Try.ntmps19
  go_wp2_with (go_at_call 29; refine (HM.out _).mono ?_; rintro e w2 ⟨rfl, b2⟩)
  go_ret
  exact ⟨rfl, go_on HB.out b2.out⟩
theorem fit_ev {k : Int} {i : Mg.Id4} {n : Nat} (h : chkE k i n = 0) : k = 1 ∨ (k = 2 ∧ Mg.Right i ∧ n ≤ 48) ∨ (k = 3 ∧ Mg.Right i) ∨ (k = 4 ∧ Mg.Right i) := by
  unfold chkE at h
  split at h
  · exact .inl (by assumption)
  split at h
  · rename_i h2
    obtain ⟨a, _, b⟩ := msgN_zero h
    exact .inr (.inl ⟨h2, a, b⟩)
  split at h
  · rename_i h3
    split at h
    · rename_i h4; exact absurd h h4
    · rename_i h4
      have := Mg.right_iff.1 (Decidable.not_not.1 h4)
      rcases h3 with h3 | h3
      · exact .inr (.inr (.inl ⟨h3, this⟩))
      · exact .inr (.inr (.inr ⟨h3, this⟩))
  · cases h
section
variable (E : Nat → Prop) (D hb sd sb m : Nat) (v : Value) (s : Sto) (w : World)
set_option maxRecDepth 100000 in
set_option maxHeartbeats 8000000 in
theorem May_any (k : Int) (i : Mg.Id4) (A : Option Addr) (n c : Nat) (hS : Hid (Sq E w D hb sd sb m v s)) : Calls Try.prog 29 #[.pointer (some ⟨D, 0, none⟩), .agg (evC k i A n c)] w fun e w' => e = .returned (.int .i64 (mayE s k i n : Int)) ∧ Hid (Below w.heap.size w w') := by
  have HK := Lib.hid (fun W => check_any k i A n c W)
  obtain ⟨V, hV⟩ : ∃ V, w.alloc (.cells (evC k i A n c) 60) = V := ⟨_, rfl⟩
  have hB : Below w.heap.size w V := by rw [← hV]; exact Me.below_alloc (Below.refl _ _)
  have hR : V.heap[w.heap.size]? = some (.cells (evC k i A n c) 60 (0, 0)) := by rw [← hV]; exact heap_alloc_new w _
  have HC : Hid (∀ W, Below V.heap.size V W → Sq E W D hb sd sb m v s ∧ W.heap[w.heap.size]? = some (.cells (evC k i A n c) 60 (0, 0)) ∧ Below w.heap.size w W) := fun W hW => by
    have h := hB.trans (hW.mono hB.size)
    exact ⟨hS.out.below h, (hW.block _ (Array.getElem?_eq_some_iff.1 hR).1).trans hR, h⟩
  have HV := Lib.hid hV
  have HB := Lib.hid hB
  have HFin : Hid (∀ W, Below V.heap.size V W → Below w.heap.size w W) := fun W hW => (HC.out W hW).2.2
  by_cases h0 : chkE k i n = 0
  · have hM : mayE s k i n = if k = 1 then mayB s else if k = 2 then mayH s i n else if k = 3 then mayR s i else mayD s i := by unfold mayE; rw [if_neg (by simp [h0])]
    rw [hM]
    rw [h0] at HK
    rcases fit_ev h0 with rfl | ⟨rfl, hr, hn⟩ | ⟨rfl, hr⟩ | ⟨rfl, hr⟩
    · rw [if_pos rfl]
      have HQ : Hid (∀ W, Below V.heap.size V W → Calls Try.prog 57 #[.pointer (some ⟨D, 0, none⟩)] W fun e w' => e = .returned (.int .i64 (mayB s : Int)) ∧ W = w') := fun W hW => mayBoot_any E D hb sd sb m v s W (HC.out W hW).1
      have HE : Hid (∀ W, Below V.heap.size V W → W.heap[w.heap.size]? = some (.cells (evC 1 i A n c) 60 (0, 0))) := fun W hW => (HC.out W hW).2.1
      obtain ⟨z, hz⟩ : ∃ z, mayB s = z := ⟨_, rfl⟩
      rw [hz] at HQ ⊢
      obtain ⟨o, d, ee, cc⟩ := i
      simp only [evC, show ((0 : Nat) : Int) = 0 from rfl] at HK HV HE ⊢
      clear hV hB hR HC h0 hM hz hS
      go_enter Try.func29, Try.ntmps29
      go_wp2_with (first
        | (go_at_call 48; rw [HV.out]; refine (HK.out _).mono ?_; rintro e w2 ⟨rfl, b2⟩; obtain ⟨x0, x1, x2, x3, x4, x5⟩ := ev_cells (HE.out w2 b2.out))
        | (go_at_call 57; refine (HQ.out _ b2.out).mono ?_; rintro e w3 ⟨rfl, rfl⟩))
      go_ret
      exact ⟨rfl, HFin.out _ b2.out⟩
    · rw [if_neg (by decide), if_pos rfl]
      have HQ : Hid (∀ W, Below V.heap.size V W → Calls Try.prog 58 #[.pointer (some ⟨D, 0, none⟩), .agg (Mg.msgC i A n c)] W fun e w' => e = .returned (.int .i64 (mayH s i n : Int)) ∧ Hid (Below W.heap.size W w')) := fun W hW => mayHold_any E D hb sd sb m v s W i A n c (fit_right hr) (by omega) (HC.out W hW).1
      have HE : Hid (∀ W, Below V.heap.size V W → W.heap[w.heap.size]? = some (.cells (evC 2 i A n c) 60 (0, 0))) := fun W hW => (HC.out W hW).2.1
      obtain ⟨z, hz⟩ : ∃ z, mayH s i n = z := ⟨_, rfl⟩
      rw [hz] at HQ ⊢
      obtain ⟨o, d, ee, cc⟩ := i
      simp only [evC, Mg.msgC, show ((0 : Nat) : Int) = 0 from rfl] at HK HV HE HQ ⊢
      clear hV hB hR HC h0 hM hz hS hr hn
      go_enter Try.func29, Try.ntmps29
      go_wp2_with (first
        | (go_at_call 48; rw [HV.out]; refine (HK.out _).mono ?_; rintro e w2 ⟨rfl, b2⟩; obtain ⟨x0, x1, x2, x3, x4, x5⟩ := ev_cells (HE.out w2 b2.out))
        | (go_at_call 58; refine (HQ.out _ b2.out).mono ?_; rintro e w3 ⟨rfl, b3⟩))
      go_ret
      exact ⟨rfl, HFin.out _ (b2.out.trans (b3.out.mono b2.out.size))⟩
    · rw [if_neg (by decide), if_neg (by decide), if_pos rfl]
      have HQ : Hid (∀ W, Below V.heap.size V W → Calls Try.prog 59 #[.pointer (some ⟨D, 0, none⟩), .agg (Mg.idC i)] W fun e w' => e = .returned (.int .i64 (mayR s i : Int)) ∧ Hid (Below W.heap.size W w')) := fun W hW => mayRelease_any E D hb sd sb m v s W i (fit_right hr) (HC.out W hW).1
      have HE : Hid (∀ W, Below V.heap.size V W → W.heap[w.heap.size]? = some (.cells (evC 3 i A n c) 60 (0, 0))) := fun W hW => (HC.out W hW).2.1
      obtain ⟨z, hz⟩ : ∃ z, mayR s i = z := ⟨_, rfl⟩
      rw [hz] at HQ ⊢
      obtain ⟨o, d, ee, cc⟩ := i
      simp only [evC, Mg.idC, show ((0 : Nat) : Int) = 0 from rfl] at HK HV HE HQ ⊢
      clear hV hB hR HC h0 hM hz hS hr
      go_enter Try.func29, Try.ntmps29
      go_wp2_with (first
        | (go_at_call 48; rw [HV.out]; refine (HK.out _).mono ?_; rintro e w2 ⟨rfl, b2⟩; obtain ⟨x0, x1, x2, x3, x4, x5⟩ := ev_cells (HE.out w2 b2.out))
        | (go_at_call 59; refine (HQ.out _ b2.out).mono ?_; rintro e w3 ⟨rfl, b3⟩))
      go_ret
      exact ⟨rfl, HFin.out _ (b2.out.trans (b3.out.mono b2.out.size))⟩
    · rw [if_neg (by decide), if_neg (by decide), if_neg (by decide)]
      have HQ : Hid (∀ W, Below V.heap.size V W → Calls Try.prog 60 #[.pointer (some ⟨D, 0, none⟩), .agg (Mg.idC i)] W fun e w' => e = .returned (.int .i64 (mayD s i : Int)) ∧ Hid (Below W.heap.size W w')) := fun W hW => mayDeliver_any E D hb sd sb m v s W i (HC.out W hW).1
      have HE : Hid (∀ W, Below V.heap.size V W → W.heap[w.heap.size]? = some (.cells (evC 4 i A n c) 60 (0, 0))) := fun W hW => (HC.out W hW).2.1
      obtain ⟨z, hz⟩ : ∃ z, mayD s i = z := ⟨_, rfl⟩
      rw [hz] at HQ ⊢
      obtain ⟨o, d, ee, cc⟩ := i
      simp only [evC, Mg.idC, show ((0 : Nat) : Int) = 0 from rfl] at HK HV HE HQ ⊢
      clear hV hB hR HC h0 hM hz hS hr
      go_enter Try.func29, Try.ntmps29
      go_wp2_with (first
        | (go_at_call 48; rw [HV.out]; refine (HK.out _).mono ?_; rintro e w2 ⟨rfl, b2⟩; obtain ⟨x0, x1, x2, x3, x4, x5⟩ := ev_cells (HE.out w2 b2.out))
        | (go_at_call 60; refine (HQ.out _ b2.out).mono ?_; rintro e w3 ⟨rfl, b3⟩))
      go_ret
      exact ⟨rfl, HFin.out _ (b2.out.trans (b3.out.mono b2.out.size))⟩
  · have hM : mayE s k i n = chkE k i n := by unfold mayE; rw [if_pos h0]
    rw [hM]
    have hne := Mg.nz h0
    obtain ⟨z, hz⟩ : ∃ z, chkE k i n = z := ⟨_, rfl⟩
    rw [hz] at HK hne ⊢
    obtain ⟨o, d, ee, cc⟩ := i
    simp only [evC] at HK HV ⊢
    clear hV hB hR HC h0 hM hz hS
    go_enter Try.func29, Try.ntmps29
    go_wp2_with (go_at_call 48; rw [HV.out]; refine (HK.out _).mono ?_; rintro e w2 ⟨rfl, b2⟩)
    go_ret
    exact ⟨rfl, HFin.out _ b2.out⟩
end
end Go.Proofs.Ytpofdimagfldnaa.So
