/- A byte that comes in, bytes that are dropped. -/
import Derived.Test.YtcdpdijfgeeenaaLnIns
import Derived.Test.YtcdpdijfgeeenaaLnDel
import Derived.Test.YtcdpdijfgeeenaaLnState
namespace Go.Proofs.Ytcdpdijfgeeenaa.Li
open Go.RowKit
open Go.Proofs.Ytcdpdijfgeeenaa.Sb
set_option linter.unusedVariables false
set_option linter.unusedSimpArgs false

theorem Drop_bad (w : World) (D : Nat) (s : Ln) (vb vd : Value) (h : Hid (Lq w D s vb vd)) (ok : Hid s.Ok) (k n : Int) (hk : Mi.I64 k) (hn : Mi.I64 n) (hb : dropB s k n = true) : Calls Try.prog 18 #[.pointer (some ⟨D, 0, none⟩), .int .i64 k, .int .i64 n] w fun e w' => e = .returned (.int .i64 1) ∧ w = w' := by
  obtain ⟨A, c, rfl, _⟩ := h.out.formB
  obtain ⟨c0, c1, c2, c3⟩ := h.out.cells
  have hrm := ok.out.room
  unfold dropB at hb
  obtain ⟨l, hl⟩ : ∃ l, s.bs.length = l := ⟨_, rfl⟩
  rw [hl] at c2 hb hrm
  by_cases h0 : k < 0
  · clear hb
    go_enter Try.func18, Try.ntmps18
    go_wp2
    go_ret
    exact ⟨rfl, rfl⟩
  · by_cases h1 : n < 0
    · clear hb
      go_enter Try.func18, Try.ntmps18
      go_wp2
      go_ret
      exact ⟨rfl, rfl⟩
    · have h2 : (l : Int) - k < n := by simpa [h0, h1] using hb
      have HW : Hid (wrap64 ((l : Int) - k) = (l : Int) - k) := Mi.fits (by unfold Mi.I64 at *; omega)
      have q := HW.out
      clear hb
      go_enter Try.func18, Try.ntmps18
      go_wp2
      go_ret
      exact ⟨rfl, rfl⟩
theorem Lq.reB {w w' : World} {D : Nat} {s : Ln} {vb vd v' : Value} {l : List Nat} (h : Lq w D s vb vd) (ho : Me.Own w' 0 v' l) (hg : w.grownBy w' vb.ownBlock) (hn : ∀ k, v'.ownBlock = some k → vb.ownBlock = some k ∨ w.heap.size ≤ k) :
    Lq (w'.setCell ⟨D, 2, none⟩ v') D ⟨s.delay, s.passed, l, s.due⟩ v' vd ∧ But (LF D vb vd) w (w'.setCell ⟨D, 2, none⟩ v') ∧ w'.cell? ⟨D, 2, none⟩ = some vb ∧ w'.frozen? ⟨D, 2, none⟩ = false ∧ w'.cell? ⟨D, 3, none⟩ = some vd := by
  have hbW : But (LF D vb vd) w w' := (But.refl _ _).grown hg fun r e => .inl (.inr (.inl e))
  have hD : w'.heap[D]? = _ := (hg.block D h.lt fun e => h.neB e.symm).trans h.box
  have od : Mi.Own w' 0 vd s.due := Mi.Own.same h.od fun k e hk => hg.block k hk fun e2 => h.neBD (k := k) e2.symm e
  refine ⟨?_, hbW.set (p := ⟨D, 2, none⟩) (.inl (.inl rfl)) _, ?_, frozen_of_row w' D 2 _ _ hD, ?_⟩
  · rw [setCell_eq_setRow w' D 2 _ _ (0, 0) _ hD]
    exact ⟨setRow_heap w' D _ _ _ (0, 0) hD, own_same ho fun k e _ => setRow_other _ _ k _ fun e2 => own_ne ho hD (by decide) (e2 ▸ e), Mi.Own.same od fun k e _ => setRow_other _ _ k _ fun e2 => own_ne od hD (by decide) (e2 ▸ e)⟩
  · rw [cell_of_row _ D _ _ _ (0, 0) hD]; rfl
  · rw [cell_of_row _ D _ _ _ (0, 0) hD]; rfl
theorem Lq.reD {w w' : World} {D : Nat} {s : Ln} {vb vd v' : Value} {l : List Int} (h : Lq w D s vb vd) (ho : Mi.Own w' 0 v' l) (hg : w.grownBy w' vd.ownBlock) (hn : ∀ k, v'.ownBlock = some k → vd.ownBlock = some k ∨ w.heap.size ≤ k) :
    Lq (w'.setCell ⟨D, 3, none⟩ v') D ⟨s.delay, s.passed, s.bs, l⟩ vb v' ∧ But (LF D vb vd) w (w'.setCell ⟨D, 3, none⟩ v') ∧ w'.cell? ⟨D, 3, none⟩ = some vd ∧ w'.frozen? ⟨D, 3, none⟩ = false := by
  have hbW : But (LF D vb vd) w w' := (But.refl _ _).grown hg fun r e => .inl (.inr (.inr e))
  have hD : w'.heap[D]? = _ := (hg.block D h.lt fun e => h.neD e.symm).trans h.box
  have ob : Me.Own w' 0 vb s.bs := own_same h.ob fun k e hk => hg.block k hk fun e2 => h.neBD (k := k) e e2.symm
  refine ⟨?_, hbW.set (p := ⟨D, 3, none⟩) (.inl (.inl rfl)) _, ?_, frozen_of_row w' D 3 _ _ hD⟩
  · rw [setCell_eq_setRow w' D 3 _ _ (0, 0) _ hD]
    exact ⟨setRow_heap w' D _ _ _ (0, 0) hD, own_same ob fun k e _ => setRow_other _ _ k _ fun e2 => own_ne ob hD (by decide) (e2 ▸ e), Mi.Own.same ho fun k e _ => setRow_other _ _ k _ fun e2 => own_ne ho hD (by decide) (e2 ▸ e)⟩
  · rw [cell_of_row _ D _ _ _ (0, 0) hD]; rfl
theorem Drop_ok (w : World) (D : Nat) (s : Ln) (vb vd : Value) (h : Hid (Lq w D s vb vd)) (ok : Hid s.Ok) (k n : Nat) (hkn : k + n ≤ s.bs.length) : Calls Try.prog 18 #[.pointer (some ⟨D, 0, none⟩), .int .i64 (k : Int), .int .i64 (n : Int)] w fun e w' => e = .returned (.int .i64 0) ∧ Hid (Aft w D vb vd (cutL s k n) w') := by
  have hrm := ok.out.room
  have hlen := ok.out.len
  have HDb := Lib.hid (Del_b w vb s.bs h.out.ob k (k + n) (by omega) hkn)
  have HDi : Hid (∀ W vd', Mi.Own W 0 vd' s.due → Calls Try.prog 33 #[vd', .int .i64 (k : Int), .int .i64 ((k + n : Nat) : Int)] W fun e w' => ∃ v', e = .returned v' ∧ Hid (Mi.Own w' 0 v' (s.due.take k ++ s.due.drop (k + n))) ∧ Hid (W.grownBy w' vd'.ownBlock) ∧ Hid (v'.ownBlock = vd'.ownBlock)) := fun W vd' hW => Del_i W vd' s.due hW k (k + n) (by omega) (by omega)
  obtain ⟨c0, c1, c2, c3⟩ := h.out.cells
  have f2 := h.out.frozen 2
  obtain ⟨A, c, e1, _⟩ := h.out.formB
  obtain ⟨A4, c4, e4, _⟩ := h.out.formD
  have HF := Lib.hid h.out.ltF
  have h1 := h.out
  have q1 : ¬ (s.bs.length : Int) - (k : Int) < (n : Int) := by omega
  have HW : Hid (wrap64 ((s.bs.length : Int) - (k : Int)) = (s.bs.length : Int) - (k : Int)) := Mi.fits (by unfold Mi.I64; omega)
  have HW2 : Hid (wrap64 ((k : Int) + (n : Int)) = ((k + n : Nat) : Int)) := by show _ = _; rw [Mi.fits (by unfold Mi.I64; omega)]; omega
  have q := HW.out
  have q2 := HW2.out
  have HK1 : Hid (∀ v' w', Hid (Me.Own w' 0 v' (s.bs.take k ++ s.bs.drop (k + n))) → Hid (w.grownBy w' vb.ownBlock) → Hid (v'.ownBlock = vb.ownBlock) → Lq (w'.setCell ⟨D, 2, none⟩ v') D ⟨s.delay, s.passed, s.bs.take k ++ s.bs.drop (k + n), s.due⟩ v' vd ∧ But (LF D vb vd) w (w'.setCell ⟨D, 2, none⟩ v') ∧ w'.cell? ⟨D, 2, none⟩ = some vb ∧ w'.frozen? ⟨D, 2, none⟩ = false ∧ w'.cell? ⟨D, 3, none⟩ = some vd) := fun v' w' g1 g2 g3 => h1.reB g1.out g2.out (fun q e => .inl (by rw [← g3.out]; exact e))
  subst e1 e4
  obtain ⟨l, hl⟩ : ∃ l, s.bs.length = l := ⟨_, rfl⟩
  have HL : Hid (s.bs.length = l ∧ s.due.length = l) := ⟨hl, by rw [hlen, hl]⟩
  rw [hlen] at c3 HK1 HF ⊢
  rw [hl] at c2 c3 q1 q HDb HK1 HF ⊢
  have h2 : Hid (Lq w D s (.slice A l c) (.slice A4 l c4)) := by
    have := h.out
    rw [hlen, hl] at this
    exact this
  clear h h1 HW HW2 hl hlen hrm hkn
  go_enter Try.func18, Try.ntmps18
  go_wp2_with (first
    | (go_at_call 32; refine HDb.out.mono ?_; rintro e w1 ⟨v1, rfl, HO1, HG1, HE1⟩; obtain ⟨hq1, hb1, k2, f2', k3⟩ := HK1.out v1 w1 HO1 HG1 HE1; have HQ1 := Lib.hid hq1; have HB1 := Lib.hid hb1; clear hq1 hb1; obtain ⟨B1, n1, b1, hv1⟩ := own_form HO1.out; subst hv1)
    | (go_at_call 33; refine (HDi.out _ _ HQ1.out.od).mono ?_; rintro e w3 ⟨v3, rfl, HO3, HG3, HE3⟩; obtain ⟨hq3, hb3, k5, f5⟩ := HQ1.out.reD HO3.out HG3.out (fun q e => .inl (by rw [← HE3.out]; exact e)); have HQ3 := Lib.hid hq3; have HB3 := Lib.hid hb3; clear hq3 hb3 k2 k3 f2'; obtain ⟨B3, n3, b3, hv3⟩ := own_form HO3.out; subst hv3))
  go_ret
  refine ⟨rfl, _, _, HQ3.out, HB1.out.trans HB3.out fun q hq hs => ?_, fun q hs => ?_⟩
  · rcases hs with e | e | e
    · exact .inl e
    · exact .inr (.inl (HE1.out ▸ e))
    · exact .inr (.inr e)
  · rcases hs with e | e | e
    · exact .inl (.inl e)
    · exact .inl (.inr (.inl (HE1.out ▸ e)))
    · exact .inl (.inr (.inr (HE3.out ▸ e)))
end Go.Proofs.Ytcdpdijfgeeenaa.Li
