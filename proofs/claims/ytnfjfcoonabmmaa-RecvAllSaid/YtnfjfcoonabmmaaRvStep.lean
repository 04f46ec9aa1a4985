/- The contracts of the law's step: kinds that do nothing, send, acknowledge. -/
import Derived.Test.YtnfjfcoonabmmaaRvComes
namespace Go.Proofs.Ytnfjfcoonabmmaa.Rv
open Go.RowKit
open Go.Proofs.Ytnfjfcoonabmmaa.Me Go.Proofs.Ytnfjfcoonabmmaa.Hd Go.Proofs.Ytnfjfcoonabmmaa.Sn
set_option linter.unusedVariables false
set_option linter.unusedSimpArgs false

set_option maxRecDepth 100000 in
set_option maxHeartbeats 2000000 in
theorem step_none (P : Nat) (k N : Int) (hk : k < 0 ∨ 4 < k) (w : World) :
    Calls Try.prog 13 #[.pointer (some ⟨P, 0, none⟩), .agg #[.int .i64 k, .int .i64 N]] w fun e w' => (∃ v, e = .returned v) ∧ Hid (Below w.heap.size w w') := by
  have k0 : (k == 0) = false := beq_eq_false_iff_ne.mpr (by omega)
  have k1 : (k == 1) = false := beq_eq_false_iff_ne.mpr (by omega)
  have k2 : (k == 2) = false := beq_eq_false_iff_ne.mpr (by omega)
  have k3 : (k == 3) = false := beq_eq_false_iff_ne.mpr (by omega)
  have k4 : (k == 4) = false := beq_eq_false_iff_ne.mpr (by omega)
  clear hk
  have HB : Hid (Below w.heap.size w (w.alloc (.cells #[.int .i64 k, .int .i64 N] 43))) := Me.below_alloc (Below.refl _ _)
  go_enter Try.func13, Try.ntmps13
  go_wp2
  go_end0
  exact ⟨⟨_, rfl⟩, HB⟩
set_option maxRecDepth 100000 in
set_option maxHeartbeats 4000000 in
theorem step_ack (M : Nat) (w : World) (P Ds D mb n : Nat) (x : Pr) (h : Hid (PM M w P Ds D mb n x)) (N : Int) :
    Calls Try.prog 13 #[.pointer (some ⟨P, 0, none⟩), .agg #[.int .i64 4, .int .i64 N]] w fun e w' => (∃ v, e = .returned v) ∧ Hid (PM M w' P Ds D mb n ⟨ackS x.s (x.r.waits : Int), x.r, x.ps, x.W, x.W⟩) ∧ Hid (Below M w w') := by
  obtain ⟨hst, G, A1, c1, v2, A3, c3, hpm⟩ := h.out
  have HB : Below w.heap.size w (w.alloc (.cells #[.int .i64 4, .int .i64 N] 43)) := Me.below_alloc (Below.refl _ _)
  have hpa := hpm.below HB
  have HPA := Lib.hid hpa
  have HB0 : Hid (Below M w (w.alloc (.cells #[.int .i64 4, .int .i64 N] 43))) := HB.mono hpm.hM
  have hrow : (w.alloc (.cells #[.int .i64 4, .int .i64 N] 43)).cell? ⟨w.heap.size, 0, none⟩ = some (.int .i64 4) := cell_of_row _ _ 0 _ _ (0, 0) (heap_alloc_new w _)
  have HST := Lib.hid hst
  have hS := hst.ack
  go_enter Try.func13, Try.ntmps13
  go_wp2
  have e0 := HPA.out.cell 0
  have e1 := HPA.out.cell 1
  obtain ⟨WA, hWA⟩ : ∃ WA, w.alloc (.cells #[.int .i64 4, .int .i64 N] 43) = WA := ⟨_, rfl⟩
  rw [hWA] at HPA HB0 e0 e1 ⊢
  clear hWA hrow hpa HB hpm
  have HWt := Lib.hid (Waits_any WA.drew D mb x.r (Lib.hid (HPA.out.rv.rq.below ((Below.refl _ WA).drew))))
  have HAk := Lib.hid (Ack_s M G WA.drew Ds x.s (Lib.hid (HPA.out.sn.below ((Below.refl _ WA).drew))) (Lib.hid HST.out.sok) (Lib.hid (Nat.le_trans HPA.out.hM (Nat.le_refl _))) (Lib.hid fun k hk => (HPA.out.gM k hk).2) (x.r.waits : Int))
  refine wp_region_held_drew (S := fun W => W.cell? ⟨P, 0, none⟩ = some (.pointer (some ⟨Ds, 0, none⟩)) ∧ W.cell? ⟨P, 1, none⟩ = some (.pointer (some ⟨D, 0, none⟩))) (by kernel_rfl) ⟨e0, e1⟩ (fun hHeld => ?_)
  refine wpAnyH_take (i := 0) (v := ?vz1) rfl (by kernel_rfl) (by kernel_rfl) (by kernel_rfl) (fun _ _ _ h => h) (Or.inl ⟨by rfl, ?hyz1⟩) (by first | assumption | exact trivial) ?restz1
  case hyz1 => intro W hSW; go_simp; try (with_reducible rfl)
  simp only [Act.put, List.getElem_toArray, List.getElem_cons_succ, List.getElem_cons_zero, List.setIfInBounds_toArray, List.set_cons_zero, List.set_cons_succ]
  refine wpAnyH_take (i := 1) (v := ?vz2) rfl (by kernel_rfl) (by kernel_rfl) (by kernel_rfl) (fun _ _ _ h => h) (Or.inl ⟨by rfl, ?hyz2⟩) (by first | assumption | exact trivial) ?restz2
  case hyz2 => intro W hSW; go_simp; try (with_reducible rfl)
  simp only [Act.put, List.getElem_toArray, List.getElem_cons_succ, List.getElem_cons_zero, List.setIfInBounds_toArray, List.set_cons_zero, List.set_cons_succ]
  refine wpAnyH_take (i := 2) (v := ?vz3) rfl (by kernel_rfl) (by kernel_rfl) (by kernel_rfl) (fun _ _ _ h => h) (Or.inl ⟨by rfl, ?hyz3⟩) (by first | assumption | exact trivial) ?restz3
  case hyz3 => intro W hSW; go_simp; try (with_reducible rfl)
  simp only [Act.put, List.getElem_toArray, List.getElem_cons_succ, List.getElem_cons_zero, List.setIfInBounds_toArray, List.set_cons_zero, List.set_cons_succ]
  refine wpAnyH_take (i := 3) (v := ?vz4) rfl (by kernel_rfl) (by kernel_rfl) (by kernel_rfl) (fun _ _ _ h => h) (Or.inl ⟨by rfl, ?hyz4⟩) (by first | assumption | exact trivial) ?restz4
  case hyz4 => intro W hSW; have q3 := hSW.1; go_simp; try (with_reducible rfl)
  simp only [Act.put, List.getElem_toArray, List.getElem_cons_succ, List.getElem_cons_zero, List.setIfInBounds_toArray, List.set_cons_zero, List.set_cons_succ]
  refine wpAnyH_take (i := 4) (v := ?vz5) rfl (by kernel_rfl) (by kernel_rfl) (by kernel_rfl) (fun _ _ _ h => h) (Or.inl ⟨by rfl, ?hyz5⟩) (by first | assumption | exact trivial) ?restz5
  case hyz5 => intro W hSW; go_simp; try (with_reducible rfl)
  simp only [Act.put, List.getElem_toArray, List.getElem_cons_succ, List.getElem_cons_zero, List.setIfInBounds_toArray, List.set_cons_zero, List.set_cons_succ]
  refine wpAnyH_take (i := 5) (v := ?vz6) rfl (by kernel_rfl) (by kernel_rfl) (by kernel_rfl) (fun _ _ _ h => h) (Or.inl ⟨by rfl, ?hyz6⟩) (by first | assumption | exact trivial) ?restz6
  case hyz6 => intro W hSW; go_simp; try (with_reducible rfl)
  simp only [Act.put, List.getElem_toArray, List.getElem_cons_succ, List.getElem_cons_zero, List.setIfInBounds_toArray, List.set_cons_zero, List.set_cons_succ]
  refine wpAnyH_take (i := 6) (v := ?vz7) rfl (by kernel_rfl) (by kernel_rfl) (by kernel_rfl) (fun _ _ _ h => h) (Or.inl ⟨by rfl, ?hyz7⟩) (by first | assumption | exact trivial) ?restz7
  case hyz7 => intro W hSW; go_simp; try (with_reducible rfl)
  simp only [Act.put, List.getElem_toArray, List.getElem_cons_succ, List.getElem_cons_zero, List.setIfInBounds_toArray, List.set_cons_zero, List.set_cons_succ]
  refine wpAnyH_take (i := 7) (v := ?vz8) rfl (by kernel_rfl) (by kernel_rfl) (by kernel_rfl) (fun _ _ _ h => h) (Or.inl ⟨by rfl, ?hyz8⟩) (by first | assumption | exact trivial) ?restz8
  case hyz8 => intro W hSW; have q7 := hSW.2; go_simp; try (with_reducible rfl)
  simp only [Act.put, List.getElem_toArray, List.getElem_cons_succ, List.getElem_cons_zero, List.setIfInBounds_toArray, List.set_cons_zero, List.set_cons_succ]
  refine wpAnyH_ready (rs := [8]) (by kernel_rfl) (by simp) ?_
  refine AllReadyH.cons rfl (fun K hK => ?_) AllReadyH.nil
  go_simp
  go_wp2_with (go_at_call 23; refine HWt.out.mono ?_; rintro e w' ⟨rfl, rfl⟩)
  refine hK.out _ _ (⟨e0, e1⟩) (fun hHeld => ?_)
  clear hK K
  refine wpAnyH_ready (rs := [9]) (by kernel_rfl) (by simp) ?_
  refine AllReadyH.cons rfl (fun K hK => ?_) AllReadyH.nil
  go_simp
  go_wp2_with (go_at_call 34; refine HAk.out.mono ?_; rintro e w2 ⟨rfl, h2, b2⟩)
  have h3 := (HPA.out.below ((Below.refl _ WA).drew)).sender h2.out b2.out
  refine hK.out _ _ (⟨h3.cell 0, h3.cell 1⟩) (fun hHeld => ?_)
  clear hK K
  refine wpAnyH_done (by kernel_rfl) ?_ _
  have HB2 : Hid (Below M w w2) := (HB0.out.trans (Below.mono ((Below.refl _ WA).drew) HPA.out.hM)).trans (but_out b2.out HPA.out.hM)
  have H3 := Lib.hid h3
  clear h2 b2 h3 e0 e1
  go_wp2
  go_end0
  refine ⟨⟨_, rfl⟩, ⟨hS.1, G, A1, c1, v2, A3, c3, ?_⟩, HB2⟩
  show Pm M G _ P Ds D mb _ x.r x.ps (x.W + (ackS x.s (x.r.waits : Int)).under) _ A1 c1 v2 A3 c3
  rw [hS.2.2]
  exact H3.out
end Go.Proofs.Ytnfjfcoonabmmaa.Rv
