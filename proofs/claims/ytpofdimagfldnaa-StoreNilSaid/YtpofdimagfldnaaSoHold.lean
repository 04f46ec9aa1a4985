/- A message is put down: hold, use. -/
import Derived.Test.YtpofdimagfldnaaSoMayH
import Derived.Test.YtpofdimagfldnaaBClone
namespace Go.Proofs.Ytpofdimagfldnaa.So
open Go.RowKit
open Go.Proofs.Ytpofdimagfldnaa.Me Go.Proofs.Ytpofdimagfldnaa.Sb
set_option linter.unusedVariables false
set_option linter.unusedSimpArgs false

/-- Only the block itself was turned. -/
theorem Sq.only {E : Nat → Prop} {w w' : World} {D hb sd sb m : Nat} {v : Value} {s s' : Sto} (h : Sq E w D hb sd sb m v s) (hb' : But (fun k => k = D) w w') (e1 : s'.held = s.held) (e2 : s'.seen = s.seen) (hbox : Box w' D s' hb sd v (bytesOf s'.held)) (hok : Ok s') : Sq E w' D hb sd sb m v s' := by
  obtain ⟨a1, a2, a3, a4, a5, a6, a7⟩ := h.apart
  have hi : Se.Ints w w' := Se.Ints.but hb' fun k cs hk e => by subst e; exact (h.no8 (.inl rfl) cs).2 hk
  have hu : U8s E w w' := U8s.but hb' fun k cs _ hk e => by subst e; exact (h.no8 (.inl rfl) cs).1 hk
  refine ⟨hbox, ?_, ?_, ?_, hok, h.ne⟩
  · rw [e1]; exact h.map.keep (hb'.same hb h.map.lt a1.symm) hu fun _ _ h => h
  · rw [e1]; exact ki_at h.ord fun k e => hb'.same k (Ki.lt h.ord e).2 (a7 k e).1
  · rw [e2]; exact h.set.keep (hb'.same sd h.set.lt.1 a2.symm) (hb'.same sb h.set.lt.2 a3.symm) hi
section
variable (E : Nat → Prop) (D hb sd sb m : Nat) (v : Value) (s : Sto) (w : World)
set_option maxRecDepth 100000 in
set_option maxHeartbeats 8000000 in
/-- 'use': the last counter of an id's destination. -/
theorem use_any (i : Mg.Id4) (hr : Mg.Right i) (hS : Hid (Sq E w D hb sd sb m v s)) : Calls Try.prog 42 #[.pointer (some ⟨D, 0, none⟩), .agg (Mg.idC i)] w fun e w' => (∃ x, e = .returned x) ∧ Hid (Sq E w' D hb sd sb m v (useS s i)) ∧ Hid (But (fun k => k = D) w w') := by
  have HOk := Lib.hid (hS.out.ok.use hr)
  obtain ⟨V, hV⟩ : ∃ V, w.alloc (.cells (Mg.idC i) 28) = V := ⟨_, rfl⟩
  have hB : Below w.heap.size w V := by rw [← hV]; exact Me.below_alloc (Below.refl _ _)
  have hR : V.heap[w.heap.size]? = some (.cells (Mg.idC i) 28 (0, 0)) := by rw [← hV]; exact heap_alloc_new w _
  have hSV := hS.out.below hB
  have c0 := hSV.box.self
  have c4 := hSV.box.epoch
  have HV := Lib.hid hV
  have HB := Lib.hid hB
  have HSV := Lib.hid hSV
  obtain ⟨o, d, ee, c⟩ := i
  have hd0 := hr.d0
  have hd1 := hr.d1
  simp only at hd0 hd1
  obtain ⟨j, rfl⟩ : ∃ j : Nat, d = (j : Int) := ⟨d.toNat, by omega⟩
  have hj : j < 64 := by omega
  simp only [Mg.idC] at HV hR ⊢
  obtain ⟨x0, x1, x2, x3⟩ := id_cells hR
  have HRV := Lib.hid hR
  have HJ := Lib.hid hj
  have HD : Hid (D ≠ w.heap.size) := by have := hS.out.box.lt; show D ≠ _; omega
  have hu : useS s ⟨o, (j : Int), ee, c⟩ = ⟨s.self, s.qh, s.qb, s.qg, s.epoch, useL s ⟨o, (j : Int), ee, c⟩, s.held, s.seen⟩ := rfl
  rw [hu] at HOk ⊢
  by_cases h : o = s.self ∧ ee = s.epoch
  · have hl : useL s ⟨o, (j : Int), ee, c⟩ = fun k => if k = j then max (s.last j) c else s.last k := by
      unfold useL
      rw [if_pos h]
      funext k
      by_cases e : k = j
      · subst e; simp
      · have : ¬ (k : Int) = (j : Int) := by omega
        simp [e, this]
    rw [hl] at HOk ⊢
    have hbx := hSV.box
    have cl := hbx.last hj
    obtain ⟨rfl, rfl⟩ := h
    have g1 : (s.self == s.self) = true := by simp
    have g2 : (s.epoch == s.epoch) = true := by simp
    obtain ⟨la, hla⟩ : ∃ x, s.last j = x := ⟨_, rfl⟩
    rw [hla] at cl HOk ⊢
    obtain ⟨mx, hmx⟩ : ∃ x, max la c = x := ⟨_, rfl⟩
    have HMx := Lib.hid hmx
    have HLa := Lib.hid hla
    have HBx := Lib.hid hbx
    rw [hmx] at HOk ⊢
    clear hV hB hR hSV hS hr hd0 hd1 hu hl hla hmx hbx
    go_enter Try.func42, Try.ntmps42
    go_wp2
    rw [HV.out]
    go_quiet (fail)
    have hq : Below V.heap.size V (V.drewN nq) := Me.below_drewN (Below.refl _ _) _
    have hqb : Box (V.drewN nq) D s hb sd v (bytesOf s.held) := HBx.out
    have hqi : (V.drewN nq).heap[w.heap.size]? = _ := HRV.out
    obtain ⟨U, hU⟩ : ∃ W, V.drewN nq = W := ⟨_, rfl⟩
    rw [hU] at hq hqb hqi ⊢
    have HQ := Lib.hid hq
    have HQb := Lib.hid hqb
    have HQi := Lib.hid hqi
    clear hU hq hqb hqi c0 c4 cl x0 x1 x2 x3
    go_wp2
    have t1 : (j : Int) < 64 := by have := HJ.out; omega
    have t2 : ¬ (64 : Int) ≤ (j : Int) := by omega
    have S0 : But (fun k => k = D) U U.drew := But.of_below (Below.refl _ _).drew
    refine wp_region_held_drew (S := fun W => But (fun k => k = D) U W) (by kernel_rfl) S0 (fun hHeld => ?_)
    refine wpAnyH_take (i := 0) (v := .pointer (some ⟨D, 0, none⟩)) rfl (by kernel_rfl) (by kernel_rfl) (by kernel_rfl) (fun _ _ _ h => h) (Or.inl ⟨by rfl, ?_⟩) (by first | assumption | exact trivial) ?_
    · intro W hSW; go_simp; try (with_reducible rfl)
    simp only [Act.put, List.getElem_toArray, List.getElem_cons_succ, List.getElem_cons_zero, List.setIfInBounds_toArray, List.set_cons_zero, List.set_cons_succ]
    refine wpAnyH_take (i := 1) (v := .pointer (some ⟨w.heap.size, 1, none⟩)) rfl (by kernel_rfl) (by kernel_rfl) (by kernel_rfl) (fun _ _ _ h => h) (Or.inl ⟨by rfl, ?_⟩) (by first | assumption | exact trivial) ?_
    · intro W hSW; go_simp; try (with_reducible rfl)
    simp only [Act.put, List.getElem_toArray, List.getElem_cons_succ, List.getElem_cons_zero, List.setIfInBounds_toArray, List.set_cons_zero, List.set_cons_succ]
    refine wpAnyH_take (i := 2) (v := .int .i64 (j : Int)) rfl (by kernel_rfl) (by kernel_rfl) (by kernel_rfl) (fun _ _ _ h => h) (Or.inl ⟨by rfl, ?_⟩) (by first | assumption | exact trivial) ?_
    · intro W hSW; obtain ⟨y0, y1, y2, y3⟩ := id_cells (hSW.at_ HQi.out (fun e => HD.out e.symm)); go_simp; try (with_reducible rfl)
    simp only [Act.put, List.getElem_toArray, List.getElem_cons_succ, List.getElem_cons_zero, List.setIfInBounds_toArray, List.set_cons_zero, List.set_cons_succ]
    refine wpAnyH_take (i := 3) (v := .pointer (some ⟨D, 0, none⟩)) rfl (by kernel_rfl) (by kernel_rfl) (by kernel_rfl) (fun _ _ _ h => h) (Or.inl ⟨by rfl, ?_⟩) (by first | assumption | exact trivial) ?_
    · intro W hSW; go_simp; try (with_reducible rfl)
    simp only [Act.put, List.getElem_toArray, List.getElem_cons_succ, List.getElem_cons_zero, List.setIfInBounds_toArray, List.set_cons_zero, List.set_cons_succ]
    refine wpAnyH_take (i := 4) (v := .pointer (some ⟨w.heap.size, 1, none⟩)) rfl (by kernel_rfl) (by kernel_rfl) (by kernel_rfl) (fun _ _ _ h => h) (Or.inl ⟨by rfl, ?_⟩) (by first | assumption | exact trivial) ?_
    · intro W hSW; go_simp; try (with_reducible rfl)
    simp only [Act.put, List.getElem_toArray, List.getElem_cons_succ, List.getElem_cons_zero, List.setIfInBounds_toArray, List.set_cons_zero, List.set_cons_succ]
    refine wpAnyH_take (i := 5) (v := .int .i64 (j : Int)) rfl (by kernel_rfl) (by kernel_rfl) (by kernel_rfl) (fun _ _ _ h => h) (Or.inl ⟨by rfl, ?_⟩) (by first | assumption | exact trivial) ?_
    · intro W hSW; obtain ⟨y0, y1, y2, y3⟩ := id_cells (hSW.at_ HQi.out (fun e => HD.out e.symm)); go_simp; try (with_reducible rfl)
    simp only [Act.put, List.getElem_toArray, List.getElem_cons_succ, List.getElem_cons_zero, List.setIfInBounds_toArray, List.set_cons_zero, List.set_cons_succ]
    refine wpAnyH_take (i := 6) (v := .pointer (some ⟨D, 0, none⟩)) rfl (by kernel_rfl) (by kernel_rfl) (by kernel_rfl) (fun _ _ _ h => h) (Or.inl ⟨by rfl, ?_⟩) (by first | assumption | exact trivial) ?_
    · intro W hSW; go_simp; try (with_reducible rfl)
    simp only [Act.put, List.getElem_toArray, List.getElem_cons_succ, List.getElem_cons_zero, List.setIfInBounds_toArray, List.set_cons_zero, List.set_cons_succ]
    refine wpAnyH_take (i := 7) (v := .pointer (some ⟨D, 5, none⟩)) rfl (by kernel_rfl) (by kernel_rfl) (by kernel_rfl) (fun _ _ _ h => h) (Or.inl ⟨by rfl, ?_⟩) (by first | assumption | exact trivial) ?_
    · intro W hSW; go_simp; try (with_reducible rfl)
    simp only [Act.put, List.getElem_toArray, List.getElem_cons_succ, List.getElem_cons_zero, List.setIfInBounds_toArray, List.set_cons_zero, List.set_cons_succ]
    refine wpAnyH_take (i := 8) (v := .pointer (some ⟨D, 5 + j, none⟩)) rfl (by kernel_rfl) (by kernel_rfl) (by kernel_rfl) (fun _ _ _ h => h) (Or.inl ⟨by rfl, ?_⟩) (by first | assumption | exact trivial) ?_
    · intro W hSW; go_simp; try (with_reducible rfl)
    simp only [Act.put, List.getElem_toArray, List.getElem_cons_succ, List.getElem_cons_zero, List.setIfInBounds_toArray, List.set_cons_zero, List.set_cons_succ]
    refine wpAnyH_take (i := 10) (v := .pointer (some ⟨w.heap.size, 3, none⟩)) rfl (by kernel_rfl) (by kernel_rfl) (by kernel_rfl) (fun _ _ _ h => h) (Or.inl ⟨by rfl, ?_⟩) (by first | assumption | exact trivial) ?_
    · intro W hSW; go_simp; try (with_reducible rfl)
    simp only [Act.put, List.getElem_toArray, List.getElem_cons_succ, List.getElem_cons_zero, List.setIfInBounds_toArray, List.set_cons_zero, List.set_cons_succ]
    refine wpAnyH_take (i := 11) (v := .int .i64 c) rfl (by kernel_rfl) (by kernel_rfl) (by kernel_rfl) (fun _ _ _ h => h) (Or.inl ⟨by rfl, ?_⟩) (by first | assumption | exact trivial) ?_
    · intro W hSW; obtain ⟨y0, y1, y2, y3⟩ := id_cells (hSW.at_ HQi.out (fun e => HD.out e.symm)); go_simp; try (with_reducible rfl)
    simp only [Act.put, List.getElem_toArray, List.getElem_cons_succ, List.getElem_cons_zero, List.setIfInBounds_toArray, List.set_cons_zero, List.set_cons_succ]
    refine wpAnyH_take (i := 13) (v := .pointer (some ⟨D, 0, none⟩)) rfl (by kernel_rfl) (by kernel_rfl) (by kernel_rfl) (fun _ _ _ h => h) (Or.inl ⟨by rfl, ?_⟩) (by first | assumption | exact trivial) ?_
    · intro W hSW; go_simp; try (with_reducible rfl)
    simp only [Act.put, List.getElem_toArray, List.getElem_cons_succ, List.getElem_cons_zero, List.setIfInBounds_toArray, List.set_cons_zero, List.set_cons_succ]
    refine wpAnyH_take (i := 14) (v := .pointer (some ⟨D, 5, none⟩)) rfl (by kernel_rfl) (by kernel_rfl) (by kernel_rfl) (fun _ _ _ h => h) (Or.inl ⟨by rfl, ?_⟩) (by first | assumption | exact trivial) ?_
    · intro W hSW; go_simp; try (with_reducible rfl)
    simp only [Act.put, List.getElem_toArray, List.getElem_cons_succ, List.getElem_cons_zero, List.setIfInBounds_toArray, List.set_cons_zero, List.set_cons_succ]
    refine wpAnyH_ready (rs := [9]) (by kernel_rfl) (by simp) ?_
    refine AllReadyH.cons rfl (fun K hK => ?_) AllReadyH.nil
    have yD : U.drew.cell? ⟨D, 5 + j, none⟩ = some (.int .i64 la) := by rw [← HLa.out]; exact HQb.out.last HJ.out
    go_simp
    refine hK.out _ _ (S0) (fun hHeld => ?_)
    clear hK K
    refine wpAnyH_take (i := 12) (v := .int .i64 mx) rfl (by kernel_rfl) (by kernel_rfl) (by kernel_rfl) (fun _ _ _ h => h) (Or.inl ⟨by rfl, ?_⟩) (by first | assumption | exact trivial) ?_
    · intro W hSW; have q := HMx.out; go_simp; try (with_reducible rfl)
    simp only [Act.put, List.getElem_toArray, List.getElem_cons_succ, List.getElem_cons_zero, List.setIfInBounds_toArray, List.set_cons_zero, List.set_cons_succ]
    refine wpAnyH_take (i := 15) (v := .pointer (some ⟨D, 5 + j, none⟩)) rfl (by kernel_rfl) (by kernel_rfl) (by kernel_rfl) (fun _ _ _ h => h) (Or.inl ⟨by rfl, ?_⟩) (by first | assumption | exact trivial) ?_
    · intro W hSW; go_simp; try (with_reducible rfl)
    simp only [Act.put, List.getElem_toArray, List.getElem_cons_succ, List.getElem_cons_zero, List.setIfInBounds_toArray, List.set_cons_zero, List.set_cons_succ]
    refine wpAnyH_ready (rs := [16]) (by kernel_rfl) (by simp) ?_
    refine AllReadyH.cons rfl (fun K hK => ?_) AllReadyH.nil
    have fD : U.drew.frozen? ⟨D, 5 + j, none⟩ = false := HQb.out.frozen _
    go_simp
    have b3 : But (fun k => k = D) U ((U.setCell ⟨D, 5 + j, none⟩ (.int .i64 mx)).drew) := ((But.refl (fun k => k = D) U).set (p := ⟨D, 5 + j, none⟩) (.inl rfl) _).trans (But.of_below (S := fun _ => False) (Below.refl _ _).drew) (fun _ _ h => h.elim)
    have x3 : Box ((U.setCell ⟨D, 5 + j, none⟩ (.int .i64 mx)).drew) D ⟨s.self, s.qh, s.qb, s.qg, s.epoch, fun k => if k = j then mx else s.last k, s.held, s.seen⟩ hb sd v (bytesOf s.held) := HQb.out.setL HJ.out mx
    refine hK.out _ _ (b3) (fun hHeld => ?_)
    clear hK K
    refine wpAnyH_done (by kernel_rfl) ?_ _
    go_end0
    have bq : But (fun k => k = D) V ((U.setCell ⟨D, 5 + j, none⟩ (.int .i64 mx)).drew) := (But.of_below (S := fun k => k = D) HQ.out).trans b3 fun _ _ h => h
    exact ⟨⟨_, rfl⟩, HSV.out.only bq rfl rfl x3 HOk.out, (But.of_below (S := fun k => k = D) HB.out).trans bq fun _ _ h => h⟩
  · have hl : useL s ⟨o, (j : Int), ee, c⟩ = s.last := by
      unfold useL
      rw [if_neg h]
    rw [hl] at HOk ⊢
    obtain ⟨me, hme⟩ : ∃ x, s.self = x := ⟨_, rfl⟩
    obtain ⟨ep, hep⟩ : ∃ x, s.epoch = x := ⟨_, rfl⟩
    have hs : (⟨s.self, s.qh, s.qb, s.qg, s.epoch, s.last, s.held, s.seen⟩ : Sto) = s := rfl
    rw [hs]
    rw [hme] at c0 h
    rw [hep] at c4 h
    have hc : (o == me) = false ∨ ((o == me) = true ∧ (ee == ep) = false) := by
      by_cases h1 : o = me
      · exact .inr ⟨by simpa using h1, by simp; exact fun h2 => h ⟨h1, h2⟩⟩
      · exact .inl (by simpa using h1)
    clear hV hB hR hSV hS hr hd0 hd1 hu hl hs h HRV HOk
    rcases hc with g1 | ⟨g1, g2⟩
    all_goals
      go_enter Try.func42, Try.ntmps42
      go_wp2
      rw [HV.out]
      go_quiet (fail)
      have hq : Below V.heap.size V (V.drewN nq) := Me.below_drewN (Below.refl _ _) _
      go_wp2
      go_end0
      exact ⟨⟨_, rfl⟩, HSV.out.below hq, But.of_below (go_on HB.out hq)⟩
end
end Go.Proofs.Ytpofdimagfldnaa.So
