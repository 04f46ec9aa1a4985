/- The law's step that appends. -/
import Derived.Test.YtdjgkoklkoahbaaDkStep
namespace Go.Proofs.Ytdjgkoklkoahbaa.Dk
open Go.RowKit
open Go.Proofs.Ytdjgkoklkoahbaa.Me Go.Proofs.Ytdjgkoklkoahbaa.Hd
set_option linter.unusedVariables false
set_option linter.unusedSimpArgs false

/-- Bytes appended to new ones, where the operation stands alone; from nil, or from an address. -/
theorem app8v {w0 w : World} {o : Oper} {a : Act} {K : Act → World → Prop} {Q : Exit → Act → World → Prop} (s x : Operand)
    (ho : o.op = .call { callee := .builtin .append, args := #[s, x], argTypes := #[33, 33] })
    (B : Nat) (v : Value) (r : List Nat) (hs : a.eval s = v) (hown : Me.Own w B v []) (hb : Below B w0 w) (hB : B ≤ w.heap.size)
    (A : Option Addr) (c : Nat) (hx : a.eval x = .slice A r.length c) (hr : Me.Rd w w.heap.size A r) (hA : A = none → r.length = 0 ∧ c = 0) (hlen : r.length ≤ 140737488355328)
    (h : ∀ v' w', Me.Own w' B v' r → Below B w0 w' → K (a.put o.dst v') w') : o.wp Try.prog a w K Q := by
  obtain ⟨i0, hi, hz0, hz1, hz2⟩ := info_parts info8
  rcases A with _ | ad
  · obtain ⟨h1, rfl⟩ := hA rfl
    obtain rfl : r = [] := List.eq_nil_of_length_eq_zero h1
    have hrun := run_append_owned_none (P := Try.prog) (w := w) B 33 o.type 5 i0 1 Try.underlying33 hi v 0 [] hown
    have hx' : a.eval x = .slice none 0 0 := hx
    unfold Oper.wp execOp
    simp only [ho, resolve, invoke, builtin, Sem.run_bind, Sem.run_pure, Result.andThen_ok, List.map_toArray, List.map_cons, List.map_nil, hs, hx', hrun]
    exact h v w hown hb
  · refine wp_append_own w s x 33 ho B 5 i0 (.int .u8 0) 1 1 Try.underlying33 hi hz0 hz1 hz2 rfl (by decide) v 0 [] hs hown ad r.length c (r.map byV) hx (len_map r) (rd_cells hr (Below.refl _ _)) (one_cells _) (by unfold maxLen; omega) (by omega) hB ?_
    intro v' w' h1 h2 _
    refine h v' w' ?_ (hb.grown h2 hB fun k hk => (hown.lt k hk).1)
    unfold Me.Own
    rw [Nat.zero_add] at h1
    exact h1
section
variable {G : Nat → Prop} (w : World) (D mb : Nat) (st : St) (A : Option Addr) (n c : Nat) (h : Hid (Pz G w D mb st (.slice A n c)))
include h
set_option maxRecDepth 100000 in
set_option maxHeartbeats 4000000 in
theorem step0 (nm to : Nm) (R : Option Addr) (cr : Nat) (p : List Nat) (an : Int) (kv : Value) (hr : Hid (Me.Rd w w.heap.size R p)) (hA : Hid (R = none → p.length = 0 ∧ cr = 0)) (hl : p.length ≤ 140737488351232) :
    Calls Try.prog 15 #[.pointer (some ⟨D, 0, none⟩), .agg (rcs st (.slice A n c)), .agg #[.int .i64 0, nmV nm, nmV to, .slice R p.length cr, .int .i64 an, kv]] w (StepP G w D mb) := by
  obtain ⟨W0, hW0⟩ : ∃ W0, ((w.alloc (.cells (rcs st (.slice A n c)) 29)).alloc (.cells #[.int .i64 0, nmV nm, nmV to, .slice R p.length cr, .int .i64 an, kv] 36)).alloc (.cells zD 29) = W0 := ⟨_, rfl⟩
  have HWE := Lib.hid hW0
  have HB0 : Hid (Sb w.heap.size st (.slice A n c) #[.int .i64 0, nmV nm, nmV to, .slice R p.length cr, .int .i64 an, kv] W0) := by show Sb _ _ _ _ _; rw [← hW0]; exact Sb.new w st _ _
  have HD0 : Hid (Below w.heap.size w W0) := by show Below _ _ _; rw [← hW0]; exact Me.below_alloc (Me.below_alloc (Me.below_alloc (Below.refl _ _)))
  have HN0 : Hid (W0.heap.size = w.heap.size + 3) := by show _ = _; rw [← hW0]; simp
  have HF0 : Hid (Fv (fun k => ¬ G k ∧ k < w.heap.size) W0 (.slice A n c) st.files) := h.out.fv0 HD0.out
  obtain ⟨y0, y1, y2, y3⟩ := row_cells4 HB0.out.x
  have a0 := HB0.out.act 0
  have a1 := HB0.out.act 1
  have a3 := HB0.out.act 3
  rw [← hW0] at y0 y1 y2 y3 a0 a1 a3
  have HRR : Hid (∀ W, Below w.heap.size w W → Me.Rd W W.heap.size R p) := fun W hW => (hr.out.below hW).more hW.size
  have HR := Lib.hid (RAppend_any W0 st (.slice A n c) HF0 h.out.ok nm R cr p (HRR.out W0 HD0.out) hA hl)
  obtain ⟨st', hst⟩ : ∃ st', appS st nm p = st' := ⟨_, rfl⟩
  obtain ⟨cc, hcc⟩ : ∃ cc : Nat, appE st nm p = cc := ⟨_, rfl⟩
  have HOK : Hid st'.Ok := by rw [← hst]; exact h.out.ok.app nm hr.out.1
  have HDF : Hid (∀ (W : World) (A4 : Option Addr) (c4 : Nat), Below w.heap.size w W → Hid (Me.Rd W W.heap.size A4 p) → Hid (A4 = none → p.length = 0 ∧ c4 = 0) → Calls Try.prog 14 #[.pointer (some ⟨D, 0, none⟩), nmV nm, .slice A4 p.length c4] W (OpP G W D mb st' cc)) := fun W A4 c4 hW q1 q2 => by
    rw [← hst, ← hcc]
    exact Append_any W D mb st (h.out.dq.below hW) h.out.ok nm A4 c4 p q1 q2 hl
  rw [hst, hcc] at HR
  have HBY := Lib.hid hr.out.1
  obtain ⟨pl, hpl⟩ : ∃ pl, p.length = pl := ⟨_, rfl⟩
  have HPL := Lib.hid hpl
  have HPB : Hid (pl ≤ 140737488355328) := by show _ ≤ _; omega
  rw [hpl] at HB0 HWE y0 y1 y2 y3 a0 a1 a3 HR ⊢
  show Calls Try.prog 15 #[.pointer (some ⟨D, 0, none⟩), .agg #[.int .i64 (st.limit : Int), .slice A n c, .int .i64 (leftI st), .bool st.down], .agg #[.int .i64 0, nmV nm, nmV to, .slice R pl cr, .int .i64 an, kv]] w _
  unfold rcs zD at HWE y0 y1 y2 y3 a0 a1 a3
  clear hW0 hst hcc hr hl hpl
  go_enter Try.func15, Try.ntmps15
  go_wp2_with (first
    | (go_at_call 37; rw [HWE.out]; refine HR.out.mono ?_; rintro e w1 ⟨A2, n2, c2, rfl, hf1, hb1⟩; have HB1 := Lib.hid (HB0.out.grow hb1.out); clear y0 y1 y2 y3 a0 a1 a3)
    | (refine wpList_store_row rfl 29 (.tmp 8) (.tmp 38) rfl w1.heap.size (rcs st' (.slice A2 n2 c2)) rfl rfl 29 _ (heap_alloc_new w1 _) (by kernel_rfl) rfl (rcs_one _ _ _ _) ?_; have hxb := x_box (st' := st') (v' := .slice A2 n2 c2) HB1.out; obtain ⟨W2, hW2⟩ : ∃ W2, (w1.alloc (.cells #[.int .i64 0, .slice none 0 0, .int .i64 0, .bool false] 29)).setRow w1.heap.size (rcs st' (.slice A2 n2 c2)) = W2 := ⟨_, rfl⟩; unfold zD at hxb; rw [hW2] at hxb ⊢; obtain ⟨gx, hgx⟩ : ∃ gx, w1.heap.size = gx := ⟨_, rfl⟩; have hg3 : w.heap.size + 3 ≤ gx := (by have h1 := HN0.out; have h2 := hb1.out.size; omega); have hbw : Below w.heap.size w W2 := (HD0.out.trans (hb1.out.mono HD0.out.size)).trans (hxb.2.1.mono (by omega)); have hf2 := hf1.out.below hxb.2.1; have hn2 := hxb.2.2; simp only [hgx] at hxb hn2 ⊢; have HX2 := Lib.hid hxb.1; have HG3 := Lib.hid hg3; have HBW := Lib.hid hbw; have HF2 := Lib.hid hf2; have HN2 := Lib.hid hn2; clear hW2 hxb hgx hg3 hbw hf2 hn2))
  have HXD : Hid (∀ W, Below W2.heap.size W2 W → XB w.heap.size st (.slice A n c) #[.int .i64 0, nmV nm, nmV to, .slice R pl cr, .int .i64 an, kv] gx st' (.slice A2 n2 c2) W) := fun W hW => HX2.out.but (But.of_below (S := fun _ => False) hW) (fun _ _ => id) (by have := HG3.out; omega)
  refine wp_region_held_drew (S := SS w.heap.size #[.int .i64 0, nmV nm, nmV to, .slice R pl cr, .int .i64 an, kv] gx st' (.slice A2 n2 c2)) (by kernel_rfl) (HXD.out _ ((Below.refl _ W2).drew)).ss (fun hHeld => ?_)
  refine wpAnyH_take (i := 0) (v := ?vz1) rfl (by kernel_rfl) (by kernel_rfl) (by kernel_rfl) (fun _ _ _ h => h) (Or.inl ⟨by rfl, ?hyz1⟩) (by first | assumption | exact trivial) ?restz1
  case hyz1 => intro W hSW; obtain ⟨r0, r1, r2, r3⟩ := hSW.c; go_simp; try (with_reducible rfl)
  simp only [Act.put, List.getElem_toArray, List.getElem_cons_succ, List.getElem_cons_zero, List.setIfInBounds_toArray, List.set_cons_zero, List.set_cons_succ]
  refine wpAnyH_take (i := 1) (v := ?vz2) rfl (by kernel_rfl) (by kernel_rfl) (by kernel_rfl) (fun _ _ _ h => h) (Or.inl ⟨by rfl, ?hyz2⟩) (by first | assumption | exact trivial) ?restz2
  case hyz2 => intro W hSW; go_simp; try (with_reducible rfl)
  simp only [Act.put, List.getElem_toArray, List.getElem_cons_succ, List.getElem_cons_zero, List.setIfInBounds_toArray, List.set_cons_zero, List.set_cons_succ]
  refine wpAnyH_take (i := 2) (v := ?vz3) rfl (by kernel_rfl) (by kernel_rfl) (by kernel_rfl) (fun _ _ _ h => h) (Or.inl ⟨by rfl, ?hyz3⟩) (by first | assumption | exact trivial) ?restz3
  case hyz3 => intro W hSW; go_simp; try (with_reducible rfl)
  simp only [Act.put, List.getElem_toArray, List.getElem_cons_succ, List.getElem_cons_zero, List.setIfInBounds_toArray, List.set_cons_zero, List.set_cons_succ]
  refine wpAnyH_take (i := 3) (v := ?vz4) rfl (by kernel_rfl) (by kernel_rfl) (by kernel_rfl) (fun _ _ _ h => h) (Or.inl ⟨by rfl, ?hyz4⟩) (by first | assumption | exact trivial) ?restz4
  case hyz4 => intro W hSW; have r1 := hSW.a 1; go_simp; try (with_reducible rfl)
  simp only [Act.put, List.getElem_toArray, List.getElem_cons_succ, List.getElem_cons_zero, List.setIfInBounds_toArray, List.set_cons_zero, List.set_cons_succ]
  refine wpAnyH_take (i := 5) (v := ?vz5) rfl (by kernel_rfl) (by kernel_rfl) (by kernel_rfl) (fun _ _ _ h => h) (Or.inl ⟨by rfl, ?hyz5⟩) (by first | assumption | exact trivial) ?restz5
  case hyz5 => intro W hSW; go_simp; try (with_reducible rfl)
  simp only [Act.put, List.getElem_toArray, List.getElem_cons_succ, List.getElem_cons_zero, List.setIfInBounds_toArray, List.set_cons_zero, List.set_cons_succ]
  refine wpAnyH_take (i := 6) (v := ?vz6) rfl (by kernel_rfl) (by kernel_rfl) (by kernel_rfl) (fun _ _ _ h => h) (Or.inl ⟨by rfl, ?hyz6⟩) (by first | assumption | exact trivial) ?restz6
  case hyz6 => intro W hSW; have r3 := hSW.a 3; go_simp; try (with_reducible rfl)
  simp only [Act.put, List.getElem_toArray, List.getElem_cons_succ, List.getElem_cons_zero, List.setIfInBounds_toArray, List.set_cons_zero, List.set_cons_succ]
  refine wpAnyH_take (i := 9) (v := ?vz7) rfl (by kernel_rfl) (by kernel_rfl) (by kernel_rfl) (fun _ _ _ h => h) (Or.inl ⟨by rfl, ?hyz7⟩) (by first | assumption | exact trivial) ?restz7
  case hyz7 => intro W hSW; go_simp; try (with_reducible rfl)
  simp only [Act.put, List.getElem_toArray, List.getElem_cons_succ, List.getElem_cons_zero, List.setIfInBounds_toArray, List.set_cons_zero, List.set_cons_succ]
  refine wpAnyH_ready (rs := [4]) (by kernel_rfl) (by simp) ?_
  refine AllReadyH.cons rfl (fun K hK => ?_) AllReadyH.nil
  go_simp
  have hb3 : Below W2.heap.size W2 (W2.drew.alloc (.cells #[] 5)) := ((Below.refl _ W2).drew).alloc (Nat.le_refl _) _
  refine hK.out _ _ ((HXD.out _ hb3).ss) (fun hHeld => ?_)
  clear hK K
  refine wpAnyH_ready (rs := [7]) (by kernel_rfl) (by simp) ?_
  refine AllReadyH.cons rfl (fun K hK => ?_) AllReadyH.nil
  rw [if_pos (by kernel_rfl)]
  have hbw3 := HBW.out.trans (hb3.mono HBW.out.size)
  refine app8v (w0 := W2) (.tmp 44) (.tmp 46) rfl W2.heap.size (.slice (some ⟨W2.heap.size, 0, none⟩) 0 0) p (by rfl) (Me.Own.lit (w0 := W2) (w := W2.drew) ((Below.refl _ W2).drew)) hb3 hb3.size R cr (by rw [HPL.out]; rfl) (HRR.out _ hbw3) hA.out (by rw [HPL.out]; exact HPB.out) ?_
  intro v4 w4 ho4 hb4
  obtain ⟨A4, c4, rfl, hc4, hc5, hh4⟩ := ho4.held HBY.out
  rw [HPL.out]
  have HBW4 : Hid (Below w.heap.size w w4) := HBW.out.trans (hb4.mono HBW.out.size)
  have HXX4 := Lib.hid (HXD.out _ hb4)
  have HSZ4 : Hid (W2.heap.size ≤ w4.heap.size) := hb4.size
  have HFW4 := Lib.hid (HF2.out.below hb4)
  have HCALL := Lib.hid (HDF.out w4 A4 c4 HBW4.out hh4.rd hh4.2.2)
  rw [HPL.out] at HCALL
  clear ho4 hb4 hc4 hc5 hh4 hb3 hbw3
  simp only [Act.put, List.getElem_toArray, List.getElem_cons_succ, List.getElem_cons_zero, List.setIfInBounds_toArray, List.set_cons_zero, List.set_cons_succ]
  refine hK.out _ _ (HXX4.out.ss) (fun hHeld => ?_)
  clear hK K
  refine wpAnyH_ready (rs := [8]) (by kernel_rfl) (by simp) ?_
  refine AllReadyH.cons rfl (fun K hK => ?_) AllReadyH.nil
  go_simp
  go_wp2_with (go_at_call 14; refine HCALL.out.mono ?_; rintro e w5 ⟨rfl, hd5, hb5⟩)
  have HX5 := Lib.hid (HXX4.out.but hb5.out (fun k hk hg => by have := h.out.lt k hg; omega) (by have := HG3.out; omega))
  refine hK.out _ _ (HX5.out.ss) (fun hHeld => ?_)
  clear hK K
  refine wpAnyH_take (i := 10) (v := ?vz8) rfl (by kernel_rfl) (by kernel_rfl) (by kernel_rfl) (fun _ _ _ h => h) (Or.inl ⟨by rfl, ?hyz8⟩) (by first | assumption | exact trivial) ?restz8
  case hyz8 => intro W hSW; go_simp; try (with_reducible rfl)
  simp only [Act.put, List.getElem_toArray, List.getElem_cons_succ, List.getElem_cons_zero, List.setIfInBounds_toArray, List.set_cons_zero, List.set_cons_succ]
  refine wpAnyH_ready (rs := [11]) (by kernel_rfl) (by simp) ?_
  refine AllReadyH.cons rfl (fun K hK => ?_) AllReadyH.nil
  rw [if_pos (by kernel_rfl)]
  refine wp_store_row 29 (.tmp 6) (.tmp 40) rfl (w.heap.size + 1 + 1) (rcs st' (.slice A2 n2 c2)) rfl (by rfl) 29 _ HX5.out.s.z (by kernel_rfl) rfl (rcs_one _ _ _ _) ?_
  simp only [Act.put, List.getElem_toArray, List.getElem_cons_succ, List.getElem_cons_zero, List.setIfInBounds_toArray, List.set_cons_zero, List.set_cons_succ]
  have HX6 := Lib.hid (HX5.out.store (by have := HG3.out; omega) (rcs st' (.slice A2 n2 c2)))
  refine hK.out _ _ (⟨HX6.out.1, HX6.out.2.1⟩) (fun hHeld => ?_)
  clear hK K
  refine wpAnyH_take (i := 12) (v := ?vz9) rfl (by kernel_rfl) (by kernel_rfl) (by kernel_rfl) (fun _ _ _ h => h) (Or.inl ⟨by rfl, ?hyz9⟩) (by first | assumption | exact trivial) ?restz9
  case hyz9 => intro W hSW; go_simp; try (with_reducible rfl)
  simp only [Act.put, List.getElem_toArray, List.getElem_cons_succ, List.getElem_cons_zero, List.setIfInBounds_toArray, List.set_cons_zero, List.set_cons_succ]
  refine wpAnyH_done (by kernel_rfl) ?_ _
  go_wp2
  refine ret_cell rfl rfl HX6.out.2.2 rfl Try.underlying29 (by kernel_rfl) rfl ?_
  obtain ⟨G', p1, p2, p3⟩ := step_fin (W2 := w4) h.out HBW4.out (by have h1 := HG3.out; have h2 := HN2.out; have h3 := HSZ4.out; omega) (by rw [HN0.out] at HFW4; exact HFW4.out) hd5.out hb5.out HOK.out (rcs st' (.slice A2 n2 c2))
  exact ⟨st', A2, n2, c2, G', by first | rfl | (simp only [beq_self_eq_true]; rfl), p1, p2, p3⟩
end
end Go.Proofs.Ytdjgkoklkoahbaa.Dk
