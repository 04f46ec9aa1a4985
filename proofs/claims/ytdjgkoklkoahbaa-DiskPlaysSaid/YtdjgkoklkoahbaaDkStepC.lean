/- The law's steps that crash, or do nothing. -/
import Derived.Test.YtdjgkoklkoahbaaDkStep
namespace Go.Proofs.Ytdjgkoklkoahbaa.Dk
open Go.RowKit
open Go.Proofs.Ytdjgkoklkoahbaa.Me Go.Proofs.Ytdjgkoklkoahbaa.Hd
set_option linter.unusedVariables false
set_option linter.unusedSimpArgs false

/-- Numbers appended to new ones, where the operation stands alone; from nil, or from an address. -/
theorem appIv {w0 w : World} {o : Oper} {a : Act} {K : Act → World → Prop} {Q : Exit → Act → World → Prop} (s x : Operand)
    (ho : o.op = .call { callee := .builtin .append, args := #[s, x], argTypes := #[34, 34] })
    (B : Nat) (v : Value) (r : List Int) (hs : a.eval s = v) (hown : Mi.Own w B v []) (hb : Below B w0 w) (hB : B ≤ w.heap.size)
    (A : Option Addr) (c : Nat) (hx : a.eval x = .slice A r.length c) (hr : Mi.Rd w w.heap.size A r) (hA : A = none → r.length = 0 ∧ c = 0) (hlen : r.length * 8 ≤ 140737488355328)
    (h : ∀ v' w', Mi.Own w' B v' r → Below B w0 w' → w.grownBy w' v.ownBlock → K (a.put o.dst v') w') : o.wp Try.prog a w K Q := by
  obtain ⟨i0, hi, hz0, hz1, hz2⟩ := info_parts Mi.infoI
  rcases A with _ | ad
  · obtain ⟨h1, rfl⟩ := hA rfl
    obtain rfl : r = [] := List.eq_nil_of_length_eq_zero h1
    have hrun := run_append_owned_none (P := Try.prog) (w := w) B 34 o.type 3 i0 1 Try.underlying34 hi v 0 [] hown
    have hx' : a.eval x = .slice none 0 0 := hx
    unfold Oper.wp execOp
    simp only [ho, resolve, invoke, builtin, Sem.run_bind, Sem.run_pure, Result.andThen_ok, List.map_toArray, List.map_cons, List.map_nil, hs, hx', hrun]
    exact h v w hown hb ⟨rfl, rfl, rfl, Nat.le_refl _, fun _ _ _ => rfl⟩
  · refine wp_append_own w s x 34 ho B 3 i0 (.int .i64 0) 1 8 Try.underlying34 hi hz0 hz1 hz2 rfl (by decide) v 0 [] hs hown ad r.length c (r.map Mi.iV) hx (by simp) (Mi.rd_cells hr) (Mi.one_cells r) (by unfold maxLen; omega) (by omega) hB ?_
    intro v' w' h1 h2 _
    refine h v' w' ?_ (hb.grown h2 hB fun k hk => (hown.lt k hk).1) h2
    unfold Mi.Own
    rw [Nat.zero_add] at h1
    exact h1
section
variable {G : Nat → Prop} (w : World) (D mb : Nat) (st : St) (A : Option Addr) (n c : Nat) (h : Hid (Pz G w D mb st (.slice A n c)))
include h
set_option maxRecDepth 100000 in
set_option maxHeartbeats 8000000 in
theorem step8 (nm to : Nm) (R : Option Addr) (cr : Nat) (ks : List Int) (an : Int) (pv : Value) (hr : Hid (Mi.Rd w w.heap.size R ks)) (hA : Hid (R = none → ks.length = 0 ∧ cr = 0)) (hlc : ks.length ≤ cr) (hl : cr * 8 ≤ 140737488351232) :
    Calls Try.prog 15 #[.pointer (some ⟨D, 0, none⟩), .agg (rcs st (.slice A n c)), .agg #[.int .i64 8, nmV nm, nmV to, pv, .int .i64 an, .slice R ks.length cr]] w (StepP G w D mb) := by
  obtain ⟨W0, hW0⟩ : ∃ W0, ((w.alloc (.cells (rcs st (.slice A n c)) 29)).alloc (.cells #[.int .i64 8, nmV nm, nmV to, pv, .int .i64 an, .slice R ks.length cr] 36)).alloc (.cells zD 29) = W0 := ⟨_, rfl⟩
  have HWE := Lib.hid hW0
  have HB0 : Hid (Sb w.heap.size st (.slice A n c) #[.int .i64 8, nmV nm, nmV to, pv, .int .i64 an, .slice R ks.length cr] W0) := by show Sb _ _ _ _ _; rw [← hW0]; exact Sb.new w st _ _
  have HD0 : Hid (Below w.heap.size w W0) := by show Below _ _ _; rw [← hW0]; exact Me.below_alloc (Me.below_alloc (Me.below_alloc (Below.refl _ _)))
  have HN0 : Hid (W0.heap.size = w.heap.size + 3) := by show _ = _; rw [← hW0]; simp
  have HF0 : Hid (Fv (fun k => ¬ G k ∧ k < w.heap.size) W0 (.slice A n c) st.files) := h.out.fv0 HD0.out
  obtain ⟨y0, y1, y2, y3⟩ := row_cells4 HB0.out.x
  have a0 := HB0.out.act 0
  have a5 := HB0.out.act 5
  rw [← hW0] at y0 y1 y2 y3 a0 a5
  have HRR : Hid (∀ W, Below w.heap.size w W → Mi.Rd W W.heap.size R ks) := fun W hW => (hr.out.below hW).more hW.size
  have HR := Lib.hid (fun (W : World) (hW : Below w.heap.size w W) => RCrash_any W st (.slice A n c) (h.out.fv0 hW) h.out.ok R cr ks (HRR.out W hW) hlc)
  have HOK : Hid (crashS st ks).Ok := h.out.ok.crash ks
  have HDF : Hid (∀ (W : World) (A4 : Option Addr) (c4 : Nat), Below w.heap.size w W → Hid (Mi.Rd W W.heap.size A4 ks) → ks.length ≤ c4 → c4 ≤ 9223372036854775807 → Hid (∀ a, A4 = some a → w.heap.size ≤ a.block) → Calls Try.prog 13 #[.pointer (some ⟨D, 0, none⟩), .slice A4 ks.length c4] W (OpP G W D mb (crashS st ks) 0)) := fun W A4 c4 hW q1 q2 q3 q4 =>
    Crash_any2 W D mb st (h.out.dq.below hW) h.out.ok A4 c4 ks q1 q2 q3 fun _ a e hg => by have h1 := h.out.lt _ hg; have h2 := q4.out a e; omega
  obtain ⟨m, hm⟩ : ∃ m, ks.length = m := ⟨_, rfl⟩
  have HPL := Lib.hid hm
  have HPB : Hid (m * 8 ≤ 140737488355328) := by show _ ≤ _; omega
  obtain ⟨st', hst⟩ : ∃ st', crashS st ks = st' := ⟨_, rfl⟩
  rw [hst] at HR HOK HDF
  rw [hm] at HB0 HWE y0 y1 y2 y3 a0 a5 HR hlc HDF ⊢
  show Calls Try.prog 15 #[.pointer (some ⟨D, 0, none⟩), .agg #[.int .i64 (st.limit : Int), .slice A n c, .int .i64 (leftI st), .bool st.down], .agg #[.int .i64 8, nmV nm, nmV to, pv, .int .i64 an, .slice R m cr]] w _
  unfold rcs zD at HWE y0 y1 y2 y3 a0 a5
  clear hW0 hst hr hl hm
  have HBG : Hid (∀ W, Below W0.heap.size W0 W → Sb w.heap.size st (.slice A n c) #[.int .i64 8, nmV nm, nmV to, pv, .int .i64 an, .slice R m cr] W ∧ Below w.heap.size w W) := fun W hW => ⟨HB0.out.grow hW, HD0.out.trans (hW.mono HD0.out.size)⟩
  go_enter Try.func15, Try.ntmps15
  go_wp2
  rw [HWE.out]
  clear y0 y1 y2 y3 a0 a5
  refine wp_region_held_drew (S := fun W => W.heap[w.heap.size]? = some (.cells (rcs st (.slice A n c)) 29 (0, 0)) ∧ W.heap[w.heap.size + 1]? = some (.cells #[.int .i64 8, nmV nm, nmV to, pv, .int .i64 an, .slice R m cr] 36 (0, 0))) (by kernel_rfl) ⟨HB0.out.x, HB0.out.a⟩ (fun hHeld => ?_)
  refine wpAnyH_take (i := 0) (v := ?vz1) rfl (by kernel_rfl) (by kernel_rfl) (by kernel_rfl) (fun _ _ _ h => h) (Or.inl ⟨by rfl, ?hyz1⟩) (by first | assumption | exact trivial) ?restz1
  case hyz1 => intro W hSW; obtain ⟨r0, r1, r2, r3⟩ := row_cells4 hSW.1; go_simp; try (with_reducible rfl)
  simp only [Act.put, List.getElem_toArray, List.getElem_cons_succ, List.getElem_cons_zero, List.setIfInBounds_toArray, List.set_cons_zero, List.set_cons_succ]
  refine wpAnyH_take (i := 1) (v := ?vz2) rfl (by kernel_rfl) (by kernel_rfl) (by kernel_rfl) (fun _ _ _ h => h) (Or.inl ⟨by rfl, ?hyz2⟩) (by first | assumption | exact trivial) ?restz2
  case hyz2 => intro W hSW; go_simp; try (with_reducible rfl)
  simp only [Act.put, List.getElem_toArray, List.getElem_cons_succ, List.getElem_cons_zero, List.setIfInBounds_toArray, List.set_cons_zero, List.set_cons_succ]
  refine wpAnyH_take (i := 2) (v := ?vz3) rfl (by kernel_rfl) (by kernel_rfl) (by kernel_rfl) (fun _ _ _ h => h) (Or.inl ⟨by rfl, ?hyz3⟩) (by first | assumption | exact trivial) ?restz3
  case hyz3 => intro W hSW; have r5 : W.cell? ⟨w.heap.size + 1, 5, none⟩ = _ := cell_of_row W _ 5 _ _ (0, 0) hSW.2; go_simp; try (with_reducible rfl)
  simp only [Act.put, List.getElem_toArray, List.getElem_cons_succ, List.getElem_cons_zero, List.setIfInBounds_toArray, List.set_cons_zero, List.set_cons_succ]
  refine wpAnyH_take (i := 4) (v := ?vz4) rfl (by kernel_rfl) (by kernel_rfl) (by kernel_rfl) (fun _ _ _ h => h) (Or.inl ⟨by rfl, ?hyz4⟩) (by first | assumption | exact trivial) ?restz4
  case hyz4 => intro W hSW; go_simp; try (with_reducible rfl)
  simp only [Act.put, List.getElem_toArray, List.getElem_cons_succ, List.getElem_cons_zero, List.setIfInBounds_toArray, List.set_cons_zero, List.set_cons_succ]
  refine wpAnyH_take (i := 6) (v := ?vz5) rfl (by kernel_rfl) (by kernel_rfl) (by kernel_rfl) (fun _ _ _ h => h) (Or.inl ⟨by rfl, ?hyz5⟩) (by first | assumption | exact trivial) ?restz5
  case hyz5 => intro W hSW; go_simp; try (with_reducible rfl)
  simp only [Act.put, List.getElem_toArray, List.getElem_cons_succ, List.getElem_cons_zero, List.setIfInBounds_toArray, List.set_cons_zero, List.set_cons_succ]
  refine wpAnyH_take (i := 7) (v := ?vz6) rfl (by kernel_rfl) (by kernel_rfl) (by kernel_rfl) (fun _ _ _ h => h) (Or.inl ⟨by rfl, ?hyz6⟩) (by first | assumption | exact trivial) ?restz6
  case hyz6 => intro W hSW; have r5 : W.cell? ⟨w.heap.size + 1, 5, none⟩ = _ := cell_of_row W _ 5 _ _ (0, 0) hSW.2; go_simp; try (with_reducible rfl)
  simp only [Act.put, List.getElem_toArray, List.getElem_cons_succ, List.getElem_cons_zero, List.setIfInBounds_toArray, List.set_cons_zero, List.set_cons_succ]
  have hbd : Below W0.heap.size W0 W0.drew := (Below.refl _ W0).drew
  refine wpAnyH_ready (rs := [3, 5]) (by kernel_rfl) (by simp) ?_
  refine AllReadyH.cons rfl (fun K hK => ?pa) (AllReadyH.cons rfl (fun K hK => ?pb) AllReadyH.nil)
  case pa =>
    go_simp
    go_wp2_with (go_at_call 45; refine (HR.out W0.drew (HBG.out _ hbd).2).mono ?_; rintro e w1 ⟨A1, n1, c1, rfl, hf1, hb1⟩)
    have hb1' : Below W0.heap.size W0 w1 := hbd.trans hb1.out
    refine hK.out _ _ (⟨(HBG.out _ hb1').1.x, (HBG.out _ hb1').1.a⟩) (fun hHeld => ?_)
    clear hK K
    refine wpAnyH_ready (rs := [5]) (by kernel_rfl) (by simp) ?_
    refine AllReadyH.cons rfl (fun K hK => ?_) AllReadyH.nil
    go_simp
    have hb2 : Below W0.heap.size W0 (w1.alloc (.cells #[] 3)) := hb1'.alloc hb1'.size _
    refine hK.out _ _ (⟨(HBG.out _ hb2).1.x, (HBG.out _ hb2).1.a⟩) (fun hHeld => ?_)
    clear hK K
    refine wpAnyH_ready (rs := [8]) (by kernel_rfl) (by simp) ?_
    refine AllReadyH.cons rfl (fun K hK => ?_) AllReadyH.nil
    rw [if_pos (by kernel_rfl)]
    refine appIv (w0 := w1) (.tmp 216) (.tmp 218) rfl w1.heap.size (.slice (some ⟨w1.heap.size, 0, none⟩) 0 0) ks (by rfl) (Mi.Own.lit (w0 := w1) (w := w1) (Below.refl _ _)) (Mi.below_alloc (Below.refl _ _)) (by simp) R cr (by rw [HPL.out]; rfl) (HRR.out _ (HBG.out _ hb2).2) hA.out (by rw [HPL.out]; exact HPB.out) ?_
    intro v4 w4 ho4 hb4 _
    have HB4 : Hid (Below W0.heap.size W0 w4) := hb1'.trans (hb4.mono hb1'.size)
    have HF4 : Hid (Fv (fun b => (¬ G b ∧ b < w.heap.size) ∨ W0.heap.size ≤ b) w4 (.slice A1 n1 c1) st'.files) := hf1.out.below hb4
    have hgeq := hb1'.size
    obtain ⟨A4, c4, rfl, hc4, hc5, hh4, hn4, hg4⟩ := ho4.form
    rw [HPL.out] at hc4 ⊢
    have HR4 := Lib.hid hh4
    have HG4 : Hid (∀ a, A4 = some a → w.heap.size ≤ a.block) := fun a e => by have h1 := (hg4 a e).1; have h2 := HN0.out; omega
    clear ho4 hh4 hn4 hg4
    have HS4 := HBG.out _ HB4.out
    have HCALL := Lib.hid (HDF.out w4 A4 c4 HS4.2 HR4 hc4 hc5 HG4)
    clear hb1' hb2 hb4 hbd hgeq
    simp only [Act.put, List.getElem_toArray, List.getElem_cons_succ, List.getElem_cons_zero, List.setIfInBounds_toArray, List.set_cons_zero, List.set_cons_succ]
    refine hK.out _ _ (⟨HS4.1.x, HS4.1.a⟩) (fun hHeld => ?_)
    clear hK K
    refine wpAnyH_ready (rs := [9]) (by kernel_rfl) (by simp) ?_
    refine AllReadyH.cons rfl (fun K hK => ?_) AllReadyH.nil
    go_simp
    go_wp2_with (go_at_call 13; refine HCALL.out.mono ?_; rintro e w5 ⟨rfl, hd5, hb5⟩)
    have HX5 := Lib.hid (HS4.1.but hb5.out (fun k hk _ hg => by have := h.out.lt k hg; omega))
    refine hK.out _ _ (⟨HX5.out.x, HX5.out.a⟩) (fun hHeld => ?_)
    clear hK K
    refine wpAnyH_take (i := 10) (v := ?vz7) rfl (by kernel_rfl) (by kernel_rfl) (by kernel_rfl) (fun _ _ _ h => h) (Or.inl ⟨by rfl, ?hyz7⟩) (by first | assumption | exact trivial) ?restz7
    case hyz7 => intro W hSW; go_simp; try (with_reducible rfl)
    simp only [Act.put, List.getElem_toArray, List.getElem_cons_succ, List.getElem_cons_zero, List.setIfInBounds_toArray, List.set_cons_zero, List.set_cons_succ]
    refine wpAnyH_ready (rs := [11]) (by kernel_rfl) (by simp) ?_
    refine AllReadyH.cons rfl (fun K hK => ?_) AllReadyH.nil
    rw [if_pos (by kernel_rfl)]
    refine wp_store_row 29 (.tmp 6) (.tmp 214) rfl (w.heap.size + 1 + 1) (rcs st' (.slice A1 n1 c1)) rfl (by rfl) 29 _ HX5.out.z (by kernel_rfl) rfl (rcs_one _ _ _ _) ?_
    simp only [Act.put, List.getElem_toArray, List.getElem_cons_succ, List.getElem_cons_zero, List.setIfInBounds_toArray, List.set_cons_zero, List.set_cons_succ]
    refine hK.out _ _ (⟨(setRow_other _ _ _ _ (by omega)).trans HX5.out.x, (setRow_other _ _ _ _ (by omega)).trans HX5.out.a⟩) (fun hHeld => ?_)
    clear hK K
    refine wpAnyH_take (i := 12) (v := ?vz8) rfl (by kernel_rfl) (by kernel_rfl) (by kernel_rfl) (fun _ _ _ h => h) (Or.inl ⟨by rfl, ?hyz8⟩) (by first | assumption | exact trivial) ?restz8
    case hyz8 => intro W hSW; go_simp; try (with_reducible rfl)
    simp only [Act.put, List.getElem_toArray, List.getElem_cons_succ, List.getElem_cons_zero, List.setIfInBounds_toArray, List.set_cons_zero, List.set_cons_succ]
    refine wpAnyH_done (by kernel_rfl) ?_ _
    go_wp2
    refine ret_cell rfl rfl (setRow_heap _ _ _ _ _ _ HX5.out.z) rfl Try.underlying29 (by kernel_rfl) rfl ?_
    obtain ⟨G', p1, p2, p3⟩ := step_fin (W2 := w4) h.out HS4.2 (by have h1 := HB4.out.size; have h2 := HN0.out; omega) (by have h1 := HF4.out; rw [HN0.out] at h1; exact h1) hd5.out hb5.out HOK.out (rcs st' (.slice A1 n1 c1))
    exact ⟨st', A1, n1, c1, G', by first | rfl | (simp only [beq_self_eq_true]; rfl), p1, p2, p3⟩
  case pb =>
    go_simp
    have hb2 : Below W0.heap.size W0 (W0.drew.alloc (.cells #[] 3)) := hbd.alloc hbd.size _
    refine hK.out _ _ (⟨(HBG.out _ hb2).1.x, (HBG.out _ hb2).1.a⟩) (fun hHeld => ?_)
    clear hK K
    refine wpAnyH_ready (rs := [3]) (by kernel_rfl) (by simp) ?_
    refine AllReadyH.cons rfl (fun K hK => ?_) AllReadyH.nil
    go_simp
    go_wp2_with (go_at_call 45; refine (HR.out (W0.drew.alloc (.cells #[] 3)) (HBG.out _ hb2).2).mono ?_; rintro e w1 ⟨A1, n1, c1, rfl, hf1, hb1⟩)
    have hb1' : Below W0.heap.size W0 w1 := hb2.trans (hb1.out.mono hb2.size)
    refine hK.out _ _ (⟨(HBG.out _ hb1').1.x, (HBG.out _ hb1').1.a⟩) (fun hHeld => ?_)
    clear hK K
    refine wpAnyH_ready (rs := [8]) (by kernel_rfl) (by simp) ?_
    refine AllReadyH.cons rfl (fun K hK => ?_) AllReadyH.nil
    rw [if_pos (by kernel_rfl)]
    have hsz1 : (W0.drew.alloc (.cells #[] 3)).heap.size = W0.heap.size + 1 := by simp
    refine appIv (w0 := W0) (.tmp 216) (.tmp 218) rfl W0.heap.size (.slice (some ⟨W0.heap.size, 0, none⟩) 0 0) ks (by rfl) (own_same (Mi.Own.lit (w0 := W0) (w := W0.drew) hbd) fun k e hk => hb1.out.block k hk) hb1' hb1'.size R cr (by rw [HPL.out]; rfl) (HRR.out _ (HBG.out _ hb1').2) hA.out (by rw [HPL.out]; exact HPB.out) ?_
    intro v4 w4 ho4 hb4 hgr
    have HB4 : Hid (Below W0.heap.size W0 w4) := hb4
    have HF4 : Hid (Fv (fun b => (¬ G b ∧ b < w.heap.size) ∨ W0.heap.size ≤ b) w4 (.slice A1 n1 c1) st'.files) := by
      have h1 := hf1.out
      have hbt : But (fun k => k = W0.heap.size) w1 w4 := (But.refl _ w1).grown hgr fun r e => by cases e; exact .inl rfl
      rw [hsz1] at h1
      refine (h1.but hbt fun k hk e => ?_).mono fun k _ hk => ?_
      · have h2 := HN0.out
        rcases hk with hk | hk <;> omega
      · rcases hk with hk | hk
        · exact .inl hk
        · exact .inr (by omega)
    have hgeq : W0.heap.size ≤ W0.heap.size := Nat.le_refl _
    obtain ⟨A4, c4, rfl, hc4, hc5, hh4, hn4, hg4⟩ := ho4.form
    rw [HPL.out] at hc4 ⊢
    have HR4 := Lib.hid hh4
    have HG4 : Hid (∀ a, A4 = some a → w.heap.size ≤ a.block) := fun a e => by have h1 := (hg4 a e).1; have h2 := HN0.out; omega
    clear ho4 hh4 hn4 hg4
    have HS4 := HBG.out _ HB4.out
    have HCALL := Lib.hid (HDF.out w4 A4 c4 HS4.2 HR4 hc4 hc5 HG4)
    clear hb1' hb2 hb4 hbd hgeq hgr hsz1
    simp only [Act.put, List.getElem_toArray, List.getElem_cons_succ, List.getElem_cons_zero, List.setIfInBounds_toArray, List.set_cons_zero, List.set_cons_succ]
    refine hK.out _ _ (⟨HS4.1.x, HS4.1.a⟩) (fun hHeld => ?_)
    clear hK K
    refine wpAnyH_ready (rs := [9]) (by kernel_rfl) (by simp) ?_
    refine AllReadyH.cons rfl (fun K hK => ?_) AllReadyH.nil
    go_simp
    go_wp2_with (go_at_call 13; refine HCALL.out.mono ?_; rintro e w5 ⟨rfl, hd5, hb5⟩)
    have HX5 := Lib.hid (HS4.1.but hb5.out (fun k hk _ hg => by have := h.out.lt k hg; omega))
    refine hK.out _ _ (⟨HX5.out.x, HX5.out.a⟩) (fun hHeld => ?_)
    clear hK K
    refine wpAnyH_take (i := 10) (v := ?vz9) rfl (by kernel_rfl) (by kernel_rfl) (by kernel_rfl) (fun _ _ _ h => h) (Or.inl ⟨by rfl, ?hyz9⟩) (by first | assumption | exact trivial) ?restz9
    case hyz9 => intro W hSW; go_simp; try (with_reducible rfl)
    simp only [Act.put, List.getElem_toArray, List.getElem_cons_succ, List.getElem_cons_zero, List.setIfInBounds_toArray, List.set_cons_zero, List.set_cons_succ]
    refine wpAnyH_ready (rs := [11]) (by kernel_rfl) (by simp) ?_
    refine AllReadyH.cons rfl (fun K hK => ?_) AllReadyH.nil
    rw [if_pos (by kernel_rfl)]
    refine wp_store_row 29 (.tmp 6) (.tmp 214) rfl (w.heap.size + 1 + 1) (rcs st' (.slice A1 n1 c1)) rfl (by rfl) 29 _ HX5.out.z (by kernel_rfl) rfl (rcs_one _ _ _ _) ?_
    simp only [Act.put, List.getElem_toArray, List.getElem_cons_succ, List.getElem_cons_zero, List.setIfInBounds_toArray, List.set_cons_zero, List.set_cons_succ]
    refine hK.out _ _ (⟨(setRow_other _ _ _ _ (by omega)).trans HX5.out.x, (setRow_other _ _ _ _ (by omega)).trans HX5.out.a⟩) (fun hHeld => ?_)
    clear hK K
    refine wpAnyH_take (i := 12) (v := ?vz10) rfl (by kernel_rfl) (by kernel_rfl) (by kernel_rfl) (fun _ _ _ h => h) (Or.inl ⟨by rfl, ?hyz10⟩) (by first | assumption | exact trivial) ?restz10
    case hyz10 => intro W hSW; go_simp; try (with_reducible rfl)
    simp only [Act.put, List.getElem_toArray, List.getElem_cons_succ, List.getElem_cons_zero, List.setIfInBounds_toArray, List.set_cons_zero, List.set_cons_succ]
    refine wpAnyH_done (by kernel_rfl) ?_ _
    go_wp2
    refine ret_cell rfl rfl (setRow_heap _ _ _ _ _ _ HX5.out.z) rfl Try.underlying29 (by kernel_rfl) rfl ?_
    obtain ⟨G', p1, p2, p3⟩ := step_fin (W2 := w4) h.out HS4.2 (by have h1 := HB4.out.size; have h2 := HN0.out; omega) (by have h1 := HF4.out; rw [HN0.out] at h1; exact h1) hd5.out hb5.out HOK.out (rcs st' (.slice A1 n1 c1))
    exact ⟨st', A1, n1, c1, G', by first | rfl | (simp only [beq_self_eq_true]; rfl), p1, p2, p3⟩
end
end Go.Proofs.Ytdjgkoklkoahbaa.Dk
