/- The call Flip of both lines. -/
import Derived.Test.YtcdpdijfgeeenaaLnPlay0
namespace Go.Proofs.Ytcdpdijfgeeenaa.Li
open Go.RowKit
open Go.Proofs.Ytcdpdijfgeeenaa.Sb
set_option linter.unusedVariables false
set_option linter.unusedSimpArgs false

set_option maxRecDepth 100000 in
set_option maxHeartbeats 4000000 in
theorem play_flip (M : Nat) (w : World) (D : Nat) (s : Ln) (A : Option Addr) (n c : Nat) (a m : Int) (R : Option Addr) (pn cr : Nat) (ha : Mi.I64 a) (hm : Mi.I64 m) (h : Hid (Lr M (fun _ => False) w D s)) (hr : Hid (RW w A n c (ways s))) :
    Calls Try.prog 10 #[.pointer (some ⟨D, 0, none⟩), .agg (lnV s.delay A n c), .agg (acV 4 a m R pn cr)] w fun e w' => ∃ A' n' c', e = .returned (.tuple #[.agg (lnV s.delay A' n' c'), .bool true]) ∧ Hid (Pst M w D (flipS s a m) A' n' c' w') := by
  obtain ⟨w1, hw1, hB1, hBa, hB2, hsz, hb⟩ := three_bx w s.delay A n c 4 a m R pn cr
  have HW1 := Lib.hid hw1
  have HBl := Lib.hid hB1
  have HBa := Lib.hid hBa
  have HZ := Lib.hid hB2
  have HSz := Lib.hid hsz
  have HBel := Lib.hid hb
  obtain ⟨a0, a1, a2, a3⟩ := hBa.cells
  have HS := Lib.hid (RFlip_s h.out.ok A n c a m w1 (hr.out.below hb))
  have HP : Hid (∀ W, Lr M (fun k => False ∨ Ko W k) W D s → Calls Try.prog 19 #[.pointer (some ⟨D, 0, none⟩), .int .i64 a, .int .i64 m] W fun e w' => e = .returned (.int .i64 (flipN s a m : Int)) ∧ Hid (Lr M (fun k => False ∨ Ko W k) w' D (flipS s a m)) ∧ Hid (But (Out M (fun k => False ∨ Ko W k)) W w')) := fun W hW => Flip_e (Lib.hid hW) a m
  obtain ⟨E, hE⟩ : ∃ E : Int, ((flipN s a m : Nat) : Int) = E := ⟨_, rfl⟩
  rw [hE] at HS HP
  obtain ⟨dl, hdl⟩ : ∃ x, s.delay = x := ⟨_, rfl⟩
  rw [hdl] at HW1 HBl HS ⊢
  clear hw1 hB1 hBa hB2 hsz hb hE hdl
  go_enter Try.func10, Try.ntmps10
  go_wp2_with (first
    | (refine Mi.allocTo rfl (.pointer (some ⟨_, 0, none⟩)) (.cells (lnV dl A n c) 29 (0, 0)) (exec_boxl _ _ dl A n c (.tmp 1) rfl rfl _) ?_)
    | (refine allocAt rfl (w.heap.size + 1) (.cells (acV 4 a m R pn cr) 35 (0, 0)) (exec_boxa _ _ 4 a m R pn cr (.tmp 2) rfl rfl _) (World.size_alloc _ _) ?_)
    | (refine allocAt rfl (w.heap.size + 2) (.cells (lnV 0 none 0 0) 29 (0, 0)) (alloc_ln _ _ rfl _) ((World.size_alloc _ _).trans (congrArg (· + 1) (World.size_alloc _ _))) ?_; rw [HW1.out])
    | (refine wpList_load_row rfl 29 (.tmp 4) rfl w.heap.size rfl 29 _ (0, 0) _ HBl.out Try.underlying29 rfl (ln_size _ _ _ _) ?_)
    | (go_at_call 24; refine HS.out.mono ?_; rintro e w2 ⟨A', n', c', rfl, hq2, hb2⟩; have HZ2 : Hid (Bl (w2.alloc (.cells (lnV 0 none 0 0) 29)) w2.heap.size 0 none 0 0) := heap_alloc_new w2 _)
    | (refine Mi.allocTo rfl (.pointer (some ⟨_, 0, none⟩)) (.cells (lnV 0 none 0 0) 29 (0, 0)) (alloc_ln _ _ rfl _) ?_)
    | (refine wpList_store_row rfl 29 (.tmp 17) (.tmp 107) rfl w2.heap.size (lnV dl A' n' c') rfl rfl 29 _ HZ2.out (ln_size _ _ _ _) rfl (ln_one _ _ _ _) ?_))
  have HB8 : Hid (Bl ((w2.alloc (.cells (lnV 0 none 0 0) 29)).setRow w2.heap.size (lnV dl A' n' c')) w2.heap.size dl A' n' c') := setRow_heap _ _ _ _ _ _ HZ2.out
  have hb3 : Below w2.heap.size w2 ((w2.alloc (.cells (lnV 0 none 0 0) 29)).setRow w2.heap.size (lnV dl A' n' c')) := Sb.below_setRow _ (Me.below_alloc (Below.refl _ _)) (Nat.le_refl _)
  obtain ⟨w3, hw3⟩ : ∃ w3, (w2.alloc (.cells (lnV 0 none 0 0) 29)).setRow w2.heap.size (lnV dl A' n' c') = w3 := ⟨_, rfl⟩
  rw [hw3] at HB8 hb3 ⊢
  clear hw3 HZ2
  have hk13 : Below w1.heap.size w1 w3 := go_on hb2.out hb3
  have hk03 : Below w.heap.size w w3 := HBel.out.trans (hk13.mono HBel.out.size)
  have HK13 := Lib.hid hk13
  have HK03 := Lib.hid hk03
  have HRW3 : Hid (RW w3 A' n' c' (ways (flipS s a m))) := hq2.out.below hb3
  have hL3 : Lr M (fun k => False ∨ Ko w3.drew k) w3.drew D s := (h.out.below hk03.drew).ko
  have HL3 := Lib.hid (HP.out w3.drew hL3)
  have HBa3 : Hid (Ba w3 (w.heap.size + 1) 4 a m R pn cr) := (HK13.out.block _ HBa.out.lt).trans HBa.out
  have HZ3 : Hid (Bl w3 (w.heap.size + 2) 0 none 0 0) := (HK13.out.block _ HZ.out.lt).trans HZ.out
  have hne2 : w2.heap.size ≠ w.heap.size + 2 := by have := hb2.out.size; have := HSz.out; omega
  clear a0 a1 a2 a3 hb3 hk13 hk03 hL3
  refine wp_region_held_drew (S := fun W => Bl W w2.heap.size dl A' n' c' ∧ Ba W (w.heap.size + 1) 4 a m R pn cr) (by kernel_rfl) ⟨HB8.out, HBa3.out⟩ (fun hHeld => ?_)
  refine wpAnyH_take (i := 0) (v := .agg (lnV dl A' n' c')) rfl (by kernel_rfl) (by kernel_rfl) (by kernel_rfl) (fun _ _ _ h => h) (yieldsIf_load_ln (by rfl) (.tmp 17) rfl w2.heap.size rfl dl A' n' c' (fun W hW => hW.1)) (by first | assumption | exact trivial) ?_
  simp only [Act.put, List.getElem_toArray, List.getElem_cons_succ, List.getElem_cons_zero, List.setIfInBounds_toArray, List.set_cons_zero, List.set_cons_succ]
  refine wpAnyH_take (i := 1) (v := .pointer (some ⟨D, 0, none⟩)) rfl (by kernel_rfl) (by kernel_rfl) (by kernel_rfl) (fun _ _ _ h => h) (Or.inl ⟨by rfl, ?_⟩) (by first | assumption | exact trivial) ?_
  · intro W hSW; go_simp; try (with_reducible rfl)
  simp only [Act.put, List.getElem_toArray, List.getElem_cons_succ, List.getElem_cons_zero, List.setIfInBounds_toArray, List.set_cons_zero, List.set_cons_succ]
  refine wpAnyH_take (i := 2) (v := .pointer (some ⟨w.heap.size + 1, 1, none⟩)) rfl (by kernel_rfl) (by kernel_rfl) (by kernel_rfl) (fun _ _ _ h => h) (Or.inl ⟨by rfl, ?_⟩) (by first | assumption | exact trivial) ?_
  · intro W hSW; go_simp; try (with_reducible rfl)
  simp only [Act.put, List.getElem_toArray, List.getElem_cons_succ, List.getElem_cons_zero, List.setIfInBounds_toArray, List.set_cons_zero, List.set_cons_succ]
  refine wpAnyH_take (i := 3) (v := .int .i64 a) rfl (by kernel_rfl) (by kernel_rfl) (by kernel_rfl) (fun _ _ _ h => h) (Or.inl ⟨by rfl, ?_⟩) (by first | assumption | exact trivial) ?_
  · intro W hSW; have qd := hSW.2.cells.2.1; go_simp; try (with_reducible rfl)
  simp only [Act.put, List.getElem_toArray, List.getElem_cons_succ, List.getElem_cons_zero, List.setIfInBounds_toArray, List.set_cons_zero, List.set_cons_succ]
  refine wpAnyH_take (i := 4) (v := .pointer (some ⟨w.heap.size + 1, 2, none⟩)) rfl (by kernel_rfl) (by kernel_rfl) (by kernel_rfl) (fun _ _ _ h => h) (Or.inl ⟨by rfl, ?_⟩) (by first | assumption | exact trivial) ?_
  · intro W hSW; go_simp; try (with_reducible rfl)
  simp only [Act.put, List.getElem_toArray, List.getElem_cons_succ, List.getElem_cons_zero, List.setIfInBounds_toArray, List.set_cons_zero, List.set_cons_succ]
  refine wpAnyH_take (i := 5) (v := .int .i64 m) rfl (by kernel_rfl) (by kernel_rfl) (by kernel_rfl) (fun _ _ _ h => h) (Or.inl ⟨by rfl, ?_⟩) (by first | assumption | exact trivial) ?_
  · intro W hSW; have qd := hSW.2.cells.2.2.1; go_simp; try (with_reducible rfl)
  simp only [Act.put, List.getElem_toArray, List.getElem_cons_succ, List.getElem_cons_zero, List.setIfInBounds_toArray, List.set_cons_zero, List.set_cons_succ]
  refine wpAnyH_take (i := 7) (v := .int .i64 E) rfl (by kernel_rfl) (by kernel_rfl) (by kernel_rfl) (fun _ _ _ h => h) (Or.inl ⟨by rfl, ?_⟩) (by first | assumption | exact trivial) ?_
  · intro W hSW; go_simp; try (with_reducible rfl)
  simp only [Act.put, List.getElem_toArray, List.getElem_cons_succ, List.getElem_cons_zero, List.setIfInBounds_toArray, List.set_cons_zero, List.set_cons_succ]
  refine wpAnyH_ready (rs := [6]) (by kernel_rfl) (by simp) ?_
  refine AllReadyH.cons rfl (fun K hK => ?_) AllReadyH.nil
  go_simp
  go_wp2_with (go_at_call 19; refine HL3.out.mono ?_; rintro e w4 ⟨rfl, hl4, hb4⟩)
  have hb34 : But (Ok2 M w3) w3 w4 := (But.of_below (S := Ok2 M w3) (Below.refl _ w3).drew).trans (hb4.out.mono fun k _ hk => out_ok2 hk) fun k _ hs => hs
  have hB84 : Bl w4 w2.heap.size dl A' n' c' := ok2_bl hb34 HB8.out
  have hZ4 : Bl w4 (w.heap.size + 2) 0 none 0 0 := ok2_bl hb34 HZ3.out
  have hA4 : Ba w4 (w.heap.size + 1) 4 a m R pn cr := (ok2_keep hb34 HBa3.out.ko).trans HBa3.out
  refine hK.out _ _ (⟨hB84, hA4⟩) (fun hHeld => ?_)
  clear hK K
  refine wpAnyH_take (i := 8) (v := .bool true) rfl (by kernel_rfl) (by kernel_rfl) (by kernel_rfl) (fun _ _ _ h => h) (Or.inl ⟨by rfl, ?_⟩) (by first | assumption | exact trivial) ?_
  · intro W hSW; go_simp; try (with_reducible rfl)
  simp only [Act.put, List.getElem_toArray, List.getElem_cons_succ, List.getElem_cons_zero, List.setIfInBounds_toArray, List.set_cons_zero, List.set_cons_succ]
  refine wpAnyH_ready (rs := [9]) (by kernel_rfl) (by simp) ?_
  refine AllReadyH.cons rfl (fun K hK => ?_) AllReadyH.nil
  rw [if_pos (by kernel_rfl)]
  refine wp_store_row 29 (.tmp 6) (.tmp 109) rfl (w.heap.size + 2) (lnV dl A' n' c') rfl rfl 29 _ hZ4 (ln_size _ _ _ _) rfl (ln_one _ _ _ _) ?_
  have hb5 : But (fun k => k = w.heap.size + 2) w4 (w4.setRow (w.heap.size + 2) (lnV dl A' n' c')) := (But.refl (fun k => k = w.heap.size + 2) w4).setRow (D := w.heap.size + 2) (.inl rfl) _
  refine hK.out _ _ (⟨(setRow_other w4 (w.heap.size + 2) w2.heap.size _ hne2).trans hB84, (setRow_other w4 (w.heap.size + 2) (w.heap.size + 1) _ (by omega)).trans hA4⟩) (fun hHeld => ?_)
  clear hK K
  refine wpAnyH_take (i := 10) (v := .bool true) rfl (by kernel_rfl) (by kernel_rfl) (by kernel_rfl) (fun _ _ _ h => h) (Or.inl ⟨by rfl, ?_⟩) (by first | assumption | exact trivial) ?_
  · intro W hSW; go_simp; try (with_reducible rfl)
  simp only [Act.put, List.getElem_toArray, List.getElem_cons_succ, List.getElem_cons_zero, List.setIfInBounds_toArray, List.set_cons_zero, List.set_cons_succ]
  refine wpAnyH_done (by kernel_rfl) ?_ _
  go_wp2
  have hlr : Lr M (fun _ => False) (w4.setRow (w.heap.size + 2) (lnV dl A' n' c')) D (flipS s a m) := (hl4.out.but hb5 fun k e => .inl (.inr (by rw [e]; exact HZ3.out.ko))).no
  have hbf : But (Ok2 M w) w (w4.setRow (w.heap.size + 2) (lnV dl A' n' c')) := (ok2_chain HK03.out hb34).setRow (D := w.heap.size + 2) (.inr (by omega)) _
  exact ret_box2 rfl rfl (setRow_heap _ _ _ _ _ _ hZ4) rfl Try.underlying29 (ln_size _ _ _ _) rfl ⟨A', n', c', rfl, hZ4.rw_set (ok2_rw hb34 HRW3.out) _, hlr, hbf⟩
end Go.Proofs.Ytcdpdijfgeeenaa.Li
