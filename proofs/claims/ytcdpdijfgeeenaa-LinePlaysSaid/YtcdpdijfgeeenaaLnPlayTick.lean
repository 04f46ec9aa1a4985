/- The call Tick of both lines; no call. -/
import Derived.Test.YtcdpdijfgeeenaaLnPlay0
namespace Go.Proofs.Ytcdpdijfgeeenaa.Li
open Go.RowKit
open Go.Proofs.Ytcdpdijfgeeenaa.Sb
set_option linter.unusedVariables false
set_option linter.unusedSimpArgs false

set_option maxRecDepth 100000 in
set_option maxHeartbeats 4000000 in
theorem play_tick (M : Nat) (w : World) (D : Nat) (s : Ln) (A : Option Addr) (n c : Nat) (a m : Int) (R : Option Addr) (pn cr : Nat) (h : Hid (Lr M (fun _ => False) w D s)) (hr : Hid (RW w A n c (ways s))) (hp : s.passed < 1000000) :
    Calls Try.prog 10 #[.pointer (some ⟨D, 0, none⟩), .agg (lnV s.delay A n c), .agg (acV 1 a m R pn cr)] w fun e w' => ∃ A' n' c', e = .returned (.tuple #[.agg (lnV s.delay A' n' c'), .bool true]) ∧ Hid (Pst M w D (tickL s) A' n' c' w') := by
  obtain ⟨w1, hw1, hB1, hBa, hB2, hsz, hb⟩ := three_bx w s.delay A n c 1 a m R pn cr
  have HW1 := Lib.hid hw1
  have HBl := Lib.hid hB1
  have HBa := Lib.hid hBa
  have HZ := Lib.hid hB2
  have HSz := Lib.hid hsz
  have HBel := Lib.hid hb
  obtain ⟨a0, a1, a2, a3⟩ := hBa.cells
  have HS := Lib.hid (RTick_s h.out.ok A n c w1 (hr.out.below hb))
  have HP : Hid (∀ W, Lr M (fun k => False ∨ Ko W k) W D s → Calls Try.prog 16 #[.pointer (some ⟨D, 0, none⟩)] W fun e w' => e = .returned (.int .i64 0) ∧ Hid (Lr M (fun k => False ∨ Ko W k) w' D (tickL s)) ∧ Hid (But (Out M (fun k => False ∨ Ko W k)) W w')) := fun W hW => Tick_s (Lib.hid hW) hp
  obtain ⟨dl, hdl⟩ : ∃ x, s.delay = x := ⟨_, rfl⟩
  rw [hdl] at HW1 HBl HS ⊢
  clear hw1 hB1 hBa hB2 hsz hb hdl
  go_enter Try.func10, Try.ntmps10
  go_wp2_with (first
    | (refine Mi.allocTo rfl (.pointer (some ⟨_, 0, none⟩)) (.cells (lnV dl A n c) 29 (0, 0)) (exec_boxl _ _ dl A n c (.tmp 1) rfl rfl _) ?_)
    | (refine allocAt rfl (w.heap.size + 1) (.cells (acV 1 a m R pn cr) 35 (0, 0)) (exec_boxa _ _ 1 a m R pn cr (.tmp 2) rfl rfl _) (World.size_alloc _ _) ?_)
    | (refine allocAt rfl (w.heap.size + 2) (.cells (lnV 0 none 0 0) 29 (0, 0)) (alloc_ln _ _ rfl _) ((World.size_alloc _ _).trans (congrArg (· + 1) (World.size_alloc _ _))) ?_; rw [HW1.out])
    | (refine wpList_load_row rfl 29 (.tmp 4) rfl w.heap.size rfl 29 _ (0, 0) _ HBl.out Try.underlying29 rfl (ln_size _ _ _ _) ?_)
    | (go_at_call 21; refine HS.out.mono ?_; rintro e w2 ⟨A', n', c', rfl, hq2, hb2⟩)
    | (go_at_call 16; refine (HP.out w2 ((h.out.below (HBel.out.trans (hb2.out.mono HBel.out.size))).ko)).mono ?_; rintro e w4 ⟨rfl, hl4, hb4⟩; have hb24 : But (Ok2 M w2) w2 w4 := hb4.out.mono fun k _ hk => out_ok2 hk; have hZ2 : Bl w2 (w.heap.size + 2) 0 none 0 0 := (hb2.out.block _ HZ.out.lt).trans HZ.out; have HB24 := Lib.hid hb24; have HZ2 := Lib.hid hZ2; have HZ4 := Lib.hid (ok2_bl hb24 hZ2); clear hb24 hZ2)
    | (refine wpList_store_row rfl 29 (.tmp 6) (.tmp 60) rfl (w.heap.size + 2) (lnV dl A' n' c') rfl rfl 29 _ HZ4.out (ln_size _ _ _ _) rfl (ln_one _ _ _ _) ?_))
  have hb5 : But (fun k => k = w.heap.size + 2) w4 (w4.setRow (w.heap.size + 2) (lnV dl A' n' c')) := (But.refl (fun k => k = w.heap.size + 2) w4).setRow (D := w.heap.size + 2) (.inl rfl) _
  have hlr : Lr M (fun _ => False) (w4.setRow (w.heap.size + 2) (lnV dl A' n' c')) D (tickL s) := (hl4.out.but hb5 fun k e => .inl (.inr (by rw [e]; exact HZ2.out.ko))).no
  have hbf : But (Ok2 M w) w (w4.setRow (w.heap.size + 2) (lnV dl A' n' c')) := (ok2_chain (HBel.out.trans (hb2.out.mono HBel.out.size)) HB24.out).setRow (D := w.heap.size + 2) (.inr (by omega)) _
  exact ret_box2 rfl rfl (setRow_heap _ _ _ _ _ _ HZ4.out) rfl Try.underlying29 (ln_size _ _ _ _) rfl ⟨A', n', c', rfl, HZ4.out.rw_set (ok2_rw HB24.out hq2.out) _, hlr, hbf⟩
set_option maxRecDepth 100000 in
set_option maxHeartbeats 4000000 in
theorem play_none (M : Nat) (w : World) (D : Nat) (s : Ln) (A : Option Addr) (n c : Nat) (k a m : Int) (R : Option Addr) (pn cr : Nat) (h : Hid (Lr M (fun _ => False) w D s)) (hr : Hid (RW w A n c (ways s))) (h0 : k ≠ 0) (h1 : k ≠ 1) (h2 : k ≠ 2) (h3 : k ≠ 3) (h4 : k ≠ 4) (h5 : k ≠ 5) :
    Calls Try.prog 10 #[.pointer (some ⟨D, 0, none⟩), .agg (lnV s.delay A n c), .agg (acV k a m R pn cr)] w fun e w' => ∃ A' n' c', e = .returned (.tuple #[.agg (lnV s.delay A' n' c'), .bool true]) ∧ Hid (Pst M w D s A' n' c' w') := by
  obtain ⟨w1, hw1, hB1, hBa, hB2, hsz, hb⟩ := three_bx w s.delay A n c k a m R pn cr
  have HW1 := Lib.hid hw1
  have HBl := Lib.hid hB1
  have HZ := Lib.hid hB2
  have HBel := Lib.hid hb
  obtain ⟨a0, a1, a2, a3⟩ := hBa.cells
  have q0 : (k == 0) = false := beq_eq_false_iff_ne.mpr h0
  have q1 : (k == 1) = false := beq_eq_false_iff_ne.mpr h1
  have q2 : (k == 2) = false := beq_eq_false_iff_ne.mpr h2
  have q3 : (k == 3) = false := beq_eq_false_iff_ne.mpr h3
  have q4 : (k == 4) = false := beq_eq_false_iff_ne.mpr h4
  have q5 : (k == 5) = false := beq_eq_false_iff_ne.mpr h5
  obtain ⟨dl, hdl⟩ : ∃ x, s.delay = x := ⟨_, rfl⟩
  rw [hdl] at HW1 HBl ⊢
  clear hw1 hB1 hBa hB2 hsz hb hdl h0 h1 h2 h3 h4 h5
  go_enter Try.func10, Try.ntmps10
  go_wp2_with (first
    | (refine Mi.allocTo rfl (.pointer (some ⟨_, 0, none⟩)) (.cells (lnV dl A n c) 29 (0, 0)) (exec_boxl _ _ dl A n c (.tmp 1) rfl rfl _) ?_)
    | (refine allocAt rfl (w.heap.size + 1) (.cells (acV k a m R pn cr) 35 (0, 0)) (exec_boxa _ _ k a m R pn cr (.tmp 2) rfl rfl _) (World.size_alloc _ _) ?_)
    | (refine allocAt rfl (w.heap.size + 2) (.cells (lnV 0 none 0 0) 29 (0, 0)) (alloc_ln _ _ rfl _) ((World.size_alloc _ _).trans (congrArg (· + 1) (World.size_alloc _ _))) ?_; rw [HW1.out])
    | (refine wpList_load_row rfl 29 (.tmp 4) rfl w.heap.size rfl 29 _ (0, 0) _ HBl.out Try.underlying29 rfl (ln_size _ _ _ _) ?_)
    | (refine wpList_store_row rfl 29 (.tmp 6) (.tmp 140) rfl (w.heap.size + 2) (lnV dl A n c) rfl rfl 29 _ HZ.out (ln_size _ _ _ _) rfl (ln_one _ _ _ _) ?_))
  have hbw : Below w.heap.size w (w1.setRow (w.heap.size + 2) (lnV dl A n c)) := Sb.below_setRow _ HBel.out (by omega)
  exact ret_box2 rfl rfl (setRow_heap _ _ _ _ _ _ HZ.out) rfl Try.underlying29 (ln_size _ _ _ _) rfl ⟨A, n, c, rfl, hr.out.below hbw, h.out.below hbw, But.of_below hbw⟩
end Go.Proofs.Ytcdpdijfgeeenaa.Li
