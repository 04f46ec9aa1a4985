/- The call Take of both lines. -/
import Derived.Test.YtcdpdijfgeeenaaLnPlay0
import Derived.Test.YtcdpdijfgeeenaaLnWholeW
namespace Go.Proofs.Ytcdpdijfgeeenaa.Li
open Go.RowKit
open Go.Proofs.Ytcdpdijfgeeenaa.Sb
set_option linter.unusedVariables false
set_option linter.unusedSimpArgs false

theorem wpAnyH_up {P : Program} {md : Region.Mode} {ops : Array Oper} {Q : Exit → Act → World → Prop} {S S' : World → Prop} (h : ∀ w, S' w → S w) : ∀ {fuel : Nat} {listed : Array Bool} {a : Act} {w : World},
    wpAnyH P md ops Q S' fuel listed a w → wpAnyH P md ops Q S fuel listed a w
  | 0, _, _, _, hw => hw
  | fuel + 1, _, _, _, hw => ⟨hw.1, fun i hi => wpOp_mono (fun a' w' h' => ⟨h w' h'.1, wpAnyH_up h h'.2⟩) (hw.2 i hi)⟩
/-- A store into a line's box turns no bytes. -/
theorem Bl.rd_set {w : World} {g d n c B : Nat} {A : Option Addr} (h : Bl w g d A n c) {A' : Option Addr} {l : List Nat} (hr : Me.Rd w B A' l) (cs : Array Value) : Me.Rd (w.setRow g cs) B A' l := by
  refine ⟨hr.1, fun hp => ?_⟩
  obtain ⟨b, off, e, hb, hc⟩ := hr.2 hp
  have hne : b ≠ g := by
    rintro rfl
    have h1 := hc 0 hp
    rw [Nat.add_zero, cell_of_row w b off _ _ (0, 0) h] at h1
    match off, h1 with
    | 0, h1 => simp [lnV] at h1
    | 1, h1 => simp [lnV] at h1
    | k + 2, h1 => simp [lnV] at h1
  exact ⟨b, off, e, hb, fun i hi => (World.cell?_of_block (w := w) (a := ⟨b, off + i, none⟩) (setRow_other w g b cs hne)).trans (hc i hi)⟩
set_option maxRecDepth 100000 in
set_option maxHeartbeats 4000000 in
theorem play_take (M : Nat) (w : World) (D : Nat) (s : Ln) (A : Option Addr) (n c : Nat) (a m : Int) (R : Option Addr) (pn cr : Nat) (h : Hid (Lr M (fun _ => False) w D s)) (hr : Hid (RW w A n c (ways s))) :
    Calls Try.prog 10 #[.pointer (some ⟨D, 0, none⟩), .agg (lnV s.delay A n c), .agg (acV 2 a m R pn cr)] w fun e w' => ∃ A' n' c', e = .returned (.tuple #[.agg (lnV s.delay A' n' c'), .bool true]) ∧ Hid (Pst M w D (takeL s) A' n' c' w') := by
  obtain ⟨w1, hw1, hB1, hBa, hB2, hsz, hb⟩ := three_bx w s.delay A n c 2 a m R pn cr
  have HW1 := Lib.hid hw1
  have HBl := Lib.hid hB1
  have HZ := Lib.hid hB2
  have HSz := Lib.hid hsz
  have HBel := Lib.hid hb
  obtain ⟨a0, a1, a2, a3⟩ := hBa.cells
  have HS := Lib.hid (RTake_s h.out.ok A n c w1 (hr.out.below hb))
  have HBy : Hid (∀ z ∈ s.bs.take (comeN s), z < 256) := fun z hz => h.out.ok.byte z (List.mem_of_mem_take hz)
  have HTl : Hid ((s.bs.take (comeN s)).length = comeN s) := by
    show _ = _
    have h1 := comeN_le s
    have h2 := h.out.ok.len
    rw [List.length_take]
    omega
  have HP : Hid (∀ O W, Lr M O W D s → Calls Try.prog 15 #[.pointer (some ⟨D, 0, none⟩)] W fun e w' => ∃ A5, e = .returned (.slice A5 (comeN s) (comeN s)) ∧ Hid (Me.Rd w' w'.heap.size A5 (s.bs.take (comeN s))) ∧ Hid (A5 = none → comeN s = 0) ∧ Hid (Lr M O w' D (takeL s)) ∧ Hid (But (Out M O) W w')) := fun O W hW => Take_s (Lib.hid hW)
  have HCv5 : Hid (∀ W A5, Me.Rd W W.heap.size A5 (s.bs.take (comeN s)) → (A5 = none → comeN s = 0) → (convert 33 9 (.slice A5 (comeN s) (comeN s))).run Try.prog W = .ok (.string (Me.strOf (s.bs.take (comeN s)))) W) := fun W A5 h1 h2 => by
    have := Me.conv_rd W _ A5 (s.bs.take (comeN s)) (comeN s) h1 (fun e => by rw [HTl.out]; exact ⟨h2 e, h2 e⟩)
    rw [HTl.out] at this
    exact this
  have HCv2 : Hid (∀ W v, Me.Own W 0 v (s.bs.take (comeN s)) → ∃ Av nv cv, v = .slice Av nv cv ∧ (convert 33 9 (.slice Av nv cv)).run Try.prog W = .ok (.string (Me.strOf (s.bs.take (comeN s)))) W) := fun W v h1 => by
    obtain ⟨Av, cv, e, _⟩ := own_read h1 HBy.out
    subst e
    exact ⟨Av, _, cv, rfl, own_conv h1 HBy.out rfl 0⟩
  obtain ⟨tk, htk⟩ : ∃ x, s.bs.take (comeN s) = x := ⟨_, rfl⟩
  rw [htk] at HS HP HCv5 HCv2
  obtain ⟨ST, hST⟩ : ∃ x, Me.strOf tk = x := ⟨_, rfl⟩
  rw [hST] at HCv5 HCv2
  obtain ⟨q, hq⟩ : ∃ x, comeN s = x := ⟨_, rfl⟩
  rw [hq] at HP HCv5
  obtain ⟨dl, hdl⟩ : ∃ x, s.delay = x := ⟨_, rfl⟩
  rw [hdl] at HW1 HBl HS ⊢
  clear hw1 hB1 hBa hB2 hsz hb hdl htk hST hq
  go_enter Try.func10, Try.ntmps10
  go_wp2_with (first
    | (refine Mi.allocTo rfl (.pointer (some ⟨_, 0, none⟩)) (.cells (lnV dl A n c) 29 (0, 0)) (exec_boxl _ _ dl A n c (.tmp 1) rfl rfl _) ?_)
    | (refine allocAt rfl (w.heap.size + 1) (.cells (acV 2 a m R pn cr) 35 (0, 0)) (exec_boxa _ _ 2 a m R pn cr (.tmp 2) rfl rfl _) (World.size_alloc _ _) ?_)
    | (refine allocAt rfl (w.heap.size + 2) (.cells (lnV 0 none 0 0) 29 (0, 0)) (alloc_ln _ _ rfl _) ((World.size_alloc _ _).trans (congrArg (· + 1) (World.size_alloc _ _))) ?_; rw [HW1.out])
    | (refine wpList_load_row rfl 29 (.tmp 4) rfl w.heap.size rfl 29 _ (0, 0) _ HBl.out Try.underlying29 rfl (ln_size _ _ _ _) ?_)
    | (go_at_call 22; refine HS.out.mono ?_; rintro e w2 ⟨A', n', c', v2, rfl, hq2, ho2, hv2, hb2⟩; obtain ⟨Av, nv, cv, rfl, _⟩ := HCv2.out w2 v2 ho2.out; have HZ2 : Hid (Bl (w2.alloc (.cells (lnV 0 none 0 0) 29)) w2.heap.size 0 none 0 0) := heap_alloc_new w2 _)
    | (refine Mi.allocTo rfl (.pointer (some ⟨_, 0, none⟩)) (.cells (lnV 0 none 0 0) 29 (0, 0)) (alloc_ln _ _ rfl _) ?_)
    | (refine wpList_store_row rfl 29 (.tmp 13) (.tmp 69) rfl w2.heap.size (lnV dl A' n' c') rfl rfl 29 _ HZ2.out (ln_size _ _ _ _) rfl (ln_one _ _ _ _) ?_))
  have HB8 : Hid (Bl ((w2.alloc (.cells (lnV 0 none 0 0) 29)).setRow w2.heap.size (lnV dl A' n' c')) w2.heap.size dl A' n' c') := setRow_heap _ _ _ _ _ _ HZ2.out
  have hb3 : Below w2.heap.size w2 ((w2.alloc (.cells (lnV 0 none 0 0) 29)).setRow w2.heap.size (lnV dl A' n' c')) := Sb.below_setRow _ (Me.below_alloc (Below.refl _ _)) (Nat.le_refl _)
  obtain ⟨w3, hw3⟩ : ∃ w3, (w2.alloc (.cells (lnV 0 none 0 0) 29)).setRow w2.heap.size (lnV dl A' n' c') = w3 := ⟨_, rfl⟩
  rw [hw3] at HB8 hb3 ⊢
  clear hw3 HZ2
  have hk13 : Below w1.heap.size w1 w3 := go_on hb2.out hb3
  have hk03 : Below w.heap.size w w3 := HBel.out.trans (hk13.mono HBel.out.size)
  have HK13 := Lib.hid hk13
  have HK03 := Lib.hid hk03
  have HRW3 : Hid (RW w3 A' n' c' (ways (takeL s))) := hq2.out.below hb3
  have ho3 : Me.Own w3 0 (.slice Av nv cv) tk := own_same ho2.out fun k _ hk => hb3.block k hk
  have HO3 := Lib.hid ho3
  have hL3 : Lr M (fun k => (Value.slice Av nv cv).ownBlock = some k ∨ Ko w3.drew k) w3.drew D s := (h.out.wider (O' := fun k => (Value.slice Av nv cv).ownBlock = some k) hk03.drew (fun k e => .inr ⟨Nat.le_trans HBel.out.size (hv2.out k e), own_lt ho3 k e⟩)).ko
  have HL3 := Lib.hid (HP.out _ w3.drew hL3)
  have HZ3 : Hid (Bl w3 (w.heap.size + 2) 0 none 0 0) := (HK13.out.block _ HZ.out.lt).trans HZ.out
  have hne2 : w2.heap.size ≠ w.heap.size + 2 := by have := hb2.out.size; have := HSz.out; omega
  have HC3 : ∀ W, Me.Own W 0 (.slice Av nv cv) tk → (convert 33 9 (.slice Av nv cv)).run Try.prog W = .ok (.string ST) W := fun W hW => by
    obtain ⟨A9, n9, c9, e9, h9⟩ := HCv2.out W _ hW
    injection e9 with f1 f2 f3
    subst f1 f2 f3
    exact h9
  have HC33 := Lib.hid HC3
  clear a0 a1 a2 a3 hb3 hk13 hk03 hL3 HC3 ho3
  refine wp_region_held_drew (S := fun W => Bl W w2.heap.size dl A' n' c' ∧ (convert 33 9 (.slice Av nv cv)).run Try.prog W = .ok (.string ST) W) (by kernel_rfl) ⟨HB8.out, HC33.out _ (own_same HO3.out fun k _ hk => rfl)⟩ (fun hHeld => ?_)
  refine wpAnyH_take (i := 0) (v := .agg (lnV dl A' n' c')) rfl (by kernel_rfl) (by kernel_rfl) (by kernel_rfl) (fun _ _ _ h => h) (yieldsIf_load_ln (by rfl) (.tmp 13) rfl w2.heap.size rfl dl A' n' c' (fun W hW => hW.1)) (by first | assumption | exact trivial) ?_
  simp only [Act.put, List.getElem_toArray, List.getElem_cons_succ, List.getElem_cons_zero, List.setIfInBounds_toArray, List.set_cons_zero, List.set_cons_succ]
  refine wpAnyH_take (i := 1) (v := .pointer (some ⟨D, 0, none⟩)) rfl (by kernel_rfl) (by kernel_rfl) (by kernel_rfl) (fun _ _ _ h => h) (Or.inl ⟨by rfl, ?_⟩) (by first | assumption | exact trivial) ?_
  · intro W hSW; go_simp; try (with_reducible rfl)
  simp only [Act.put, List.getElem_toArray, List.getElem_cons_succ, List.getElem_cons_zero, List.setIfInBounds_toArray, List.set_cons_zero, List.set_cons_succ]
  refine wpAnyH_take (i := 4) (v := .slice Av nv cv) rfl (by kernel_rfl) (by kernel_rfl) (by kernel_rfl) (fun _ _ _ h => h) (Or.inl ⟨by rfl, ?_⟩) (by first | assumption | exact trivial) ?_
  · intro W hSW; go_simp; try (with_reducible rfl)
  simp only [Act.put, List.getElem_toArray, List.getElem_cons_succ, List.getElem_cons_zero, List.setIfInBounds_toArray, List.set_cons_zero, List.set_cons_succ]
  refine wpAnyH_take (i := 5) (v := .string ST) rfl (by kernel_rfl) (by kernel_rfl) (by kernel_rfl) (fun _ _ _ h => h) (Or.inl ⟨by rfl, ?_⟩) (by first | assumption | exact trivial) ?_
  · intro W hSW; have y := hSW.2; go_simp; try (with_reducible rfl)
  simp only [Act.put, List.getElem_toArray, List.getElem_cons_succ, List.getElem_cons_zero, List.setIfInBounds_toArray, List.set_cons_zero, List.set_cons_succ]
  refine wpAnyH_ready (rs := [2]) (by kernel_rfl) (by simp) ?_
  refine AllReadyH.cons rfl (fun K hK => ?_) AllReadyH.nil
  go_simp
  go_wp2_with (go_at_call 15; refine HL3.out.mono ?_; rintro e w4 ⟨A5, rfl, hr5, hA5, hl4, hb4⟩)
  have hb34 : But (Ok2 M w3) w3 w4 := (But.of_below (S := Ok2 M w3) (Below.refl _ w3).drew).trans (hb4.out.mono fun k _ hk => (⟨hk.1, fun h => hk.2 (.inr h)⟩ : Ok2 M w3 k)) fun k _ hs => hs
  have hB84 : Bl w4 w2.heap.size dl A' n' c' := ok2_bl hb34 HB8.out
  have hZ4 : Bl w4 (w.heap.size + 2) 0 none 0 0 := ok2_bl hb34 HZ3.out
  have ho4 : Me.Own w4 0 (.slice Av nv cv) tk := own_same HO3.out fun k e hk => hb4.out.same k hk fun hs => hs.2 (.inl e)
  have HO4 := Lib.hid ho4
  have hc4 := HC33.out w4 ho4
  have hc5 := HCv5.out w4 A5 hr5.out hA5.out
  clear ho4
  refine hK.out _ _ (⟨hB84, hc4⟩) (fun hHeld => ?_)
  clear hK K
  refine wpAnyH_up (S' := fun W => (Bl W w2.heap.size dl A' n' c' ∧ (convert 33 9 (.slice Av nv cv)).run Try.prog W = .ok (.string ST) W) ∧ (convert 33 9 (.slice A5 q q)).run Try.prog W = .ok (.string ST) W) (fun _ h => h.1) ?_
  have hHeld2 : (Bl w4 w2.heap.size dl A' n' c' ∧ (convert 33 9 (.slice Av nv cv)).run Try.prog w4 = .ok (.string ST) w4) ∧ (convert 33 9 (.slice A5 q q)).run Try.prog w4 = .ok (.string ST) w4 := ⟨⟨hB84, hc4⟩, hc5⟩
  refine wpAnyH_take (i := 3) (v := .string ST) rfl (by kernel_rfl) (by kernel_rfl) (by kernel_rfl) (fun _ _ _ h => h) (Or.inl ⟨by rfl, ?_⟩) (by first | assumption | exact trivial) ?_
  · intro W hSW; have y := hSW.2; go_simp; try (with_reducible rfl)
  simp only [Act.put, List.getElem_toArray, List.getElem_cons_succ, List.getElem_cons_zero, List.setIfInBounds_toArray, List.set_cons_zero, List.set_cons_succ]
  refine wpAnyH_take (i := 6) (v := .bool true) rfl (by kernel_rfl) (by kernel_rfl) (by kernel_rfl) (fun _ _ _ h => h) (Or.inl ⟨by rfl, ?_⟩) (by first | assumption | exact trivial) ?_
  · intro W hSW; go_simp; try (with_reducible rfl)
  simp only [Act.put, List.getElem_toArray, List.getElem_cons_succ, List.getElem_cons_zero, List.setIfInBounds_toArray, List.set_cons_zero, List.set_cons_succ]
  refine wpAnyH_ready (rs := [7]) (by kernel_rfl) (by simp) ?_
  refine AllReadyH.cons rfl (fun K hK => ?_) AllReadyH.nil
  rw [if_pos (by kernel_rfl)]
  refine wp_store_row 29 (.tmp 6) (.tmp 71) rfl (w.heap.size + 2) (lnV dl A' n' c') rfl rfl 29 _ hZ4 (ln_size _ _ _ _) rfl (ln_one _ _ _ _) ?_
  have hb5 : But (fun k => k = w.heap.size + 2) w4 (w4.setRow (w.heap.size + 2) (lnV dl A' n' c')) := (But.refl (fun k => k = w.heap.size + 2) w4).setRow (D := w.heap.size + 2) (.inl rfl) _
  have ho5 : Me.Own (w4.setRow (w.heap.size + 2) (lnV dl A' n' c')) 0 (.slice Av nv cv) tk := own_same HO4.out fun k e hk => hb5.same k hk fun e2 => own_ne HO4.out hZ4 (by decide) (by rw [← e2]; exact e)
  have hr6 : Me.Rd (w4.setRow (w.heap.size + 2) (lnV dl A' n' c')) (w4.setRow (w.heap.size + 2) (lnV dl A' n' c')).heap.size A5 tk := hZ4.rd_set (by simpa using hr5.out) _
  refine hK.out _ _ (⟨⟨(setRow_other w4 (w.heap.size + 2) w2.heap.size _ hne2).trans hB84, HC33.out _ ho5⟩, HCv5.out _ A5 hr6 hA5.out⟩) (fun hHeld => ?_)
  clear hK K
  refine wpAnyH_take (i := 8) (v := .bool true) rfl (by kernel_rfl) (by kernel_rfl) (by kernel_rfl) (fun _ _ _ h => h) (Or.inl ⟨by rfl, ?_⟩) (by first | assumption | exact trivial) ?_
  · intro W hSW; go_simp; try (with_reducible rfl)
  simp only [Act.put, List.getElem_toArray, List.getElem_cons_succ, List.getElem_cons_zero, List.setIfInBounds_toArray, List.set_cons_zero, List.set_cons_succ]
  refine wpAnyH_done (by kernel_rfl) ?_ _
  go_wp2
  have hlr : Lr M (fun _ => False) (w4.setRow (w.heap.size + 2) (lnV dl A' n' c')) D (takeL s) := (hl4.out.but hb5 fun k e => .inl (.inr (by rw [e]; exact HZ3.out.ko))).no
  have hbf : But (Ok2 M w) w (w4.setRow (w.heap.size + 2) (lnV dl A' n' c')) := (ok2_chain HK03.out hb34).setRow (D := w.heap.size + 2) (.inr (by omega)) _
  exact ret_box2 rfl rfl (setRow_heap _ _ _ _ _ _ hZ4) rfl Try.underlying29 (ln_size _ _ _ _) rfl ⟨A', n', c', rfl, hZ4.rw_set (ok2_rw hb34 HRW3.out) _, hlr, hbf⟩
end Go.Proofs.Ytcdpdijfgeeenaa.Li
