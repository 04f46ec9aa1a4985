/- The document's line: Put. -/
import Derived.Test.YtcdpdijfgeeenaaLnRFun
namespace Go.Proofs.Ytcdpdijfgeeenaa.Li
open Go.RowKit
open Go.Proofs.Ytcdpdijfgeeenaa.Sb
set_option linter.unusedVariables false
set_option linter.unusedSimpArgs false

theorem encW_arr (b : Nat) (x : Int) : (encW (b, x)).toArray = #[.int .u8 (b : Int), .int .i64 x] := rfl
set_option maxRecDepth 100000 in
set_option maxHeartbeats 4000000 in
theorem RPut_ok (d : Nat) (A : Option Addr) (n c : Nat) (L : List Wy) (Ap : Option Addr) (pc : Nat) (p : List Nat) (w : World) (hr : Hid (RW w A n c L)) (hn : n ≤ 65536) (hd : d ≤ 64) (hf : ¬ 65536 < n + p.length) (hp : Hid (Me.Rd w w.heap.size Ap p)) :
    Calls Try.prog 20 #[.agg (lnV d A n c), .slice Ap p.length pc] w fun e w' => ∃ A' n' c', e = .returned (.tuple #[.agg (lnV d A' n' c'), .int .i64 0]) ∧ Hid (RW w' A' n' c' (L ++ p.map fun b => (b, (d : Int)))) ∧ Hid (Below w.heap.size w w') := by
  obtain ⟨w1, hw1, B1, B2, hsz, hb, hr1⟩ := two_ln w d A n c L hr.out
  have HW1 := Lib.hid hw1
  have HB2 := Lib.hid B2
  have HB1 := Lib.hid B1
  have HB := Lib.hid hb
  have HR1 := Lib.hid hr1
  obtain ⟨e0, e1⟩ := B1.cells
  obtain ⟨f0, f1⟩ := B1.alloc (.cells #[] 62)
  have HS := Lib.hid hsz
  obtain ⟨m, hm⟩ : ∃ m, p.length = m := ⟨_, rfl⟩
  have HM : Hid (p.length = m) := hm
  have HLN : Hid (L.length ≤ 65536) := by show _ ≤ _; rw [← hr.out.len]; exact hn
  rw [hm] at hf ⊢
  have q1 : ¬ (65536 : Int) < (n : Int) + (m : Int) := by omega
  have HO0 : Hid (OW (w1.alloc (.cells #[] 62)) w1.heap.size (.slice (some ⟨w1.heap.size, 0, none⟩) 0 0) []) := OW.made w1
  have hm6 : m ≤ 65536 := by omega
  have HLm : Hid (([] : List Wy).length + L.length ≤ 1000000) := by show _ ≤ _; have := HLN.out; simp; omega
  clear hw1 B1 B2 hsz hb hr1 hm
  go_enter Try.func20, Try.ntmps20
  go_wp2_with (first
    | (refine Mi.allocTo rfl (.pointer (some ⟨_, 0, none⟩)) (.cells (lnV d A n c) 29 (0, 0)) (exec_boxl _ _ d A n c (.tmp 0) rfl rfl _) ?_)
    | (refine Mi.allocTo rfl (.pointer (some ⟨_, 0, none⟩)) (.cells (lnV 0 none 0 0) 29 (0, 0)) (alloc_ln _ _ rfl _) ?_; rw [HW1.out])
    | (at_builtin; refine appWL (w0 := w1) rfl (.tmp 16) (.tmp 18) rfl w1.heap.size _ [] L rfl HO0.out (Me.below_alloc (Below.refl _ _)) (by simp) A n c rfl (HR1.out.below (Me.below_alloc (Below.refl _ _))) HLm.out ?_; intro v3 w3 ho3 hb3; rw [List.nil_append] at ho3; have HO3 := Lib.hid ho3; have HB3 := Lib.hid hb3; clear ho3 hb3))
  go_loopw [6, 7] (fun u6 u7 wr => ∃ k : Nat, k ≤ m ∧ u7 = .int .i64 (k : Int) ∧ Hid (OW wr w1.heap.size u6 (L ++ (p.take k).map fun b => (b, (d : Int)))) ∧ Hid (Below w1.heap.size w1 wr)) (fun _ u7 _ => m - (intOf u7).toNat)
  case atStart => exact ⟨0, Nat.zero_le _, rfl, by have := HO3.out; rw [List.take_zero, List.map_nil, List.append_nil]; exact this, HB3⟩
  case round =>
    obtain ⟨k, hk, rfl, HO, HBr⟩ := hrel
    clear e0 e1 f0 f1 HO3 HB3 HO0
    obtain ⟨e0, e1⟩ := (HB1.out.below HBr.out).cells
    by_cases hkm : k < m
    · have q2 : (k : Int) < (m : Int) := by omega
      obtain ⟨bp, op, hAp, _, hc⟩ := ((hp.out.below (HB.out)).below (HBr.out.mono HB.out.size)).2 (by rw [HM.out]; omega)
      have x1 := hc k (by rw [HM.out]; omega)
      obtain ⟨b, hb⟩ : ∃ b, Me.by_ p k = b := ⟨_, rfl⟩
      rw [hb] at x1
      have HBy : Hid (Me.by_ p k = b) := hb
      have HPb : Hid ((p.take k).map (fun b => (b, (d : Int))) ++ [(b, (d : Int))] = (p.take (k + 1)).map fun b => (b, (d : Int))) := by
        show _ = _
        have hk2 : k < p.length := by rw [HM.out]; omega
        rw [List.take_add_one, List.getElem?_eq_getElem hk2, ← hb, Me.by_get hk2, List.map_append]
        rfl
      subst hAp
      have HLk : Hid ((L ++ (p.take k).map fun b => (b, (d : Int))).length + [(b, (d : Int))].length ≤ 1000000) := by
        show _ ≤ _
        have := HLN.out
        simp only [List.length_append, List.length_map, List.length_take, List.length_cons, List.length_nil]
        omega
      have hkm2 : k < m := hkm
      clear hc hb
      go_wp2
      have sS : wr.drew.cell? ⟨bp, op + k, none⟩ = some (.int .u8 (b : Int)) ∧ wr.drew.cell? ⟨w.heap.size, 0, none⟩ = some (.int .i64 (d : Int)) := ⟨x1, e0⟩
      have hlt1 : bp < wr.heap.size := World.block_lt_of_cell? wr _ x1
      have hlt2 : w.heap.size < wr.heap.size := World.block_lt_of_cell? wr _ e0
      refine wp_region_held_drew (S := fun W => W.cell? ⟨bp, op + k, none⟩ = some (.int .u8 (b : Int)) ∧ W.cell? ⟨w.heap.size, 0, none⟩ = some (.int .i64 (d : Int))) (by kernel_rfl) sS (fun hHeld => ?_)
      refine wpAnyH_take (i := 0) (v := ?vz1) rfl (by kernel_rfl) (by kernel_rfl) (by kernel_rfl) (fun _ _ _ h => h) (Or.inl ⟨by rfl, ?hyz1⟩) (by first | assumption | exact trivial) ?restz1
      case hyz1 => intro W hSW; go_simp; try (with_reducible rfl)
      simp only [Act.put, List.getElem_toArray, List.getElem_cons_succ, List.getElem_cons_zero, List.setIfInBounds_toArray, List.set_cons_zero, List.set_cons_succ]
      refine wpAnyH_take (i := 1) (v := .slice (some ⟨bp, op, none⟩) m pc) rfl (by kernel_rfl) (by kernel_rfl) (by kernel_rfl) (fun _ _ _ h => h) (Or.inl ⟨by rfl, ?_⟩) (by first | assumption | exact trivial) ?_
      · intro W hSW; go_simp; try (with_reducible rfl)
      simp only [Act.put, List.getElem_toArray, List.getElem_cons_succ, List.getElem_cons_zero, List.setIfInBounds_toArray, List.set_cons_zero, List.set_cons_succ]
      refine wpAnyH_take (i := 2) (v := .int .i64 (k : Int)) rfl (by kernel_rfl) (by kernel_rfl) (by kernel_rfl) (fun _ _ _ h => h) (Or.inl ⟨by rfl, ?_⟩) (by first | assumption | exact trivial) ?_
      · intro W hSW; go_simp; try (with_reducible rfl)
      simp only [Act.put, List.getElem_toArray, List.getElem_cons_succ, List.getElem_cons_zero, List.setIfInBounds_toArray, List.set_cons_zero, List.set_cons_succ]
      refine wpAnyH_take (i := 3) (v := .pointer (some ⟨bp, op + k, none⟩)) rfl (by kernel_rfl) (by kernel_rfl) (by kernel_rfl) (fun _ _ _ h => h) (Or.inl ⟨by rfl, ?_⟩) (by first | assumption | exact trivial) ?_
      · intro W hSW; go_simp; try (with_reducible rfl)
      simp only [Act.put, List.getElem_toArray, List.getElem_cons_succ, List.getElem_cons_zero, List.setIfInBounds_toArray, List.set_cons_zero, List.set_cons_succ]
      refine wpAnyH_take (i := 4) (v := .int .u8 (b : Int)) rfl (by kernel_rfl) (by kernel_rfl) (by kernel_rfl) (fun _ _ _ h => h) (Or.inl ⟨by rfl, ?_⟩) (by first | assumption | exact trivial) ?_
      · intro W hSW; have y := hSW.1; go_simp; try (with_reducible rfl)
      simp only [Act.put, List.getElem_toArray, List.getElem_cons_succ, List.getElem_cons_zero, List.setIfInBounds_toArray, List.set_cons_zero, List.set_cons_succ]
      refine wpAnyH_take (i := 5) (v := .pointer (some ⟨w.heap.size, 0, none⟩)) rfl (by kernel_rfl) (by kernel_rfl) (by kernel_rfl) (fun _ _ _ h => h) (Or.inl ⟨by rfl, ?_⟩) (by first | assumption | exact trivial) ?_
      · intro W hSW; go_simp; try (with_reducible rfl)
      simp only [Act.put, List.getElem_toArray, List.getElem_cons_succ, List.getElem_cons_zero, List.setIfInBounds_toArray, List.set_cons_zero, List.set_cons_succ]
      refine wpAnyH_take (i := 6) (v := .int .i64 (d : Int)) rfl (by kernel_rfl) (by kernel_rfl) (by kernel_rfl) (fun _ _ _ h => h) (Or.inl ⟨by rfl, ?_⟩) (by first | assumption | exact trivial) ?_
      · intro W hSW; have y := hSW.2; go_simp; try (with_reducible rfl)
      simp only [Act.put, List.getElem_toArray, List.getElem_cons_succ, List.getElem_cons_zero, List.setIfInBounds_toArray, List.set_cons_zero, List.set_cons_succ]
      refine wpAnyH_take (i := 7) (v := .agg #[.int .u8 (b : Int), .int .i64 (d : Int)]) rfl (by kernel_rfl) (by kernel_rfl) (by kernel_rfl) (fun _ _ _ h => h) (Or.inl ⟨by rfl, ?_⟩) (by first | assumption | exact trivial) ?_
      · intro W hSW; go_simp; try (with_reducible rfl)
      simp only [Act.put, List.getElem_toArray, List.getElem_cons_succ, List.getElem_cons_zero, List.setIfInBounds_toArray, List.set_cons_zero, List.set_cons_succ]
      refine wpAnyH_ready (rs := [8]) (by kernel_rfl) (by simp) ?_
      refine AllReadyH.cons rfl (fun K hK => ?_) AllReadyH.nil
      go_simp
      have hbl : Below wr.heap.size wr (wr.alloc (.cells #[.int .u8 (b : Int), .int .i64 (d : Int)] 62)).drew := (Me.below_alloc (Below.refl _ wr)).drew
      have hrn : RW (wr.alloc (.cells #[.int .u8 (b : Int), .int .i64 (d : Int)] 62)).drew (some ⟨wr.heap.size, 0, none⟩) 1 1 [(b, (d : Int))] := rw_new wr (b, (d : Int)) _ (heap_alloc_new wr _)
      refine hK.out _ _ (⟨(hbl.cell (p := ⟨bp, op + k, none⟩) hlt1).trans x1, (hbl.cell (p := ⟨w.heap.size, 0, none⟩) hlt2).trans e0⟩) (fun hHeld => ?_)
      clear hK K
      refine wpAnyH_ready (rs := [9]) (by kernel_rfl) (by simp) ?_
      refine AllReadyH.cons rfl (fun K hK => ?_) AllReadyH.nil
      rw [if_pos (by kernel_rfl)]
      refine appW (w0 := w1) (.tmp 26) (.tmp 34) rfl w1.heap.size u6 (L ++ (p.take k).map fun b => (b, (d : Int))) [(b, (d : Int))] rfl (HO.out.below hbl) (HBr.out.trans (hbl.mono HBr.out.size)) (Nat.le_trans HBr.out.size hbl.size) (some ⟨wr.heap.size, 0, none⟩) 1 1 rfl hrn HLk.out ?_
      intro v9 w9 ho9 hb9
      rw [List.append_assoc, HPb.out] at ho9
      have HO9 := Lib.hid ho9
      have HB9 := Lib.hid hb9
      clear ho9 hb9
      simp only [Act.put, List.getElem_toArray, List.getElem_cons_succ, List.getElem_cons_zero, List.setIfInBounds_toArray, List.set_cons_zero, List.set_cons_succ]
      have z1 := ((hp.out.below HB.out).below (HB9.out.mono HB.out.size)).2 (by rw [HM.out]; omega)
      obtain ⟨bp2, op2, hAp2, _, hc2⟩ := z1
      have z2 := hc2 k (by rw [HM.out]; omega)
      cases hAp2
      rw [HBy.out] at z2
      refine hK.out _ _ (⟨z2, ((HB1.out.below HB9.out).cells).1⟩) (fun hHeld => ?_)
      clear hK K
      refine wpAnyH_take (i := 10) (v := v9) rfl (by kernel_rfl) (by kernel_rfl) (by kernel_rfl) (fun _ _ _ h => h) (Or.inl ⟨by rfl, ?_⟩) (by first | assumption | exact trivial) ?_
      · intro W hSW; go_simp; try (with_reducible rfl)
      simp only [Act.put, List.getElem_toArray, List.getElem_cons_succ, List.getElem_cons_zero, List.setIfInBounds_toArray, List.set_cons_zero, List.set_cons_succ]
      refine wpAnyH_done (by kernel_rfl) ?_ _
      go_wp2
      go_roundw
      case rel => exact ⟨k + 1, by omega, by go_num, HO9, HB9⟩
      case measure => simp [intOf]; omega
    · obtain rfl : k = m := by omega
      have q2 : ¬ (k : Int) < (k : Int) := by omega
      have hfull : p.take k = p := List.take_of_length_le (by rw [HM.out]; exact Nat.le_refl _)
      have HO2 := HO.out
      rw [hfull] at HO2
      obtain ⟨A5, c5, hu, hrw⟩ := OW.rw HO2
      have HRW5 := Lib.hid hrw
      obtain ⟨n5, hn5⟩ : ∃ x, (L ++ p.map fun b => (b, (d : Int))).length = x := ⟨_, rfl⟩
      rw [hn5] at hu HRW5
      subst hu
      have HB5 : Hid (Bl wr (w.heap.size + 1) 0 none 0 0) := HB2.out.below HBr.out
      clear hfull HO2 hrw hn5
      go_wp2_with (refine wpList_store_row rfl 29 (.tmp 4) (.tmp 39) rfl (w.heap.size + 1) (lnV d A5 n5 c5) rfl rfl 29 _ HB5.out (ln_size _ _ _ _) rfl (ln_one _ _ _ _) ?_)
      have hbw : Below w.heap.size w (wr.setRow (w.heap.size + 1) (lnV d A5 n5 c5)) := Sb.below_setRow _ (HB.out.trans (HBr.out.mono HB.out.size)) (Nat.le_succ _)
      refine ret_box2 rfl rfl (setRow_heap _ _ _ _ _ _ HB5.out) rfl Try.underlying29 (ln_size _ _ _ _) rfl ⟨A5, n5, c5, rfl, HRW5.out.keep (fun q hq => setRow_other _ _ q _ fun e => ?_), hbw⟩
      obtain ⟨cs, hcs⟩ := hq
      subst e
      rw [HB5.out] at hcs
      injection hcs with hcs
      injection hcs with _ hT _
      cases hT
end Go.Proofs.Ytcdpdijfgeeenaa.Li
