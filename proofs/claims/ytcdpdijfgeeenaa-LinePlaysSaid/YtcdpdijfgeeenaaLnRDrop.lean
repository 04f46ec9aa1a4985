/- The document's line: Drop. -/
import Derived.Test.YtcdpdijfgeeenaaLnRTick
namespace Go.Proofs.Ytcdpdijfgeeenaa.Li
open Go.RowKit
open Go.Proofs.Ytcdpdijfgeeenaa.Sb
set_option linter.unusedVariables false
set_option linter.unusedSimpArgs false

/-- Both orders that the document's functions leave what was: an error, and the line as it was. -/
theorem RDrop_bad (d : Nat) (A : Option Addr) (n c : Nat) (L : List Wy) (k m : Int) (w : World) (hr : Hid (RW w A n c L)) (hn : n ≤ 65536) (hk : Mi.I64 k) (hm : Mi.I64 m) (hb : k < 0 ∨ m < 0 ∨ (n : Int) - k < m) :
    Calls Try.prog 23 #[.agg (lnV d A n c), .int .i64 k, .int .i64 m] w fun e w' => e = .returned (.tuple #[.agg (lnV d A n c), .int .i64 1]) ∧ Hid (Below w.heap.size w w') := by
  obtain ⟨w1, hw1, B1, B2, hsz, hbw, hr1⟩ := two_ln w d A n c L hr.out
  have HW1 := Lib.hid hw1
  have HB2 := Lib.hid B2
  have HB1 := Lib.hid B1
  have HB := Lib.hid hbw
  obtain ⟨e0, e1⟩ := B1.cells
  clear hw1 B1 B2 hsz hbw hr1
  have HWr : Hid (¬ k < 0 → wrap64 ((n : Int) - k) = (n : Int) - k) := fun h => Mi.fits (by unfold Mi.I64 at *; omega)
  by_cases h0 : k < 0
  · clear hb
    go_enter Try.func23, Try.ntmps23
    go_wp2_with (first
      | (refine Mi.allocTo rfl (.pointer (some ⟨_, 0, none⟩)) (.cells (lnV d A n c) 29 (0, 0)) (exec_boxl _ _ d A n c (.tmp 0) rfl rfl _) ?_)
      | (refine Mi.allocTo rfl (.pointer (some ⟨_, 0, none⟩)) (.cells (lnV 0 none 0 0) 29 (0, 0)) (alloc_ln _ _ rfl _) ?_; rw [HW1.out])
      | (refine wpList_load_row rfl 29 (.tmp 3) rfl w.heap.size rfl 29 _ (0, 0) _ HB1.out Try.underlying29 rfl (ln_size _ _ _ _) ?_)
      | (refine wpList_store_row rfl 29 (.tmp 6) (.tmp 31) rfl (w.heap.size + 1) (lnV d A n c) rfl rfl 29 _ HB2.out (ln_size _ _ _ _) rfl (ln_one _ _ _ _) ?_))
    exact ret_box2 rfl rfl (setRow_heap _ _ _ _ _ _ HB2.out) rfl Try.underlying29 (ln_size _ _ _ _) rfl ⟨rfl, Sb.below_setRow _ HB.out (Nat.le_succ _)⟩
  · by_cases h1 : m < 0
    · clear hb
      go_enter Try.func23, Try.ntmps23
      go_wp2_with (first
        | (refine Mi.allocTo rfl (.pointer (some ⟨_, 0, none⟩)) (.cells (lnV d A n c) 29 (0, 0)) (exec_boxl _ _ d A n c (.tmp 0) rfl rfl _) ?_)
        | (refine Mi.allocTo rfl (.pointer (some ⟨_, 0, none⟩)) (.cells (lnV 0 none 0 0) 29 (0, 0)) (alloc_ln _ _ rfl _) ?_; rw [HW1.out])
        | (refine wpList_load_row rfl 29 (.tmp 3) rfl w.heap.size rfl 29 _ (0, 0) _ HB1.out Try.underlying29 rfl (ln_size _ _ _ _) ?_)
        | (refine wpList_store_row rfl 29 (.tmp 6) (.tmp 31) rfl (w.heap.size + 1) (lnV d A n c) rfl rfl 29 _ HB2.out (ln_size _ _ _ _) rfl (ln_one _ _ _ _) ?_))
      exact ret_box2 rfl rfl (setRow_heap _ _ _ _ _ _ HB2.out) rfl Try.underlying29 (ln_size _ _ _ _) rfl ⟨rfl, Sb.below_setRow _ HB.out (Nat.le_succ _)⟩
    · have h2 : (n : Int) - k < m := by omega
      have q := HWr.out h0
      by_cases h3 : (n : Int) < k
      · clear hb
        go_enter Try.func23, Try.ntmps23
        go_wp2_with (first
          | (refine Mi.allocTo rfl (.pointer (some ⟨_, 0, none⟩)) (.cells (lnV d A n c) 29 (0, 0)) (exec_boxl _ _ d A n c (.tmp 0) rfl rfl _) ?_)
          | (refine Mi.allocTo rfl (.pointer (some ⟨_, 0, none⟩)) (.cells (lnV 0 none 0 0) 29 (0, 0)) (alloc_ln _ _ rfl _) ?_; rw [HW1.out])
          | (refine wpList_load_row rfl 29 (.tmp 3) rfl w.heap.size rfl 29 _ (0, 0) _ HB1.out Try.underlying29 rfl (ln_size _ _ _ _) ?_)
          | (refine wpList_store_row rfl 29 (.tmp 6) (.tmp 31) rfl (w.heap.size + 1) (lnV d A n c) rfl rfl 29 _ HB2.out (ln_size _ _ _ _) rfl (ln_one _ _ _ _) ?_))
        exact ret_box2 rfl rfl (setRow_heap _ _ _ _ _ _ HB2.out) rfl Try.underlying29 (ln_size _ _ _ _) rfl ⟨rfl, Sb.below_setRow _ HB.out (Nat.le_succ _)⟩
      · clear hb
        go_enter Try.func23, Try.ntmps23
        go_wp2_with (first
          | (refine Mi.allocTo rfl (.pointer (some ⟨_, 0, none⟩)) (.cells (lnV d A n c) 29 (0, 0)) (exec_boxl _ _ d A n c (.tmp 0) rfl rfl _) ?_)
          | (refine Mi.allocTo rfl (.pointer (some ⟨_, 0, none⟩)) (.cells (lnV 0 none 0 0) 29 (0, 0)) (alloc_ln _ _ rfl _) ?_; rw [HW1.out])
          | (refine wpList_load_row rfl 29 (.tmp 3) rfl w.heap.size rfl 29 _ (0, 0) _ HB1.out Try.underlying29 rfl (ln_size _ _ _ _) ?_)
          | (refine wpList_store_row rfl 29 (.tmp 6) (.tmp 31) rfl (w.heap.size + 1) (lnV d A n c) rfl rfl 29 _ HB2.out (ln_size _ _ _ _) rfl (ln_one _ _ _ _) ?_))
        exact ret_box2 rfl rfl (setRow_heap _ _ _ _ _ _ HB2.out) rfl Try.underlying29 (ln_size _ _ _ _) rfl ⟨rfl, Sb.below_setRow _ HB.out (Nat.le_succ _)⟩
set_option maxRecDepth 100000 in
set_option maxHeartbeats 4000000 in
theorem RDrop_ok (d : Nat) (A : Option Addr) (n c : Nat) (L : List Wy) (k m : Nat) (w : World) (hr : Hid (RW w A n c L)) (hn : n ≤ 65536) (hd : d ≤ 64) (hkm : k + m ≤ n) :
    Calls Try.prog 23 #[.agg (lnV d A n c), .int .i64 (k : Int), .int .i64 (m : Int)] w fun e w' => ∃ A' n' c', e = .returned (.tuple #[.agg (lnV d A' n' c'), .int .i64 0]) ∧ Hid (RW w' A' n' c' (L.take k ++ L.drop (k + m))) ∧ Hid (Below w.heap.size w w') := by
  obtain ⟨w1, hw1, B1, B2, hsz, hb, hr1⟩ := two_ln w d A n c L hr.out
  have HW1 := Lib.hid hw1
  have HB2 := Lib.hid B2
  have HB1 := Lib.hid B1
  have HB := Lib.hid hb
  have HR1 := Lib.hid hr1
  obtain ⟨e0, e1⟩ := B1.cells
  obtain ⟨f0, f1⟩ := B1.alloc (.cells #[] 62)
  have HS := Lib.hid hsz
  have HL : Hid (n = L.length) := hr.out.len
  have hnc : n ≤ c := hr.out.le
  have HO0 : Hid (OW (w1.alloc (.cells #[] 62)) w1.heap.size (.slice (some ⟨w1.heap.size, 0, none⟩) 0 0) []) := OW.made w1
  have HLm : Hid (([] : List Wy).length + (L.take k).length ≤ 1000000) := by show _ ≤ _; rw [List.length_take]; simp; omega
  have q1 : ¬ (n : Int) < (k : Int) := by omega
  have q2 : ¬ (n : Int) - (k : Int) < (m : Int) := by omega
  have HWr : Hid (wrap64 ((n : Int) - (k : Int)) = (n : Int) - (k : Int)) := Mi.fits (by unfold Mi.I64; omega)
  have q := HWr.out
  have q3 : k ≤ c := by omega
  have HRt : Hid (∀ W, Below w1.heap.size w1 W → RW W A k c (L.take k)) := fun W hW => (HR1.out.below hW).take k (by omega)
  obtain ⟨A2, hA2⟩ : ∃ A2, (if c = k + m then A else Option.map (fun x => x.add ((k + m) * 2)) A) = A2 := ⟨_, rfl⟩
  have HA2 : Hid ((if c = k + m then A else Option.map (fun x => x.add ((k + m) * 2)) A) = A2) := hA2
  have HRd : Hid (∀ W, Below w1.heap.size w1 W → RW W A2 (n - (k + m)) (c - (k + m)) (L.drop (k + m))) := fun W hW => (HR1.out.below hW).drop (k + m) (by omega) hA2
  have HBx : Hid (∀ W, Below w1.heap.size w1 W → W.cell? ⟨w.heap.size, 0, none⟩ = some (.int .i64 (d : Int)) ∧ W.cell? ⟨w.heap.size, 1, none⟩ = some (.slice A n c)) := fun W hW => (HB1.out.below hW).cells
  have HKN : Hid ((k : Int) + (m : Int) ≤ (n : Int) ∧ 0 ≤ (k : Int) + (m : Int) ∧ k + m ≤ n ∧ ((k : Int) + (m : Int)).toNat = k + m) := ⟨by omega, by omega, by omega, by omega⟩
  have HW2 : Hid (IntKind.i64.wrap ((k : Int) + (m : Int)) = ((k + m : Nat) : Int)) := by show _ = _; rw [Mi.fits' (Mi.small (by omega) (by omega))]; omega
  have HLk : Hid ((L.take k).length + (L.drop (k + m)).length ≤ 1000000) := by show _ ≤ _; rw [List.length_take, List.length_drop, ← HL.out]; omega
  clear hw1 B1 B2 hsz hb hr1 hA2
  go_enter Try.func23, Try.ntmps23
  go_wp2_with (first
    | (refine Mi.allocTo rfl (.pointer (some ⟨_, 0, none⟩)) (.cells (lnV d A n c) 29 (0, 0)) (exec_boxl _ _ d A n c (.tmp 0) rfl rfl _) ?_)
    | (refine Mi.allocTo rfl (.pointer (some ⟨_, 0, none⟩)) (.cells (lnV 0 none 0 0) 29 (0, 0)) (alloc_ln _ _ rfl _) ?_; rw [HW1.out])
    | (at_builtin; refine appWL (w0 := w1) rfl (.tmp 32) (.tmp 36) rfl w1.heap.size _ [] (L.take k) rfl HO0.out (Me.below_alloc (Below.refl _ _)) (by simp) A k c rfl (HRt.out _ (Me.below_alloc (Below.refl _ _))) HLm.out ?_; intro v3 w3 ho3 hb3; rw [List.nil_append] at ho3; have HO3 := Lib.hid ho3; have HB3 := Lib.hid hb3; clear ho3 hb3))
  refine wp_region_held_drew (S := fun W => W.cell? ⟨w.heap.size, 0, none⟩ = some (.int .i64 (d : Int)) ∧ W.cell? ⟨w.heap.size, 1, none⟩ = some (.slice A n c)) (by kernel_rfl) (HBx.out w3.drew HB3.out.drew) (fun hHeld => ?_)
  refine wpAnyH_take (i := 0) (v := .pointer (some ⟨w.heap.size, 0, none⟩)) rfl (by kernel_rfl) (by kernel_rfl) (by kernel_rfl) (fun _ _ _ h => h) (Or.inl ⟨by rfl, ?_⟩) (by first | assumption | exact trivial) ?_
  · intro W hSW; go_simp; try (with_reducible rfl)
  simp only [Act.put, List.getElem_toArray, List.getElem_cons_succ, List.getElem_cons_zero, List.setIfInBounds_toArray, List.set_cons_zero, List.set_cons_succ]
  refine wpAnyH_take (i := 1) (v := .int .i64 (d : Int)) rfl (by kernel_rfl) (by kernel_rfl) (by kernel_rfl) (fun _ _ _ h => h) (Or.inl ⟨by rfl, ?_⟩) (by first | assumption | exact trivial) ?_
  · intro W hSW; have y := hSW.1; go_simp; try (with_reducible rfl)
  simp only [Act.put, List.getElem_toArray, List.getElem_cons_succ, List.getElem_cons_zero, List.setIfInBounds_toArray, List.set_cons_zero, List.set_cons_succ]
  refine wpAnyH_take (i := 2) (v := v3) rfl (by kernel_rfl) (by kernel_rfl) (by kernel_rfl) (fun _ _ _ h => h) (Or.inl ⟨by rfl, ?_⟩) (by first | assumption | exact trivial) ?_
  · intro W hSW; go_simp; try (with_reducible rfl)
  simp only [Act.put, List.getElem_toArray, List.getElem_cons_succ, List.getElem_cons_zero, List.setIfInBounds_toArray, List.set_cons_zero, List.set_cons_succ]
  refine wpAnyH_take (i := 3) (v := .pointer (some ⟨w.heap.size, 1, none⟩)) rfl (by kernel_rfl) (by kernel_rfl) (by kernel_rfl) (fun _ _ _ h => h) (Or.inl ⟨by rfl, ?_⟩) (by first | assumption | exact trivial) ?_
  · intro W hSW; go_simp; try (with_reducible rfl)
  simp only [Act.put, List.getElem_toArray, List.getElem_cons_succ, List.getElem_cons_zero, List.setIfInBounds_toArray, List.set_cons_zero, List.set_cons_succ]
  refine wpAnyH_take (i := 4) (v := .slice A n c) rfl (by kernel_rfl) (by kernel_rfl) (by kernel_rfl) (fun _ _ _ h => h) (Or.inl ⟨by rfl, ?_⟩) (by first | assumption | exact trivial) ?_
  · intro W hSW; have y := hSW.2; go_simp; try (with_reducible rfl)
  simp only [Act.put, List.getElem_toArray, List.getElem_cons_succ, List.getElem_cons_zero, List.setIfInBounds_toArray, List.set_cons_zero, List.set_cons_succ]
  refine wpAnyH_take (i := 5) (v := .int .i64 (k : Int)) rfl (by kernel_rfl) (by kernel_rfl) (by kernel_rfl) (fun _ _ _ h => h) (Or.inl ⟨by rfl, ?_⟩) (by first | assumption | exact trivial) ?_
  · intro W hSW; go_simp; try (with_reducible rfl)
  simp only [Act.put, List.getElem_toArray, List.getElem_cons_succ, List.getElem_cons_zero, List.setIfInBounds_toArray, List.set_cons_zero, List.set_cons_succ]
  refine wpAnyH_take (i := 6) (v := .int .i64 (m : Int)) rfl (by kernel_rfl) (by kernel_rfl) (by kernel_rfl) (fun _ _ _ h => h) (Or.inl ⟨by rfl, ?_⟩) (by first | assumption | exact trivial) ?_
  · intro W hSW; go_simp; try (with_reducible rfl)
  simp only [Act.put, List.getElem_toArray, List.getElem_cons_succ, List.getElem_cons_zero, List.setIfInBounds_toArray, List.set_cons_zero, List.set_cons_succ]
  refine wpAnyH_take (i := 7) (v := .int .i64 ((k + m : Nat) : Int)) rfl (by kernel_rfl) (by kernel_rfl) (by kernel_rfl) (fun _ _ _ h => h) (Or.inl ⟨by rfl, ?_⟩) (by first | assumption | exact trivial) ?_
  · intro W hSW; have y := HW2.out; go_simp; try (with_reducible rfl)
  simp only [Act.put, List.getElem_toArray, List.getElem_cons_succ, List.getElem_cons_zero, List.setIfInBounds_toArray, List.set_cons_zero, List.set_cons_succ]
  refine wpAnyH_take (i := 8) (v := .slice A2 (n - (k + m)) (c - (k + m))) rfl (by kernel_rfl) (by kernel_rfl) (by kernel_rfl) (fun _ _ _ h => h) (Or.inl ⟨by rfl, ?_⟩) (by first | assumption | exact trivial) ?_
  · intro W hSW; (obtain ⟨y1, y2, y3, y4⟩ := HKN.out; have y := HA2.out); go_simp; try (with_reducible rfl)
  simp only [Act.put, List.getElem_toArray, List.getElem_cons_succ, List.getElem_cons_zero, List.setIfInBounds_toArray, List.set_cons_zero, List.set_cons_succ]
  refine wpAnyH_ready (rs := [9]) (by kernel_rfl) (by simp) ?_
  refine AllReadyH.cons rfl (fun K hK => ?_) AllReadyH.nil
  rw [if_pos (by kernel_rfl)]
  refine appW (w0 := w1) (.tmp 40) (.tmp 46) rfl w1.heap.size v3 (L.take k) (L.drop (k + m)) rfl (HO3.out.below (Below.refl _ w3).drew) HB3.out.drew HB3.out.size A2 (n - (k + m)) (c - (k + m)) rfl (HRd.out _ HB3.out.drew) HLk.out ?_
  intro v7 w7 ho7 hb7
  obtain ⟨A5, c5, hu, hrw⟩ := OW.rw ho7
  obtain ⟨n5, hn5⟩ : ∃ x, (L.take k ++ L.drop (k + m)).length = x := ⟨_, rfl⟩
  rw [hn5] at hu hrw
  have HRW5 := Lib.hid hrw
  have HB7 := Lib.hid hb7
  subst hu
  clear ho7 hb7 hrw hn5
  have HB5 : Hid (Bl w7 (w.heap.size + 1) 0 none 0 0) := HB2.out.below HB7.out
  simp only [Act.put, List.getElem_toArray, List.getElem_cons_succ, List.getElem_cons_zero, List.setIfInBounds_toArray, List.set_cons_zero, List.set_cons_succ]
  refine hK.out _ _ ((HBx.out _ HB7.out)) (fun hHeld => ?_)
  clear hK K
  refine wpAnyH_take (i := 10) (v := .agg #[.int .i64 (d : Int), .slice A5 n5 c5]) rfl (by kernel_rfl) (by kernel_rfl) (by kernel_rfl) (fun _ _ _ h => h) (Or.inl ⟨by rfl, ?_⟩) (by first | assumption | exact trivial) ?_
  · intro W hSW; go_simp; try (with_reducible rfl)
  simp only [Act.put, List.getElem_toArray, List.getElem_cons_succ, List.getElem_cons_zero, List.setIfInBounds_toArray, List.set_cons_zero, List.set_cons_succ]
  refine wpAnyH_ready (rs := [11]) (by kernel_rfl) (by simp) ?_
  refine AllReadyH.cons rfl (fun K hK => ?_) AllReadyH.nil
  rw [if_pos (by kernel_rfl)]
  refine wp_store_row 29 (.tmp 6) (.tmp 48) rfl (w.heap.size + 1) (lnV d A5 n5 c5) rfl rfl 29 _ HB5.out (ln_size _ _ _ _) rfl (ln_one _ _ _ _) ?_
  have hst : ∀ i, (w7.setRow (w.heap.size + 1) (lnV d A5 n5 c5)).cell? ⟨w.heap.size, i, none⟩ = w7.cell? ⟨w.heap.size, i, none⟩ := fun i => World.cell?_of_block (w := w7) (a := ⟨w.heap.size, i, none⟩) (setRow_other w7 (w.heap.size + 1) w.heap.size _ (by omega))
  refine hK.out _ _ (⟨(hst 0).trans (HBx.out _ HB7.out).1, (hst 1).trans (HBx.out _ HB7.out).2⟩) (fun hHeld => ?_)
  clear hK K
  refine wpAnyH_take (i := 12) (v := .int .i64 0) rfl (by kernel_rfl) (by kernel_rfl) (by kernel_rfl) (fun _ _ _ h => h) (Or.inl ⟨by rfl, ?_⟩) (by first | assumption | exact trivial) ?_
  · intro W hSW; go_simp; try (with_reducible rfl)
  simp only [Act.put, List.getElem_toArray, List.getElem_cons_succ, List.getElem_cons_zero, List.setIfInBounds_toArray, List.set_cons_zero, List.set_cons_succ]
  refine wpAnyH_done (by kernel_rfl) ?_ _
  go_wp2
  have hbwf : Below w.heap.size w (w7.setRow (w.heap.size + 1) (lnV d A5 n5 c5)) := Sb.below_setRow _ (HB.out.trans (HB7.out.mono HB.out.size)) (Nat.le_succ _)
  exact ret_box2 rfl rfl (setRow_heap _ _ _ _ _ _ HB5.out) rfl Try.underlying29 (ln_size _ _ _ _) rfl ⟨A5, n5, c5, rfl, HB5.out.rw_set HRW5.out _, hbwf⟩
end Go.Proofs.Ytcdpdijfgeeenaa.Li
