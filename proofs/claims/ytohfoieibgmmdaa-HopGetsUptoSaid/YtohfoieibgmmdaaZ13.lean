/- Waits; New. -/
import Derived.Test.YtohfoieibgmmdaaHpAct
namespace Go.Proofs.Ytohfoieibgmmdaa.Hp
open Go.RowKit Go.Maps
open Go.Proofs.Ytohfoieibgmmdaa.Me Go.Proofs.Ytohfoieibgmmdaa.Sb
set_option linter.unusedVariables false
set_option linter.unusedSimpArgs false

theorem Waits_nil (i : Mg.Id4) (w : World) : Calls Try.prog 21 #[.pointer none, .agg (Mg.idC i)] w fun e w' => e = .returned (.int .i64 0) ∧ Hid (Below w.heap.size w w') := by
  have HB : Hid (Below w.heap.size w (w.alloc (.cells (Mg.idC i) 23))) := Me.below_alloc (Below.refl _ _)
  obtain ⟨o, d, ee, c⟩ := i
  simp only [Mg.idC] at HB ⊢
  go_enter Try.func21, Try.ntmps21
  go_wp2
  go_ret
  exact ⟨rfl, HB⟩
set_option maxRecDepth 100000 in
theorem Waits_none (D mb : Nat) (p st sn su : Int) (so : Bool) (o d ee c : Int) (w W1 : World) (hW1 : w.alloc (.cells #[.int .i64 o, .int .i64 d, .int .i64 ee, .int .i64 c] 23) = W1)
    (HD : Hid (∀ W, Below w.heap.size w W → W.cell? ⟨D, 1, none⟩ = some (.int .i64 p) ∧ W.cell? ⟨D, 3, none⟩ = some (.map (some mb))))
    (HL : Hid (∀ W, Below w.heap.size w W → (Instr.lookup 83 (.map (some mb)) (.agg #[.int .i64 o, .int .i64 d, .int .i64 ee, .int .i64 c]) true).run Try.prog W = .ok (.tuple #[.agg #[.bool so, .int .i64 st, .int .i64 sn, .int .i64 su], .bool false]) W))
    (HX1 : Hid (∀ W, Below W1.heap.size W1 W → (W.cell? ⟨w.heap.size, 0, none⟩ = some (.int .i64 o) ∧ W.cell? ⟨w.heap.size, 1, none⟩ = some (.int .i64 d) ∧ W.cell? ⟨w.heap.size, 2, none⟩ = some (.int .i64 ee) ∧ W.cell? ⟨w.heap.size, 3, none⟩ = some (.int .i64 c)) ∧ Below w.heap.size w W)) :
    Calls Try.prog 21 #[.pointer (some ⟨D, 0, none⟩), .agg #[.int .i64 o, .int .i64 d, .int .i64 ee, .int .i64 c]] w fun e w' => e = .returned (.int .i64 (0)) ∧ Hid (Below w.heap.size w w') := by
  have HW1 := Lib.hid hW1
  clear hW1
  go_enter Try.func21, Try.ntmps21
  go_wp2
  rw [HW1.out]
  have S0 := (Below.refl W1.heap.size W1).drew
  refine wp_region_held_drew (S := fun W => Below W1.heap.size W1 W) (by kernel_rfl) S0 (fun hHeld => ?_)
  refine wpAnyH_take (i := 0) (v := .pointer (some ⟨D, 0, none⟩)) rfl (by kernel_rfl) (by kernel_rfl) (by kernel_rfl) (fun _ _ _ h => h) (Or.inl ⟨by rfl, ?_⟩) (by first | assumption | exact trivial) ?_
  · intro W hSW; go_simp; try (with_reducible rfl)
  simp only [Act.put, List.getElem_toArray, List.getElem_cons_succ, List.getElem_cons_zero, List.setIfInBounds_toArray, List.set_cons_zero, List.set_cons_succ]
  refine wpAnyH_take (i := 1) (v := .pointer (some ⟨D, 0, none⟩)) rfl (by kernel_rfl) (by kernel_rfl) (by kernel_rfl) (fun _ _ _ h => h) (Or.inl ⟨by rfl, ?_⟩) (by first | assumption | exact trivial) ?_
  · intro W hSW; go_simp; try (with_reducible rfl)
  simp only [Act.put, List.getElem_toArray, List.getElem_cons_succ, List.getElem_cons_zero, List.setIfInBounds_toArray, List.set_cons_zero, List.set_cons_succ]
  refine wpAnyH_take (i := 2) (v := .pointer (some ⟨D, 3, none⟩)) rfl (by kernel_rfl) (by kernel_rfl) (by kernel_rfl) (fun _ _ _ h => h) (Or.inl ⟨by rfl, ?_⟩) (by first | assumption | exact trivial) ?_
  · intro W hSW; go_simp; try (with_reducible rfl)
  simp only [Act.put, List.getElem_toArray, List.getElem_cons_succ, List.getElem_cons_zero, List.setIfInBounds_toArray, List.set_cons_zero, List.set_cons_succ]
  refine wpAnyH_take (i := 3) (v := .map (some mb)) rfl (by kernel_rfl) (by kernel_rfl) (by kernel_rfl) (fun _ _ _ h => h) (Or.inl ⟨by rfl, ?_⟩) (by first | assumption | exact trivial) ?_
  · intro W hSW; have z := (HD.out W (HX1.out W hSW).2).2; go_simp; try (with_reducible rfl)
  simp only [Act.put, List.getElem_toArray, List.getElem_cons_succ, List.getElem_cons_zero, List.setIfInBounds_toArray, List.set_cons_zero, List.set_cons_succ]
  refine wpAnyH_take (i := 4) (v := .agg #[.int .i64 o, .int .i64 d, .int .i64 ee, .int .i64 c]) rfl (by kernel_rfl) (by kernel_rfl) (by kernel_rfl) (fun _ _ _ h => h) (Or.inl ⟨by rfl, ?_⟩) (by first | assumption | exact trivial) ?_
  · intro W hSW; obtain ⟨⟨y0, y1, y2, y3⟩, _⟩ := HX1.out W hSW; go_simp; try (with_reducible rfl)
  simp only [Act.put, List.getElem_toArray, List.getElem_cons_succ, List.getElem_cons_zero, List.setIfInBounds_toArray, List.set_cons_zero, List.set_cons_succ]
  refine wpAnyH_take (i := 5) (v := .tuple #[.agg #[.bool so, .int .i64 st, .int .i64 sn, .int .i64 su], .bool false]) rfl (by kernel_rfl) (by kernel_rfl) (by kernel_rfl) (fun _ _ _ h => h) (Or.inl ⟨by rfl, ?_⟩) (by first | assumption | exact trivial) ?_
  · intro W hSW; have z := HL.out W (HX1.out W hSW).2; go_simp; try (with_reducible rfl)
  simp only [Act.put, List.getElem_toArray, List.getElem_cons_succ, List.getElem_cons_zero, List.setIfInBounds_toArray, List.set_cons_zero, List.set_cons_succ]
  refine wpAnyH_take (i := 6) (v := .tuple #[.agg #[.bool so, .int .i64 st, .int .i64 sn, .int .i64 su], .bool false]) rfl (by kernel_rfl) (by kernel_rfl) (by kernel_rfl) (fun _ _ _ h => h) (Or.inl ⟨by rfl, ?_⟩) (by first | assumption | exact trivial) ?_
  · intro W hSW; go_simp; try (with_reducible rfl)
  simp only [Act.put, List.getElem_toArray, List.getElem_cons_succ, List.getElem_cons_zero, List.setIfInBounds_toArray, List.set_cons_zero, List.set_cons_succ]
  refine wpAnyH_take (i := 7) (v := .agg #[.bool so, .int .i64 st, .int .i64 sn, .int .i64 su]) rfl (by kernel_rfl) (by kernel_rfl) (by kernel_rfl) (fun _ _ _ h => h) (Or.inl ⟨by rfl, ?_⟩) (by first | assumption | exact trivial) ?_
  · intro W hSW; go_simp; try (with_reducible rfl)
  simp only [Act.put, List.getElem_toArray, List.getElem_cons_succ, List.getElem_cons_zero, List.setIfInBounds_toArray, List.set_cons_zero, List.set_cons_succ]
  refine wpAnyH_take (i := 8) (v := .bool false) rfl (by kernel_rfl) (by kernel_rfl) (by kernel_rfl) (fun _ _ _ h => h) (Or.inl ⟨by rfl, ?_⟩) (by first | assumption | exact trivial) ?_
  · intro W hSW; go_simp; try (with_reducible rfl)
  simp only [Act.put, List.getElem_toArray, List.getElem_cons_succ, List.getElem_cons_zero, List.setIfInBounds_toArray, List.set_cons_zero, List.set_cons_succ]
  refine wpAnyH_ready (rs := [9]) (by kernel_rfl) (by simp) ?_
  refine AllReadyH.cons rfl (fun K hK => ?_) AllReadyH.nil
  go_simp
  obtain ⟨V6, hV6⟩ : ∃ V, (W1.alloc (.cells #[.bool false, .int .i64 0, .int .i64 0, .int .i64 0] 95)).drew = V := ⟨_, rfl⟩
  have hb6 : Below W1.heap.size W1 V6 := by rw [← hV6]; exact (Me.below_alloc (Below.refl _ _)).drew
  have hg6 : V6.heap[W1.heap.size]? = some (.cells #[.bool false, .int .i64 0, .int .i64 0, .int .i64 0] 95 (0, 0)) := by rw [← hV6]; exact heap_alloc_new W1 _
  rw [hV6]
  obtain ⟨g, hg⟩ : ∃ g, W1.heap.size = g := ⟨_, rfl⟩
  rw [hg] at hg6
  have HG := Lib.hid hg
  simp only [hg]
  clear hV6 hg
  refine hK.out _ _ (hb6) (fun hHeld => ?_)
  clear hK K
  refine wpAnyH_ready (rs := [10]) (by kernel_rfl) (by simp) ?_
  refine AllReadyH.cons rfl (fun K hK => ?_) AllReadyH.nil
  rw [if_pos (by kernel_rfl)]
  refine wp_store_row 95 (.tmp 5) (.tmp 16) rfl g #[.bool so, .int .i64 st, .int .i64 sn, .int .i64 su] rfl (by rfl) 95 _ hg6 (by kernel_rfl) rfl (sd_one _ _ _ _) ?_
  simp only [Act.put, List.getElem_toArray, List.getElem_cons_succ, List.getElem_cons_zero, List.setIfInBounds_toArray, List.set_cons_zero, List.set_cons_succ]
  obtain ⟨V7, hV7⟩ : ∃ V, V6.setRow g #[.bool so, .int .i64 st, .int .i64 sn, .int .i64 su] = V := ⟨_, rfl⟩
  have hb7 : Below W1.heap.size W1 V7 := by rw [← hV7]; exact Sb.below_setRow _ hb6 (by rw [HG.out]; exact Nat.le_refl _)
  have hg7 : V7.heap[g]? = some (.cells #[.bool so, .int .i64 st, .int .i64 sn, .int .i64 su] 95 (0, 0)) := by rw [← hV7]; exact setRow_heap _ _ _ _ _ _ hg6
  rw [hV7]
  clear hV7
  refine hK.out _ _ (hb7) (fun hHeld => ?_)
  clear hK K
  refine wpAnyH_take (i := 11) (v := .bool false) rfl (by kernel_rfl) (by kernel_rfl) (by kernel_rfl) (fun _ _ _ h => h) (Or.inl ⟨by rfl, ?_⟩) (by first | assumption | exact trivial) ?_
  · intro W hSW; go_simp; try (with_reducible rfl)
  simp only [Act.put, List.getElem_toArray, List.getElem_cons_succ, List.getElem_cons_zero, List.setIfInBounds_toArray, List.set_cons_zero, List.set_cons_succ]
  refine wpAnyH_done (by kernel_rfl) ?_ _
  obtain ⟨x0, x1, x2, x3⟩ := sd_row (s := ⟨so, st, sn, su⟩) hg7
  simp only at x0 x1 x2 x3
  go_wp2
  go_ret
  exact ⟨rfl, (HX1.out _ hb7).2⟩
set_option maxRecDepth 100000 in
theorem Waits_off (D mb : Nat) (p st sn su : Int) (o d ee c : Int) (w W1 : World) (hW1 : w.alloc (.cells #[.int .i64 o, .int .i64 d, .int .i64 ee, .int .i64 c] 23) = W1)
    (HD : Hid (∀ W, Below w.heap.size w W → W.cell? ⟨D, 1, none⟩ = some (.int .i64 p) ∧ W.cell? ⟨D, 3, none⟩ = some (.map (some mb))))
    (HL : Hid (∀ W, Below w.heap.size w W → (Instr.lookup 83 (.map (some mb)) (.agg #[.int .i64 o, .int .i64 d, .int .i64 ee, .int .i64 c]) true).run Try.prog W = .ok (.tuple #[.agg #[.bool true, .int .i64 st, .int .i64 sn, .int .i64 su], .bool true]) W))
    (HX1 : Hid (∀ W, Below W1.heap.size W1 W → (W.cell? ⟨w.heap.size, 0, none⟩ = some (.int .i64 o) ∧ W.cell? ⟨w.heap.size, 1, none⟩ = some (.int .i64 d) ∧ W.cell? ⟨w.heap.size, 2, none⟩ = some (.int .i64 ee) ∧ W.cell? ⟨w.heap.size, 3, none⟩ = some (.int .i64 c)) ∧ Below w.heap.size w W)) :
    Calls Try.prog 21 #[.pointer (some ⟨D, 0, none⟩), .agg #[.int .i64 o, .int .i64 d, .int .i64 ee, .int .i64 c]] w fun e w' => e = .returned (.int .i64 (0)) ∧ Hid (Below w.heap.size w w') := by
  have HW1 := Lib.hid hW1
  clear hW1
  go_enter Try.func21, Try.ntmps21
  go_wp2
  rw [HW1.out]
  have S0 := (Below.refl W1.heap.size W1).drew
  refine wp_region_held_drew (S := fun W => Below W1.heap.size W1 W) (by kernel_rfl) S0 (fun hHeld => ?_)
  refine wpAnyH_take (i := 0) (v := .pointer (some ⟨D, 0, none⟩)) rfl (by kernel_rfl) (by kernel_rfl) (by kernel_rfl) (fun _ _ _ h => h) (Or.inl ⟨by rfl, ?_⟩) (by first | assumption | exact trivial) ?_
  · intro W hSW; go_simp; try (with_reducible rfl)
  simp only [Act.put, List.getElem_toArray, List.getElem_cons_succ, List.getElem_cons_zero, List.setIfInBounds_toArray, List.set_cons_zero, List.set_cons_succ]
  refine wpAnyH_take (i := 1) (v := .pointer (some ⟨D, 0, none⟩)) rfl (by kernel_rfl) (by kernel_rfl) (by kernel_rfl) (fun _ _ _ h => h) (Or.inl ⟨by rfl, ?_⟩) (by first | assumption | exact trivial) ?_
  · intro W hSW; go_simp; try (with_reducible rfl)
  simp only [Act.put, List.getElem_toArray, List.getElem_cons_succ, List.getElem_cons_zero, List.setIfInBounds_toArray, List.set_cons_zero, List.set_cons_succ]
  refine wpAnyH_take (i := 2) (v := .pointer (some ⟨D, 3, none⟩)) rfl (by kernel_rfl) (by kernel_rfl) (by kernel_rfl) (fun _ _ _ h => h) (Or.inl ⟨by rfl, ?_⟩) (by first | assumption | exact trivial) ?_
  · intro W hSW; go_simp; try (with_reducible rfl)
  simp only [Act.put, List.getElem_toArray, List.getElem_cons_succ, List.getElem_cons_zero, List.setIfInBounds_toArray, List.set_cons_zero, List.set_cons_succ]
  refine wpAnyH_take (i := 3) (v := .map (some mb)) rfl (by kernel_rfl) (by kernel_rfl) (by kernel_rfl) (fun _ _ _ h => h) (Or.inl ⟨by rfl, ?_⟩) (by first | assumption | exact trivial) ?_
  · intro W hSW; have z := (HD.out W (HX1.out W hSW).2).2; go_simp; try (with_reducible rfl)
  simp only [Act.put, List.getElem_toArray, List.getElem_cons_succ, List.getElem_cons_zero, List.setIfInBounds_toArray, List.set_cons_zero, List.set_cons_succ]
  refine wpAnyH_take (i := 4) (v := .agg #[.int .i64 o, .int .i64 d, .int .i64 ee, .int .i64 c]) rfl (by kernel_rfl) (by kernel_rfl) (by kernel_rfl) (fun _ _ _ h => h) (Or.inl ⟨by rfl, ?_⟩) (by first | assumption | exact trivial) ?_
  · intro W hSW; obtain ⟨⟨y0, y1, y2, y3⟩, _⟩ := HX1.out W hSW; go_simp; try (with_reducible rfl)
  simp only [Act.put, List.getElem_toArray, List.getElem_cons_succ, List.getElem_cons_zero, List.setIfInBounds_toArray, List.set_cons_zero, List.set_cons_succ]
  refine wpAnyH_take (i := 5) (v := .tuple #[.agg #[.bool true, .int .i64 st, .int .i64 sn, .int .i64 su], .bool true]) rfl (by kernel_rfl) (by kernel_rfl) (by kernel_rfl) (fun _ _ _ h => h) (Or.inl ⟨by rfl, ?_⟩) (by first | assumption | exact trivial) ?_
  · intro W hSW; have z := HL.out W (HX1.out W hSW).2; go_simp; try (with_reducible rfl)
  simp only [Act.put, List.getElem_toArray, List.getElem_cons_succ, List.getElem_cons_zero, List.setIfInBounds_toArray, List.set_cons_zero, List.set_cons_succ]
  refine wpAnyH_take (i := 6) (v := .tuple #[.agg #[.bool true, .int .i64 st, .int .i64 sn, .int .i64 su], .bool true]) rfl (by kernel_rfl) (by kernel_rfl) (by kernel_rfl) (fun _ _ _ h => h) (Or.inl ⟨by rfl, ?_⟩) (by first | assumption | exact trivial) ?_
  · intro W hSW; go_simp; try (with_reducible rfl)
  simp only [Act.put, List.getElem_toArray, List.getElem_cons_succ, List.getElem_cons_zero, List.setIfInBounds_toArray, List.set_cons_zero, List.set_cons_succ]
  refine wpAnyH_take (i := 7) (v := .agg #[.bool true, .int .i64 st, .int .i64 sn, .int .i64 su]) rfl (by kernel_rfl) (by kernel_rfl) (by kernel_rfl) (fun _ _ _ h => h) (Or.inl ⟨by rfl, ?_⟩) (by first | assumption | exact trivial) ?_
  · intro W hSW; go_simp; try (with_reducible rfl)
  simp only [Act.put, List.getElem_toArray, List.getElem_cons_succ, List.getElem_cons_zero, List.setIfInBounds_toArray, List.set_cons_zero, List.set_cons_succ]
  refine wpAnyH_take (i := 8) (v := .bool true) rfl (by kernel_rfl) (by kernel_rfl) (by kernel_rfl) (fun _ _ _ h => h) (Or.inl ⟨by rfl, ?_⟩) (by first | assumption | exact trivial) ?_
  · intro W hSW; go_simp; try (with_reducible rfl)
  simp only [Act.put, List.getElem_toArray, List.getElem_cons_succ, List.getElem_cons_zero, List.setIfInBounds_toArray, List.set_cons_zero, List.set_cons_succ]
  refine wpAnyH_ready (rs := [9]) (by kernel_rfl) (by simp) ?_
  refine AllReadyH.cons rfl (fun K hK => ?_) AllReadyH.nil
  go_simp
  obtain ⟨V6, hV6⟩ : ∃ V, (W1.alloc (.cells #[.bool false, .int .i64 0, .int .i64 0, .int .i64 0] 95)).drew = V := ⟨_, rfl⟩
  have hb6 : Below W1.heap.size W1 V6 := by rw [← hV6]; exact (Me.below_alloc (Below.refl _ _)).drew
  have hg6 : V6.heap[W1.heap.size]? = some (.cells #[.bool false, .int .i64 0, .int .i64 0, .int .i64 0] 95 (0, 0)) := by rw [← hV6]; exact heap_alloc_new W1 _
  rw [hV6]
  obtain ⟨g, hg⟩ : ∃ g, W1.heap.size = g := ⟨_, rfl⟩
  rw [hg] at hg6
  have HG := Lib.hid hg
  simp only [hg]
  clear hV6 hg
  refine hK.out _ _ (hb6) (fun hHeld => ?_)
  clear hK K
  refine wpAnyH_ready (rs := [10]) (by kernel_rfl) (by simp) ?_
  refine AllReadyH.cons rfl (fun K hK => ?_) AllReadyH.nil
  rw [if_pos (by kernel_rfl)]
  refine wp_store_row 95 (.tmp 5) (.tmp 16) rfl g #[.bool true, .int .i64 st, .int .i64 sn, .int .i64 su] rfl (by rfl) 95 _ hg6 (by kernel_rfl) rfl (sd_one _ _ _ _) ?_
  simp only [Act.put, List.getElem_toArray, List.getElem_cons_succ, List.getElem_cons_zero, List.setIfInBounds_toArray, List.set_cons_zero, List.set_cons_succ]
  obtain ⟨V7, hV7⟩ : ∃ V, V6.setRow g #[.bool true, .int .i64 st, .int .i64 sn, .int .i64 su] = V := ⟨_, rfl⟩
  have hb7 : Below W1.heap.size W1 V7 := by rw [← hV7]; exact Sb.below_setRow _ hb6 (by rw [HG.out]; exact Nat.le_refl _)
  have hg7 : V7.heap[g]? = some (.cells #[.bool true, .int .i64 st, .int .i64 sn, .int .i64 su] 95 (0, 0)) := by rw [← hV7]; exact setRow_heap _ _ _ _ _ _ hg6
  rw [hV7]
  clear hV7
  refine hK.out _ _ (hb7) (fun hHeld => ?_)
  clear hK K
  refine wpAnyH_take (i := 11) (v := .bool true) rfl (by kernel_rfl) (by kernel_rfl) (by kernel_rfl) (fun _ _ _ h => h) (Or.inl ⟨by rfl, ?_⟩) (by first | assumption | exact trivial) ?_
  · intro W hSW; go_simp; try (with_reducible rfl)
  simp only [Act.put, List.getElem_toArray, List.getElem_cons_succ, List.getElem_cons_zero, List.setIfInBounds_toArray, List.set_cons_zero, List.set_cons_succ]
  refine wpAnyH_done (by kernel_rfl) ?_ _
  obtain ⟨x0, x1, x2, x3⟩ := sd_row (s := ⟨true, st, sn, su⟩) hg7
  simp only at x0 x1 x2 x3
  go_wp2
  go_ret
  exact ⟨rfl, (HX1.out _ hb7).2⟩
set_option maxRecDepth 100000 in
theorem Waits_wait (D mb : Nat) (p st sn su : Int) (o d ee c : Int) (w W1 : World) (hW1 : w.alloc (.cells #[.int .i64 o, .int .i64 d, .int .i64 ee, .int .i64 c] 23) = W1)
    (HD : Hid (∀ W, Below w.heap.size w W → W.cell? ⟨D, 1, none⟩ = some (.int .i64 p) ∧ W.cell? ⟨D, 3, none⟩ = some (.map (some mb))))
    (HL : Hid (∀ W, Below w.heap.size w W → (Instr.lookup 83 (.map (some mb)) (.agg #[.int .i64 o, .int .i64 d, .int .i64 ee, .int .i64 c]) true).run Try.prog W = .ok (.tuple #[.agg #[.bool false, .int .i64 st, .int .i64 sn, .int .i64 su], .bool true]) W))
    (HX1 : Hid (∀ W, Below W1.heap.size W1 W → (W.cell? ⟨w.heap.size, 0, none⟩ = some (.int .i64 o) ∧ W.cell? ⟨w.heap.size, 1, none⟩ = some (.int .i64 d) ∧ W.cell? ⟨w.heap.size, 2, none⟩ = some (.int .i64 ee) ∧ W.cell? ⟨w.heap.size, 3, none⟩ = some (.int .i64 c)) ∧ Below w.heap.size w W))
    (HU : Hid (IntKind.i64.wrap (su - p) = su - p)) :
    Calls Try.prog 21 #[.pointer (some ⟨D, 0, none⟩), .agg #[.int .i64 o, .int .i64 d, .int .i64 ee, .int .i64 c]] w fun e w' => e = .returned (.int .i64 (su - p)) ∧ Hid (Below w.heap.size w w') := by
  have HW1 := Lib.hid hW1
  clear hW1
  go_enter Try.func21, Try.ntmps21
  go_wp2
  rw [HW1.out]
  have S0 := (Below.refl W1.heap.size W1).drew
  refine wp_region_held_drew (S := fun W => Below W1.heap.size W1 W) (by kernel_rfl) S0 (fun hHeld => ?_)
  refine wpAnyH_take (i := 0) (v := .pointer (some ⟨D, 0, none⟩)) rfl (by kernel_rfl) (by kernel_rfl) (by kernel_rfl) (fun _ _ _ h => h) (Or.inl ⟨by rfl, ?_⟩) (by first | assumption | exact trivial) ?_
  · intro W hSW; go_simp; try (with_reducible rfl)
  simp only [Act.put, List.getElem_toArray, List.getElem_cons_succ, List.getElem_cons_zero, List.setIfInBounds_toArray, List.set_cons_zero, List.set_cons_succ]
  refine wpAnyH_take (i := 1) (v := .pointer (some ⟨D, 0, none⟩)) rfl (by kernel_rfl) (by kernel_rfl) (by kernel_rfl) (fun _ _ _ h => h) (Or.inl ⟨by rfl, ?_⟩) (by first | assumption | exact trivial) ?_
  · intro W hSW; go_simp; try (with_reducible rfl)
  simp only [Act.put, List.getElem_toArray, List.getElem_cons_succ, List.getElem_cons_zero, List.setIfInBounds_toArray, List.set_cons_zero, List.set_cons_succ]
  refine wpAnyH_take (i := 2) (v := .pointer (some ⟨D, 3, none⟩)) rfl (by kernel_rfl) (by kernel_rfl) (by kernel_rfl) (fun _ _ _ h => h) (Or.inl ⟨by rfl, ?_⟩) (by first | assumption | exact trivial) ?_
  · intro W hSW; go_simp; try (with_reducible rfl)
  simp only [Act.put, List.getElem_toArray, List.getElem_cons_succ, List.getElem_cons_zero, List.setIfInBounds_toArray, List.set_cons_zero, List.set_cons_succ]
  refine wpAnyH_take (i := 3) (v := .map (some mb)) rfl (by kernel_rfl) (by kernel_rfl) (by kernel_rfl) (fun _ _ _ h => h) (Or.inl ⟨by rfl, ?_⟩) (by first | assumption | exact trivial) ?_
  · intro W hSW; have z := (HD.out W (HX1.out W hSW).2).2; go_simp; try (with_reducible rfl)
  simp only [Act.put, List.getElem_toArray, List.getElem_cons_succ, List.getElem_cons_zero, List.setIfInBounds_toArray, List.set_cons_zero, List.set_cons_succ]
  refine wpAnyH_take (i := 4) (v := .agg #[.int .i64 o, .int .i64 d, .int .i64 ee, .int .i64 c]) rfl (by kernel_rfl) (by kernel_rfl) (by kernel_rfl) (fun _ _ _ h => h) (Or.inl ⟨by rfl, ?_⟩) (by first | assumption | exact trivial) ?_
  · intro W hSW; obtain ⟨⟨y0, y1, y2, y3⟩, _⟩ := HX1.out W hSW; go_simp; try (with_reducible rfl)
  simp only [Act.put, List.getElem_toArray, List.getElem_cons_succ, List.getElem_cons_zero, List.setIfInBounds_toArray, List.set_cons_zero, List.set_cons_succ]
  refine wpAnyH_take (i := 5) (v := .tuple #[.agg #[.bool false, .int .i64 st, .int .i64 sn, .int .i64 su], .bool true]) rfl (by kernel_rfl) (by kernel_rfl) (by kernel_rfl) (fun _ _ _ h => h) (Or.inl ⟨by rfl, ?_⟩) (by first | assumption | exact trivial) ?_
  · intro W hSW; have z := HL.out W (HX1.out W hSW).2; go_simp; try (with_reducible rfl)
  simp only [Act.put, List.getElem_toArray, List.getElem_cons_succ, List.getElem_cons_zero, List.setIfInBounds_toArray, List.set_cons_zero, List.set_cons_succ]
  refine wpAnyH_take (i := 6) (v := .tuple #[.agg #[.bool false, .int .i64 st, .int .i64 sn, .int .i64 su], .bool true]) rfl (by kernel_rfl) (by kernel_rfl) (by kernel_rfl) (fun _ _ _ h => h) (Or.inl ⟨by rfl, ?_⟩) (by first | assumption | exact trivial) ?_
  · intro W hSW; go_simp; try (with_reducible rfl)
  simp only [Act.put, List.getElem_toArray, List.getElem_cons_succ, List.getElem_cons_zero, List.setIfInBounds_toArray, List.set_cons_zero, List.set_cons_succ]
  refine wpAnyH_take (i := 7) (v := .agg #[.bool false, .int .i64 st, .int .i64 sn, .int .i64 su]) rfl (by kernel_rfl) (by kernel_rfl) (by kernel_rfl) (fun _ _ _ h => h) (Or.inl ⟨by rfl, ?_⟩) (by first | assumption | exact trivial) ?_
  · intro W hSW; go_simp; try (with_reducible rfl)
  simp only [Act.put, List.getElem_toArray, List.getElem_cons_succ, List.getElem_cons_zero, List.setIfInBounds_toArray, List.set_cons_zero, List.set_cons_succ]
  refine wpAnyH_take (i := 8) (v := .bool true) rfl (by kernel_rfl) (by kernel_rfl) (by kernel_rfl) (fun _ _ _ h => h) (Or.inl ⟨by rfl, ?_⟩) (by first | assumption | exact trivial) ?_
  · intro W hSW; go_simp; try (with_reducible rfl)
  simp only [Act.put, List.getElem_toArray, List.getElem_cons_succ, List.getElem_cons_zero, List.setIfInBounds_toArray, List.set_cons_zero, List.set_cons_succ]
  refine wpAnyH_ready (rs := [9]) (by kernel_rfl) (by simp) ?_
  refine AllReadyH.cons rfl (fun K hK => ?_) AllReadyH.nil
  go_simp
  obtain ⟨V6, hV6⟩ : ∃ V, (W1.alloc (.cells #[.bool false, .int .i64 0, .int .i64 0, .int .i64 0] 95)).drew = V := ⟨_, rfl⟩
  have hb6 : Below W1.heap.size W1 V6 := by rw [← hV6]; exact (Me.below_alloc (Below.refl _ _)).drew
  have hg6 : V6.heap[W1.heap.size]? = some (.cells #[.bool false, .int .i64 0, .int .i64 0, .int .i64 0] 95 (0, 0)) := by rw [← hV6]; exact heap_alloc_new W1 _
  rw [hV6]
  obtain ⟨g, hg⟩ : ∃ g, W1.heap.size = g := ⟨_, rfl⟩
  rw [hg] at hg6
  have HG := Lib.hid hg
  simp only [hg]
  clear hV6 hg
  refine hK.out _ _ (hb6) (fun hHeld => ?_)
  clear hK K
  refine wpAnyH_ready (rs := [10]) (by kernel_rfl) (by simp) ?_
  refine AllReadyH.cons rfl (fun K hK => ?_) AllReadyH.nil
  rw [if_pos (by kernel_rfl)]
  refine wp_store_row 95 (.tmp 5) (.tmp 16) rfl g #[.bool false, .int .i64 st, .int .i64 sn, .int .i64 su] rfl (by rfl) 95 _ hg6 (by kernel_rfl) rfl (sd_one _ _ _ _) ?_
  simp only [Act.put, List.getElem_toArray, List.getElem_cons_succ, List.getElem_cons_zero, List.setIfInBounds_toArray, List.set_cons_zero, List.set_cons_succ]
  obtain ⟨V7, hV7⟩ : ∃ V, V6.setRow g #[.bool false, .int .i64 st, .int .i64 sn, .int .i64 su] = V := ⟨_, rfl⟩
  have hb7 : Below W1.heap.size W1 V7 := by rw [← hV7]; exact Sb.below_setRow _ hb6 (by rw [HG.out]; exact Nat.le_refl _)
  have hg7 : V7.heap[g]? = some (.cells #[.bool false, .int .i64 st, .int .i64 sn, .int .i64 su] 95 (0, 0)) := by rw [← hV7]; exact setRow_heap _ _ _ _ _ _ hg6
  rw [hV7]
  clear hV7
  refine hK.out _ _ (hb7) (fun hHeld => ?_)
  clear hK K
  refine wpAnyH_take (i := 11) (v := .bool true) rfl (by kernel_rfl) (by kernel_rfl) (by kernel_rfl) (fun _ _ _ h => h) (Or.inl ⟨by rfl, ?_⟩) (by first | assumption | exact trivial) ?_
  · intro W hSW; go_simp; try (with_reducible rfl)
  simp only [Act.put, List.getElem_toArray, List.getElem_cons_succ, List.getElem_cons_zero, List.setIfInBounds_toArray, List.set_cons_zero, List.set_cons_succ]
  refine wpAnyH_done (by kernel_rfl) ?_ _
  obtain ⟨x0, x1, x2, x3⟩ := sd_row (s := ⟨false, st, sn, su⟩) hg7
  simp only at x0 x1 x2 x3
  go_wp2
  have HB7 := Lib.hid hb7
  have HX3 : Hid (∀ W, Below V7.heap.size V7 W → W.cell? ⟨g, 3, none⟩ = some (.int .i64 su)) := fun W hW => (hW.cell (p := ⟨g, 3, none⟩) (Array.getElem?_eq_some_iff.1 hg7).1).trans x3
  have HB8 : Hid (Below W1.heap.size W1 V7.drew) := hb7.drew
  have S8 := (Below.refl V7.heap.size V7).drew
  refine wp_region_held_drew (S := fun W => Below V7.heap.size V7 W) (by kernel_rfl) S8 (fun hHeld => ?_)
  refine wpAnyH_take (i := 0) (v := .pointer (some ⟨g, 3, none⟩)) rfl (by kernel_rfl) (by kernel_rfl) (by kernel_rfl) (fun _ _ _ h => h) (Or.inl ⟨by rfl, ?_⟩) (by first | assumption | exact trivial) ?_
  · intro W hSW; go_simp; try (with_reducible rfl)
  simp only [Act.put, List.getElem_toArray, List.getElem_cons_succ, List.getElem_cons_zero, List.setIfInBounds_toArray, List.set_cons_zero, List.set_cons_succ]
  refine wpAnyH_take (i := 1) (v := .int .i64 su) rfl (by kernel_rfl) (by kernel_rfl) (by kernel_rfl) (fun _ _ _ h => h) (Or.inl ⟨by rfl, ?_⟩) (by first | assumption | exact trivial) ?_
  · intro W hSW; have z := HX3.out W hSW; go_simp; try (with_reducible rfl)
  simp only [Act.put, List.getElem_toArray, List.getElem_cons_succ, List.getElem_cons_zero, List.setIfInBounds_toArray, List.set_cons_zero, List.set_cons_succ]
  refine wpAnyH_take (i := 2) (v := .pointer (some ⟨D, 0, none⟩)) rfl (by kernel_rfl) (by kernel_rfl) (by kernel_rfl) (fun _ _ _ h => h) (Or.inl ⟨by rfl, ?_⟩) (by first | assumption | exact trivial) ?_
  · intro W hSW; go_simp; try (with_reducible rfl)
  simp only [Act.put, List.getElem_toArray, List.getElem_cons_succ, List.getElem_cons_zero, List.setIfInBounds_toArray, List.set_cons_zero, List.set_cons_succ]
  refine wpAnyH_take (i := 3) (v := .pointer (some ⟨D, 0, none⟩)) rfl (by kernel_rfl) (by kernel_rfl) (by kernel_rfl) (fun _ _ _ h => h) (Or.inl ⟨by rfl, ?_⟩) (by first | assumption | exact trivial) ?_
  · intro W hSW; go_simp; try (with_reducible rfl)
  simp only [Act.put, List.getElem_toArray, List.getElem_cons_succ, List.getElem_cons_zero, List.setIfInBounds_toArray, List.set_cons_zero, List.set_cons_succ]
  refine wpAnyH_take (i := 4) (v := .pointer (some ⟨D, 1, none⟩)) rfl (by kernel_rfl) (by kernel_rfl) (by kernel_rfl) (fun _ _ _ h => h) (Or.inl ⟨by rfl, ?_⟩) (by first | assumption | exact trivial) ?_
  · intro W hSW; go_simp; try (with_reducible rfl)
  simp only [Act.put, List.getElem_toArray, List.getElem_cons_succ, List.getElem_cons_zero, List.setIfInBounds_toArray, List.set_cons_zero, List.set_cons_succ]
  refine wpAnyH_take (i := 5) (v := .int .i64 p) rfl (by kernel_rfl) (by kernel_rfl) (by kernel_rfl) (fun _ _ _ h => h) (Or.inl ⟨by rfl, ?_⟩) (by first | assumption | exact trivial) ?_
  · intro W hSW; have z := (HD.out W (HX1.out W (HB7.out.trans (hSW.mono HB7.out.size))).2).1; go_simp; try (with_reducible rfl)
  simp only [Act.put, List.getElem_toArray, List.getElem_cons_succ, List.getElem_cons_zero, List.setIfInBounds_toArray, List.set_cons_zero, List.set_cons_succ]
  refine wpAnyH_take (i := 6) (v := .int .i64 (su - p)) rfl (by kernel_rfl) (by kernel_rfl) (by kernel_rfl) (fun _ _ _ h => h) (Or.inl ⟨by rfl, ?_⟩) (by first | assumption | exact trivial) ?_
  · intro W hSW; have z := HU.out; go_simp; try (with_reducible rfl)
  simp only [Act.put, List.getElem_toArray, List.getElem_cons_succ, List.getElem_cons_zero, List.setIfInBounds_toArray, List.set_cons_zero, List.set_cons_succ]
  refine wpAnyH_take (i := 7) (v := .int .i64 (su - p)) rfl (by kernel_rfl) (by kernel_rfl) (by kernel_rfl) (fun _ _ _ h => h) (Or.inl ⟨by rfl, ?_⟩) (by first | assumption | exact trivial) ?_
  · intro W hSW; go_simp; try (with_reducible rfl)
  simp only [Act.put, List.getElem_toArray, List.getElem_cons_succ, List.getElem_cons_zero, List.setIfInBounds_toArray, List.set_cons_zero, List.set_cons_succ]
  refine wpAnyH_done (by kernel_rfl) ?_ _
  go_wp2
  go_ret
  exact ⟨rfl, (HX1.out _ HB8.out).2⟩
theorem Waits_any (D mb m : Nat) (dk : Dk) (i : Mg.Id4) (w : World) (h : Hid (Dq w D mb m dk)) (hf : Fit i) (hu : Hid (∀ s, dk.kept i = some s → s.o = false → 0 ≤ s.u - dk.passed ∧ s.u - dk.passed ≤ 1000)) : Calls Try.prog 21 #[.pointer (some ⟨D, 0, none⟩), .agg (Mg.idC i)] w fun e w' => e = .returned (.int .i64 (waitN dk i)) ∧ Hid (Below w.heap.size w w') := by
  have HX := Lib.hid (idbox i w)
  have HD : Hid (∀ W, Below w.heap.size w W → W.cell? ⟨D, 1, none⟩ = some (.int .i64 (dk.passed : Int)) ∧ W.cell? ⟨D, 3, none⟩ = some (.map (some mb))) := fun W hW => ⟨(h.out.below hW).cells.2.1, (h.out.below hW).cells.2.2.2⟩
  have hlk := h.out.map.look hf
  have HL : Hid (∀ W, Below w.heap.size w W → (Instr.lookup 83 (.map (some mb)) (.agg (Mg.idC i)) true).run Try.prog W = .ok (.tuple #[.agg (sdC (at_ dk.kept i)), .bool (dk.kept i).isSome]) W) := fun W hW => (hlk W (hW.block _ h.out.ltm)).1
  unfold waitN
  unfold at_ at HL
  obtain ⟨o, d, ee, c⟩ := i
  cases hk : dk.kept ⟨o, d, ee, c⟩ with
  | none =>
    rw [hk] at HL
    exact Waits_none D mb dk.passed 0 0 0 false o d ee c w _ rfl HD HL HX
  | some s =>
    rw [hk] at HL
    obtain ⟨so, st, sn, su⟩ := s
    cases so with
    | true => exact Waits_off D mb dk.passed st sn su o d ee c w _ rfl HD HL HX
    | false =>
      have := hu.out _ hk rfl
      exact Waits_wait D mb dk.passed st sn su o d ee c w _ rfl HD HL HX (Mi.fits' (by simp only at this; unfold Mi.I64; omega))
end Go.Proofs.Ytohfoieibgmmdaa.Hp
/- The law's via; New. -/
namespace Go.Proofs.Ytohfoieibgmmdaa.Hp
open Go.RowKit Go.Maps
open Go.Proofs.Ytohfoieibgmmdaa.Sb
set_option linter.unusedVariables false
set_option linter.unusedSimpArgs false

theorem made_ln {w : World} {B g n : Nat} {xs : List Value} (hn : 1 ≤ n) (h : w.ownsRow B 3 1 (.slice (some ⟨g, 0, none⟩) n n) n xs) : ∃ cs : Array Value, w.heap[g]? = some (.cells cs 3 (0, 0)) ∧ cs.size = n := by
  rcases h.2 with ⟨e, _⟩ | ⟨g', cap, cur, e, _, h3, _, _, h6, _⟩
  · cases e
  · cases e
    exact ⟨cur, h3, by rw [h6]; omega⟩
theorem grown_below {w w' : World} (h : w.grownBy w' none) : Below w.heap.size w w' := (But.refl (fun _ => False) w).grown h (by simp) |>.below (Nat.le_refl _) (fun _ h => h.elim)
set_option maxRecDepth 100000 in
theorem via_any (n : Int) (w : World) : Calls Try.prog 34 #[.int .i64 n] w fun e w' => ∃ g, e = .returned (.slice (some ⟨g, 0, none⟩) 64 64) ∧ w.heap.size ≤ g ∧ Hid (Mi.Rd w' w'.heap.size (some ⟨g, 0, none⟩) (List.replicate 64 n)) ∧ Hid (Below w.heap.size w w') := by
  obtain ⟨i0, hi, hz0, hz1, hz2⟩ := info_parts Mi.infoI
  go_enter Try.func34, Try.ntmps34
  go_wp2_with (at_make; refine wpList_make_full _ rfl (.const (.int .i64 64)) (.const (.int .i64 64)) 27 rfl w.heap.size 3 i0 (.int .i64 0) 1 Try.underlying27 hi hz0 hz1 .i64 .i64 _ _ 64 rfl rfl rfl rfl (by rw [hz2]; omega) (by unfold maxLen; omega) (Nat.le_refl _) ?_; intro w2 hown2 hg2)
  obtain ⟨cs0, hc0, hs0⟩ := made_ln (by omega) hown2
  have HB2 := Lib.hid (grown_below hg2)
  obtain ⟨g, hg⟩ : ∃ g, w.heap.size = g := ⟨_, rfl⟩
  have HG : Hid (w.heap.size = g) := hg
  rw [hg] at hc0 ⊢
  clear hg hown2 hg2
  have HBW : Hid (Below g w w2) := by rw [← HG.out]; exact HB2
  go_loopw [4] (fun k wr => ∃ (i : Nat) (cs : Array Value), i ≤ 64 ∧ k = .int .i64 i ∧ Hid (wr.heap[g]? = some (.cells cs 3 (0, 0)) ∧ cs.size = 64 ∧ ∀ j, j < i → cs[j]? = some (.int .i64 n)) ∧ Hid (Below g w wr)) (fun k _ => 64 - (intOf k).toNat)
  case atStart => exact ⟨0, cs0, Nat.zero_le _, rfl, ⟨hc0, hs0, fun j hj => by omega⟩, HBW⟩
  case round =>
    obtain ⟨i, cs, hin, rfl, hcs, hbr⟩ := hrel
    clear hc0 hs0 HB2 HBW
    by_cases hlt : i < 64
    · obtain ⟨h1, h2, h3⟩ := hcs.out
      have hil : i < cs.size := by omega
      have HC : Hid (wr.heap[g]? = some (.cells cs 3 (0, 0))) := h1
      have c5 : wr.cell? ⟨g, i, none⟩ = some cs[i] := by rw [cell_of_row wr g i _ _ (0, 0) h1, Array.getElem?_eq_getElem hil]
      have z5 : wr.frozen? ⟨g, i, none⟩ = false := frozen_of_row wr g i _ _ h1
      have H3 := Lib.hid h3
      have H2 := Lib.hid h2
      have HIL := Lib.hid hil
      clear h1 h2 h3
      go_wp2
      have hnx : Hid ((wr.setCell ⟨g, i, none⟩ (.int .i64 n)).heap[g]? = some (.cells (cs.setIfInBounds i (.int .i64 n)) 3 (0, 0)) ∧ (cs.setIfInBounds i (.int .i64 n)).size = 64 ∧ ∀ j, j < i + 1 → (cs.setIfInBounds i (.int .i64 n))[j]? = some (.int .i64 n)) := by
        refine ⟨heap_setCell_same wr g i _ _ _ HC.out, by simp [H2.out], fun j hj => ?_⟩
        rw [Array.getElem?_setIfInBounds]
        by_cases e : i = j
        · subst e; simp [HIL.out]
        · rw [if_neg e]; exact H3.out j (by omega)
      have hbx : Hid (Below g w (wr.setCell ⟨g, i, none⟩ (.int .i64 n))) := hbr.out.setCell (p := ⟨g, i, none⟩) (Nat.le_refl _) _
      go_roundw
      case rel => exact ⟨i + 1, _, by omega, by go_num, hnx, hbx⟩
      case measure => simp [intOf]; omega
    · have HK : Hid (i = 64) := by show i = 64; omega
      go_wp2
      go_ret
      obtain rfl := HK.out
      refine ⟨g, rfl, by rw [HG.out]; exact Nat.le_refl _, ?_, by rw [HG.out]; exact hbr⟩
      obtain ⟨h1, h2, h3⟩ := hcs.out
      intro _
      refine ⟨g, 0, rfl, (Array.getElem?_eq_some_iff.1 h1).1, fun j hj => ?_⟩
      rw [List.length_replicate] at hj
      rw [Nat.zero_add, cell_of_row wr g j _ _ (0, 0) h1, h3 j hj]
      rw [Mi.at_get (by rw [List.length_replicate]; exact hj), List.getElem_replicate]
/-- What New answers. -/
theorem New_bad (x : Int) (hx : x < 1 ∨ 64 < x) (w : World) : Calls Try.prog 18 #[.int .i64 x] w fun e w' => e = .returned (.tuple #[.pointer none, .int .i64 1]) ∧ w = w' := by
  by_cases h1 : x < 1
  · have g1 : decide (x < 1) = true := decide_eq_true h1
    go_enter Try.func18, Try.ntmps18
    go_wp2
    go_ret2
    exact ⟨rfl, rfl⟩
  · have g1 : decide (x < 1) = false := decide_eq_false h1
    have g2 : decide (64 < x) = true := decide_eq_true (by omega)
    go_enter Try.func18, Try.ntmps18
    go_wp2
    go_ret2
    exact ⟨rfl, rfl⟩
theorem New_ok (x : Nat) (hx : 1 ≤ x ∧ x ≤ 64) (w : World) : Calls Try.prog 18 #[.int .i64 (x : Int)] w fun e w' => ∃ D mb, e = .returned (.tuple #[.pointer (some ⟨D, 0, none⟩), .int .i64 0]) ∧ w.heap.size ≤ D ∧ w.heap.size ≤ mb ∧ Hid (Dq w' D mb 0 ⟨x, 0, 0, fun _ => none⟩) ∧ Hid (Below w.heap.size w w') := by
  have g1 : decide ((x : Int) < 1) = false := decide_eq_false (by omega)
  have g2 : decide (64 < (x : Int)) = false := decide_eq_false (by omega)
  have HM : Hid (Mp (w.alloc (.map #[] 0)) w.heap.size 0 fun _ => none) := Mp.made w
  have HB : Hid (Below w.heap.size w ((w.alloc (.map #[] 0)).alloc (.cells #[.int .i64 x, .int .i64 0, .int .i64 0, .map (some w.heap.size)] 85))) := Mi.below_alloc (Mi.below_alloc (Below.refl _ _))
  have HMK : ∀ W : World, (Instr.makeMap 83 none).run Try.prog W = .ok (.map (some W.heap.size)) (W.alloc (.map #[] 0)) := fun W => by kernel_rfl
  clear hx
  go_enter Try.func18, Try.ntmps18
  go_wp2
  go_ret2
  refine ⟨w.heap.size + 1, w.heap.size, rfl, Nat.le_succ _, Nat.le_refl _, ⟨?_, ?_⟩, HB⟩
  · have := heap_alloc_new (w.alloc (.map #[] 0)) (.cells #[.int .i64 x, .int .i64 0, .int .i64 0, .map (some w.heap.size)] 85)
    rw [World.size_alloc] at this
    exact this
  · exact HM.out.same (Below.heap_alloc _ _ _ HM.out.lt)
end Go.Proofs.Ytohfoieibgmmdaa.Hp
