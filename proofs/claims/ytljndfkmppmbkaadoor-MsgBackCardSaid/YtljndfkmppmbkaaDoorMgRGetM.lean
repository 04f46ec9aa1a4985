/- The message of bytes: the reference's Get. -/
import Derived.Test.YtljndfkmppmbkaaDoorMgGet
import Derived.Test.YtljndfkmppmbkaaDoorMgPuts1
namespace Go.Proofs.YtljndfkmppmbkaaDoor.Mg
open Go.RowKit
open Go.Proofs.YtljndfkmppmbkaaDoor.Me Go.Proofs.YtljndfkmppmbkaaDoor.Ba Go.Proofs.YtljndfkmppmbkaaDoor.Ma Go.Proofs.YtljndfkmppmbkaaDoor.Bt Go.Proofs.YtljndfkmppmbkaaDoor.Hd
set_option linter.unusedVariables false
set_option linter.unusedSimpArgs false

theorem own_lit {W : World} {B : Nat} (h : B ≤ W.heap.size) : Own (W.alloc (.cells #[] 5)).drew B (.slice (some ⟨W.heap.size, 0, none⟩) 0 0) [] := by
  refine own_base (B := W.heap.size) (Own.lit (Below.refl W.heap.size W)) ?_
  intro k e
  obtain rfl : W.heap.size = k := by simpa [Value.ownBlock] using e
  exact h
set_option maxRecDepth 100000 in
set_option maxHeartbeats 8000000 in
theorem RGet_msg (A : Option Addr) (n cap : Nat) (l : List Nat) (w : World) (hi : Hid (BySlice w A n cap l)) :
    Calls Tryd.prog 25 #[.slice A n cap] w (GetM l w) := by
  obtain rfl : n = l.length := hi.out.1
  obtain ⟨W1, hW1⟩ : ∃ W, w.alloc (.cells #[.int .i64 0, .int .i64 0, .int .i64 0, .int .i64 0, .slice none 0 0] 26) = W := ⟨_, rfl⟩
  have b1 : Below w.heap.size w W1 := by rw [← hW1]; exact Me.below_alloc (Below.refl _ _)
  have z1 : W1.heap.size = w.heap.size + 1 := by rw [← hW1]; simp
  have r1 : W1.heap[w.heap.size]? = some (.cells #[.int .i64 0, .int .i64 0, .int .i64 0, .int .i64 0, .slice none 0 0] 26 (0, 0)) := by
    rw [← hW1]
    exact heap_alloc_new w _
  have hi1 : BySlice W1 A l.length cap l := by_below hi.out b1
  have HW := Lib.hid hW1; have B1 := Lib.hid b1; have Z1 := Lib.hid z1; have R1 := Lib.hid r1
  have hlc := hi.out.2.1
  have hcm := hi.out.2.2.1
  have HBE : Hid (∀ w2 w3 x, Below W1.heap.size W1 w2 → Below (w2.alloc x).heap.size (w2.alloc x) w3 → w3.heap[w.heap.size]? = some (.cells #[.int .i64 0, .int .i64 0, .int .i64 0, .int .i64 0, .slice none 0 0] 26 (0, 0)) ∧ ∀ cs, Below w.heap.size w (w3.setRow w.heap.size cs)) := fun w2 w3 x h2 h3 => by
    have e2 := Me.below_alloc (o := x) h2
    have e3 := e2.trans (h3.mono e2.size)
    exact ⟨(e3.block _ (by omega)).trans r1, fun cs => below_setRow cs (b1.trans (e3.mono b1.size)) (Nat.le_refl _)⟩
  have HBS : Hid (∀ cs, Below w.heap.size w (W1.setRow w.heap.size cs)) := fun cs => below_setRow cs b1 (Nat.le_refl _)
  clear hW1 z1 r1
  by_cases h7 : 7 ≤ l.length
  · by_cases h54 : l.length ≤ 54
    · obtain ⟨b, off, rfl, hbl, hc⟩ := hi.out.2.2.2.1.2 (by omega)
      have h6 : 6 ≤ l.length := by omega
      have hG := RGetId_any (some ⟨b, off, none⟩) 6 cap (l.take 6) W1 (by_take hi1 h6)
      have hl6 : (l.take 6).length = 6 := by simp; omega
      by_cases hk : chkN (idOf (l.take 6)) = 0
      · have hI : getI (l.take 6) = idOf (l.take 6) := by unfold getI; rw [if_pos ⟨hl6, hk⟩]
        have hZ : getZ (l.take 6) = 0 := by unfold getZ; rw [if_pos ⟨hl6, hk⟩]
        rw [hI, hZ] at hG
        have hmg : mgO l := ⟨h7, h54, hk⟩
        obtain ⟨j, hj⟩ : ∃ j, idOf (l.take 6) = j := ⟨_, rfl⟩
        rw [hj] at hG hk
        obtain ⟨m, hm⟩ : ∃ m, l.drop 6 = m := ⟨_, rfl⟩
        have hr : l.length = 6 + m.length := by rw [← hm]; simp; omega
        obtain ⟨R, hR⟩ : ∃ R, cap = 6 + R := ⟨cap - 6, by omega⟩
        obtain ⟨A', hA'⟩ : ∃ A', (if R = 0 then (some ⟨b, off, none⟩ : Option Addr) else some ⟨b, off + 6, none⟩) = A' := ⟨_, rfl⟩
        have HRD : Hid (∀ W, Below w.heap.size w W → Rd W w.heap.size A' m) := fun W hW => by
          have := (hi.out.2.2.2.1.below hW).drop 6
          rw [← hA', ← hm]
          split
          · exact ⟨fun z hz => this.1 z hz, fun h => by simp at h; omega⟩
          · exact this
        have HAN : Hid (A' = none → m.length = 0 ∧ R = 0) := fun e => by rw [← hA'] at e; split at e <;> cases e
        have HA' := Lib.hid hA'
        have HOK : Hid (∀ g c w', Own w' w.heap.size (.slice (some ⟨g, 0, none⟩) m.length c) m → Below w.heap.size w w' → GetM l w (.returned (.tuple #[.agg (msgC j (some ⟨g, 0, none⟩) m.length c), .int .i64 ((0 : Nat) : Int)])) w') := fun g c w' h1 h2 => GetM.ok (A := some ⟨g, 0, none⟩) (c := c) hmg hj (by rw [hm]) rfl (by rw [hm]; exact h1) h2
        clear hA'
        obtain ⟨o, dd, ee, cc⟩ := j
        simp only [idC, msgC, show ((0 : Nat) : Int) = 0 from rfl] at hG HOK
        have HG := Lib.hid hG
        obtain ⟨L, hL⟩ : ∃ L, l.length = L := ⟨_, rfl⟩
        rw [hL] at h6 h7 h54 hr hlc hi hi1 ⊢
        subst hr hR
        have HLp : Hid (0 < m.length) := by show _ < _; omega
        have HLb : Hid (([] : List Nat).length + m.length ≤ 140737488355328) := by show 0 + _ ≤ _; omega
        have m1 : ¬ (6 + (m.length : Int) < 7) := by omega
        have m2 : ¬ (54 < 6 + (m.length : Int)) := by omega
        have m3 : 6 ≤ 6 + R := by omega
        have m4 : 6 ≤ 6 + (R : Int) := by omega
        have m5 : 6 ≤ 6 + m.length := by omega
        have m7 : 6 ≤ 6 + (m.length : Int) := by omega
        clear hi hi1 hc hG hl6 hk hI hZ b1 hmg h7 h54 hm hj hL h6
        go_enter Tryd.func25, Tryd.ntmps25
        go_wp2_with (first
          | (go_at_call 26; rw [HW.out]; with_reducible refine HG.out.mono ?_; rintro e w2 ⟨rfl, hb2⟩))
        obtain ⟨W4, hW4⟩ : ∃ W4, w2.alloc (.cells #[.int .i64 o, .int .i64 dd, .int .i64 ee, .int .i64 cc] 23) = W4 := ⟨_, rfl⟩
        have g4 : Below W1.heap.size W1 W4 := by rw [← hW4]; exact Me.below_alloc hb2.out
        have r4 : W4.heap[w2.heap.size]? = some (.cells #[.int .i64 o, .int .i64 dd, .int .i64 ee, .int .i64 cc] 23 (0, 0)) := by
          rw [← hW4]
          exact heap_alloc_new w2 _
        rw [hW4]
        obtain ⟨E, hE⟩ : ∃ E, w2.heap.size = E := ⟨_, rfl⟩
        have hEw : w.heap.size ≠ E := by have := hb2.out.size; have := Z1.out; omega
        rw [hE] at r4 ⊢
        have q4 : W4.heap[w.heap.size]? = some (.cells #[.int .i64 0, .int .i64 0, .int .i64 0, .int .i64 0, .slice none 0 0] 26 (0, 0)) := (g4.block _ (by have := Z1.out; omega)).trans R1.out
        have g5 : Below w.heap.size w W4 := B1.out.trans (g4.mono B1.out.size)
        have HC : Hid (∀ W : World, W.heap[E]? = some (.cells #[.int .i64 o, .int .i64 dd, .int .i64 ee, .int .i64 cc] 23 (0, 0)) → W.cell? ⟨E, 0, none⟩ = some (.int .i64 o) ∧ W.cell? ⟨E, 1, none⟩ = some (.int .i64 dd) ∧ W.cell? ⟨E, 2, none⟩ = some (.int .i64 ee) ∧ W.cell? ⟨E, 3, none⟩ = some (.int .i64 cc)) := fun W h =>
          ⟨cell_of_row W _ 0 _ _ (0, 0) h, cell_of_row W _ 1 _ _ (0, 0) h, cell_of_row W _ 2 _ _ (0, 0) h, cell_of_row W _ 3 _ _ (0, 0) h⟩
        have S0 : Below w.heap.size w W4.drew ∧ W4.drew.heap[E]? = some (.cells #[.int .i64 o, .int .i64 dd, .int .i64 ee, .int .i64 cc] 23 (0, 0)) := ⟨g5.drew, r4⟩
        clear hW4 g4 hb2 HG HBE hE
        refine wp_region_held_drew (S := fun W : World => Below w.heap.size w W ∧ W.heap[E]? = some (.cells #[.int .i64 o, .int .i64 dd, .int .i64 ee, .int .i64 cc] 23 (0, 0))) (by kernel_rfl) S0 (fun hHeld => ?_)
        refine wpAnyH_take (i := 0) (v := .agg #[.int .i64 o, .int .i64 dd, .int .i64 ee, .int .i64 cc]) rfl (by kernel_rfl) (by kernel_rfl) (by kernel_rfl) (fun _ _ _ h => h) (Or.inl ⟨by rfl, ?_⟩) (by first | assumption | exact trivial) ?_
        · intro W hSW; obtain ⟨y0, y1, y2, y3⟩ := HC.out W hSW.2; go_simp; try (with_reducible rfl)
        simp only [Act.put, List.getElem_toArray, List.getElem_cons_succ, List.getElem_cons_zero, List.setIfInBounds_toArray, List.set_cons_zero, List.set_cons_succ]
        refine wpAnyH_take (i := 2) (v := .slice (some ⟨b, off, none⟩) (6 + m.length) (6 + R)) rfl (by kernel_rfl) (by kernel_rfl) (by kernel_rfl) (fun _ _ _ h => h) (Or.inl ⟨by rfl, ?_⟩) (by first | assumption | exact trivial) ?_
        · intro W hSW; go_simp; try (with_reducible rfl)
        simp only [Act.put, List.getElem_toArray, List.getElem_cons_succ, List.getElem_cons_zero, List.setIfInBounds_toArray, List.set_cons_zero, List.set_cons_succ]
        refine wpAnyH_take (i := 3) (v := .slice A' m.length R) rfl (by kernel_rfl) (by kernel_rfl) (by kernel_rfl) (fun _ _ _ h => h) (Or.inl ⟨by rfl, ?_⟩) (by first | assumption | exact trivial) ?_
        · intro W hSW; rw [← HA'.out]; go_simp; try (with_reducible rfl)
        simp only [Act.put, List.getElem_toArray, List.getElem_cons_succ, List.getElem_cons_zero, List.setIfInBounds_toArray, List.set_cons_zero, List.set_cons_succ]
        refine wpAnyH_ready (rs := [1]) (by kernel_rfl) (by simp) ?_
        refine AllReadyH.cons rfl (fun K hK => ?_) AllReadyH.nil
        go_simp
        obtain ⟨V1, hV1⟩ : ∃ V, (W4.alloc (.cells #[] 5)).drew = V := ⟨_, rfl⟩
        have ho1 : Own V1 w.heap.size (.slice (some ⟨W4.heap.size, 0, none⟩) 0 0) [] := by rw [← hV1]; exact own_lit g5.size
        have hb1 : Below w.heap.size w V1 := by rw [← hV1]; exact (Me.below_alloc g5).drew
        have he1 : V1.heap[E]? = some (.cells #[.int .i64 o, .int .i64 dd, .int .i64 ee, .int .i64 cc] 23 (0, 0)) := by rw [← hV1]; exact (Below.heap_alloc _ _ _ (Array.getElem?_eq_some_iff.1 r4).1).trans r4
        have hq1 : V1.heap[w.heap.size]? = some (.cells #[.int .i64 0, .int .i64 0, .int .i64 0, .int .i64 0, .slice none 0 0] 26 (0, 0)) := by rw [← hV1]; exact (Below.heap_alloc _ _ _ (Array.getElem?_eq_some_iff.1 q4).1).trans q4
        rw [hV1]
        clear hV1 q4 r4 g5
        obtain ⟨g0, hg0⟩ : ∃ g, W4.heap.size = g := ⟨_, rfl⟩
        rw [hg0] at ho1 ⊢
        clear hg0
        refine hK.out _ _ (⟨hb1, he1⟩) (fun hHeld => ?_)
        clear hK K
        refine wpAnyH_ready (rs := [4]) (by kernel_rfl) (by simp) ?_
        refine AllReadyH.cons rfl (fun K hK => ?_) AllReadyH.nil
        rw [if_pos (by kernel_rfl)]
        refine app8b (.tmp 25) (.tmp 27) rfl w.heap.size w.heap.size _ [] m rfl ho1 hb1 hb1.size A' R rfl (HRD.out _ hb1) HAN.out HLb.out ?_
        intro v5 w5 ho5 hb5 hg5
        have hne1 := own_ty ho1 he1 (by decide)
        have hne2 := own_ty ho1 hq1 (by decide)
        have he5 := grown_msg he1 hg5 hne1
        have hq5 := grown_msg hq1 hg5 hne2
        obtain ⟨g, c, rfl, _, _⟩ := ho5.form (by rw [List.nil_append]; exact HLp.out)
        simp only [List.nil_append] at ho5 ⊢
        simp only [Act.put, List.getElem_toArray, List.getElem_cons_succ, List.getElem_cons_zero, List.setIfInBounds_toArray, List.set_cons_zero, List.set_cons_succ]
        refine hK.out _ _ (⟨hb5, he5⟩) (fun hHeld => ?_)
        clear hK K
        refine wpAnyH_take (i := 5) (v := .agg #[.int .i64 o, .int .i64 dd, .int .i64 ee, .int .i64 cc, .slice (some ⟨g, 0, none⟩) m.length c]) rfl (by kernel_rfl) (by kernel_rfl) (by kernel_rfl) (fun _ _ _ h => h) (Or.inl ⟨by rfl, ?_⟩) (by first | assumption | exact trivial) ?_
        · intro W hSW; go_simp; try (with_reducible rfl)
        simp only [Act.put, List.getElem_toArray, List.getElem_cons_succ, List.getElem_cons_zero, List.setIfInBounds_toArray, List.set_cons_zero, List.set_cons_succ]
        refine wpAnyH_ready (rs := [6]) (by kernel_rfl) (by simp) ?_
        refine AllReadyH.cons rfl (fun K hK => ?_) AllReadyH.nil
        rw [if_pos (by kernel_rfl)]
        refine wp_store_row 26 (.tmp 2) (.tmp 29) rfl w.heap.size #[.int .i64 o, .int .i64 dd, .int .i64 ee, .int .i64 cc, .slice (some ⟨g, 0, none⟩) m.length c] rfl (by rfl) 26 _ hq5 (by kernel_rfl) rfl (msg_one5 _ _ _ _ _ _ _) ?_
        simp only [Act.put, List.getElem_toArray, List.getElem_cons_succ, List.getElem_cons_zero, List.setIfInBounds_toArray, List.set_cons_zero, List.set_cons_succ]
        have hb9 := below_setRow #[.int .i64 o, .int .i64 dd, .int .i64 ee, .int .i64 cc, .slice (some ⟨g, 0, none⟩) m.length c] hb5 (Nat.le_refl _)
        have he9 := (setRow_other w5 w.heap.size E #[.int .i64 o, .int .i64 dd, .int .i64 ee, .int .i64 cc, .slice (some ⟨g, 0, none⟩) m.length c] (fun e => hEw e.symm)).trans he5
        have hq9 := setRow_heap w5 w.heap.size _ #[.int .i64 o, .int .i64 dd, .int .i64 ee, .int .i64 cc, .slice (some ⟨g, 0, none⟩) m.length c] _ _ hq5
        have ho9 := own_setRow #[.int .i64 o, .int .i64 dd, .int .i64 ee, .int .i64 cc, .slice (some ⟨g, 0, none⟩) m.length c] ho5 (own_ty ho5 hq5 (by decide))
        refine hK.out _ _ (⟨hb9, he9⟩) (fun hHeld => ?_)
        clear hK K
        refine wpAnyH_take (i := 7) (v := .int .i64 0) rfl (by kernel_rfl) (by kernel_rfl) (by kernel_rfl) (fun _ _ _ h => h) (Or.inl ⟨by rfl, ?_⟩) (by first | assumption | exact trivial) ?_
        · intro W hSW; go_simp; try (with_reducible rfl)
        simp only [Act.put, List.getElem_toArray, List.getElem_cons_succ, List.getElem_cons_zero, List.setIfInBounds_toArray, List.set_cons_zero, List.set_cons_succ]
        refine wpAnyH_done (by kernel_rfl) ?_ _
        go_wp2
        exact ret_box2 (g := w.heap.size) rfl (by rfl) hq9 rfl Tryd.underlying26 (by kernel_rfl) rfl (HOK.out g c _ ho9 hb9)
      · have hI : getI (l.take 6) = ⟨0, 0, 0, 0⟩ := by unfold getI; rw [if_neg (by simp [hk])]
        have hZ : getZ (l.take 6) = 2 := by unfold getZ; rw [if_neg (by simp [hk])]
        rw [hI, hZ] at hG
        have HN : Hid (¬ mgO l) := fun h => hk h.2.2
        simp only [idC, show ((2 : Nat) : Int) = 2 from rfl] at hG
        have HG := Lib.hid hG
        have m1 : ¬ ((l.length : Int) < 7) := by omega
        have m2 : ¬ (54 < (l.length : Int)) := by omega
        have m3 : 6 ≤ cap := by omega
        have m4 : (6 : Int) ≤ (cap : Int) := by omega
        have m5 : (6 : Int) ≤ (l.length : Int) := by omega
        clear hi hi1 hc hG hl6 hk hI hZ b1 h7 h54
        go_enter Tryd.func25, Tryd.ntmps25
        go_wp2_with (first
          | (go_at_call 26; rw [HW.out]; with_reducible refine HG.out.mono ?_; rintro e w2 ⟨rfl, hb2⟩)
          | (obtain ⟨q1, q2⟩ := HBE.out _ _ (.cells #[.int .i64 0, .int .i64 0, .int .i64 0, .int .i64 0] 23) hb2.out (Below.refl _ _); refine wpList_store_row rfl 26 (.tmp 2) (.tmp 23) rfl w.heap.size msg0 rfl rfl 26 _ q1 (by kernel_rfl) rfl (msg_one5 _ _ _ _ _ _ _) ?_))
        exact ret_box2 (g := w.heap.size) rfl (by rfl) (setRow_heap _ _ _ _ _ _ q1) rfl Tryd.underlying26 (by kernel_rfl) rfl (GetM.no HN.out rfl (q2 _))
    · have HN : Hid (¬ mgO l) := fun h => h54 h.2.1
      have m1 : ¬ ((l.length : Int) < 7) := by omega
      have m2 : 54 < (l.length : Int) := by omega
      clear hi hi1 b1 h7 h54
      go_enter Tryd.func25, Tryd.ntmps25
      go_wp2_with (rw [HW.out]; refine wpList_store_row rfl 26 (.tmp 2) (.tmp 14) rfl w.heap.size msg0 rfl rfl 26 _ R1.out (by kernel_rfl) rfl (msg_one5 _ _ _ _ _ _ _) ?_)
      exact ret_box2 (g := w.heap.size) rfl (by rfl) (setRow_heap _ _ _ _ _ _ R1.out) rfl Tryd.underlying26 (by kernel_rfl) rfl (GetM.no HN.out rfl (HBS.out _))
  · have HN : Hid (¬ mgO l) := fun h => h7 h.1
    have m1 : (l.length : Int) < 7 := by omega
    clear hi hi1 b1 h7
    go_enter Tryd.func25, Tryd.ntmps25
    go_wp2_with (rw [HW.out]; refine wpList_store_row rfl 26 (.tmp 2) (.tmp 14) rfl w.heap.size msg0 rfl rfl 26 _ R1.out (by kernel_rfl) rfl (msg_one5 _ _ _ _ _ _ _) ?_)
    exact ret_box2 (g := w.heap.size) rfl (by rfl) (setRow_heap _ _ _ _ _ _ R1.out) rfl Tryd.underlying26 (by kernel_rfl) rfl (GetM.no HN.out rfl (HBS.out _))
end Go.Proofs.YtljndfkmppmbkaaDoor.Mg
