/- The reference's May. -/
import Derived.Test.YtjgdkpgkonnhnaaSeRGaps
import Derived.Test.YtjgdkpgkonnhnaaSeRHas
namespace Go.Proofs.Ytjgdkpgkonnhnaa.Se
open Go.RowKit
open Go.Proofs.Ytjgdkpgkonnhnaa.Me Go.Proofs.Ytjgdkpgkonnhnaa.Sb
set_option linter.unusedVariables false
set_option linter.unusedSimpArgs false

/-- What the reference's May answers. -/
def rmayN (room : Int) (L : Ks) (i : Mg.Id4) : Nat :=
  if Mg.chkN i ≠ 0 then Mg.chkN i
  else if (⟨i.o, i.e, i.c⟩ : Ky) ∈ L then 5
  else if i.c ≠ nextL (marksL L) i.o i.e ∧ room ≤ gapsL (marksL L) then 6 else 0
set_option maxRecDepth 100000 in
set_option maxHeartbeats 8000000 in
theorem RMay_any (Q : Nat → Prop) (room : Int) (v : Value) (L : Ks) (i : Mg.Id4) (w : World) (hv : Hid (Kv Q w v L)) (hL : L.length ≤ 900) : Calls Try.prog 15 #[.agg #[.int .i64 room, v], .agg (Mg.idC i)] w fun e w' => e = .returned (.int .i64 (rmayN room L i : Nat)) ∧ Hid (Below w.heap.size w w') := by
  have HK := Lib.hid (fun W => Mg.RCheck_any i W)
  have HH : Hid (∀ W, Below w.heap.size w W → Calls Try.prog 24 #[.agg #[.int .i64 room, v], .agg (Mg.idC i)] W fun e w' => e = .returned (.bool (rhas L i)) ∧ Hid (Below W.heap.size W w')) := fun W hW => RHas_any Q room v L i W (hv.out.below hW) (by omega)
  have HNx : Hid (∀ W, Below w.heap.size w W → Calls Try.prog 30 #[.agg #[.int .i64 room, v], .agg (Mg.idC i)] W fun e w' => e = .returned (.int .i64 (nextL (marksL L) i.o i.e)) ∧ Hid (Below W.heap.size W w')) := fun W hW => RNext_any Q room v L i W (hv.out.below hW) hL
  have HGa : Hid (∀ W, Below w.heap.size w W → Calls Try.prog 22 #[.agg #[.int .i64 room, v]] W fun e w' => e = .returned (.int .i64 (gapsL (marksL L))) ∧ Hid (Below W.heap.size W w')) := fun W hW => RGaps_any Q room v L W (hv.out.below hW) hL
  obtain ⟨W2, hW2⟩ : ∃ W, (w.alloc (.cells #[.int .i64 room, v] 29)).alloc (.cells (Mg.idC i) 39) = W := ⟨_, rfl⟩
  have b2 : Below w.heap.size w W2 := by rw [← hW2]; exact Me.below_alloc (Me.below_alloc (Below.refl _ _))
  have z2 : W2.heap.size = w.heap.size + 1 + 1 := by rw [← hW2]; simp
  have r1 : W2.heap[w.heap.size]? = some (.cells #[.int .i64 room, v] 29 (0, 0)) := by
    rw [← hW2, Below.heap_alloc _ _ _ (by simp)]; exact heap_alloc_new w _
  have r2 : W2.heap[w.heap.size + 1]? = some (.cells (Mg.idC i) 39 (0, 0)) := by
    have h := heap_alloc_new (w.alloc (.cells #[.int .i64 room, v] 29)) (.cells (Mg.idC i) 39)
    rw [hW2] at h
    simpa using h
  have HC : Hid (∀ W, Below W2.heap.size W2 W → (W.cell? ⟨w.heap.size, 0, none⟩ = some (.int .i64 room) ∧ W.cell? ⟨w.heap.size, 1, none⟩ = some v) ∧ W.cell? ⟨w.heap.size + 1, 0, none⟩ = some (.int .i64 i.o) ∧ W.cell? ⟨w.heap.size + 1, 1, none⟩ = some (.int .i64 i.d) ∧ W.cell? ⟨w.heap.size + 1, 2, none⟩ = some (.int .i64 i.e) ∧ W.cell? ⟨w.heap.size + 1, 3, none⟩ = some (.int .i64 i.c)) := fun W hW => by
    have h := (hW.block w.heap.size (by omega)).trans r1
    exact ⟨⟨cell_of_row W _ 0 _ _ (0, 0) h, cell_of_row W _ 1 _ _ (0, 0) h⟩, id_cells ((hW.block _ (by omega)).trans r2)⟩
  have HW := Lib.hid hW2
  have HB2 := Lib.hid b2
  have HU : Hid (∀ W, Below W2.heap.size W2 W → Below w.heap.size w W) := fun W hW => b2.trans (hW.mono b2.size)
  clear hW2 b2 z2 r1 r2 hv
  by_cases h0 : Mg.chkN i = 0
  · have hr : rhas L i = decide ((⟨i.o, i.e, i.c⟩ : Ky) ∈ L) := by unfold rhas; rw [h0]; simp
    rw [h0] at HK
    rw [hr] at HH
    by_cases hm : (⟨i.o, i.e, i.c⟩ : Ky) ∈ L
    · have hR : rmayN room L i = 5 := by unfold rmayN; rw [if_neg (by simp [h0]), if_pos hm]
      rw [hR]
      rw [decide_eq_true hm] at HH
      clear h0 hr hm hR HNx HGa
      obtain ⟨o, d, ee, c⟩ := i
      simp only [Mg.idC, show ((0 : Nat) : Int) = 0 from rfl] at HK HW HC HH ⊢
      go_enter Try.func15, Try.ntmps15
      go_wp2_with (first
        | (go_at_call 28; rw [HW.out]; refine (HK.out _).mono ?_; rintro e w3 ⟨rfl, b3⟩; obtain ⟨⟨y0, y1⟩, i0, i1, i2, i3⟩ := HC.out w3 b3.out)
        | (go_at_call 24; refine (HH.out _ (HU.out _ b3.out)).mono ?_; rintro e w4 ⟨rfl, b4⟩))
      go_ret
      exact ⟨rfl, go_on (HU.out _ b3.out) b4.out⟩
    · rw [decide_eq_false hm] at HH
      obtain ⟨R, hR⟩ : ∃ R, rmayN room L i = R := ⟨_, rfl⟩
      have hR2 : (if i.c ≠ nextL (marksL L) i.o i.e ∧ room ≤ gapsL (marksL L) then 6 else 0) = R := by rw [← hR]; unfold rmayN; rw [if_neg (fun h : Mg.chkN i ≠ 0 => h h0), if_neg hm]
      rw [hR]
      clear h0 hr hm hR
      obtain ⟨o, d, ee, c⟩ := i
      obtain ⟨nx, hnx⟩ : ∃ x, nextL (marksL L) o ee = x := ⟨_, rfl⟩
      obtain ⟨ga, hga⟩ : ∃ x, gapsL (marksL L) = x := ⟨_, rfl⟩
      simp only [hnx, hga] at HNx HGa hR2
      clear hnx hga
      simp only [Mg.idC, show ((0 : Nat) : Int) = 0 from rfl] at HK HW HC HH HNx HGa ⊢
      by_cases hc : c = nx
      · have hz : R = 0 := by rw [← hR2, if_neg (fun h => h.1 hc)]
        subst hz
        have g1 : (c != nx) = false := by simpa using hc
        clear hR2 hc
        go_enter Try.func15, Try.ntmps15
        go_wp2_with (first
          | (go_at_call 28; rw [HW.out]; refine (HK.out _).mono ?_; rintro e w3 ⟨rfl, b3⟩; obtain ⟨⟨y0, y1⟩, i0, i1, i2, i3⟩ := HC.out w3 b3.out)
          | (go_at_call 24; refine (HH.out _ (HU.out _ b3.out)).mono ?_; rintro e w4 ⟨rfl, b4⟩))
        have B4 := go_on b3.out b4.out
        have S0 := B4.drew
        refine wp_region_held_drew (S := fun W => Below W2.heap.size W2 W) (by kernel_rfl) S0 (fun hHeld => ?_)
        refine wpAnyH_take (i := 0) (v := .pointer (some ⟨w.heap.size + 1, 3, none⟩)) rfl (by kernel_rfl) (by kernel_rfl) (by kernel_rfl) (fun _ _ _ h => h) (Or.inl ⟨by rfl, ?_⟩) (by first | assumption | exact trivial) ?_
        · intro W hSW; go_simp; try (with_reducible rfl)
        simp only [Act.put, List.getElem_toArray, List.getElem_cons_succ, List.getElem_cons_zero, List.setIfInBounds_toArray, List.set_cons_zero, List.set_cons_succ]
        refine wpAnyH_take (i := 1) (v := .int .i64 c) rfl (by kernel_rfl) (by kernel_rfl) (by kernel_rfl) (fun _ _ _ h => h) (Or.inl ⟨by rfl, ?_⟩) (by first | assumption | exact trivial) ?_
        · intro W hSW; obtain ⟨⟨y0, y1⟩, i0, i1, i2, i3⟩ := HC.out W hSW; go_simp; try (with_reducible rfl)
        simp only [Act.put, List.getElem_toArray, List.getElem_cons_succ, List.getElem_cons_zero, List.setIfInBounds_toArray, List.set_cons_zero, List.set_cons_succ]
        refine wpAnyH_take (i := 2) (v := .agg #[.int .i64 room, v]) rfl (by kernel_rfl) (by kernel_rfl) (by kernel_rfl) (fun _ _ _ h => h) (Or.inl ⟨by rfl, ?_⟩) (by first | assumption | exact trivial) ?_
        · intro W hSW; obtain ⟨⟨y0, y1⟩, i0, i1, i2, i3⟩ := HC.out W hSW; go_simp; try (with_reducible rfl)
        simp only [Act.put, List.getElem_toArray, List.getElem_cons_succ, List.getElem_cons_zero, List.setIfInBounds_toArray, List.set_cons_zero, List.set_cons_succ]
        refine wpAnyH_take (i := 3) (v := .agg #[.int .i64 o, .int .i64 d, .int .i64 ee, .int .i64 c]) rfl (by kernel_rfl) (by kernel_rfl) (by kernel_rfl) (fun _ _ _ h => h) (Or.inl ⟨by rfl, ?_⟩) (by first | assumption | exact trivial) ?_
        · intro W hSW; obtain ⟨⟨y0, y1⟩, i0, i1, i2, i3⟩ := HC.out W hSW; go_simp; try (with_reducible rfl)
        simp only [Act.put, List.getElem_toArray, List.getElem_cons_succ, List.getElem_cons_zero, List.setIfInBounds_toArray, List.set_cons_zero, List.set_cons_succ]
        refine wpAnyH_ready (rs := [4]) (by kernel_rfl) (by simp) ?_
        refine AllReadyH.cons rfl (fun K hK => ?_) AllReadyH.nil
        go_simp
        go_wp2_with (go_at_call 30; refine (HNx.out _ (HU.out _ S0)).mono ?_; rintro e w5 ⟨rfl, b5⟩)
        have S5 := go_on S0 b5.out
        refine hK.out _ _ (S5) (fun hHeld => ?_)
        clear hK K
        refine wpAnyH_take (i := 5) (v := .bool false) rfl (by kernel_rfl) (by kernel_rfl) (by kernel_rfl) (fun _ _ _ h => h) (Or.inl ⟨by rfl, ?_⟩) (by first | assumption | exact trivial) ?_
        · intro W hSW; go_simp; try (with_reducible rfl)
        simp only [Act.put, List.getElem_toArray, List.getElem_cons_succ, List.getElem_cons_zero, List.setIfInBounds_toArray, List.set_cons_zero, List.set_cons_succ]
        refine wpAnyH_take (i := 6) (v := .bool false) rfl (by kernel_rfl) (by kernel_rfl) (by kernel_rfl) (fun _ _ _ h => h) (Or.inl ⟨by rfl, ?_⟩) (by first | assumption | exact trivial) ?_
        · intro W hSW; go_simp; try (with_reducible rfl)
        simp only [Act.put, List.getElem_toArray, List.getElem_cons_succ, List.getElem_cons_zero, List.setIfInBounds_toArray, List.set_cons_zero, List.set_cons_succ]
        refine wpAnyH_take (i := 7) (v := undef) rfl (by kernel_rfl) (by kernel_rfl) (by kernel_rfl) (fun _ _ _ h => h) (Or.inr ⟨by rfl, rfl⟩) (by first | assumption | exact trivial) ?restz1
        simp only [Act.put, List.getElem_toArray, List.getElem_cons_succ, List.getElem_cons_zero, List.setIfInBounds_toArray, List.set_cons_zero, List.set_cons_succ]
        refine wpAnyH_take (i := 8) (v := undef) rfl (by kernel_rfl) (by kernel_rfl) (by kernel_rfl) (fun _ _ _ h => h) (Or.inr ⟨by rfl, rfl⟩) (by first | assumption | exact trivial) ?restz2
        simp only [Act.put, List.getElem_toArray, List.getElem_cons_succ, List.getElem_cons_zero, List.setIfInBounds_toArray, List.set_cons_zero, List.set_cons_succ]
        refine wpAnyH_take (i := 9) (v := undef) rfl (by kernel_rfl) (by kernel_rfl) (by kernel_rfl) (fun _ _ _ h => h) (Or.inr ⟨by rfl, rfl⟩) (by first | assumption | exact trivial) ?restz3
        simp only [Act.put, List.getElem_toArray, List.getElem_cons_succ, List.getElem_cons_zero, List.setIfInBounds_toArray, List.set_cons_zero, List.set_cons_succ]
        refine wpAnyH_take (i := 10) (v := undef) rfl (by kernel_rfl) (by kernel_rfl) (by kernel_rfl) (fun _ _ _ h => h) (Or.inr ⟨by rfl, rfl⟩) (by first | assumption | exact trivial) ?restz4
        simp only [Act.put, List.getElem_toArray, List.getElem_cons_succ, List.getElem_cons_zero, List.setIfInBounds_toArray, List.set_cons_zero, List.set_cons_succ]
        refine wpAnyH_take (i := 11) (v := undef) rfl (by kernel_rfl) (by kernel_rfl) (by kernel_rfl) (fun _ _ _ h => h) (Or.inr ⟨by rfl, rfl⟩) (by first | assumption | exact trivial) ?restz5
        simp only [Act.put, List.getElem_toArray, List.getElem_cons_succ, List.getElem_cons_zero, List.setIfInBounds_toArray, List.set_cons_zero, List.set_cons_succ]
        refine wpAnyH_take (i := 12) (v := .bool false) rfl (by kernel_rfl) (by kernel_rfl) (by kernel_rfl) (fun _ _ _ h => h) (Or.inl ⟨by rfl, ?_⟩) (by first | assumption | exact trivial) ?_
        · intro W hSW; go_simp; try (with_reducible rfl)
        simp only [Act.put, List.getElem_toArray, List.getElem_cons_succ, List.getElem_cons_zero, List.setIfInBounds_toArray, List.set_cons_zero, List.set_cons_succ]
        refine wpAnyH_done (by kernel_rfl) ?_ _
        go_wp2
        go_ret
        exact ⟨rfl, HU.out _ S5⟩
      · have g1 : (c != nx) = true := by simpa using hc
        by_cases g5 : room ≤ ga
        · have hz : R = 6 := by rw [← hR2, if_pos ⟨hc, g5⟩]
          subst hz
          clear hR2 hc
          go_enter Try.func15, Try.ntmps15
          go_wp2_with (first
            | (go_at_call 28; rw [HW.out]; refine (HK.out _).mono ?_; rintro e w3 ⟨rfl, b3⟩; obtain ⟨⟨y0, y1⟩, i0, i1, i2, i3⟩ := HC.out w3 b3.out)
            | (go_at_call 24; refine (HH.out _ (HU.out _ b3.out)).mono ?_; rintro e w4 ⟨rfl, b4⟩))
          have B4 := go_on b3.out b4.out
          have S0 := B4.drew
          refine wp_region_held_drew (S := fun W => Below W2.heap.size W2 W) (by kernel_rfl) S0 (fun hHeld => ?_)
          refine wpAnyH_take (i := 0) (v := .pointer (some ⟨w.heap.size + 1, 3, none⟩)) rfl (by kernel_rfl) (by kernel_rfl) (by kernel_rfl) (fun _ _ _ h => h) (Or.inl ⟨by rfl, ?_⟩) (by first | assumption | exact trivial) ?_
          · intro W hSW; go_simp; try (with_reducible rfl)
          simp only [Act.put, List.getElem_toArray, List.getElem_cons_succ, List.getElem_cons_zero, List.setIfInBounds_toArray, List.set_cons_zero, List.set_cons_succ]
          refine wpAnyH_take (i := 1) (v := .int .i64 c) rfl (by kernel_rfl) (by kernel_rfl) (by kernel_rfl) (fun _ _ _ h => h) (Or.inl ⟨by rfl, ?_⟩) (by first | assumption | exact trivial) ?_
          · intro W hSW; obtain ⟨⟨y0, y1⟩, i0, i1, i2, i3⟩ := HC.out W hSW; go_simp; try (with_reducible rfl)
          simp only [Act.put, List.getElem_toArray, List.getElem_cons_succ, List.getElem_cons_zero, List.setIfInBounds_toArray, List.set_cons_zero, List.set_cons_succ]
          refine wpAnyH_take (i := 2) (v := .agg #[.int .i64 room, v]) rfl (by kernel_rfl) (by kernel_rfl) (by kernel_rfl) (fun _ _ _ h => h) (Or.inl ⟨by rfl, ?_⟩) (by first | assumption | exact trivial) ?_
          · intro W hSW; obtain ⟨⟨y0, y1⟩, i0, i1, i2, i3⟩ := HC.out W hSW; go_simp; try (with_reducible rfl)
          simp only [Act.put, List.getElem_toArray, List.getElem_cons_succ, List.getElem_cons_zero, List.setIfInBounds_toArray, List.set_cons_zero, List.set_cons_succ]
          refine wpAnyH_take (i := 3) (v := .agg #[.int .i64 o, .int .i64 d, .int .i64 ee, .int .i64 c]) rfl (by kernel_rfl) (by kernel_rfl) (by kernel_rfl) (fun _ _ _ h => h) (Or.inl ⟨by rfl, ?_⟩) (by first | assumption | exact trivial) ?_
          · intro W hSW; obtain ⟨⟨y0, y1⟩, i0, i1, i2, i3⟩ := HC.out W hSW; go_simp; try (with_reducible rfl)
          simp only [Act.put, List.getElem_toArray, List.getElem_cons_succ, List.getElem_cons_zero, List.setIfInBounds_toArray, List.set_cons_zero, List.set_cons_succ]
          refine wpAnyH_ready (rs := [4]) (by kernel_rfl) (by simp) ?_
          refine AllReadyH.cons rfl (fun K hK => ?_) AllReadyH.nil
          go_simp
          go_wp2_with (go_at_call 30; refine (HNx.out _ (HU.out _ S0)).mono ?_; rintro e w5 ⟨rfl, b5⟩)
          have S5 := go_on S0 b5.out
          refine hK.out _ _ (S5) (fun hHeld => ?_)
          clear hK K
          refine wpAnyH_take (i := 5) (v := .bool true) rfl (by kernel_rfl) (by kernel_rfl) (by kernel_rfl) (fun _ _ _ h => h) (Or.inl ⟨by rfl, ?_⟩) (by first | assumption | exact trivial) ?_
          · intro W hSW; go_simp; try (with_reducible rfl)
          simp only [Act.put, List.getElem_toArray, List.getElem_cons_succ, List.getElem_cons_zero, List.setIfInBounds_toArray, List.set_cons_zero, List.set_cons_succ]
          refine wpAnyH_take (i := 6) (v := .bool true) rfl (by kernel_rfl) (by kernel_rfl) (by kernel_rfl) (fun _ _ _ h => h) (Or.inl ⟨by rfl, ?_⟩) (by first | assumption | exact trivial) ?_
          · intro W hSW; go_simp; try (with_reducible rfl)
          simp only [Act.put, List.getElem_toArray, List.getElem_cons_succ, List.getElem_cons_zero, List.setIfInBounds_toArray, List.set_cons_zero, List.set_cons_succ]
          refine wpAnyH_take (i := 7) (v := .agg #[.int .i64 room, v]) rfl (by kernel_rfl) (by kernel_rfl) (by kernel_rfl) (fun _ _ _ h => h) (Or.inl ⟨by rfl, ?_⟩) (by first | assumption | exact trivial) ?_
          · intro W hSW; obtain ⟨⟨y0, y1⟩, i0, i1, i2, i3⟩ := HC.out W hSW; go_simp; try (with_reducible rfl)
          simp only [Act.put, List.getElem_toArray, List.getElem_cons_succ, List.getElem_cons_zero, List.setIfInBounds_toArray, List.set_cons_zero, List.set_cons_succ]
          refine wpAnyH_take (i := 9) (v := .pointer (some ⟨w.heap.size, 0, none⟩)) rfl (by kernel_rfl) (by kernel_rfl) (by kernel_rfl) (fun _ _ _ h => h) (Or.inl ⟨by rfl, ?_⟩) (by first | assumption | exact trivial) ?_
          · intro W hSW; go_simp; try (with_reducible rfl)
          simp only [Act.put, List.getElem_toArray, List.getElem_cons_succ, List.getElem_cons_zero, List.setIfInBounds_toArray, List.set_cons_zero, List.set_cons_succ]
          refine wpAnyH_take (i := 10) (v := .int .i64 room) rfl (by kernel_rfl) (by kernel_rfl) (by kernel_rfl) (fun _ _ _ h => h) (Or.inl ⟨by rfl, ?_⟩) (by first | assumption | exact trivial) ?_
          · intro W hSW; obtain ⟨⟨y0, y1⟩, i0, i1, i2, i3⟩ := HC.out W hSW; go_simp; try (with_reducible rfl)
          simp only [Act.put, List.getElem_toArray, List.getElem_cons_succ, List.getElem_cons_zero, List.setIfInBounds_toArray, List.set_cons_zero, List.set_cons_succ]
          refine wpAnyH_ready (rs := [8]) (by kernel_rfl) (by simp) ?_
          refine AllReadyH.cons rfl (fun K hK => ?_) AllReadyH.nil
          go_simp
          go_wp2_with (go_at_call 22; refine (HGa.out _ (HU.out _ S5)).mono ?_; rintro e w6 ⟨rfl, b6⟩)
          have S6 := go_on S5 b6.out
          refine hK.out _ _ (S6) (fun hHeld => ?_)
          clear hK K
          refine wpAnyH_take (i := 11) (v := .bool true) rfl (by kernel_rfl) (by kernel_rfl) (by kernel_rfl) (fun _ _ _ h => h) (Or.inl ⟨by rfl, ?_⟩) (by first | assumption | exact trivial) ?_
          · intro W hSW; go_simp; try (with_reducible rfl)
          simp only [Act.put, List.getElem_toArray, List.getElem_cons_succ, List.getElem_cons_zero, List.setIfInBounds_toArray, List.set_cons_zero, List.set_cons_succ]
          refine wpAnyH_take (i := 12) (v := .bool true) rfl (by kernel_rfl) (by kernel_rfl) (by kernel_rfl) (fun _ _ _ h => h) (Or.inl ⟨by rfl, ?_⟩) (by first | assumption | exact trivial) ?_
          · intro W hSW; go_simp; try (with_reducible rfl)
          simp only [Act.put, List.getElem_toArray, List.getElem_cons_succ, List.getElem_cons_zero, List.setIfInBounds_toArray, List.set_cons_zero, List.set_cons_succ]
          refine wpAnyH_done (by kernel_rfl) ?_ _
          go_wp2
          go_ret
          exact ⟨rfl, HU.out _ S6⟩
        · have hz : R = 0 := by rw [← hR2, if_neg (fun h => g5 h.2)]
          subst hz
          clear hR2 hc
          go_enter Try.func15, Try.ntmps15
          go_wp2_with (first
            | (go_at_call 28; rw [HW.out]; refine (HK.out _).mono ?_; rintro e w3 ⟨rfl, b3⟩; obtain ⟨⟨y0, y1⟩, i0, i1, i2, i3⟩ := HC.out w3 b3.out)
            | (go_at_call 24; refine (HH.out _ (HU.out _ b3.out)).mono ?_; rintro e w4 ⟨rfl, b4⟩))
          have B4 := go_on b3.out b4.out
          have S0 := B4.drew
          refine wp_region_held_drew (S := fun W => Below W2.heap.size W2 W) (by kernel_rfl) S0 (fun hHeld => ?_)
          refine wpAnyH_take (i := 0) (v := .pointer (some ⟨w.heap.size + 1, 3, none⟩)) rfl (by kernel_rfl) (by kernel_rfl) (by kernel_rfl) (fun _ _ _ h => h) (Or.inl ⟨by rfl, ?_⟩) (by first | assumption | exact trivial) ?_
          · intro W hSW; go_simp; try (with_reducible rfl)
          simp only [Act.put, List.getElem_toArray, List.getElem_cons_succ, List.getElem_cons_zero, List.setIfInBounds_toArray, List.set_cons_zero, List.set_cons_succ]
          refine wpAnyH_take (i := 1) (v := .int .i64 c) rfl (by kernel_rfl) (by kernel_rfl) (by kernel_rfl) (fun _ _ _ h => h) (Or.inl ⟨by rfl, ?_⟩) (by first | assumption | exact trivial) ?_
          · intro W hSW; obtain ⟨⟨y0, y1⟩, i0, i1, i2, i3⟩ := HC.out W hSW; go_simp; try (with_reducible rfl)
          simp only [Act.put, List.getElem_toArray, List.getElem_cons_succ, List.getElem_cons_zero, List.setIfInBounds_toArray, List.set_cons_zero, List.set_cons_succ]
          refine wpAnyH_take (i := 2) (v := .agg #[.int .i64 room, v]) rfl (by kernel_rfl) (by kernel_rfl) (by kernel_rfl) (fun _ _ _ h => h) (Or.inl ⟨by rfl, ?_⟩) (by first | assumption | exact trivial) ?_
          · intro W hSW; obtain ⟨⟨y0, y1⟩, i0, i1, i2, i3⟩ := HC.out W hSW; go_simp; try (with_reducible rfl)
          simp only [Act.put, List.getElem_toArray, List.getElem_cons_succ, List.getElem_cons_zero, List.setIfInBounds_toArray, List.set_cons_zero, List.set_cons_succ]
          refine wpAnyH_take (i := 3) (v := .agg #[.int .i64 o, .int .i64 d, .int .i64 ee, .int .i64 c]) rfl (by kernel_rfl) (by kernel_rfl) (by kernel_rfl) (fun _ _ _ h => h) (Or.inl ⟨by rfl, ?_⟩) (by first | assumption | exact trivial) ?_
          · intro W hSW; obtain ⟨⟨y0, y1⟩, i0, i1, i2, i3⟩ := HC.out W hSW; go_simp; try (with_reducible rfl)
          simp only [Act.put, List.getElem_toArray, List.getElem_cons_succ, List.getElem_cons_zero, List.setIfInBounds_toArray, List.set_cons_zero, List.set_cons_succ]
          refine wpAnyH_ready (rs := [4]) (by kernel_rfl) (by simp) ?_
          refine AllReadyH.cons rfl (fun K hK => ?_) AllReadyH.nil
          go_simp
          go_wp2_with (go_at_call 30; refine (HNx.out _ (HU.out _ S0)).mono ?_; rintro e w5 ⟨rfl, b5⟩)
          have S5 := go_on S0 b5.out
          refine hK.out _ _ (S5) (fun hHeld => ?_)
          clear hK K
          refine wpAnyH_take (i := 5) (v := .bool true) rfl (by kernel_rfl) (by kernel_rfl) (by kernel_rfl) (fun _ _ _ h => h) (Or.inl ⟨by rfl, ?_⟩) (by first | assumption | exact trivial) ?_
          · intro W hSW; go_simp; try (with_reducible rfl)
          simp only [Act.put, List.getElem_toArray, List.getElem_cons_succ, List.getElem_cons_zero, List.setIfInBounds_toArray, List.set_cons_zero, List.set_cons_succ]
          refine wpAnyH_take (i := 6) (v := .bool true) rfl (by kernel_rfl) (by kernel_rfl) (by kernel_rfl) (fun _ _ _ h => h) (Or.inl ⟨by rfl, ?_⟩) (by first | assumption | exact trivial) ?_
          · intro W hSW; go_simp; try (with_reducible rfl)
          simp only [Act.put, List.getElem_toArray, List.getElem_cons_succ, List.getElem_cons_zero, List.setIfInBounds_toArray, List.set_cons_zero, List.set_cons_succ]
          refine wpAnyH_take (i := 7) (v := .agg #[.int .i64 room, v]) rfl (by kernel_rfl) (by kernel_rfl) (by kernel_rfl) (fun _ _ _ h => h) (Or.inl ⟨by rfl, ?_⟩) (by first | assumption | exact trivial) ?_
          · intro W hSW; obtain ⟨⟨y0, y1⟩, i0, i1, i2, i3⟩ := HC.out W hSW; go_simp; try (with_reducible rfl)
          simp only [Act.put, List.getElem_toArray, List.getElem_cons_succ, List.getElem_cons_zero, List.setIfInBounds_toArray, List.set_cons_zero, List.set_cons_succ]
          refine wpAnyH_take (i := 9) (v := .pointer (some ⟨w.heap.size, 0, none⟩)) rfl (by kernel_rfl) (by kernel_rfl) (by kernel_rfl) (fun _ _ _ h => h) (Or.inl ⟨by rfl, ?_⟩) (by first | assumption | exact trivial) ?_
          · intro W hSW; go_simp; try (with_reducible rfl)
          simp only [Act.put, List.getElem_toArray, List.getElem_cons_succ, List.getElem_cons_zero, List.setIfInBounds_toArray, List.set_cons_zero, List.set_cons_succ]
          refine wpAnyH_take (i := 10) (v := .int .i64 room) rfl (by kernel_rfl) (by kernel_rfl) (by kernel_rfl) (fun _ _ _ h => h) (Or.inl ⟨by rfl, ?_⟩) (by first | assumption | exact trivial) ?_
          · intro W hSW; obtain ⟨⟨y0, y1⟩, i0, i1, i2, i3⟩ := HC.out W hSW; go_simp; try (with_reducible rfl)
          simp only [Act.put, List.getElem_toArray, List.getElem_cons_succ, List.getElem_cons_zero, List.setIfInBounds_toArray, List.set_cons_zero, List.set_cons_succ]
          refine wpAnyH_ready (rs := [8]) (by kernel_rfl) (by simp) ?_
          refine AllReadyH.cons rfl (fun K hK => ?_) AllReadyH.nil
          go_simp
          go_wp2_with (go_at_call 22; refine (HGa.out _ (HU.out _ S5)).mono ?_; rintro e w6 ⟨rfl, b6⟩)
          have S6 := go_on S5 b6.out
          refine hK.out _ _ (S6) (fun hHeld => ?_)
          clear hK K
          refine wpAnyH_take (i := 11) (v := .bool false) rfl (by kernel_rfl) (by kernel_rfl) (by kernel_rfl) (fun _ _ _ h => h) (Or.inl ⟨by rfl, ?_⟩) (by first | assumption | exact trivial) ?_
          · intro W hSW; go_simp; try (with_reducible rfl)
          simp only [Act.put, List.getElem_toArray, List.getElem_cons_succ, List.getElem_cons_zero, List.setIfInBounds_toArray, List.set_cons_zero, List.set_cons_succ]
          refine wpAnyH_take (i := 12) (v := .bool false) rfl (by kernel_rfl) (by kernel_rfl) (by kernel_rfl) (fun _ _ _ h => h) (Or.inl ⟨by rfl, ?_⟩) (by first | assumption | exact trivial) ?_
          · intro W hSW; go_simp; try (with_reducible rfl)
          simp only [Act.put, List.getElem_toArray, List.getElem_cons_succ, List.getElem_cons_zero, List.setIfInBounds_toArray, List.set_cons_zero, List.set_cons_succ]
          refine wpAnyH_done (by kernel_rfl) ?_ _
          go_wp2
          go_ret
          exact ⟨rfl, HU.out _ S6⟩
  · have hne := Mg.nz h0
    have hR : rmayN room L i = Mg.chkN i := by unfold rmayN; rw [if_pos h0]
    rw [hR]
    obtain ⟨k, hk⟩ : ∃ k, Mg.chkN i = k := ⟨_, rfl⟩
    rw [hk] at HK hne ⊢
    clear h0 hk HH HNx HGa hR
    obtain ⟨o, d, ee, c⟩ := i
    simp only [Mg.idC] at HK HW HC ⊢
    go_enter Try.func15, Try.ntmps15
    have tok : True := trivial
    go_wp2_with (first
      | (go_at_call 28; have _t := tok; rw [HW.out]; refine (HK.out _).mono ?_; rintro e w3 ⟨rfl, b3⟩; obtain ⟨⟨y0, y1⟩, i0, i1, i2, i3⟩ := HC.out w3 b3.out; clear tok)
      | (go_at_call 28; refine (HK.out _).mono ?_; rintro e w4 ⟨rfl, b4⟩))
    go_ret
    exact ⟨rfl, go_on (HU.out _ b3.out) b4.out⟩
end Go.Proofs.Ytjgdkpgkonnhnaa.Se
