/- May. -/
import Derived.Test.YthajocfgpodimaaZ5
namespace Go.Proofs.Ythajocfgpodimaa.Se
open Go.RowKit
open Go.Proofs.Ythajocfgpodimaa.Me Go.Proofs.Ythajocfgpodimaa.Sb
set_option linter.unusedVariables false
set_option linter.unusedSimpArgs false

set_option maxRecDepth 100000 in
set_option maxHeartbeats 4000000 in
theorem May_nil (i : Mg.Id4) (w : World) : Calls Try.prog 17 #[.pointer none, .agg (Mg.idC i)] w fun e w' => e = .returned (.int .i64 7) ∧ Hid (Below w.heap.size w w') := by
  obtain ⟨o, d, ee, c⟩ := i
  simp only [Mg.idC]
  have HB : Hid (Below w.heap.size w (w.alloc (.cells #[.int .i64 o, .int .i64 d, .int .i64 ee, .int .i64 c] 39))) := Me.below_alloc (Below.refl _ _)
  go_enter Try.func17, Try.ntmps17
  go_wp2
  go_ret
  exact ⟨rfl, HB.out⟩
theorem mark_cells {W : World} {X : Nat} {u : Int} {A : Option Addr} {n c : Nat} (h : W.heap[X]? = some (.cells #[.int .i64 u, .slice A n c] 65 (0, 0))) : W.cell? ⟨X, 0, none⟩ = some (.int .i64 u) ∧ W.cell? ⟨X, 1, none⟩ = some (.slice A n c) :=
  ⟨cell_of_row W X 0 _ _ (0, 0) h, cell_of_row W X 1 _ _ (0, 0) h⟩
set_option maxRecDepth 100000 in
set_option maxHeartbeats 8000000 in
theorem May_any (t : Bool) (D b n : Nat) (s : St) (i : Mg.Id4) (w : World) (hS : Hid (Set w t D b n s)) : Calls Try.prog 17 #[.pointer (some ⟨D, 0, none⟩), .agg (Mg.idC i)] w fun e w' => e = .returned (.int .i64 (mayN s i : Int)) ∧ Hid (Below w.heap.size w w') := by
  have HK := Lib.hid (fun W => Mg.Check_any i W)
  have HP := Lib.hid (fun W => placeOf_any i W)
  obtain ⟨W1, hW1⟩ : ∃ W, w.alloc (.cells (Mg.idC i) 39) = W := ⟨_, rfl⟩
  have b1 : Below w.heap.size w W1 := by rw [← hW1]; exact Me.below_alloc (Below.refl _ _)
  have r1 : W1.heap[w.heap.size]? = some (.cells (Mg.idC i) 39 (0, 0)) := by rw [← hW1]; exact heap_alloc_new w _
  have hlt : w.heap.size < W1.heap.size := (Array.getElem?_eq_some_iff.1 r1).1
  have hSW : ∀ W, Below W1.heap.size W1 W → Set W t D b n s ∧ Below w.heap.size w W ∧ W.heap[w.heap.size]? = some (.cells (Mg.idC i) 39 (0, 0)) := fun W hW => by
    have h := b1.trans (hW.mono b1.size)
    exact ⟨hS.out.below h, h, (hW.block _ hlt).trans r1⟩
  have HSW := Lib.hid hSW
  by_cases h0 : Mg.chkN i = 0
  · have hr := Mg.right_iff.1 h0
    have hp : Pp i.o i.e := ⟨hr.o0, by have := hr.o1; omega, hr.e0, hr.e1⟩
    obtain ⟨v, hv, hlk⟩ := hS.out.map.look hp
    have ho := hS.out.ok.get i.o i.e
    have hml := hS.out.ok.more_le i.o i.e
    have hg1 := hS.out.ok.g1
    have hr1 := hS.out.ok.r1
    have hM : mayN s i = if has (getM s.kept i.o i.e) i.c = true then 5 else if i.c ≠ (getM s.kept i.o i.e).up + 1 ∧ s.gaps = s.room then 6 else 0 := by unfold mayN; rw [if_neg (by simp [h0])]
    rw [hM]
    rw [h0] at HK
    have HLk : Hid (∀ W, Below W1.heap.size W1 W → (Instr.lookup 59 (.map (some b)) (.agg #[.int .i64 i.o, .int .i64 i.e]) false).run Try.prog W = .ok v W) := fun W hW => hlk W ((b1.trans (hW.mono b1.size)).block b hS.out.lt.2)
    have HHas : Hid (∀ W, Below w.heap.size w W → Calls Try.prog 34 #[v, .int .i64 i.c] W fun e w' => e = .returned (.bool (has (getM s.kept i.o i.e) i.c)) ∧ Hid (Below W.heap.size W w')) := fun W hW => has_any _ t v i.c W (hv.keep (Ints.below hW)) ho.lt (by omega)
    have hu0 := ho.u0
    have hu1 := ho.u1
    obtain ⟨A, cp, rfl, _, _⟩ := hv
    have HC : Hid (∀ W, Below W1.heap.size W1 W → W.cell? ⟨D, 0, none⟩ = some (.int .i64 s.room) ∧ W.cell? ⟨D, 1, none⟩ = some (.int .i64 s.gaps) ∧ W.cell? ⟨D, 2, none⟩ = some (.map (some b))) := fun W hW => set_cells (hSW W hW).1.box
    obtain ⟨u, hu⟩ : ∃ u, (getM s.kept i.o i.e).up = u := ⟨_, rfl⟩
    obtain ⟨N, hN⟩ : ∃ N, (getM s.kept i.o i.e).more.length = N := ⟨_, rfl⟩
    obtain ⟨hb, hhb⟩ : ∃ x, has (getM s.kept i.o i.e) i.c = x := ⟨_, rfl⟩
    obtain ⟨ga, hga⟩ : ∃ x, s.gaps = x := ⟨_, rfl⟩
    obtain ⟨ro, hro⟩ : ∃ x, s.room = x := ⟨_, rfl⟩
    simp only [hu, hN, hhb, hga, hro] at HLk HHas HC hu0 hu1 ⊢
    obtain ⟨z, hz⟩ : ∃ z : Nat, (if hb = true then 5 else if i.c ≠ u + 1 ∧ ga = ro then 6 else 0) = z := ⟨_, rfl⟩
    rw [hz]
    have HZ := Lib.hid hz
    have hid : ∀ W, Below W1.heap.size W1 W → W.cell? ⟨w.heap.size, 0, none⟩ = some (.int .i64 i.o) ∧ W.cell? ⟨w.heap.size, 1, none⟩ = some (.int .i64 i.d) ∧ W.cell? ⟨w.heap.size, 2, none⟩ = some (.int .i64 i.e) ∧ W.cell? ⟨w.heap.size, 3, none⟩ = some (.int .i64 i.c) := fun W hW => id_cells (hSW W hW).2.2
    have HID := Lib.hid hid
    have HB1 := Lib.hid b1
    have HW1 := Lib.hid hW1
    obtain ⟨o, d, ee, c⟩ := i
    simp only [Mg.idC, show ((0 : Nat) : Int) = 0 from rfl] at HK HP HID HLk HHas HW1 ⊢
    clear hz hW1 b1 r1 hlt hSW h0 hr hp hlk ho hml hg1 hr1 hM hu hN hhb hga hro hid hS HSW
    go_enter Try.func17, Try.ntmps17
    go_wp2_with (go_at_call 32; rw [HW1.out]; refine (HK.out _).mono ?_; rintro e w2 ⟨rfl, hb2⟩)
    have HS2 := Lib.hid hb2.out
    have S0 := HS2.out.drew
    rename_i Q0 K0 hA0
    refine wp_region_held_drew (S := fun W => Below W1.heap.size W1 W) (by kernel_rfl) S0 (fun hHeld => ?_)
    refine wpAnyH_take (i := 0) (v := .pointer (some ⟨D, 0, none⟩)) rfl (by kernel_rfl) (by kernel_rfl) (by kernel_rfl) (fun _ _ _ h => h) (Or.inl ⟨by rfl, ?_⟩) (by first | assumption | exact trivial) ?_
    · intro W hSW; go_simp; try (with_reducible rfl)
    simp only [Act.put, List.getElem_toArray, List.getElem_cons_succ, List.getElem_cons_zero, List.setIfInBounds_toArray, List.set_cons_zero, List.set_cons_succ]
    refine wpAnyH_take (i := 1) (v := .pointer (some ⟨D, 0, none⟩)) rfl (by kernel_rfl) (by kernel_rfl) (by kernel_rfl) (fun _ _ _ h => h) (Or.inl ⟨by rfl, ?_⟩) (by first | assumption | exact trivial) ?_
    · intro W hSW; go_simp; try (with_reducible rfl)
    simp only [Act.put, List.getElem_toArray, List.getElem_cons_succ, List.getElem_cons_zero, List.setIfInBounds_toArray, List.set_cons_zero, List.set_cons_succ]
    refine wpAnyH_take (i := 2) (v := .pointer (some ⟨D, 2, none⟩)) rfl (by kernel_rfl) (by kernel_rfl) (by kernel_rfl) (fun _ _ _ h => h) (Or.inl ⟨by rfl, ?_⟩) (by first | assumption | exact trivial) ?_
    · intro W hSW; go_simp; try (with_reducible rfl)
    simp only [Act.put, List.getElem_toArray, List.getElem_cons_succ, List.getElem_cons_zero, List.setIfInBounds_toArray, List.set_cons_zero, List.set_cons_succ]
    refine wpAnyH_take (i := 3) (v := .map (some b)) rfl (by kernel_rfl) (by kernel_rfl) (by kernel_rfl) (fun _ _ _ h => h) (Or.inl ⟨by rfl, ?_⟩) (by first | assumption | exact trivial) ?_
    · intro W hSW; obtain ⟨y0, y1, y2⟩ := HC.out W hSW; go_simp; try (with_reducible rfl)
    simp only [Act.put, List.getElem_toArray, List.getElem_cons_succ, List.getElem_cons_zero, List.setIfInBounds_toArray, List.set_cons_zero, List.set_cons_succ]
    refine wpAnyH_take (i := 4) (v := .agg #[.int .i64 o, .int .i64 d, .int .i64 ee, .int .i64 c]) rfl (by kernel_rfl) (by kernel_rfl) (by kernel_rfl) (fun _ _ _ h => h) (Or.inl ⟨by rfl, ?_⟩) (by first | assumption | exact trivial) ?_
    · intro W hSW; obtain ⟨y0, y1, y2, y3⟩ := HID.out W hSW; go_simp; try (with_reducible rfl)
    simp only [Act.put, List.getElem_toArray, List.getElem_cons_succ, List.getElem_cons_zero, List.setIfInBounds_toArray, List.set_cons_zero, List.set_cons_succ]
    have HCell := HC
    clear HC
    suffices HC : ∀ (X : Nat) (V : World), V.heap[X]? = some (.cells #[.int .i64 u, .slice A N cp] 65 (0, 0)) → Below W1.heap.size W1 V → Exit.then K0 Q0 Exit.normal ⟨#[.pointer (some ⟨D, 0, none⟩), .agg #[.int .i64 o, .int .i64 d, .int .i64 ee, .int .i64 c], undef, .pointer (some ⟨w.heap.size, 0, none⟩), .int .i64 0, .int .i64 0, .pointer (some ⟨X, 0, none⟩), .pointer (some ⟨D, 0, none⟩), .bool false, .agg #[.int .i64 o, .int .i64 d, .int .i64 ee, .int .i64 c], .int .i64 0, .int .i64 0, .bool false, undef, .pointer (some ⟨D, 0, none⟩), .pointer (some ⟨D, 0, none⟩), .pointer (some ⟨D, 2, none⟩), .map (some b), .agg #[.int .i64 o, .int .i64 d, .int .i64 ee, .int .i64 c], .agg #[.int .i64 o, .int .i64 ee], .agg #[.int .i64 u, .slice A N cp], undef, undef, undef, undef, undef, undef, undef, undef, undef, undef, undef, undef, undef, undef, undef, undef, undef, undef, undef, undef, undef, undef, undef], []⟩ V by
      refine wpAnyH_ready (rs := [5, 7]) (by kernel_rfl) (by simp) ?_
      refine AllReadyH.cons rfl (fun K hK => ?pa) (AllReadyH.cons rfl (fun K hK => ?pb) AllReadyH.nil)
      case pa =>
        go_simp
        go_wp2_with (go_at_call 33; refine (HP.out _).mono ?_; rintro e w3 ⟨rfl, hb3⟩)
        have S3 := S0.trans (hb3.out.mono S0.size)
        refine hK.out _ _ (S3) (fun hHeld => ?_)
        clear hK K
        refine wpAnyH_take (i := 6) (v := .agg #[.int .i64 u, .slice A N cp]) rfl (by kernel_rfl) (by kernel_rfl) (by kernel_rfl) (fun _ _ _ h => h) (Or.inl ⟨by rfl, ?_⟩) (by first | assumption | exact trivial) ?_
        · intro W hSW; have q := HLk.out W hSW; go_simp; try (with_reducible rfl)
        simp only [Act.put, List.getElem_toArray, List.getElem_cons_succ, List.getElem_cons_zero, List.setIfInBounds_toArray, List.set_cons_zero, List.set_cons_succ]
        refine wpAnyH_ready (rs := [7]) (by kernel_rfl) (by simp) ?_
        refine AllReadyH.cons rfl (fun K hK => ?_) AllReadyH.nil
        go_simp
        obtain ⟨V6, hV6⟩ : ∃ V, w3.alloc (.cells #[.int .i64 0, .slice none 0 0] 65) = V := ⟨_, rfl⟩
        have hb6 : Below W1.heap.size W1 V6 := by rw [← hV6]; exact Me.below_alloc S3
        have hD6 : V6.heap[w3.heap.size]? = some (.cells #[.int .i64 0, .slice none 0 0] 65 (0, 0)) := by rw [← hV6]; exact heap_alloc_new w3 _
        have hX : W1.heap.size ≤ w3.heap.size := S3.size
        obtain ⟨X, hXX⟩ : ∃ X, w3.heap.size = X := ⟨_, rfl⟩
        rw [hV6]
        rw [hXX] at hD6 hX ⊢
        clear hV6 hXX
        refine hK.out _ _ (hb6) (fun hHeld => ?_)
        clear hK K
        refine wpAnyH_ready (rs := [8]) (by kernel_rfl) (by simp) ?_
        refine AllReadyH.cons rfl (fun K hK => ?_) AllReadyH.nil
        rw [if_pos (by kernel_rfl)]
        refine wp_store_row 65 (.tmp 6) (.tmp 20) rfl X #[.int .i64 u, .slice A N cp] rfl (by rfl) 65 _ hD6 (by kernel_rfl) rfl (mk_one _ _ _ _) ?_
        simp only [Act.put, List.getElem_toArray, List.getElem_cons_succ, List.getElem_cons_zero, List.setIfInBounds_toArray, List.set_cons_zero, List.set_cons_succ]
        obtain ⟨V9, hV9⟩ : ∃ V, V6.setRow X #[.int .i64 u, .slice A N cp] = V := ⟨_, rfl⟩
        have hb9 : Below W1.heap.size W1 V9 := by rw [← hV9]; exact Sb.below_setRow _ hb6 hX
        have hD9 : V9.heap[X]? = some (.cells #[.int .i64 u, .slice A N cp] 65 (0, 0)) := by rw [← hV9]; exact setRow_heap _ _ _ _ _ _ hD6
        rw [hV9]
        clear hV9
        refine hK.out _ _ (hb9) (fun hHeld => ?_)
        clear hK K
        refine wpAnyH_done (by kernel_rfl) ?_ _
        exact HC _ _ hD9 hb9
      case pb =>
        go_simp
        obtain ⟨V6, hV6⟩ : ∃ V, (w2.alloc (.cells #[.int .i64 0, .slice none 0 0] 65)).drew = V := ⟨_, rfl⟩
        have hb6 : Below W1.heap.size W1 V6 := by rw [← hV6]; exact (Me.below_alloc HS2.out).drew
        have hD6 : V6.heap[w2.heap.size]? = some (.cells #[.int .i64 0, .slice none 0 0] 65 (0, 0)) := by rw [← hV6]; exact heap_alloc_new w2 _
        have hX : W1.heap.size ≤ w2.heap.size := HS2.out.size
        obtain ⟨X, hXX⟩ : ∃ X, w2.heap.size = X := ⟨_, rfl⟩
        rw [hV6]
        rw [hXX] at hD6 hX ⊢
        clear hV6 hXX
        refine hK.out _ _ (hb6) (fun hHeld => ?_)
        clear hK K
        refine wpAnyH_ready (rs := [5]) (by kernel_rfl) (by simp) ?_
        refine AllReadyH.cons rfl (fun K hK => ?_) AllReadyH.nil
        go_simp
        go_wp2_with (go_at_call 33; refine (HP.out _).mono ?_; rintro e w3 ⟨rfl, hb3⟩)
        have S3 := hb6.trans (hb3.out.mono hb6.size)
        have hD7 := (hb3.out.block _ (Array.getElem?_eq_some_iff.1 hD6).1).trans hD6
        clear hb6 hD6
        have hb6 := S3
        have hD6 := hD7
        clear hD7
        refine hK.out _ _ (S3) (fun hHeld => ?_)
        clear hK K
        refine wpAnyH_take (i := 6) (v := .agg #[.int .i64 u, .slice A N cp]) rfl (by kernel_rfl) (by kernel_rfl) (by kernel_rfl) (fun _ _ _ h => h) (Or.inl ⟨by rfl, ?_⟩) (by first | assumption | exact trivial) ?_
        · intro W hSW; have q := HLk.out W hSW; go_simp; try (with_reducible rfl)
        simp only [Act.put, List.getElem_toArray, List.getElem_cons_succ, List.getElem_cons_zero, List.setIfInBounds_toArray, List.set_cons_zero, List.set_cons_succ]
        refine wpAnyH_ready (rs := [8]) (by kernel_rfl) (by simp) ?_
        refine AllReadyH.cons rfl (fun K hK => ?_) AllReadyH.nil
        rw [if_pos (by kernel_rfl)]
        refine wp_store_row 65 (.tmp 6) (.tmp 20) rfl X #[.int .i64 u, .slice A N cp] rfl (by rfl) 65 _ hD6 (by kernel_rfl) rfl (mk_one _ _ _ _) ?_
        simp only [Act.put, List.getElem_toArray, List.getElem_cons_succ, List.getElem_cons_zero, List.setIfInBounds_toArray, List.set_cons_zero, List.set_cons_succ]
        obtain ⟨V9, hV9⟩ : ∃ V, w3.setRow X #[.int .i64 u, .slice A N cp] = V := ⟨_, rfl⟩
        have hb9 : Below W1.heap.size W1 V9 := by rw [← hV9]; exact Sb.below_setRow _ hb6 hX
        have hD9 : V9.heap[X]? = some (.cells #[.int .i64 u, .slice A N cp] 65 (0, 0)) := by rw [← hV9]; exact setRow_heap _ _ _ _ _ _ hD6
        rw [hV9]
        clear hV9
        refine hK.out _ _ (hb9) (fun hHeld => ?_)
        clear hK K
        refine wpAnyH_done (by kernel_rfl) ?_ _
        exact HC _ _ hD9 hb9
    intro X V hD hB
    obtain ⟨m0, m1⟩ := mark_cells hD
    have HD := Lib.hid hD
    have HXl : Hid (X < V.heap.size) := (Array.getElem?_eq_some_iff.1 hD).1
    have HB := Lib.hid hB
    have HBV : Hid (Below w.heap.size w V) := HB1.out.trans (hB.mono HB1.out.size)
    obtain ⟨i0, i1, i2, i3⟩ := HID.out V hB
    clear hD hB hHeld S0 hb2 HS2 HP HLk HK HW1
    cases hb
    · by_cases hcu : c = u + 1
      · have hz := HZ.out
        rw [if_neg (by simp), if_neg (fun h => h.1 hcu)] at hz
        subst hz
        clear HZ
        have g1 : (c == u + 1) = true := by simpa using hcu
        have g2 : (c != u + 1) = false := by simp only [bne, g1, Bool.not_true]
        clear hcu
        go_wp2_with (go_at_call 34; refine (HHas.out _ HBV.out).mono ?_; rintro e w4 ⟨rfl, hb4⟩; have hB4 := Lib.hid (HB.out.trans (hb4.out.mono HB.out.size)); obtain ⟨y0, y1, y2⟩ := HCell.out w4 hB4.out; obtain ⟨i0, i1, i2, i3⟩ := HID.out w4 hB4.out; obtain ⟨n0, n1⟩ := mark_cells ((hb4.out.block X HXl.out).trans HD.out))
        go_quiet (fail)
        go_wp2
        go_ret
        exact ⟨rfl, HB1.out.trans ((Me.below_drewN hB4.out _).mono HB1.out.size)⟩
      · have g1 : (c == u + 1) = false := by simpa using hcu
        have g2 : (c != u + 1) = true := by simp only [bne, g1, Bool.not_false]
        by_cases hgr : ga = ro
        · have hz := HZ.out
          rw [if_neg (by simp), if_pos ⟨hcu, hgr⟩] at hz
          subst hz
          clear HZ
          have g3 : (ga == ro) = true := by simpa using hgr
          clear hcu hgr
          go_wp2_with (go_at_call 34; refine (HHas.out _ HBV.out).mono ?_; rintro e w4 ⟨rfl, hb4⟩; have hB4 := Lib.hid (HB.out.trans (hb4.out.mono HB.out.size)); obtain ⟨y0, y1, y2⟩ := HCell.out w4 hB4.out; obtain ⟨i0, i1, i2, i3⟩ := HID.out w4 hB4.out; obtain ⟨n0, n1⟩ := mark_cells ((hb4.out.block X HXl.out).trans HD.out))
          go_quiet (fail)
          go_wp2
          go_ret
          exact ⟨rfl, HB1.out.trans ((Me.below_drewN hB4.out _).mono HB1.out.size)⟩
        · have hz := HZ.out
          rw [if_neg (by simp), if_neg (fun h => hgr h.2)] at hz
          subst hz
          clear HZ
          have g3 : (ga == ro) = false := by simpa using hgr
          clear hcu hgr
          go_wp2_with (go_at_call 34; refine (HHas.out _ HBV.out).mono ?_; rintro e w4 ⟨rfl, hb4⟩; have hB4 := Lib.hid (HB.out.trans (hb4.out.mono HB.out.size)); obtain ⟨y0, y1, y2⟩ := HCell.out w4 hB4.out; obtain ⟨i0, i1, i2, i3⟩ := HID.out w4 hB4.out; obtain ⟨n0, n1⟩ := mark_cells ((hb4.out.block X HXl.out).trans HD.out))
          go_quiet (fail)
          go_wp2
          go_ret
          exact ⟨rfl, HB1.out.trans ((Me.below_drewN hB4.out _).mono HB1.out.size)⟩
    · have hz := HZ.out
      rw [if_pos rfl] at hz
      subst hz
      clear HZ
      go_wp2_with (go_at_call 34; refine (HHas.out _ HBV.out).mono ?_; rintro e w4 ⟨rfl, hb4⟩; have hB4 := Lib.hid (HB.out.trans (hb4.out.mono HB.out.size)); obtain ⟨y0, y1, y2⟩ := HCell.out w4 hB4.out; obtain ⟨i0, i1, i2, i3⟩ := HID.out w4 hB4.out; obtain ⟨n0, n1⟩ := mark_cells ((hb4.out.block X HXl.out).trans HD.out))
      go_ret
      exact ⟨rfl, HB1.out.trans (hB4.out.mono HB1.out.size)⟩
  · have hM : mayN s i = Mg.chkN i := by unfold mayN; rw [if_pos h0]
    rw [hM]
    have hne := Mg.nz h0
    obtain ⟨k, hk⟩ : ∃ k, Mg.chkN i = k := ⟨_, rfl⟩
    rw [hk] at HK hne ⊢
    have HW1 := Lib.hid hW1
    obtain ⟨o, d, ee, c⟩ := i
    simp only [Mg.idC] at HK HW1 ⊢
    have HB1 := Lib.hid b1
    clear hW1 b1 r1 hlt hSW h0 hk hM hS HSW HP
    go_enter Try.func17, Try.ntmps17
    go_wp2_with (go_at_call 32; rw [HW1.out]; refine (HK.out _).mono ?_; rintro e w2 ⟨rfl, hb2⟩)
    go_ret
    exact ⟨rfl, HB1.out.trans (hb2.out.mono HB1.out.size)⟩
end Go.Proofs.Ythajocfgpodimaa.Se
