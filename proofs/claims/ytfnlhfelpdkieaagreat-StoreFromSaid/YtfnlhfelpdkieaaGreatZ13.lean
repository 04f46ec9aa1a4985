/- May. -/
import Derived.Test.YtfnlhfelpdkieaaGreatZ11
import Derived.Test.YtfnlhfelpdkieaaGreatZ8
import Derived.Test.YtfnlhfelpdkieaaGreatZ12
import Derived.Test.YtfnlhfelpdkieaaGreatZ3
import Derived.Test.YtfnlhfelpdkieaaGreatZ5
namespace Go.Proofs.YtfnlhfelpdkieaaGreat.Se
open Go.RowKit
open Go.Proofs.YtfnlhfelpdkieaaGreat.Me Go.Proofs.YtfnlhfelpdkieaaGreat.Sb
set_option linter.unusedVariables false
set_option linter.unusedSimpArgs false

set_option maxRecDepth 100000 in
set_option maxHeartbeats 4000000 in
theorem May_nil (i : Mg.Id4) (w : World) : Calls Tryz.prog 68 #[.pointer none, .agg (Mg.idC i)] w fun e w' => e = .returned (.int .i64 7) ∧ Hid (Below w.heap.size w w') := by
  obtain ⟨o, d, ee, c⟩ := i
  simp only [Mg.idC]
  have HB : Hid (Below w.heap.size w (w.alloc (.cells #[.int .i64 o, .int .i64 d, .int .i64 ee, .int .i64 c] 43))) := Me.below_alloc (Below.refl _ _)
  go_enter Tryz.func68, Tryz.ntmps68
  go_wp2
  go_ret
  exact ⟨rfl, HB.out⟩
theorem mark_cells {W : World} {X : Nat} {u : Int} {A : Option Addr} {n c : Nat} (h : W.heap[X]? = some (.cells #[.int .i64 u, .slice A n c] 126 (0, 0))) : W.cell? ⟨X, 0, none⟩ = some (.int .i64 u) ∧ W.cell? ⟨X, 1, none⟩ = some (.slice A n c) :=
  ⟨cell_of_row W X 0 _ _ (0, 0) h, cell_of_row W X 1 _ _ (0, 0) h⟩
set_option maxRecDepth 100000 in
set_option maxHeartbeats 8000000 in
theorem May_any (t : Bool) (D b n : Nat) (s : St) (i : Mg.Id4) (w : World) (hS : Hid (Set w t D b n s)) : Calls Tryz.prog 68 #[.pointer (some ⟨D, 0, none⟩), .agg (Mg.idC i)] w fun e w' => e = .returned (.int .i64 (mayN s i : Int)) ∧ Hid (Below w.heap.size w w') := by
  have HK := Lib.hid (fun W => Mg.Check_any i W)
  have HP := Lib.hid (fun W => placeOf_any i W)
  obtain ⟨W1, hW1⟩ : ∃ W, w.alloc (.cells (Mg.idC i) 43) = W := ⟨_, rfl⟩
  have b1 : Below w.heap.size w W1 := by rw [← hW1]; exact Me.below_alloc (Below.refl _ _)
  have r1 : W1.heap[w.heap.size]? = some (.cells (Mg.idC i) 43 (0, 0)) := by rw [← hW1]; exact heap_alloc_new w _
  have hlt : w.heap.size < W1.heap.size := (Array.getElem?_eq_some_iff.1 r1).1
  have hSW : ∀ W, Below W1.heap.size W1 W → Set W t D b n s ∧ Below w.heap.size w W ∧ W.heap[w.heap.size]? = some (.cells (Mg.idC i) 43 (0, 0)) := fun W hW => by
    have h := b1.trans (hW.mono b1.size)
    exact ⟨hS.out.below h, h, (hW.block _ hlt).trans r1⟩
  have HSW := Lib.hid hSW
  by_cases h0 : Mg.chkN i = 0
  · have hr := Mg.right_iff.1 h0
    have hp : Pp i.o i.e := ⟨hr.o0, by have := hr.o1; omega, hr.e0, hr.e1⟩
    obtain ⟨v, hv, hlk⟩ := hS.out.map.look hp
    have ho := hS.out.ok.get i.o i.e
    have hml := hS.out.ok.more_le i.o i.e
    have hg1 := hS.out.ok.g1
    have hr1 := hS.out.ok.r1
    have hM : mayN s i = if has (getM s.kept i.o i.e) i.c = true then 5 else if i.c ≠ (getM s.kept i.o i.e).up + 1 ∧ s.gaps = s.room then 6 else 0 := by unfold mayN; rw [if_neg (by simp [h0])]
    rw [hM]
    rw [h0] at HK
    have HLk : Hid (∀ W, Below W1.heap.size W1 W → (Instr.lookup 115 (.map (some b)) (.agg #[.int .i64 i.o, .int .i64 i.e]) false).run Tryz.prog W = .ok v W) := fun W hW => hlk W ((b1.trans (hW.mono b1.size)).block b hS.out.lt.2)
    have HHas : Hid (∀ W, Below w.heap.size w W → Calls Tryz.prog 94 #[v, .int .i64 i.c] W fun e w' => e = .returned (.bool (has (getM s.kept i.o i.e) i.c)) ∧ Hid (Below W.heap.size W w')) := fun W hW => has_any _ t v i.c W (hv.keep (Ints.below hW)) ho.lt (by omega)
    have hu0 := ho.u0
    have hu1 := ho.u1
    obtain ⟨A, cp, rfl, _, _⟩ := hv
    have HC : Hid (∀ W, Below W1.heap.size W1 W → W.cell? ⟨D, 0, none⟩ = some (.int .i64 s.room) ∧ W.cell? ⟨D, 1, none⟩ = some (.int .i64 s.gaps) ∧ W.cell? ⟨D, 2, none⟩ = some (.map (some b))) := fun W hW => set_cells (hSW W hW).1.box
    obtain ⟨u, hu⟩ : ∃ u, (getM s.kept i.o i.e).up = u := ⟨_, rfl⟩
    obtain ⟨N, hN⟩ : ∃ N, (getM s.kept i.o i.e).more.length = N := ⟨_, rfl⟩
    obtain ⟨hb, hhb⟩ : ∃ x, has (getM s.kept i.o i.e) i.c = x := ⟨_, rfl⟩
    obtain ⟨ga, hga⟩ : ∃ x, s.gaps = x := ⟨_, rfl⟩
    obtain ⟨ro, hro⟩ : ∃ x, s.room = x := ⟨_, rfl⟩
    simp only [hu, hN, hhb, hga, hro] at HLk HHas HC hu0 hu1 ⊢
    obtain ⟨z, hz⟩ : ∃ z : Nat, (if hb = true then 5 else if i.c ≠ u + 1 ∧ ga = ro then 6 else 0) = z := ⟨_, rfl⟩
    rw [hz]
    have HZ := Lib.hid hz
    have hid : ∀ W, Below W1.heap.size W1 W → W.cell? ⟨w.heap.size, 0, none⟩ = some (.int .i64 i.o) ∧ W.cell? ⟨w.heap.size, 1, none⟩ = some (.int .i64 i.d) ∧ W.cell? ⟨w.heap.size, 2, none⟩ = some (.int .i64 i.e) ∧ W.cell? ⟨w.heap.size, 3, none⟩ = some (.int .i64 i.c) := fun W hW => id_cells (hSW W hW).2.2
    have HID := Lib.hid hid
    have HB1 := Lib.hid b1
    have HW1 := Lib.hid hW1
    obtain ⟨o, d, ee, c⟩ := i
    simp only [Mg.idC, show ((0 : Nat) : Int) = 0 from rfl] at HK HP HID HLk HHas HW1 ⊢
    clear hz hW1 b1 r1 hlt hSW h0 hr hp hlk ho hml hg1 hr1 hM hu hN hhb hga hro hid hS HSW
    go_enter Tryz.func68, Tryz.ntmps68
    go_wp2_with (go_at_call 78; rw [HW1.out]; refine (HK.out _).mono ?_; rintro e w2 ⟨rfl, hb2⟩)
    have HS2 := Lib.hid hb2.out
    have S0 := HS2.out.drew
    rename_i Q0 K0 hA0
    refine wp_region_held_drew (S := fun W => Below W1.heap.size W1 W) (by kernel_rfl) S0 (fun hHeld => ?_)
    refine wpAnyH_take (i := 0) (v := .pointer (some ⟨D, 0, none⟩)) rfl (by kernel_rfl) (by kernel_rfl) (by kernel_rfl) (fun _ _ _ h => h) (Or.inl ⟨by rfl, ?_⟩) (by first | assumption | exact trivial) ?_
    · intro W hSW; go_simp; try (with_reducible rfl)
    simp only [Act.put, List.getElem_toArray, List.getElem_cons_succ, List.getElem_cons_zero, List.setIfInBounds_toArray, List.set_cons_zero, List.set_cons_succ]
    refine wpAnyH_take (i := 1) (v := .pointer (some ⟨D, 0, none⟩)) rfl (by kernel_rfl) (by kernel_rfl) (by kernel_rfl) (fun _ _ _ h => h) (Or.inl ⟨by rfl, ?_⟩) (by first | assumption | exact trivial) ?_
    · intro W hSW; go_simp; try (with_reducible rfl)
    simp only [Act.put, List.getElem_toArray, List.getElem_cons_succ, List.getElem_cons_zero, List.setIfInBounds_toArray, List.set_cons_zero, List.set_cons_succ]
    refine wpAnyH_take (i := 2) (v := .pointer (some ⟨D, 2, none⟩)) rfl (by kernel_rfl) (by kernel_rfl) (by kernel_rfl) (fun _ _ _ h => h) (Or.inl ⟨by rfl, ?_⟩) (by first | assumption | exact trivial) ?_
    · intro W hSW; go_simp; try (with_reducible rfl)
    simp only [Act.put, List.getElem_toArray, List.getElem_cons_succ, List.getElem_cons_zero, List.setIfInBounds_toArray, List.set_cons_zero, List.set_cons_succ]
    refine wpAnyH_take (i := 3) (v := .map (some b)) rfl (by kernel_rfl) (by kernel_rfl) (by kernel_rfl) (fun _ _ _ h => h) (Or.inl ⟨by rfl, ?_⟩) (by first | assumption | exact trivial) ?_
    · intro W hSW; obtain ⟨y0, y1, y2⟩ := HC.out W hSW; go_simp; try (with_reducible rfl)
    simp only [Act.put, List.getElem_toArray, List.getElem_cons_succ, List.getElem_cons_zero, List.setIfInBounds_toArray, List.set_cons_zero, List.set_cons_succ]
    refine wpAnyH_take (i := 4) (v := .agg #[.int .i64 o, .int .i64 d, .int .i64 ee, .int .i64 c]) rfl (by kernel_rfl) (by kernel_rfl) (by kernel_rfl) (fun _ _ _ h => h) (Or.inl ⟨by rfl, ?_⟩) (by first | assumption | exact trivial) ?_
    · intro W hSW; obtain ⟨y0, y1, y2, y3⟩ := HID.out W hSW; go_simp; try (with_reducible rfl)
    simp only [Act.put, List.getElem_toArray, List.getElem_cons_succ, List.getElem_cons_zero, List.setIfInBounds_toArray, List.set_cons_zero, List.set_cons_succ]
    have HCell := HC
    clear HC
    suffices HC : ∀ (X : Nat) (V : World), V.heap[X]? = some (.cells #[.int .i64 u, .slice A N cp] 126 (0, 0)) → Below W1.heap.size W1 V → Exit.then K0 Q0 Exit.normal ⟨#[.pointer (some ⟨D, 0, none⟩), .agg #[.int .i64 o, .int .i64 d, .int .i64 ee, .int .i64 c], undef, .pointer (some ⟨w.heap.size, 0, none⟩), .int .i64 0, .int .i64 0, .pointer (some ⟨X, 0, none⟩), .pointer (some ⟨D, 0, none⟩), .bool false, .agg #[.int .i64 o, .int .i64 d, .int .i64 ee, .int .i64 c], .int .i64 0, .int .i64 0, .bool false, undef, .pointer (some ⟨D, 0, none⟩), .pointer (some ⟨D, 0, none⟩), .pointer (some ⟨D, 2, none⟩), .map (some b), .agg #[.int .i64 o, .int .i64 d, .int .i64 ee, .int .i64 c], .agg #[.int .i64 o, .int .i64 ee], .agg #[.int .i64 u, .slice A N cp], undef, undef, undef, undef, undef, undef, undef, undef, undef, undef, undef, undef, undef, undef, undef, undef, undef, undef, undef, undef, undef, undef, undef], []⟩ V by
      refine wpAnyH_ready (rs := [5, 7]) (by kernel_rfl) (by simp) ?_
      refine AllReadyH.cons rfl (fun K hK => ?pa) (AllReadyH.cons rfl (fun K hK => ?pb) AllReadyH.nil)
      case pa =>
        go_simp
        go_wp2_with (go_at_call 69; refine (HP.out _).mono ?_; rintro e w3 ⟨rfl, hb3⟩)
        have S3 := S0.trans (hb3.out.mono S0.size)
        refine hK.out _ _ (S3) (fun hHeld => ?_)
        clear hK K
        refine wpAnyH_take (i := 6) (v := .agg #[.int .i64 u, .slice A N cp]) rfl (by kernel_rfl) (by kernel_rfl) (by kernel_rfl) (fun _ _ _ h => h) (Or.inl ⟨by rfl, ?_⟩) (by first | assumption | exact trivial) ?_
        · intro W hSW; have q := HLk.out W hSW; go_simp; try (with_reducible rfl)
        simp only [Act.put, List.getElem_toArray, List.getElem_cons_succ, List.getElem_cons_zero, List.setIfInBounds_toArray, List.set_cons_zero, List.set_cons_succ]
        refine wpAnyH_ready (rs := [7]) (by kernel_rfl) (by simp) ?_
        refine AllReadyH.cons rfl (fun K hK => ?_) AllReadyH.nil
        go_simp
        obtain ⟨V6, hV6⟩ : ∃ V, w3.alloc (.cells #[.int .i64 0, .slice none 0 0] 126) = V := ⟨_, rfl⟩
        have hb6 : Below W1.heap.size W1 V6 := by rw [← hV6]; exact Me.below_alloc S3
        have hD6 : V6.heap[w3.heap.size]? = some (.cells #[.int .i64 0, .slice none 0 0] 126 (0, 0)) := by rw [← hV6]; exact heap_alloc_new w3 _
        have hX : W1.heap.size ≤ w3.heap.size := S3.size
        obtain ⟨X, hXX⟩ : ∃ X, w3.heap.size = X := ⟨_, rfl⟩
        rw [hV6]
        rw [hXX] at hD6 hX ⊢
        clear hV6 hXX
        refine hK.out _ _ (hb6) (fun hHeld => ?_)
        clear hK K
        refine wpAnyH_ready (rs := [8]) (by kernel_rfl) (by simp) ?_
        refine AllReadyH.cons rfl (fun K hK => ?_) AllReadyH.nil
        rw [if_pos (by kernel_rfl)]
        refine wp_store_row 126 (.tmp 6) (.tmp 20) rfl X #[.int .i64 u, .slice A N cp] rfl (by rfl) 126 _ hD6 (by kernel_rfl) rfl (mk_one _ _ _ _) ?_
        simp only [Act.put, List.getElem_toArray, List.getElem_cons_succ, List.getElem_cons_zero, List.setIfInBounds_toArray, List.set_cons_zero, List.set_cons_succ]
        obtain ⟨V9, hV9⟩ : ∃ V, V6.setRow X #[.int .i64 u, .slice A N cp] = V := ⟨_, rfl⟩
        have hb9 : Below W1.heap.size W1 V9 := by rw [← hV9]; exact Sb.below_setRow _ hb6 hX
        have hD9 : V9.heap[X]? = some (.cells #[.int .i64 u, .slice A N cp] 126 (0, 0)) := by rw [← hV9]; exact setRow_heap _ _ _ _ _ _ hD6
        rw [hV9]
        clear hV9
        refine hK.out _ _ (hb9) (fun hHeld => ?_)
        clear hK K
        refine wpAnyH_done (by kernel_rfl) ?_ _
        exact HC _ _ hD9 hb9
      case pb =>
        go_simp
        obtain ⟨V6, hV6⟩ : ∃ V, (w2.alloc (.cells #[.int .i64 0, .slice none 0 0] 126)).drew = V := ⟨_, rfl⟩
        have hb6 : Below W1.heap.size W1 V6 := by rw [← hV6]; exact (Me.below_alloc HS2.out).drew
        have hD6 : V6.heap[w2.heap.size]? = some (.cells #[.int .i64 0, .slice none 0 0] 126 (0, 0)) := by rw [← hV6]; exact heap_alloc_new w2 _
        have hX : W1.heap.size ≤ w2.heap.size := HS2.out.size
        obtain ⟨X, hXX⟩ : ∃ X, w2.heap.size = X := ⟨_, rfl⟩
        rw [hV6]
        rw [hXX] at hD6 hX ⊢
        clear hV6 hXX
        refine hK.out _ _ (hb6) (fun hHeld => ?_)
        clear hK K
        refine wpAnyH_ready (rs := [5]) (by kernel_rfl) (by simp) ?_
        refine AllReadyH.cons rfl (fun K hK => ?_) AllReadyH.nil
        go_simp
        go_wp2_with (go_at_call 69; refine (HP.out _).mono ?_; rintro e w3 ⟨rfl, hb3⟩)
        have S3 := hb6.trans (hb3.out.mono hb6.size)
        have hD7 := (hb3.out.block _ (Array.getElem?_eq_some_iff.1 hD6).1).trans hD6
        clear hb6 hD6
        have hb6 := S3
        have hD6 := hD7
        clear hD7
        refine hK.out _ _ (S3) (fun hHeld => ?_)
        clear hK K
        refine wpAnyH_take (i := 6) (v := .agg #[.int .i64 u, .slice A N cp]) rfl (by kernel_rfl) (by kernel_rfl) (by kernel_rfl) (fun _ _ _ h => h) (Or.inl ⟨by rfl, ?_⟩) (by first | assumption | exact trivial) ?_
        · intro W hSW; have q := HLk.out W hSW; go_simp; try (with_reducible rfl)
        simp only [Act.put, List.getElem_toArray, List.getElem_cons_succ, List.getElem_cons_zero, List.setIfInBounds_toArray, List.set_cons_zero, List.set_cons_succ]
        refine wpAnyH_ready (rs := [8]) (by kernel_rfl) (by simp) ?_
        refine AllReadyH.cons rfl (fun K hK => ?_) AllReadyH.nil
        rw [if_pos (by kernel_rfl)]
        refine wp_store_row 126 (.tmp 6) (.tmp 20) rfl X #[.int .i64 u, .slice A N cp] rfl (by rfl) 126 _ hD6 (by kernel_rfl) rfl (mk_one _ _ _ _) ?_
        simp only [Act.put, List.getElem_toArray, List.getElem_cons_succ, List.getElem_cons_zero, List.setIfInBounds_toArray, List.set_cons_zero, List.set_cons_succ]
        obtain ⟨V9, hV9⟩ : ∃ V, w3.setRow X #[.int .i64 u, .slice A N cp] = V := ⟨_, rfl⟩
        have hb9 : Below W1.heap.size W1 V9 := by rw [← hV9]; exact Sb.below_setRow _ hb6 hX
        have hD9 : V9.heap[X]? = some (.cells #[.int .i64 u, .slice A N cp] 126 (0, 0)) := by rw [← hV9]; exact setRow_heap _ _ _ _ _ _ hD6
        rw [hV9]
        clear hV9
        refine hK.out _ _ (hb9) (fun hHeld => ?_)
        clear hK K
        refine wpAnyH_done (by kernel_rfl) ?_ _
        exact HC _ _ hD9 hb9
    intro X V hD hB
    obtain ⟨m0, m1⟩ := mark_cells hD
    have HD := Lib.hid hD
    have HXl : Hid (X < V.heap.size) := (Array.getElem?_eq_some_iff.1 hD).1
    have HB := Lib.hid hB
    have HBV : Hid (Below w.heap.size w V) := HB1.out.trans (hB.mono HB1.out.size)
    obtain ⟨i0, i1, i2, i3⟩ := HID.out V hB
    clear hD hB hHeld S0 hb2 HS2 HP HLk HK HW1
    cases hb
    · by_cases hcu : c = u + 1
      · have hz := HZ.out
        rw [if_neg (by simp), if_neg (fun h => h.1 hcu)] at hz
        subst hz
        clear HZ
        have g1 : (c == u + 1) = true := by simpa using hcu
        have g2 : (c != u + 1) = false := by simp only [bne, g1, Bool.not_true]
        clear hcu
        go_wp2_with (go_at_call 94; refine (HHas.out _ HBV.out).mono ?_; rintro e w4 ⟨rfl, hb4⟩; have hB4 := Lib.hid (HB.out.trans (hb4.out.mono HB.out.size)); obtain ⟨y0, y1, y2⟩ := HCell.out w4 hB4.out; obtain ⟨i0, i1, i2, i3⟩ := HID.out w4 hB4.out; obtain ⟨n0, n1⟩ := mark_cells ((hb4.out.block X HXl.out).trans HD.out))
        go_quiet (fail)
        go_wp2
        go_ret
        exact ⟨rfl, HB1.out.trans ((Me.below_drewN hB4.out _).mono HB1.out.size)⟩
      · have g1 : (c == u + 1) = false := by simpa using hcu
        have g2 : (c != u + 1) = true := by simp only [bne, g1, Bool.not_false]
        by_cases hgr : ga = ro
        · have hz := HZ.out
          rw [if_neg (by simp), if_pos ⟨hcu, hgr⟩] at hz
          subst hz
          clear HZ
          have g3 : (ga == ro) = true := by simpa using hgr
          clear hcu hgr
          go_wp2_with (go_at_call 94; refine (HHas.out _ HBV.out).mono ?_; rintro e w4 ⟨rfl, hb4⟩; have hB4 := Lib.hid (HB.out.trans (hb4.out.mono HB.out.size)); obtain ⟨y0, y1, y2⟩ := HCell.out w4 hB4.out; obtain ⟨i0, i1, i2, i3⟩ := HID.out w4 hB4.out; obtain ⟨n0, n1⟩ := mark_cells ((hb4.out.block X HXl.out).trans HD.out))
          go_quiet (fail)
          go_wp2
          go_ret
          exact ⟨rfl, HB1.out.trans ((Me.below_drewN hB4.out _).mono HB1.out.size)⟩
        · have hz := HZ.out
          rw [if_neg (by simp), if_neg (fun h => hgr h.2)] at hz
          subst hz
          clear HZ
          have g3 : (ga == ro) = false := by simpa using hgr
          clear hcu hgr
          go_wp2_with (go_at_call 94; refine (HHas.out _ HBV.out).mono ?_; rintro e w4 ⟨rfl, hb4⟩; have hB4 := Lib.hid (HB.out.trans (hb4.out.mono HB.out.size)); obtain ⟨y0, y1, y2⟩ := HCell.out w4 hB4.out; obtain ⟨i0, i1, i2, i3⟩ := HID.out w4 hB4.out; obtain ⟨n0, n1⟩ := mark_cells ((hb4.out.block X HXl.out).trans HD.out))
          go_quiet (fail)
          go_wp2
          go_ret
          exact ⟨rfl, HB1.out.trans ((Me.below_drewN hB4.out _).mono HB1.out.size)⟩
    · have hz := HZ.out
      rw [if_pos rfl] at hz
      subst hz
      clear HZ
      go_wp2_with (go_at_call 94; refine (HHas.out _ HBV.out).mono ?_; rintro e w4 ⟨rfl, hb4⟩; have hB4 := Lib.hid (HB.out.trans (hb4.out.mono HB.out.size)); obtain ⟨y0, y1, y2⟩ := HCell.out w4 hB4.out; obtain ⟨i0, i1, i2, i3⟩ := HID.out w4 hB4.out; obtain ⟨n0, n1⟩ := mark_cells ((hb4.out.block X HXl.out).trans HD.out))
      go_ret
      exact ⟨rfl, HB1.out.trans (hB4.out.mono HB1.out.size)⟩
  · have hM : mayN s i = Mg.chkN i := by unfold mayN; rw [if_pos h0]
    rw [hM]
    have hne := Mg.nz h0
    obtain ⟨k, hk⟩ : ∃ k, Mg.chkN i = k := ⟨_, rfl⟩
    rw [hk] at HK hne ⊢
    have HW1 := Lib.hid hW1
    obtain ⟨o, d, ee, c⟩ := i
    simp only [Mg.idC] at HK HW1 ⊢
    have HB1 := Lib.hid b1
    clear hW1 b1 r1 hlt hSW h0 hk hM hS HSW HP
    go_enter Tryz.func68, Tryz.ntmps68
    go_wp2_with (go_at_call 78; rw [HW1.out]; refine (HK.out _).mono ?_; rintro e w2 ⟨rfl, hb2⟩)
    go_ret
    exact ⟨rfl, HB1.out.trans (hb2.out.mono HB1.out.size)⟩
end Go.Proofs.YtfnlhfelpdkieaaGreat.Se
/- Marks of a set. -/
namespace Go.Proofs.YtfnlhfelpdkieaaGreat.Se
open Go.RowKit
open Go.Proofs.YtfnlhfelpdkieaaGreat.Me Go.Proofs.YtfnlhfelpdkieaaGreat.Sb
set_option linter.unusedVariables false
set_option linter.unusedSimpArgs false

/-- The mark that is told of a place. -/
def mrOf (kept : Int → Int → Option Mk) (p : Int × Int) : Mr := ⟨p.1, p.2, (getM kept p.1 p.2).up, (getM kept p.1 p.2).more⟩
theorem Sl.rd {w : World} {A : Option Addr} {c : Nat} {l : List Int} (h : Sl w A c l) : Mi.Rd w w.heap.size A l := by
  intro hl
  cases A with
  | none => have := (h.2.2.1 rfl).1; subst this; simp at hl
  | some a =>
    obtain ⟨g, off, e, ⟨cur, hc⟩, hr⟩ := h.2.2.2 a rfl
    exact ⟨g, off, by rw [e], (Array.getElem?_eq_some_iff.1 hc).1, fun i hi => hr i hi⟩
theorem takeP_snoc {α : Type} {L : List α} {j : Nat} {p : α} (h : L[j]? = some p) : L.take (j + 1) = L.take j ++ [p] := by
  obtain ⟨h1, h2⟩ := List.getElem?_eq_some_iff.1 h
  rw [List.take_add_one, h]; rfl
theorem own_ne_ty {w : World} {B T T' s n x : Nat} {v : Value} {xs : List Value} {cs : Array Value} {fr : Nat × Nat} (h : w.ownsRow B T s v n xs) (hx : w.heap[x]? = some (.cells cs T' fr)) (hT : T ≠ T') : some x ≠ v.ownBlock := by
  intro e
  rcases h.2 with ⟨rfl, _⟩ | ⟨g, cap, cur, rfl, _, h3, _⟩
  · simp [Value.ownBlock] at e
  · obtain rfl : x = g := by simpa [Value.ownBlock] using e
    rw [h3] at hx
    simp at hx
    exact hT hx.2.1
theorem MarksNil_any (w : World) : Calls Tryz.prog 45 #[.pointer none] w fun e w' => e = .returned (.slice none 0 0) ∧ w' = w := by
  go_enter Tryz.func45, Tryz.ntmps45
  go_wp2
  go_ret
  exact ⟨rfl, rfl⟩
set_option maxRecDepth 100000 in
set_option maxHeartbeats 8000000 in
theorem Marks_any (t : Bool) (D b n : Nat) (s : St) (w : World) (hS : Hid (Set w t D b n s)) (hn : n ≤ 5000000) : Calls Tryz.prog 45 #[.pointer (some ⟨D, 0, none⟩)] w fun e w' => ∃ v P L, e = .returned v ∧ Hid (Mw w' w.heap.size v P) ∧ Hid (Below w.heap.size w w') ∧ Hid (Ord s.kept n L) ∧ Hid (P.map Pm.m = L.map (mrOf s.kept)) := by
  have hbK : Below w.heap.size w (w.alloc (.cells #[.map (some b)] 115)) := Me.below_alloc (Below.refl _ _)
  have HK := Lib.hid (fun W => Keys_any b W)
  have HSK := Lib.hid (Sorted_keys w.heap.size b n w (w.alloc (.cells #[.map (some b)] 115)) s.kept hS.out.map hn (Boxed.new w _ _) (hbK.block b hS.out.lt.2))
  obtain ⟨y0, y1, y2⟩ := set_cells hS.out.box
  have HBK := Lib.hid hbK
  clear hbK
  go_enter Tryz.func45, Tryz.ntmps45
  go_wp2_with (first
    | (go_at_call 74; refine (HK.out _).mono ?_; rintro e w' ⟨rfl, rfl⟩)
    | (go_at_call 73; refine HSK.out.mono ?_; rintro e W1 ⟨vL, L, rfl, hR, hB, hO⟩; obtain ⟨A, cL, rfl, hc1, hc2, hR2⟩ := hR.out; have HR := Lib.hid hR; clear hc1 hc2 hR2 hR))
  have HB1 : Hid (Below w.heap.size w W1) := HBK.out.trans (hB.out.mono HBK.out.size)
  have hle := hO.out.le
  obtain ⟨N, hN⟩ : ∃ N, L.length = N := ⟨_, rfl⟩
  rw [hN] at HR hle ⊢
  have HN := Lib.hid hN
  have HS1 : Hid (Set W1 t D b n s) := hS.out.below HB1.out
  clear hN hB HSK HK HBK y0 y1 y2
  go_loopw [3, 16] (fun v3 v16 wr => ∃ (j : Nat) (P : List Pm), j ≤ N ∧ v16 = .int .i64 (j : Int) ∧ Hid (Mw wr W1.heap.size v3 P) ∧ Hid (P.map Pm.m = (L.take j).map (mrOf s.kept)) ∧ Hid (P.length = j) ∧ Hid (Below W1.heap.size W1 wr)) (fun _ v16 _ => N - (intOf v16).toNat)
  case atStart => exact ⟨0, [], by omega, rfl, Mw.nil _ _, (by show _ = _; simp), rfl, Below.refl _ _⟩
  case round =>
    obtain ⟨j, P, hj, rfl, HM, HP, HL, HBr⟩ := hrel
    by_cases hlt : j < N
    · obtain ⟨p, hp⟩ : ∃ p, L[j]? = some p := ⟨_, List.getElem?_eq_getElem (by have := HN.out; omega)⟩
      have hpp := (hO.out.all p (List.mem_of_getElem? hp)).1
      obtain ⟨A', c', e', h1, h2, h3⟩ := HR.out.below HBr.out
      injection e' with e1 e2 e3
      subst e1
      obtain ⟨g, rfl, hg1, hg2, x0, x1⟩ := h3 j p hp
      clear h1 h2 h3 e2 e3 c' hg1 hg2
      have HTK := Lib.hid (takeP_snoc hp)
      obtain ⟨o, e⟩ := p
      have HMR : Hid (mrOf s.kept (o, e) = ⟨o, e, (getM s.kept o e).up, (getM s.kept o e).more⟩) := rfl
      obtain ⟨v, hv, hlk⟩ := HS1.out.map.look hpp
      have hml := HS1.out.ok.more_le o e
      have hg1 := HS1.out.ok.g1
      have hr1 := HS1.out.ok.r1
      obtain ⟨Am, cm, rfl, _, hsl⟩ := hv
      have HLk : Hid (∀ W, Below W1.heap.size W1 W → (Instr.lookup 115 (.map (some b)) (.agg #[.int .i64 o, .int .i64 e]) false).run Tryz.prog W = .ok _ W) := fun W hW => hlk W (hW.block b HS1.out.lt.2)
      have HC : Hid (∀ W, Below W1.heap.size W1 W → W.cell? ⟨D, 0, none⟩ = some (.int .i64 s.room) ∧ W.cell? ⟨D, 1, none⟩ = some (.int .i64 s.gaps) ∧ W.cell? ⟨D, 2, none⟩ = some (.map (some b))) := fun W hW => set_cells (HS1.out.below hW).box
      have HCl : Hid (∀ W, Below W1.heap.size W1 W → Calls Tryz.prog 76 #[.slice Am (getM s.kept o e).more.length cm] W fun e' w' => ∃ v, e' = .returned v ∧ Hid (Mi.Own w' W.heap.size v (getM s.kept o e).more) ∧ Hid (Below W.heap.size W w')) := fun W hW => IClone_any Am cm W1.heap.size _ W (hsl.rd.below hW) (fun h => ⟨by rw [(hsl.2.2.1 h).1]; rfl, (hsl.2.2.1 h).2⟩) hW.size (by omega)
      obtain ⟨u, hu⟩ : ∃ u, (getM s.kept o e).up = u := ⟨_, rfl⟩
      obtain ⟨ml, hme⟩ : ∃ ml, (getM s.kept o e).more = ml := ⟨_, rfl⟩
      rw [hu, hme] at HMR HLk
      rw [hme] at HCl
      obtain ⟨M, hM⟩ : ∃ M, ml.length = M := ⟨_, rfl⟩
      rw [hM] at HLk HCl
      have HMM := Lib.hid hM
      have hP1 : P.length ≤ 10000000 := by have := HL.out; omega
      have HP1 := Lib.hid hP1
      have hX1 : Below wr.heap.size wr (wr.alloc (.cells #[.int .i64 o, .int .i64 e] 128)) := Me.below_alloc (Below.refl _ _)
      have hXp : (wr.alloc (.cells #[.int .i64 o, .int .i64 e] 128)).heap[wr.heap.size]? = some (.cells #[.int .i64 o, .int .i64 e] 128 (0, 0)) := heap_alloc_new wr _
      have HX1 := Lib.hid hX1
      have HXp := Lib.hid hXp
      have hjn : (j : Int) < (N : Int) := by omega
      clear hp hpp hlk hml hg1 hr1 hsl hu hme hM hX1 hXp hP1
      go_wp2
      have S0 : Below wr.heap.size wr (wr.alloc (.cells #[.int .i64 o, .int .i64 e] 128)).drew ∧ (wr.alloc (.cells #[.int .i64 o, .int .i64 e] 128)).drew.heap[wr.heap.size]? = some (.cells #[.int .i64 o, .int .i64 e] 128 (0, 0)) := ⟨HX1.out.drew, HXp.out⟩
      clear x0 x1
      refine wp_region_held_drew (S := fun W => Below wr.heap.size wr W ∧ W.heap[wr.heap.size]? = some (.cells #[.int .i64 o, .int .i64 e] 128 (0, 0))) (by kernel_rfl) S0 (fun hHeld => ?_)
      have HW1 : Hid (∀ W, Below wr.heap.size wr W → Below W1.heap.size W1 W) := fun W hW => HBr.out.trans (hW.mono HBr.out.size)
      refine wpAnyH_take (i := 0) (v := .pointer (some ⟨D, 0, none⟩)) rfl (by kernel_rfl) (by kernel_rfl) (by kernel_rfl) (fun _ _ _ h => h) (Or.inl ⟨by rfl, ?_⟩) (by first | assumption | exact trivial) ?_
      · intro W hSW; go_simp; try (with_reducible rfl)
      simp only [Act.put, List.getElem_toArray, List.getElem_cons_succ, List.getElem_cons_zero, List.setIfInBounds_toArray, List.set_cons_zero, List.set_cons_succ]
      refine wpAnyH_take (i := 1) (v := .pointer (some ⟨D, 0, none⟩)) rfl (by kernel_rfl) (by kernel_rfl) (by kernel_rfl) (fun _ _ _ h => h) (Or.inl ⟨by rfl, ?_⟩) (by first | assumption | exact trivial) ?_
      · intro W hSW; go_simp; try (with_reducible rfl)
      simp only [Act.put, List.getElem_toArray, List.getElem_cons_succ, List.getElem_cons_zero, List.setIfInBounds_toArray, List.set_cons_zero, List.set_cons_succ]
      refine wpAnyH_take (i := 2) (v := .pointer (some ⟨D, 2, none⟩)) rfl (by kernel_rfl) (by kernel_rfl) (by kernel_rfl) (fun _ _ _ h => h) (Or.inl ⟨by rfl, ?_⟩) (by first | assumption | exact trivial) ?_
      · intro W hSW; go_simp; try (with_reducible rfl)
      simp only [Act.put, List.getElem_toArray, List.getElem_cons_succ, List.getElem_cons_zero, List.setIfInBounds_toArray, List.set_cons_zero, List.set_cons_succ]
      refine wpAnyH_take (i := 3) (v := .map (some b)) rfl (by kernel_rfl) (by kernel_rfl) (by kernel_rfl) (fun _ _ _ h => h) (Or.inl ⟨by rfl, ?_⟩) (by first | assumption | exact trivial) ?_
      · intro W hSW; obtain ⟨y0, y1, y2⟩ := HC.out W (HW1.out W hSW.1); go_simp; try (with_reducible rfl)
      simp only [Act.put, List.getElem_toArray, List.getElem_cons_succ, List.getElem_cons_zero, List.setIfInBounds_toArray, List.set_cons_zero, List.set_cons_succ]
      refine wpAnyH_take (i := 4) (v := .agg #[.int .i64 o, .int .i64 e]) rfl (by kernel_rfl) (by kernel_rfl) (by kernel_rfl) (fun _ _ _ h => h) (Or.inl ⟨by rfl, ?_⟩) (by first | assumption | exact trivial) ?_
      · intro W hSW; have x0 := cell_of_row W wr.heap.size 0 _ _ (0, 0) hSW.2; have x1 := cell_of_row W wr.heap.size 1 _ _ (0, 0) hSW.2; go_simp; try (with_reducible rfl)
      simp only [Act.put, List.getElem_toArray, List.getElem_cons_succ, List.getElem_cons_zero, List.setIfInBounds_toArray, List.set_cons_zero, List.set_cons_succ]
      refine wpAnyH_take (i := 5) (v := .agg #[.int .i64 u, .slice Am M cm]) rfl (by kernel_rfl) (by kernel_rfl) (by kernel_rfl) (fun _ _ _ h => h) (Or.inl ⟨by rfl, ?_⟩) (by first | assumption | exact trivial) ?_
      · intro W hSW; have q := HLk.out W (HW1.out W hSW.1); go_simp; try (with_reducible rfl)
      simp only [Act.put, List.getElem_toArray, List.getElem_cons_succ, List.getElem_cons_zero, List.setIfInBounds_toArray, List.set_cons_zero, List.set_cons_succ]
      refine wpAnyH_ready (rs := [6]) (by kernel_rfl) (by simp) ?_
      refine AllReadyH.cons rfl (fun K hK => ?_) AllReadyH.nil
      go_simp
      obtain ⟨V6, hV6⟩ : ∃ V, ((wr.alloc (.cells #[.int .i64 o, .int .i64 e] 128)).alloc (.cells #[.int .i64 0, .slice none 0 0] 126)).drew = V := ⟨_, rfl⟩
      have hb6 : Below wr.heap.size wr V6 := by rw [← hV6]; exact (Me.below_alloc HX1.out).drew
      have hX6 : V6.heap[wr.heap.size]? = some (.cells #[.int .i64 o, .int .i64 e] 128 (0, 0)) := by
        rw [← hV6]
        exact (Below.heap_alloc _ _ _ (Array.getElem?_eq_some_iff.1 HXp.out).1).trans HXp.out
      have hD6 : V6.heap[wr.heap.size + 1]? = some (.cells #[.int .i64 0, .slice none 0 0] 126 (0, 0)) := by
        rw [← hV6]
        have := heap_alloc_new (wr.alloc (.cells #[.int .i64 o, .int .i64 e] 128)) (.cells #[.int .i64 0, .slice none 0 0] 126)
        rw [World.size_alloc] at this
        exact this
      rw [hV6]
      clear hV6
      refine hK.out _ _ (⟨hb6, hX6⟩) (fun hHeld => ?_)
      clear hK K
      refine wpAnyH_ready (rs := [7]) (by kernel_rfl) (by simp) ?_
      refine AllReadyH.cons rfl (fun K hK => ?_) AllReadyH.nil
      rw [if_pos (by kernel_rfl)]
      refine wp_store_row 126 (.tmp 6) (.tmp 25) rfl (wr.heap.size + 1) #[.int .i64 u, .slice Am M cm] rfl (by rfl) 126 _ hD6 (by kernel_rfl) rfl (mk_one _ _ _ _) ?_
      simp only [Act.put, List.getElem_toArray, List.getElem_cons_succ, List.getElem_cons_zero, List.setIfInBounds_toArray, List.set_cons_zero, List.set_cons_succ]
      obtain ⟨V9, hV9⟩ : ∃ V, V6.setRow (wr.heap.size + 1) #[.int .i64 u, .slice Am M cm] = V := ⟨_, rfl⟩
      have hb9 : Below wr.heap.size wr V9 := by rw [← hV9]; exact Sb.below_setRow _ hb6 (by omega)
      have hD9 : V9.heap[wr.heap.size + 1]? = some (.cells #[.int .i64 u, .slice Am M cm] 126 (0, 0)) := by rw [← hV9]; exact setRow_heap _ _ _ _ _ _ hD6
      have hX9 : V9.heap[wr.heap.size]? = some (.cells #[.int .i64 o, .int .i64 e] 128 (0, 0)) := by
        rw [← hV9]
        exact (setRow_other _ _ _ _ (by omega)).trans hX6
      rw [hV9]
      clear hV9
      refine hK.out _ _ (⟨hb9, hX9⟩) (fun hHeld => ?_)
      clear hK K
      refine wpAnyH_done (by kernel_rfl) ?_ _
      have HB9 : Hid (Below W1.heap.size W1 V9) := HW1.out V9 hb9
      have HM9 : Hid (Mw V9 W1.heap.size u3 P) := HM.out.below hb9
      have HX9 := Lib.hid hX9
      have HD9 := Lib.hid hD9
      have hxl : wr.heap.size + 1 < V9.heap.size := (Array.getElem?_eq_some_iff.1 hD9).1
      have HXL := Lib.hid hxl
      clear hHeld hb6 hD6 hX6 hb9 hD9 hX9 HX1 HXp HW1 S0 hxl
      obtain ⟨X, hX⟩ : ∃ X, wr.heap.size + 1 = X := ⟨_, rfl⟩
      obtain ⟨xp, hxp⟩ : ∃ xp, wr.heap.size = xp := ⟨_, rfl⟩
      rw [hX] at HD9 HXL ⊢
      rw [hxp] at HX9 ⊢
      have HXx := Lib.hid hxp
      have HXX : Hid (xp < X) := by show _ < _; omega
      clear hX hxp
      go_wp2
      have S2 : Below W1.heap.size W1 V9.drew ∧ V9.drew.heap[xp]? = some (.cells #[.int .i64 o, .int .i64 e] 128 (0, 0)) ∧ V9.drew.heap[X]? = some (.cells #[.int .i64 u, .slice Am M cm] 126 (0, 0)) := ⟨HB9.out.drew, HX9.out, HD9.out⟩
      refine wp_region_held_drew (S := fun W => Below W1.heap.size W1 W ∧ W.heap[xp]? = some (.cells #[.int .i64 o, .int .i64 e] 128 (0, 0)) ∧ W.heap[X]? = some (.cells #[.int .i64 u, .slice Am M cm] 126 (0, 0))) (by kernel_rfl) S2 (fun hHeld => ?_)
      refine wpAnyH_take (i := 0) (v := u3) rfl (by kernel_rfl) (by kernel_rfl) (by kernel_rfl) (fun _ _ _ h => h) (Or.inl ⟨by rfl, ?_⟩) (by first | assumption | exact trivial) ?_
      · intro W hSW; go_simp; try (with_reducible rfl)
      simp only [Act.put, List.getElem_toArray, List.getElem_cons_succ, List.getElem_cons_zero, List.setIfInBounds_toArray, List.set_cons_zero, List.set_cons_succ]
      refine wpAnyH_take (i := 1) (v := .pointer (some ⟨xp, 0, none⟩)) rfl (by kernel_rfl) (by kernel_rfl) (by kernel_rfl) (fun _ _ _ h => h) (Or.inl ⟨by rfl, ?_⟩) (by first | assumption | exact trivial) ?_
      · intro W hSW; go_simp; try (with_reducible rfl)
      simp only [Act.put, List.getElem_toArray, List.getElem_cons_succ, List.getElem_cons_zero, List.setIfInBounds_toArray, List.set_cons_zero, List.set_cons_succ]
      refine wpAnyH_take (i := 2) (v := .int .i64 o) rfl (by kernel_rfl) (by kernel_rfl) (by kernel_rfl) (fun _ _ _ h => h) (Or.inl ⟨by rfl, ?_⟩) (by first | assumption | exact trivial) ?_
      · intro W hSW; have x0 := cell_of_row W xp 0 _ _ (0, 0) hSW.2.1; go_simp; try (with_reducible rfl)
      simp only [Act.put, List.getElem_toArray, List.getElem_cons_succ, List.getElem_cons_zero, List.setIfInBounds_toArray, List.set_cons_zero, List.set_cons_succ]
      refine wpAnyH_take (i := 3) (v := .pointer (some ⟨xp, 1, none⟩)) rfl (by kernel_rfl) (by kernel_rfl) (by kernel_rfl) (fun _ _ _ h => h) (Or.inl ⟨by rfl, ?_⟩) (by first | assumption | exact trivial) ?_
      · intro W hSW; go_simp; try (with_reducible rfl)
      simp only [Act.put, List.getElem_toArray, List.getElem_cons_succ, List.getElem_cons_zero, List.setIfInBounds_toArray, List.set_cons_zero, List.set_cons_succ]
      refine wpAnyH_take (i := 4) (v := .int .i64 e) rfl (by kernel_rfl) (by kernel_rfl) (by kernel_rfl) (fun _ _ _ h => h) (Or.inl ⟨by rfl, ?_⟩) (by first | assumption | exact trivial) ?_
      · intro W hSW; have x1 := cell_of_row W xp 1 _ _ (0, 0) hSW.2.1; go_simp; try (with_reducible rfl)
      simp only [Act.put, List.getElem_toArray, List.getElem_cons_succ, List.getElem_cons_zero, List.setIfInBounds_toArray, List.set_cons_zero, List.set_cons_succ]
      refine wpAnyH_take (i := 5) (v := .pointer (some ⟨X, 0, none⟩)) rfl (by kernel_rfl) (by kernel_rfl) (by kernel_rfl) (fun _ _ _ h => h) (Or.inl ⟨by rfl, ?_⟩) (by first | assumption | exact trivial) ?_
      · intro W hSW; go_simp; try (with_reducible rfl)
      simp only [Act.put, List.getElem_toArray, List.getElem_cons_succ, List.getElem_cons_zero, List.setIfInBounds_toArray, List.set_cons_zero, List.set_cons_succ]
      refine wpAnyH_take (i := 6) (v := .int .i64 u) rfl (by kernel_rfl) (by kernel_rfl) (by kernel_rfl) (fun _ _ _ h => h) (Or.inl ⟨by rfl, ?_⟩) (by first | assumption | exact trivial) ?_
      · intro W hSW; have x0 := cell_of_row W X 0 _ _ (0, 0) hSW.2.2; go_simp; try (with_reducible rfl)
      simp only [Act.put, List.getElem_toArray, List.getElem_cons_succ, List.getElem_cons_zero, List.setIfInBounds_toArray, List.set_cons_zero, List.set_cons_succ]
      refine wpAnyH_take (i := 7) (v := .pointer (some ⟨X, 1, none⟩)) rfl (by kernel_rfl) (by kernel_rfl) (by kernel_rfl) (fun _ _ _ h => h) (Or.inl ⟨by rfl, ?_⟩) (by first | assumption | exact trivial) ?_
      · intro W hSW; go_simp; try (with_reducible rfl)
      simp only [Act.put, List.getElem_toArray, List.getElem_cons_succ, List.getElem_cons_zero, List.setIfInBounds_toArray, List.set_cons_zero, List.set_cons_succ]
      refine wpAnyH_take (i := 8) (v := .slice Am M cm) rfl (by kernel_rfl) (by kernel_rfl) (by kernel_rfl) (fun _ _ _ h => h) (Or.inl ⟨by rfl, ?_⟩) (by first | assumption | exact trivial) ?_
      · intro W hSW; have x1 := cell_of_row W X 1 _ _ (0, 0) hSW.2.2; go_simp; try (with_reducible rfl)
      simp only [Act.put, List.getElem_toArray, List.getElem_cons_succ, List.getElem_cons_zero, List.setIfInBounds_toArray, List.set_cons_zero, List.set_cons_succ]
      refine wpAnyH_ready (rs := [9]) (by kernel_rfl) (by simp) ?_
      refine AllReadyH.cons rfl (fun K hK => ?_) AllReadyH.nil
      go_simp
      have hMd := HM9.out.below (Below.refl V9.heap.size V9).drew
      go_wp2_with (go_at_call 76; refine (HCl.out _ S2.1).mono ?_; rintro e' w3 ⟨vc, rfl, ho3, hb3⟩)
      obtain ⟨Ac, cc, rfl, _⟩ := Mi.Own.form ho3.out
      rw [HMM.out] at ho3 ⊢
      have hM3 := hMd.below hb3.out
      have S3 : Below W1.heap.size W1 w3 ∧ w3.heap[xp]? = some (.cells #[.int .i64 o, .int .i64 e] 128 (0, 0)) ∧ w3.heap[X]? = some (.cells #[.int .i64 u, .slice Am M cm] 126 (0, 0)) :=
        ⟨S2.1.trans (hb3.out.mono S2.1.size), (hb3.out.block _ (Array.getElem?_eq_some_iff.1 S2.2.1).1).trans S2.2.1, (hb3.out.block _ (Array.getElem?_eq_some_iff.1 S2.2.2).1).trans S2.2.2⟩
      have ho3' : Mi.Own w3 W1.heap.size (.slice Ac M cc) ml := ho3.out.base fun k hk => Nat.le_trans S2.1.size (ho3.out.lt k hk).1
      refine hK.out _ _ (S3) (fun hHeld => ?_)
      clear hK K
      refine wpAnyH_take (i := 10) (v := .agg #[.int .i64 o, .int .i64 e, .int .i64 u, .slice Ac M cc]) rfl (by kernel_rfl) (by kernel_rfl) (by kernel_rfl) (fun _ _ _ h => h) (Or.inl ⟨by rfl, ?_⟩) (by first | assumption | exact trivial) ?_
      · intro W hSW; go_simp; try (with_reducible rfl)
      simp only [Act.put, List.getElem_toArray, List.getElem_cons_succ, List.getElem_cons_zero, List.setIfInBounds_toArray, List.set_cons_zero, List.set_cons_succ]
      refine wpAnyH_ready (rs := [11]) (by kernel_rfl) (by simp) ?_
      refine AllReadyH.cons rfl (fun K hK => ?_) AllReadyH.nil
      go_simp
      obtain ⟨W9, hW9⟩ : ∃ V, w3.alloc (.cells #[.int .i64 o, .int .i64 e, .int .i64 u, .slice Ac M cc] 112) = V := ⟨_, rfl⟩
      have hb9 : Below w3.heap.size w3 W9 := by rw [← hW9]; exact Me.below_alloc (Below.refl _ _)
      have hz9 : W9.heap[w3.heap.size]? = some (.cells #[.int .i64 o, .int .i64 e, .int .i64 u, .slice Ac M cc] 112 (0, 0)) := by rw [← hW9]; exact heap_alloc_new w3 _
      rw [hW9]
      clear hW9
      have hM9 := hM3.below hb9
      have ho9 := ho3'.below hb9
      have S9 : Below W1.heap.size W1 W9 ∧ W9.heap[xp]? = some (.cells #[.int .i64 o, .int .i64 e] 128 (0, 0)) ∧ W9.heap[X]? = some (.cells #[.int .i64 u, .slice Am M cm] 126 (0, 0)) :=
        ⟨S3.1.trans (hb9.mono S3.1.size), (hb9.block _ (Array.getElem?_eq_some_iff.1 S3.2.1).1).trans S3.2.1, (hb9.block _ (Array.getElem?_eq_some_iff.1 S3.2.2).1).trans S3.2.2⟩
      refine hK.out _ _ (S9) (fun hHeld => ?_)
      clear hK K
      refine wpAnyH_ready (rs := [12]) (by kernel_rfl) (by simp) ?_
      refine AllReadyH.cons rfl (fun K hK => ?_) AllReadyH.nil
      rw [if_pos (by kernel_rfl)]
      refine appMw (.tmp 26) (.tmp 37) rfl W1.heap.size u3 P ⟨⟨o, e, u, ml⟩, Ac, cc⟩ w3.heap.size rfl hM9 (by show Mi.Own W9 _ (.slice Ac ml.length cc) ml; rw [HMM.out]; exact ho9) rfl (fun j' u' hj' => ?_) HP1.out S9.1.size ?_
      · rw [cell_of_row W9 w3.heap.size j' _ _ (0, 0) hz9]
        have e9 : pV ⟨⟨o, e, u, ml⟩, Ac, cc⟩ = [.int .i64 o, .int .i64 e, .int .i64 u, .slice Ac M cc] := by simp only [pV, Pm.v, HMM.out]
        rw [e9] at hj'
        simpa using hj'
      intro v7 W7 hM7 hg7 hk7
      simp only [Act.put, List.getElem_toArray, List.getElem_cons_succ, List.getElem_cons_zero, List.setIfInBounds_toArray, List.set_cons_zero, List.set_cons_succ]
      have S7 : Below W1.heap.size W1 W7 ∧ W7.heap[xp]? = some (.cells #[.int .i64 o, .int .i64 e] 128 (0, 0)) ∧ W7.heap[X]? = some (.cells #[.int .i64 u, .slice Am M cm] 126 (0, 0)) :=
        ⟨S9.1.grown hg7 S9.1.size hk7, (hg7.block _ (Array.getElem?_eq_some_iff.1 S9.2.1).1 (own_ne_ty hM9.own S9.2.1 (by decide))).trans S9.2.1, (hg7.block _ (Array.getElem?_eq_some_iff.1 S9.2.2).1 (own_ne_ty hM9.own S9.2.2 (by decide))).trans S9.2.2⟩
      refine hK.out _ _ (S7) (fun hHeld => ?_)
      clear hK K
      refine wpAnyH_take (i := 13) (v := v7) rfl (by kernel_rfl) (by kernel_rfl) (by kernel_rfl) (fun _ _ _ h => h) (Or.inl ⟨by rfl, ?_⟩) (by first | assumption | exact trivial) ?_
      · intro W hSW; go_simp; try (with_reducible rfl)
      simp only [Act.put, List.getElem_toArray, List.getElem_cons_succ, List.getElem_cons_zero, List.setIfInBounds_toArray, List.set_cons_zero, List.set_cons_succ]
      refine wpAnyH_done (by kernel_rfl) ?_ _
      have HM7 := Lib.hid hM7
      have HB7 : Hid (Below W1.heap.size W1 W7) := S7.1
      clear hHeld S2 S3 S7 S9 hM7 hg7 hk7 hM9 hM3 hMd ho9 ho3' ho3 hb3 hb9 hz9
      go_wp2
      go_roundw
      case rel =>
        refine ⟨j + 1, P ++ [⟨⟨o, e, u, ml⟩, Ac, cc⟩], hlt, by go_num, HM7, ?_, ?_, HB7⟩
        · show _ = _
          rw [List.map_append, HP.out, HTK.out, List.map_append]
          simp only [List.map_cons, List.map_nil]
          rw [HMR.out]
        · show _ = _
          rw [List.length_append, HL.out]; rfl
      case measure => simp [intOf]; omega
    · obtain rfl : j = N := by omega
      go_wp2
      go_ret
      refine ⟨_, P, L, rfl, HM.out.base HB1.out.size, HB1.out.trans (HBr.out.mono HB1.out.size), hO, ?_⟩
      show _ = _
      rw [HP.out, List.take_of_length_le (by have := HN.out; omega)]
end Go.Proofs.YtfnlhfelpdkieaaGreat.Se
/- What a store tells of itself: counters in order, how many gaps its marks have. -/
namespace Go.Proofs.YtfnlhfelpdkieaaGreat.So
open Go.RowKit
open Go.Proofs.YtfnlhfelpdkieaaGreat.Se (Mk Mr Pls mrOf getM)
set_option linter.unusedVariables false
set_option linter.unusedSimpArgs false

theorem perm_sum {α : Type} (f : α → Int) {a b : List α} (h : a.Perm b) : (a.map f).sum = (b.map f).sum := by
  induction h with
  | nil => rfl
  | cons x _ ih => simp [ih]
  | swap x y l => simp only [List.map_cons, List.sum_cons]; omega
  | trans _ _ h1 h2 => exact h1.trans h2
theorem ord_nodup {kept : Int → Int → Option Mk} {n : Nat} {L : Pls} (h : Se.Ord kept n L) : L.Nodup := by
  refine h.srt.imp fun {a b} hab e => ?_
  subst e
  unfold Se.ltP at hab
  omega
theorem gaps_of {s : Se.St} (hok : Se.Okk s) {n : Nat} {L : Pls} (ho : Se.Ord s.kept n L) : ((L.map (mrOf s.kept)).map fun m => (m.more.length : Int)).sum = s.gaps := by
  obtain ⟨pl, h1, h2, h3⟩ := hok.cnt
  rw [h3]
  unfold Se.total
  rw [List.map_map]
  refine perm_sum (fun p : Int × Int => ((getM s.kept p.1 p.2).more.length : Int)) ((List.perm_ext_iff_of_nodup (ord_nodup ho) h1).2 fun p => ?_)
  obtain ⟨o, e⟩ := p
  rw [← h2 o e]
  constructor
  · intro h; exact (ho.all _ h).2
  · intro h
    cases hk : s.kept o e with
    | none => exact absurd hk h
    | some m => exact ho.fin (o, e) (hok.mkOk o e m hk).1 h
end Go.Proofs.YtfnlhfelpdkieaaGreat.So
/- What a store holds never passes its quota: as plain data. -/
namespace Go.Proofs.YtfnlhfelpdkieaaGreat.So
open Go.RowKit
open Go.Proofs.YtfnlhfelpdkieaaGreat.Se (Mk Mr Pls mrOf getM Pm)
set_option linter.unusedVariables false
set_option linter.unusedSimpArgs false

def natS {α : Type} (f : α → Nat) (l : List α) (k : Nat) : Nat := ((l.take k).map f).sum
theorem natS_zero {α : Type} (f : α → Nat) (l : List α) : natS f l 0 = 0 := by simp [natS]
theorem natS_succ {α : Type} {f : α → Nat} {l : List α} {k : Nat} {x : α} (h : l[k]? = some x) : natS f l (k + 1) = natS f l k + f x := by
  unfold natS
  rw [List.take_add_one, h]
  simp
theorem natS_all {α : Type} (f : α → Nat) (l : List α) : natS f l l.length = (l.map f).sum := by simp [natS]
theorem natS_le {α : Type} (f : α → Nat) : ∀ (l : List α) (k : Nat), natS f l k ≤ (l.map f).sum
  | [], k => by simp [natS]
  | x :: r, 0 => by simp [natS]
  | x :: r, k + 1 => by
    have := natS_le f r k
    unfold natS at this ⊢
    simp only [List.take_succ_cons, List.map_cons, List.sum_cons]
    omega
theorem sum_cast {α : Type} (f : α → Nat) : ∀ l : List α, (l.map fun x => (f x : Int)).sum = ((l.map f).sum : Nat)
  | [] => rfl
  | x :: r => by
    have := sum_cast f r
    simp only [List.map_cons, List.sum_cons]
    rw [this]
    omega
theorem bytes_sum : ∀ P : List Pq, bytesOf (P.map Pq.x) = ((P.map fun q => q.x.p.length).sum : Nat)
  | [] => rfl
  | x :: r => by
    have := bytes_sum r
    show (x.x.p.length : Int) + bytesOf (r.map Pq.x) = _
    rw [this]
    simp only [List.map_cons, List.sum_cons]
    omega
theorem gaps_sum {s : Se.St} (hok : Se.Okk s) {n : Nat} {L : Pls} (ho : Se.Ord s.kept n L) {P : List Pm} (hp : P.map Pm.m = L.map (mrOf s.kept)) : (((P.map fun q => q.m.more.length).sum : Nat) : Int) = s.gaps := by
  rw [← gaps_of hok ho, ← hp, List.map_map, ← sum_cast]
  rfl
theorem appE_q (s : Sto) (k : Int) (i : Mg.Id4) (p : List Nat) : (appE s k i p).qh = s.qh ∧ (appE s k i p).qb = s.qb ∧ (appE s k i p).qg = s.qg := by
  unfold appE
  split
  · exact ⟨rfl, rfl, rfl⟩
  · split
    · exact ⟨rfl, rfl, rfl⟩
    · split
      · exact ⟨rfl, rfl, rfl⟩
      · split <;> exact ⟨rfl, rfl, rfl⟩
end Go.Proofs.YtfnlhfelpdkieaaGreat.So
