/- Both sides' stores ahead of any event. -/
import Derived.Test.YtfnlhfelpdkieaaGreatZ19
namespace Go.Proofs.YtfnlhfelpdkieaaGreat.So
open Go.RowKit
open Go.Proofs.YtfnlhfelpdkieaaGreat.Me Go.Proofs.YtfnlhfelpdkieaaGreat.Sb
set_option linter.unusedVariables false
set_option linter.unusedSimpArgs false

theorem results_tct {fn : Func} {q p u : Tmp} {ty : TypeId} (h : fn.results = #[.tmp q, .cell p ty, .tmp u]) (tmps : Array Value) (P : Program) (w : World) :
    (results fn tmps).run P w =
      ((asAddr (tmps.getD p undef)).run P w).andThen fun a w₁ => ((loadVar ty a).run P w₁).andThen fun v w₂ => .ok (.tuple #[tmps.getD q undef, v, tmps.getD u undef]) w₂ := by
  simp only [results, h]
  simp [Sem.run_bind, Result.andThen]
theorem ret_box3 {fn : Func} {R : Ending → World → Prop} {a : Act} {w : World} {g : Nat} {cs : Array Value} {q p u : Tmp} {ty t : TypeId} {fr : Nat × Nat} {d : TypeDesc} (hres : fn.results = #[.tmp q, .cell p ty, .tmp u]) (hp : a.tmps.getD p undef = .pointer (some ⟨g, 0, none⟩)) (hg : w.heap[g]? = some (.cells cs t fr))
    (hd : d.isRow = true) (hu : Tryz.prog.underlying ty = some d) (hi : (Tryz.prog.info? ty).map (·.size) = some cs.size) (hdef : a.defers = [])
    (hR : R (.returned (.tuple #[a.tmps.getD q undef, .agg cs, a.tmps.getD u undef])) w) : bodyPost Tryz.prog fn R .ret a w :=
  bodyPost_ret (v := .tuple #[a.tmps.getD q undef, .agg cs, a.tmps.getD u undef]) (by rw [results_tct hres, hp]; simp only [asAddr, Sem.run_pure, Result.andThen_ok, run_loadVar_row w g t ty cs fr d hg hu (by cases d <;> first | rfl | cases hd) hi]) hdef hR
theorem set_cells {W : World} {D : Nat} {a b c d : Int} (h : W.heap[D]? = some (.cells #[.int .i64 a, .int .i64 b, .int .i64 c, .int .i64 d] 25 (0, 0))) : W.cell? ⟨D, 0, none⟩ = some (.int .i64 a) ∧ W.cell? ⟨D, 1, none⟩ = some (.int .i64 b) ∧ W.cell? ⟨D, 2, none⟩ = some (.int .i64 c) ∧ W.cell? ⟨D, 3, none⟩ = some (.int .i64 d) := by
  refine ⟨?_, ?_, ?_, ?_⟩
  all_goals
    rw [cell_of_row _ D _ _ _ (0, 0) h]
    rfl
section
variable (me qh qb qg : Int) (w : World)
set_option maxRecDepth 100000 in
set_option maxHeartbeats 8000000 in
theorem done0_no (h : ¬ NewOk me qh qb qg) : Calls Tryz.prog 15 #[.agg #[.int .i64 me, .int .i64 qh, .int .i64 qb, .int .i64 qg], .slice none 0 0] w fun e w' => e = .returned (.tuple #[.pointer none, .agg rs0, .bool false]) ∧ Hid (Below w.heap.size w w') := by
  have HN := Lib.hid (fun W => New_no me qh qb qg h W)
  have HR := Lib.hid (fun W => RNew_no me qh qb qg W h)
  obtain ⟨hB, hD, hX⟩ := two_new w #[.int .i64 me, .int .i64 qh, .int .i64 qb, .int .i64 qg] rs0 25 37
  unfold rs0 at hB hD hX HR ⊢
  have HB := Lib.hid hB
  have HD := Lib.hid hD
  have HX := Lib.hid hX
  obtain ⟨x0, x1, x2, x3⟩ := set_cells hX
  clear h hB hD hX
  go_enter Tryz.func15, Tryz.ntmps15
  go_wp2_with (first
    | (go_at_call 7; refine (HN.out _).mono ?_; rintro e w1 ⟨rfl, b1⟩; have HX1 := Lib.hid ((b1.out.block _ (Array.getElem?_eq_some_iff.1 HX.out).1).trans HX.out); obtain ⟨y0, y1, y2, y3⟩ := set_cells HX1.out)
    | (go_at_call 8; refine (HR.out _).mono ?_; rintro e w2 ⟨rfl, b2⟩))
  have HB2 := Lib.hid (go_on (go_on HB.out b1.out) b2.out)
  have hD2 := (b2.out.block _ (Nat.lt_of_lt_of_le (Array.getElem?_eq_some_iff.1 HD.out).1 b1.out.size)).trans ((b1.out.block _ (Array.getElem?_eq_some_iff.1 HD.out).1).trans HD.out)
  have hl2 : w.heap.size + 1 < w2.heap.size := (Array.getElem?_eq_some_iff.1 hD2).1
  obtain ⟨V, hV⟩ : ∃ V, w2.alloc (.cells #[.int .i64 0, .int .i64 0, .int .i64 0, .int .i64 0, .int .i64 0, .slice none 0 0, .slice none 0 0, .int .i64 0, .slice none 0 0] 37) = V := ⟨_, rfl⟩
  have hVb : Below w2.heap.size w2 V := by rw [← hV]; exact Me.below_alloc (Below.refl _ _)
  have hV9 : V.heap[w2.heap.size]? = some (.cells #[.int .i64 0, .int .i64 0, .int .i64 0, .int .i64 0, .int .i64 0, .slice none 0 0, .slice none 0 0, .int .i64 0, .slice none 0 0] 37 (0, 0)) := by rw [← hV]; exact heap_alloc_new w2 _
  have hVD := (hVb.block _ hl2).trans hD2
  have HBV := Lib.hid (go_on HB2.out hVb)
  rw [hV]
  have HV9 := Lib.hid hV9
  have HL2 := Lib.hid hl2
  have HVD := Lib.hid hVD
  clear hV hVb hV9 hVD hD2 hl2 HX HX1 HD HB x0 x1 x2 x3 y0 y1 y2 y3 HN HR b1 b2 HB2
  have S0 : V.drew.heap[w2.heap.size]? = some (.cells #[.int .i64 0, .int .i64 0, .int .i64 0, .int .i64 0, .int .i64 0, .slice none 0 0, .slice none 0 0, .int .i64 0, .slice none 0 0] 37 (0, 0)) := HV9.out
  refine wp_region_held_drew (S := fun W => W.heap[w2.heap.size]? = some (.cells #[.int .i64 0, .int .i64 0, .int .i64 0, .int .i64 0, .int .i64 0, .slice none 0 0, .slice none 0 0, .int .i64 0, .slice none 0 0] 37 (0, 0))) (by kernel_rfl) S0 (fun hHeld => ?_)
  refine wpAnyH_take (i := 0) (v := .pointer none) rfl (by kernel_rfl) (by kernel_rfl) (by kernel_rfl) (fun _ _ _ h => h) (Or.inl ⟨by rfl, ?_⟩) (by first | assumption | exact trivial) ?_
  · intro W hSW; go_simp; try (with_reducible rfl)
  simp only [Act.put, List.getElem_toArray, List.getElem_cons_succ, List.getElem_cons_zero, List.setIfInBounds_toArray, List.set_cons_zero, List.set_cons_succ]
  refine wpAnyH_take (i := 1) (v := .agg #[.int .i64 0, .int .i64 0, .int .i64 0, .int .i64 0, .int .i64 0, .slice none 0 0, .slice none 0 0, .int .i64 0, .slice none 0 0]) rfl (by kernel_rfl) (by kernel_rfl) (by kernel_rfl) (fun _ _ _ h => h) (Or.inl ⟨by rfl, ?_⟩) (by first | assumption | exact trivial) ?_
  · intro W hSW; have q := fun k => cell_of_row W w2.heap.size k _ _ (0, 0) hSW; have q0 := q 0; have q1 := q 1; have q2 := q 2; have q3 := q 3; have q4 := q 4; have q5 := q 5; have q6 := q 6; have q7 := q 7; have q8 := q 8; clear q; go_simp; try (with_reducible rfl)
  simp only [Act.put, List.getElem_toArray, List.getElem_cons_succ, List.getElem_cons_zero, List.setIfInBounds_toArray, List.set_cons_zero, List.set_cons_succ]
  refine wpAnyH_take (i := 2) (v := .pointer none) rfl (by kernel_rfl) (by kernel_rfl) (by kernel_rfl) (fun _ _ _ h => h) (Or.inl ⟨by rfl, ?_⟩) (by first | assumption | exact trivial) ?_
  · intro W hSW; go_simp; try (with_reducible rfl)
  simp only [Act.put, List.getElem_toArray, List.getElem_cons_succ, List.getElem_cons_zero, List.setIfInBounds_toArray, List.set_cons_zero, List.set_cons_succ]
  refine wpAnyH_ready (rs := [3]) (by kernel_rfl) (by simp) ?_
  refine AllReadyH.cons rfl (fun K hK => ?_) AllReadyH.nil
  rw [if_pos (by kernel_rfl)]
  refine wp_store_row 37 (.tmp 5) (.tmp 39) rfl (w.heap.size + 1) #[.int .i64 0, .int .i64 0, .int .i64 0, .int .i64 0, .int .i64 0, .slice none 0 0, .slice none 0 0, .int .i64 0, .slice none 0 0] rfl (by rfl) 37 _ HVD.out (by kernel_rfl) rfl (by kernel_rfl) ?_
  simp only [Act.put, List.getElem_toArray, List.getElem_cons_succ, List.getElem_cons_zero, List.setIfInBounds_toArray, List.set_cons_zero, List.set_cons_succ]
  obtain ⟨V3, hV3⟩ : ∃ X, V.drew.setRow (w.heap.size + 1) #[.int .i64 0, .int .i64 0, .int .i64 0, .int .i64 0, .int .i64 0, .slice none 0 0, .slice none 0 0, .int .i64 0, .slice none 0 0] = X := ⟨_, rfl⟩
  have hD3 : V3.heap[w.heap.size + 1]? = some (.cells #[.int .i64 0, .int .i64 0, .int .i64 0, .int .i64 0, .int .i64 0, .slice none 0 0, .slice none 0 0, .int .i64 0, .slice none 0 0] 37 (0, 0)) := by rw [← hV3]; exact setRow_heap _ _ _ _ _ _ HVD.out
  have hS3 : V3.heap[w2.heap.size]? = some (.cells #[.int .i64 0, .int .i64 0, .int .i64 0, .int .i64 0, .int .i64 0, .slice none 0 0, .slice none 0 0, .int .i64 0, .slice none 0 0] 37 (0, 0)) := by rw [← hV3]; exact (setRow_other _ _ _ _ (by have := HL2.out; omega)).trans HV9.out
  have hB3 : Below w.heap.size w V3 := by rw [← hV3]; exact Sb.below_setRow _ HBV.out.drew (by omega)
  rw [hV3]
  clear hV3
  refine hK.out _ _ (hS3) (fun hHeld => ?_)
  clear hK K
  refine wpAnyH_take (i := 4) (v := .bool false) rfl (by kernel_rfl) (by kernel_rfl) (by kernel_rfl) (fun _ _ _ h => h) (Or.inl ⟨by rfl, ?_⟩) (by first | assumption | exact trivial) ?_
  · intro W hSW; go_simp; try (with_reducible rfl)
  simp only [Act.put, List.getElem_toArray, List.getElem_cons_succ, List.getElem_cons_zero, List.setIfInBounds_toArray, List.set_cons_zero, List.set_cons_succ]
  refine wpAnyH_done (by kernel_rfl) ?_ _
  go_wp2
  exact ret_box3 (g := w.heap.size + 1) rfl (by rfl) hD3 rfl Tryz.underlying37 (by kernel_rfl) rfl ⟨rfl, hB3⟩
theorem rs_cells {W : World} {D : Nat} {a b c d e r : Int} {u l k : Value} (h : W.heap[D]? = some (.cells #[.int .i64 a, .int .i64 b, .int .i64 c, .int .i64 d, .int .i64 e, u, l, .int .i64 r, k] 37 (0, 0))) :
    W.cell? ⟨D, 0, none⟩ = some (.int .i64 a) ∧ W.cell? ⟨D, 1, none⟩ = some (.int .i64 b) ∧ W.cell? ⟨D, 2, none⟩ = some (.int .i64 c) ∧ W.cell? ⟨D, 3, none⟩ = some (.int .i64 d) ∧ W.cell? ⟨D, 4, none⟩ = some (.int .i64 e) ∧ W.cell? ⟨D, 5, none⟩ = some u ∧ W.cell? ⟨D, 6, none⟩ = some l ∧ W.cell? ⟨D, 7, none⟩ = some (.int .i64 r) ∧ W.cell? ⟨D, 8, none⟩ = some k := by
  refine ⟨?_, ?_, ?_, ?_, ?_, ?_, ?_, ?_, ?_⟩
  all_goals
    rw [cell_of_row _ D _ _ _ (0, 0) h]
    rfl
set_option maxRecDepth 100000 in
set_option maxHeartbeats 8000000 in
theorem done0_ok (M : Nat) (O : Nat → Prop) (hM : M ≤ w.heap.size) (hO : ∀ k, O k → k < w.heap.size) (h : NewOk me qh qb qg) : Calls Tryz.prog 15 #[.agg #[.int .i64 me, .int .i64 qh, .int .i64 qb, .int .i64 qg], .slice none 0 0] w fun e w' =>
    ∃ D, e = .returned (.tuple #[.pointer (some ⟨D, 0, none⟩), .agg (rsc me qh qb qg 0 (.slice none 0 0) (.slice none 0 0) qg (.slice none 0 0)), .bool true]) ∧ Hid (Lv M O w' 0 D (new0 me qh qb qg)) ∧ Hid (Below w.heap.size w w') := by
  have HN := Lib.hid (fun W (hW : w.heap.size + 1 < W.heap.size) => New_l M (fun k => O k ∨ k = w.heap.size + 1) me qh qb qg h W (by omega) fun k hk => hk.elim (fun h => by have := hO k h; omega) fun h => by omega)
  have HR := Lib.hid (fun W => RNew_ok me qh qb qg W h)
  have HC := Lib.hid (fun W => cut_any none 0 [] W (Nat.le_refl _) (Nat.zero_le _) 0 rfl)
  obtain ⟨hB, hD, hX⟩ := two_new w #[.int .i64 me, .int .i64 qh, .int .i64 qb, .int .i64 qg] rs0 25 37
  unfold rs0 at hB hD hX
  unfold rsc at HR ⊢
  have HB := Lib.hid hB
  have HD := Lib.hid hD
  have HX := Lib.hid hX
  obtain ⟨x0, x1, x2, x3⟩ := set_cells hX
  clear h hB hD hX
  go_enter Tryz.func15, Tryz.ntmps15
  go_wp2_with (first
    | (go_at_call 7; refine (HN.out _ (Array.getElem?_eq_some_iff.1 HD.out).1).mono ?_; rintro e w1 ⟨D, rfl, l1, b1⟩; have HX1 := Lib.hid ((b1.out.block _ (Array.getElem?_eq_some_iff.1 HX.out).1).trans HX.out); obtain ⟨y0, y1, y2, y3⟩ := set_cells HX1.out)
    | (go_at_call 8; refine (HR.out _).mono ?_; rintro e w2 ⟨rfl, b2⟩)
    | (go_at_call 10; refine (HC.out _).mono ?_; rintro e w3 ⟨rfl, rfl⟩))
  have HB2 := Lib.hid (go_on (go_on HB.out b1.out) b2.out)
  have hD2 := (b2.out.block _ (Nat.lt_of_lt_of_le (Array.getElem?_eq_some_iff.1 HD.out).1 b1.out.size)).trans ((b1.out.block _ (Array.getElem?_eq_some_iff.1 HD.out).1).trans HD.out)
  have hl2 : w.heap.size + 1 < w2.heap.size := (Array.getElem?_eq_some_iff.1 hD2).1
  obtain ⟨V, hV⟩ : ∃ V, w2.alloc (.cells #[.int .i64 me, .int .i64 qh, .int .i64 qb, .int .i64 qg, .int .i64 0, .slice none 0 0, .slice none 0 0, .int .i64 qg, .slice none 0 0] 37) = V := ⟨_, rfl⟩
  have hVb : Below w2.heap.size w2 V := by rw [← hV]; exact Me.below_alloc (Below.refl _ _)
  have hV9 : V.heap[w2.heap.size]? = some (.cells #[.int .i64 me, .int .i64 qh, .int .i64 qb, .int .i64 qg, .int .i64 0, .slice none 0 0, .slice none 0 0, .int .i64 qg, .slice none 0 0] 37 (0, 0)) := by rw [← hV]; exact heap_alloc_new w2 _
  have hVD := (hVb.block _ hl2).trans hD2
  have HBV := Lib.hid (go_on HB2.out hVb)
  have HLV := Lib.hid ((l1.out.below b2.out).below hVb)
  rw [hV]
  have HV9 := Lib.hid hV9
  have HL2 := Lib.hid hl2
  have HVD := Lib.hid hVD
  clear hV hVb hV9 hVD hD2 hl2 HX HX1 HD HB x0 x1 x2 x3 y0 y1 y2 y3 HN HR b1 b2 HB2 HC
  go_loopw [11] (fun v11 wr => v11 = .int .i64 0 ∧ V = wr) (fun _ _ => 0)
  case atStart => exact ⟨rfl, rfl⟩
  case round =>
    obtain ⟨rfl, rfl⟩ := hrel
    go_wp2
    have S0 : V.drew.heap[w2.heap.size]? = some (.cells #[.int .i64 me, .int .i64 qh, .int .i64 qb, .int .i64 qg, .int .i64 0, .slice none 0 0, .slice none 0 0, .int .i64 qg, .slice none 0 0] 37 (0, 0)) := HV9.out
    refine wp_region_held_drew (S := fun W => W.heap[w2.heap.size]? = some (.cells #[.int .i64 me, .int .i64 qh, .int .i64 qb, .int .i64 qg, .int .i64 0, .slice none 0 0, .slice none 0 0, .int .i64 qg, .slice none 0 0] 37 (0, 0))) (by kernel_rfl) S0 (fun hHeld => ?_)
    refine wpAnyH_take (i := 0) (v := .pointer (some ⟨D, 0, none⟩)) rfl (by kernel_rfl) (by kernel_rfl) (by kernel_rfl) (fun _ _ _ h => h) (Or.inl ⟨by rfl, ?_⟩) (by first | assumption | exact trivial) ?_
    · intro W hSW; go_simp; try (with_reducible rfl)
    simp only [Act.put, List.getElem_toArray, List.getElem_cons_succ, List.getElem_cons_zero, List.setIfInBounds_toArray, List.set_cons_zero, List.set_cons_succ]
    refine wpAnyH_take (i := 1) (v := .agg #[.int .i64 me, .int .i64 qh, .int .i64 qb, .int .i64 qg, .int .i64 0, .slice none 0 0, .slice none 0 0, .int .i64 qg, .slice none 0 0]) rfl (by kernel_rfl) (by kernel_rfl) (by kernel_rfl) (fun _ _ _ h => h) (Or.inl ⟨by rfl, ?_⟩) (by first | assumption | exact trivial) ?_
    · intro W hSW; obtain ⟨q0, q1, q2, q3, q4, q5, q6, q7, q8⟩ := rs_cells hSW; go_simp; try (with_reducible rfl)
    simp only [Act.put, List.getElem_toArray, List.getElem_cons_succ, List.getElem_cons_zero, List.setIfInBounds_toArray, List.set_cons_zero, List.set_cons_succ]
    refine wpAnyH_take (i := 2) (v := .pointer (some ⟨D, 0, none⟩)) rfl (by kernel_rfl) (by kernel_rfl) (by kernel_rfl) (fun _ _ _ h => h) (Or.inl ⟨by rfl, ?_⟩) (by first | assumption | exact trivial) ?_
    · intro W hSW; go_simp; try (with_reducible rfl)
    simp only [Act.put, List.getElem_toArray, List.getElem_cons_succ, List.getElem_cons_zero, List.setIfInBounds_toArray, List.set_cons_zero, List.set_cons_succ]
    refine wpAnyH_ready (rs := [3]) (by kernel_rfl) (by simp) ?_
    refine AllReadyH.cons rfl (fun K hK => ?_) AllReadyH.nil
    rw [if_pos (by kernel_rfl)]
    refine wp_store_row 37 (.tmp 5) (.tmp 64) rfl (w.heap.size + 1) #[.int .i64 me, .int .i64 qh, .int .i64 qb, .int .i64 qg, .int .i64 0, .slice none 0 0, .slice none 0 0, .int .i64 qg, .slice none 0 0] rfl (by rfl) 37 _ HVD.out (by kernel_rfl) rfl (rs_one _ _ _ _ _ _ _ _ _ _ _ _ _ _ _) ?_
    simp only [Act.put, List.getElem_toArray, List.getElem_cons_succ, List.getElem_cons_zero, List.setIfInBounds_toArray, List.set_cons_zero, List.set_cons_succ]
    obtain ⟨V3, hV3⟩ : ∃ X, V.drew.setRow (w.heap.size + 1) #[.int .i64 me, .int .i64 qh, .int .i64 qb, .int .i64 qg, .int .i64 0, .slice none 0 0, .slice none 0 0, .int .i64 qg, .slice none 0 0] = X := ⟨_, rfl⟩
    have hD3 : V3.heap[w.heap.size + 1]? = some (.cells #[.int .i64 me, .int .i64 qh, .int .i64 qb, .int .i64 qg, .int .i64 0, .slice none 0 0, .slice none 0 0, .int .i64 qg, .slice none 0 0] 37 (0, 0)) := by rw [← hV3]; exact setRow_heap _ _ _ _ _ _ HVD.out
    have hS3 : V3.heap[w2.heap.size]? = some (.cells #[.int .i64 me, .int .i64 qh, .int .i64 qb, .int .i64 qg, .int .i64 0, .slice none 0 0, .slice none 0 0, .int .i64 qg, .slice none 0 0] 37 (0, 0)) := by rw [← hV3]; exact (setRow_other _ _ _ _ (by have := HL2.out; omega)).trans HV9.out
    have hB3 : Below w.heap.size w V3 := by rw [← hV3]; exact Sb.below_setRow _ HBV.out.drew (by omega)
    have hLv3 : Lv M O V3 0 D (new0 me qh qb qg) := by
      rw [← hV3]
      refine Lv.other (O := fun k => O k ∨ k = w.heap.size + 1) ?_ fun k _ h => .inl h
      refine (HLV.out.below (Below.refl _ _).drew).but (S := fun k => k = w.heap.size + 1) ((But.refl (fun k => k = w.heap.size + 1) V.drew).setRow (.inl rfl) _) ?_ ?_
      · exact fun k hk => .inl (.inr hk)
      · intro k cs hk hc
        subst hk
        have := HVD.out
        rw [show V.drew.heap = V.heap from rfl, this] at hc
        simp at hc
    rw [hV3]
    clear hV3
    refine hK.out _ _ (hS3) (fun hHeld => ?_)
    clear hK K
    refine wpAnyH_take (i := 4) (v := .bool true) rfl (by kernel_rfl) (by kernel_rfl) (by kernel_rfl) (fun _ _ _ h => h) (Or.inl ⟨by rfl, ?_⟩) (by first | assumption | exact trivial) ?_
    · intro W hSW; go_simp; try (with_reducible rfl)
    simp only [Act.put, List.getElem_toArray, List.getElem_cons_succ, List.getElem_cons_zero, List.setIfInBounds_toArray, List.set_cons_zero, List.set_cons_succ]
    refine wpAnyH_done (by kernel_rfl) ?_ _
    go_wp2
    exact ret_box3 (g := w.heap.size + 1) rfl (by rfl) hD3 rfl Tryz.underlying37 (by kernel_rfl) rfl ⟨D, rfl, hLv3, hB3⟩
end
end Go.Proofs.YtfnlhfelpdkieaaGreat.So
/- A law's done of quotas that are none. -/
namespace Go.Proofs.YtfnlhfelpdkieaaGreat.So
open Go.RowKit
open Go.Proofs.YtfnlhfelpdkieaaGreat.Me Go.Proofs.YtfnlhfelpdkieaaGreat.Sb
set_option linter.unusedVariables false
set_option linter.unusedSimpArgs false

section
variable (me qh qb qg : Int) (w : World)
set_option maxRecDepth 100000 in
set_option maxHeartbeats 8000000 in
theorem done_no (v : Value) (h : ¬ NewOk me qh qb qg) : Calls Tryz.prog 15 #[.agg #[.int .i64 me, .int .i64 qh, .int .i64 qb, .int .i64 qg], v] w fun e w' => e = .returned (.tuple #[.pointer none, .agg rs0, .bool false]) ∧ Hid (Below w.heap.size w w') := by
  have HN := Lib.hid (fun W => New_no me qh qb qg h W)
  have HR := Lib.hid (fun W => RNew_no me qh qb qg W h)
  obtain ⟨hB, hD, hX⟩ := two_new w #[.int .i64 me, .int .i64 qh, .int .i64 qb, .int .i64 qg] rs0 25 37
  unfold rs0 at hB hD hX HR ⊢
  have HB := Lib.hid hB
  have HD := Lib.hid hD
  have HX := Lib.hid hX
  obtain ⟨x0, x1, x2, x3⟩ := set_cells hX
  clear h hB hD hX
  go_enter Tryz.func15, Tryz.ntmps15
  go_wp2_with (first
    | (go_at_call 7; refine (HN.out _).mono ?_; rintro e w1 ⟨rfl, b1⟩; have HX1 := Lib.hid ((b1.out.block _ (Array.getElem?_eq_some_iff.1 HX.out).1).trans HX.out); obtain ⟨y0, y1, y2, y3⟩ := set_cells HX1.out)
    | (go_at_call 8; refine (HR.out _).mono ?_; rintro e w2 ⟨rfl, b2⟩))
  have HB2 := Lib.hid (go_on (go_on HB.out b1.out) b2.out)
  have hD2 := (b2.out.block _ (Nat.lt_of_lt_of_le (Array.getElem?_eq_some_iff.1 HD.out).1 b1.out.size)).trans ((b1.out.block _ (Array.getElem?_eq_some_iff.1 HD.out).1).trans HD.out)
  have hl2 : w.heap.size + 1 < w2.heap.size := (Array.getElem?_eq_some_iff.1 hD2).1
  obtain ⟨V, hV⟩ : ∃ V, w2.alloc (.cells #[.int .i64 0, .int .i64 0, .int .i64 0, .int .i64 0, .int .i64 0, .slice none 0 0, .slice none 0 0, .int .i64 0, .slice none 0 0] 37) = V := ⟨_, rfl⟩
  have hVb : Below w2.heap.size w2 V := by rw [← hV]; exact Me.below_alloc (Below.refl _ _)
  have hV9 : V.heap[w2.heap.size]? = some (.cells #[.int .i64 0, .int .i64 0, .int .i64 0, .int .i64 0, .int .i64 0, .slice none 0 0, .slice none 0 0, .int .i64 0, .slice none 0 0] 37 (0, 0)) := by rw [← hV]; exact heap_alloc_new w2 _
  have hVD := (hVb.block _ hl2).trans hD2
  have HBV := Lib.hid (go_on HB2.out hVb)
  rw [hV]
  have HV9 := Lib.hid hV9
  have HL2 := Lib.hid hl2
  have HVD := Lib.hid hVD
  clear hV hVb hV9 hVD hD2 hl2 HX HX1 HD HB x0 x1 x2 x3 y0 y1 y2 y3 HN HR b1 b2 HB2
  have S0 : V.drew.heap[w2.heap.size]? = some (.cells #[.int .i64 0, .int .i64 0, .int .i64 0, .int .i64 0, .int .i64 0, .slice none 0 0, .slice none 0 0, .int .i64 0, .slice none 0 0] 37 (0, 0)) := HV9.out
  refine wp_region_held_drew (S := fun W => W.heap[w2.heap.size]? = some (.cells #[.int .i64 0, .int .i64 0, .int .i64 0, .int .i64 0, .int .i64 0, .slice none 0 0, .slice none 0 0, .int .i64 0, .slice none 0 0] 37 (0, 0))) (by kernel_rfl) S0 (fun hHeld => ?_)
  refine wpAnyH_take (i := 0) (v := .pointer none) rfl (by kernel_rfl) (by kernel_rfl) (by kernel_rfl) (fun _ _ _ h => h) (Or.inl ⟨by rfl, ?_⟩) (by first | assumption | exact trivial) ?_
  · intro W hSW; go_simp; try (with_reducible rfl)
  simp only [Act.put, List.getElem_toArray, List.getElem_cons_succ, List.getElem_cons_zero, List.setIfInBounds_toArray, List.set_cons_zero, List.set_cons_succ]
  refine wpAnyH_take (i := 1) (v := .agg #[.int .i64 0, .int .i64 0, .int .i64 0, .int .i64 0, .int .i64 0, .slice none 0 0, .slice none 0 0, .int .i64 0, .slice none 0 0]) rfl (by kernel_rfl) (by kernel_rfl) (by kernel_rfl) (fun _ _ _ h => h) (Or.inl ⟨by rfl, ?_⟩) (by first | assumption | exact trivial) ?_
  · intro W hSW; have q := fun k => cell_of_row W w2.heap.size k _ _ (0, 0) hSW; have q0 := q 0; have q1 := q 1; have q2 := q 2; have q3 := q 3; have q4 := q 4; have q5 := q 5; have q6 := q 6; have q7 := q 7; have q8 := q 8; clear q; go_simp; try (with_reducible rfl)
  simp only [Act.put, List.getElem_toArray, List.getElem_cons_succ, List.getElem_cons_zero, List.setIfInBounds_toArray, List.set_cons_zero, List.set_cons_succ]
  refine wpAnyH_take (i := 2) (v := .pointer none) rfl (by kernel_rfl) (by kernel_rfl) (by kernel_rfl) (fun _ _ _ h => h) (Or.inl ⟨by rfl, ?_⟩) (by first | assumption | exact trivial) ?_
  · intro W hSW; go_simp; try (with_reducible rfl)
  simp only [Act.put, List.getElem_toArray, List.getElem_cons_succ, List.getElem_cons_zero, List.setIfInBounds_toArray, List.set_cons_zero, List.set_cons_succ]
  refine wpAnyH_ready (rs := [3]) (by kernel_rfl) (by simp) ?_
  refine AllReadyH.cons rfl (fun K hK => ?_) AllReadyH.nil
  rw [if_pos (by kernel_rfl)]
  refine wp_store_row 37 (.tmp 5) (.tmp 39) rfl (w.heap.size + 1) #[.int .i64 0, .int .i64 0, .int .i64 0, .int .i64 0, .int .i64 0, .slice none 0 0, .slice none 0 0, .int .i64 0, .slice none 0 0] rfl (by rfl) 37 _ HVD.out (by kernel_rfl) rfl (by kernel_rfl) ?_
  simp only [Act.put, List.getElem_toArray, List.getElem_cons_succ, List.getElem_cons_zero, List.setIfInBounds_toArray, List.set_cons_zero, List.set_cons_succ]
  obtain ⟨V3, hV3⟩ : ∃ X, V.drew.setRow (w.heap.size + 1) #[.int .i64 0, .int .i64 0, .int .i64 0, .int .i64 0, .int .i64 0, .slice none 0 0, .slice none 0 0, .int .i64 0, .slice none 0 0] = X := ⟨_, rfl⟩
  have hD3 : V3.heap[w.heap.size + 1]? = some (.cells #[.int .i64 0, .int .i64 0, .int .i64 0, .int .i64 0, .int .i64 0, .slice none 0 0, .slice none 0 0, .int .i64 0, .slice none 0 0] 37 (0, 0)) := by rw [← hV3]; exact setRow_heap _ _ _ _ _ _ HVD.out
  have hS3 : V3.heap[w2.heap.size]? = some (.cells #[.int .i64 0, .int .i64 0, .int .i64 0, .int .i64 0, .int .i64 0, .slice none 0 0, .slice none 0 0, .int .i64 0, .slice none 0 0] 37 (0, 0)) := by rw [← hV3]; exact (setRow_other _ _ _ _ (by have := HL2.out; omega)).trans HV9.out
  have hB3 : Below w.heap.size w V3 := by rw [← hV3]; exact Sb.below_setRow _ HBV.out.drew (by omega)
  rw [hV3]
  clear hV3
  refine hK.out _ _ (hS3) (fun hHeld => ?_)
  clear hK K
  refine wpAnyH_take (i := 4) (v := .bool false) rfl (by kernel_rfl) (by kernel_rfl) (by kernel_rfl) (fun _ _ _ h => h) (Or.inl ⟨by rfl, ?_⟩) (by first | assumption | exact trivial) ?_
  · intro W hSW; go_simp; try (with_reducible rfl)
  simp only [Act.put, List.getElem_toArray, List.getElem_cons_succ, List.getElem_cons_zero, List.setIfInBounds_toArray, List.set_cons_zero, List.set_cons_succ]
  refine wpAnyH_done (by kernel_rfl) ?_ _
  go_wp2
  exact ret_box3 (g := w.heap.size + 1) rfl (by rfl) hD3 rfl Tryz.underlying37 (by kernel_rfl) rfl ⟨rfl, hB3⟩
end
end Go.Proofs.YtfnlhfelpdkieaaGreat.So
