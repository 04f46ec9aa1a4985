/- Add, of a set whose lists lie apart. -/
import Derived.Test.YtfnlhfelpdkieaaGreatSeAdd
import Derived.Test.YtfnlhfelpdkieaaGreatZ19
namespace Go.Proofs.YtfnlhfelpdkieaaGreat.Se
open Go.RowKit
open Go.Proofs.YtfnlhfelpdkieaaGreat.Me Go.Proofs.YtfnlhfelpdkieaaGreat.Sb
set_option linter.unusedVariables false
set_option linter.unusedSimpArgs false

theorem put_run {w w' : World} {o : Oper} {a : Act} {K : Act → World → Prop} {Q : Exit → Act → World → Prop} (m x v : Operand) (ho : o.op = .mapUpdate 115 m x v) (M X U : Value) (hm : a.eval m = M) (hx : a.eval x = X) (hv : a.eval v = U)
    (hr : (Instr.mapUpdate 115 M X U).run Tryz.prog w = .ok () w') (h : K (a.put o.dst undef) w') : o.wp Tryz.prog a w K Q := by
  unfold Oper.wp execOp
  simp only [ho, Sem.run_bind, Sem.run_pure, Result.andThen_ok, hm, hx, hv, hr]
  exact h
/-- What Add leaves. -/
def AddPL (F : Nat → Prop) (D b n : Nat) (s : St) (i : Mg.Id4) (w : World) (e : Ending) (w' : World) : Prop :=
  e = .returned (.int .i64 (mayN s i : Int)) ∧ ∃ n', n' ≤ n + 1 ∧ Hid (SetL F w' D b n' (addS s i)) ∧ Hid (But (fun k => k = D ∨ k = b ∨ (F k ∧ ∃ cs, w.heap[k]? = some (.cells cs 3 (0, 0)))) w w')
set_option maxRecDepth 100000 in
set_option maxHeartbeats 8000000 in
theorem Add_anyL (F : Nat → Prop) (D b n : Nat) (s : St) (i : Mg.Id4) (w : World) (hS : Hid (SetL F w D b n s)) (hn : n ≤ 5000000) (hF : Hid (∀ k, w.heap.size ≤ k → F k)) :
    Calls Tryz.prog 37 #[.pointer (some ⟨D, 0, none⟩), .agg (Mg.idC i)] w (AddPL F D b n s i w) := by
  have HMay : Hid (∀ W, SetL F W D b n s → Calls Tryz.prog 68 #[.pointer (some ⟨D, 0, none⟩), .agg (Mg.idC i)] W fun e w' => e = .returned (.int .i64 (mayN s i : Int)) ∧ Hid (Below W.heap.size W w')) := fun W h => May_any false D b n s i W h.set
  have HP := Lib.hid (fun W => placeOf_any i W)
  obtain ⟨W1, hW1⟩ : ∃ W, w.alloc (.cells (Mg.idC i) 43) = W := ⟨_, rfl⟩
  have b1 : Below w.heap.size w W1 := by rw [← hW1]; exact Me.below_alloc (Below.refl _ _)
  have r1 : W1.heap[w.heap.size]? = some (.cells (Mg.idC i) 43 (0, 0)) := by rw [← hW1]; exact heap_alloc_new w _
  have hlt : w.heap.size < W1.heap.size := (Array.getElem?_eq_some_iff.1 r1).1
  have hSW : ∀ W, Below W1.heap.size W1 W → SetL F W D b n s ∧ Below w.heap.size w W ∧ W.heap[w.heap.size]? = some (.cells (Mg.idC i) 43 (0, 0)) := fun W hW => by
    have h := b1.trans (hW.mono b1.size)
    exact ⟨hS.out.below h, h, (hW.block _ hlt).trans r1⟩
  have HSW := Lib.hid hSW
  unfold AddPL
  by_cases h0 : mayN s i = 0
  · obtain ⟨hr, hh, _⟩ := mayN_zero h0
    have hp : Pp i.o i.e := ⟨hr.o0, by have := hr.o1; omega, hr.e0, hr.e1⟩
    have hok2 := hS.out.ok.addS i
    obtain ⟨A, cp, hv, hlk, hput⟩ := hS.out.map.at_ hp
    have hSA : ∀ k, (∃ a, A = some a ∧ a.block = k) → k < w.heap.size ∧ F k ∧ ∃ cs, w.heap[k]? = some (.cells cs 3 (0, 0)) := fun k ⟨a, ha, hk⟩ => by
      rw [← hk]
      exact ⟨hv.lt ha, (hv.blk ha).1, (hv.blk ha).2⟩
    have ho := hS.out.ok.get i.o i.e
    have hml := hS.out.ok.more_le i.o i.e
    have hg0 := hS.out.ok.g0
    have hg1 := hS.out.ok.g1
    have hr1 := hS.out.ok.r1
    have hwl := wth_len (getM s.kept i.o i.e) i.c
    have hadd : addS s i = ⟨s.room, s.gaps + ((wth (getM s.kept i.o i.e) i.c).more.length - (getM s.kept i.o i.e).more.length), setM s.kept i.o i.e (wth (getM s.kept i.o i.e) i.c)⟩ := by unfold addS; rw [if_neg (by simp [h0])]
    have HLk : Hid (∀ W, Below W1.heap.size W1 W → (Instr.lookup 115 (.map (some b)) (.agg #[.int .i64 i.o, .int .i64 i.e]) false).run Tryz.prog W = .ok (mkV (getM s.kept i.o i.e).up A (getM s.kept i.o i.e).more.length cp) W) := fun W hW => hlk W ((b1.trans (hW.mono b1.size)).block b hS.out.lt.2)
    have HWith : Hid (∀ W, Below w.heap.size w W → Calls Tryz.prog 70 #[mkV (getM s.kept i.o i.e).up A (getM s.kept i.o i.e).more.length cp, .int .i64 i.c] W fun e w' => ∃ A' c', e = .returned (mkV (wth (getM s.kept i.o i.e) i.c).up A' (wth (getM s.kept i.o i.e) i.c).more.length c') ∧ Hid (Lw F w' A' c' (wth (getM s.kept i.o i.e) i.c).more) ∧ Hid (∀ a', A' = some a' → (∃ a, A = some a ∧ a.block = a'.block) ∨ W.heap.size ≤ a'.block) ∧ Hid (But (fun k => ∃ a, A = some a ∧ a.block = k) W w')) := fun W hW => with_anyL F _ A cp i.c W (hv.same fun a ha => hW.block _ (hv.lt ha)) ho hh hr.c1 (by omega) fun k hk => hF.out k (Nat.le_trans hW.size hk)
    have HPut := Lib.hid hput
    have HSA := Lib.hid hSA
    rw [h0, hadd]
    rw [h0] at HMay
    have HC : Hid (∀ W, Below W1.heap.size W1 W → W.cell? ⟨D, 0, none⟩ = some (.int .i64 s.room) ∧ W.cell? ⟨D, 1, none⟩ = some (.int .i64 s.gaps) ∧ W.cell? ⟨D, 2, none⟩ = some (.map (some b))) := fun W hW => set_cells (hSW W hW).1.box
    have HNe : Hid (D ≠ b ∧ D < w.heap.size ∧ b < w.heap.size) := ⟨hS.out.ne, hS.out.lt⟩
    have HMp := Lib.hid hS.out.map
    have HBox := Lib.hid hS.out.box
    obtain ⟨ro, ga, ke⟩ := s
    simp only at HLk HWith HC hg0 hg1 hr1 hml hok2 hwl ho HMp HBox HPut ⊢
    obtain ⟨m', hm'⟩ : ∃ m', wth (getM ke i.o i.e) i.c = m' := ⟨_, rfl⟩
    obtain ⟨u, hu⟩ : ∃ u, (getM ke i.o i.e).up = u := ⟨_, rfl⟩
    obtain ⟨N, hN⟩ : ∃ N, (getM ke i.o i.e).more.length = N := ⟨_, rfl⟩
    rw [hadd] at hok2
    simp only [hu, hN, hm', mkV] at HLk HWith hok2 hml hwl ⊢
    have hid : ∀ W, Below W1.heap.size W1 W → W.cell? ⟨w.heap.size, 0, none⟩ = some (.int .i64 i.o) ∧ W.cell? ⟨w.heap.size, 1, none⟩ = some (.int .i64 i.d) ∧ W.cell? ⟨w.heap.size, 2, none⟩ = some (.int .i64 i.e) ∧ W.cell? ⟨w.heap.size, 3, none⟩ = some (.int .i64 i.c) := fun W hW => id_cells (hSW W hW).2.2
    have HID := Lib.hid hid
    have HB1 := Lib.hid b1
    have HW1 := Lib.hid hW1
    have HS1 := Lib.hid (hSW W1 (Below.refl _ _)).1
    have HSW2 : Hid (∀ W, Below W1.heap.size W1 W → W.heap[D]? = some (.cells #[.int .i64 ro, .int .i64 ga, .map (some b)] 117 (0, 0)) ∧ Below w.heap.size w W ∧ W.heap[w.heap.size]? = some (.cells (Mg.idC i) 43 (0, 0))) := fun W hW => ⟨(hSW W hW).1.box, (hSW W hW).2⟩
    have HOk := Lib.hid hok2
    have HP' := Lib.hid hp
    obtain ⟨o, d, ee, c⟩ := i
    simp only [Mg.idC, show ((0 : Nat) : Int) = 0 from rfl] at HMay HP HID HLk HWith HW1 HSW2 HP' HOk ⊢
    have HWa : Hid (IntKind.i64.wrap ((m'.more.length : Int) - (N : Int)) = (m'.more.length : Int) - (N : Int)) := Mi.fits' ⟨by omega, by omega⟩
    have HWb : Hid (IntKind.i64.wrap (ga + ((m'.more.length : Int) - (N : Int))) = ga + ((m'.more.length : Int) - (N : Int))) := Mi.fits' ⟨by omega, by omega⟩
    clear hW1 b1 r1 hlt hSW h0 hr hp hlk ho hml hg0 hg1 hr1 hwl hadd hu hN hm' hid hS HSW hh hok2 hv hput hSA
    go_enter Tryz.func37, Tryz.ntmps37
    go_wp2_with (go_at_call 68; rw [HW1.out]; refine (HMay.out _ HS1.out).mono ?_; rintro e w2 ⟨rfl, hb2⟩)
    have HS2 := Lib.hid hb2.out
    have S0 := HS2.out.drew
    rename_i Q0 K0 hA0
    refine wp_region_held_drew (S := fun W => Below W1.heap.size W1 W) (by kernel_rfl) S0 (fun hHeld => ?_)
    refine wpAnyH_take (i := 0) (v := .pointer (some ⟨D, 0, none⟩)) rfl (by kernel_rfl) (by kernel_rfl) (by kernel_rfl) (fun _ _ _ h => h) (Or.inl ⟨by rfl, ?_⟩) (by first | assumption | exact trivial) ?_
    · intro W hSW; go_simp; try (with_reducible rfl)
    simp only [Act.put, List.getElem_toArray, List.getElem_cons_succ, List.getElem_cons_zero, List.setIfInBounds_toArray, List.set_cons_zero, List.set_cons_succ]
    refine wpAnyH_take (i := 1) (v := .pointer (some ⟨D, 0, none⟩)) rfl (by kernel_rfl) (by kernel_rfl) (by kernel_rfl) (fun _ _ _ h => h) (Or.inl ⟨by rfl, ?_⟩) (by first | assumption | exact trivial) ?_
    · intro W hSW; go_simp; try (with_reducible rfl)
    simp only [Act.put, List.getElem_toArray, List.getElem_cons_succ, List.getElem_cons_zero, List.setIfInBounds_toArray, List.set_cons_zero, List.set_cons_succ]
    refine wpAnyH_take (i := 2) (v := .pointer (some ⟨D, 2, none⟩)) rfl (by kernel_rfl) (by kernel_rfl) (by kernel_rfl) (fun _ _ _ h => h) (Or.inl ⟨by rfl, ?_⟩) (by first | assumption | exact trivial) ?_
    · intro W hSW; go_simp; try (with_reducible rfl)
    simp only [Act.put, List.getElem_toArray, List.getElem_cons_succ, List.getElem_cons_zero, List.setIfInBounds_toArray, List.set_cons_zero, List.set_cons_succ]
    refine wpAnyH_take (i := 3) (v := .map (some b)) rfl (by kernel_rfl) (by kernel_rfl) (by kernel_rfl) (fun _ _ _ h => h) (Or.inl ⟨by rfl, ?_⟩) (by first | assumption | exact trivial) ?_
    · intro W hSW; obtain ⟨y0, y1, y2⟩ := HC.out W hSW; go_simp; try (with_reducible rfl)
    simp only [Act.put, List.getElem_toArray, List.getElem_cons_succ, List.getElem_cons_zero, List.setIfInBounds_toArray, List.set_cons_zero, List.set_cons_succ]
    refine wpAnyH_take (i := 4) (v := .agg #[.int .i64 o, .int .i64 d, .int .i64 ee, .int .i64 c]) rfl (by kernel_rfl) (by kernel_rfl) (by kernel_rfl) (fun _ _ _ h => h) (Or.inl ⟨by rfl, ?_⟩) (by first | assumption | exact trivial) ?_
    · intro W hSW; obtain ⟨y0, y1, y2, y3⟩ := HID.out W hSW; go_simp; try (with_reducible rfl)
    simp only [Act.put, List.getElem_toArray, List.getElem_cons_succ, List.getElem_cons_zero, List.setIfInBounds_toArray, List.set_cons_zero, List.set_cons_succ]
    have HCell := HC
    clear HC
    suffices HC : ∀ (X : Nat) (V : World), V.heap[X]? = some (.cells #[.int .i64 u, .slice A N cp] 126 (0, 0)) → Below W1.heap.size W1 V → Exit.then K0 Q0 Exit.normal ⟨#[.pointer (some ⟨D, 0, none⟩), .agg #[.int .i64 o, .int .i64 d, .int .i64 ee, .int .i64 c], undef, .pointer (some ⟨w.heap.size, 0, none⟩), .int .i64 0, .int .i64 0, .pointer (some ⟨X, 0, none⟩), undef, .pointer (some ⟨D, 0, none⟩), .agg #[.int .i64 o, .int .i64 d, .int .i64 ee, .int .i64 c], .int .i64 0, .int .i64 0, .bool false, undef, .pointer (some ⟨D, 0, none⟩), .pointer (some ⟨D, 0, none⟩), .pointer (some ⟨D, 2, none⟩), .map (some b), .agg #[.int .i64 o, .int .i64 d, .int .i64 ee, .int .i64 c], .agg #[.int .i64 o, .int .i64 ee], .agg #[.int .i64 u, .slice A N cp], undef, undef, undef, undef, undef, undef, undef, undef, undef, undef, undef, undef, undef, undef, undef, undef, undef, undef, undef, undef, undef, undef, undef, undef, undef], []⟩ V by
      refine wpAnyH_ready (rs := [5, 7]) (by kernel_rfl) (by simp) ?_
      refine AllReadyH.cons rfl (fun K hK => ?pa) (AllReadyH.cons rfl (fun K hK => ?pb) AllReadyH.nil)
      case pa =>
        go_simp
        go_wp2_with (go_at_call 69; refine (HP.out _).mono ?_; rintro e w3 ⟨rfl, hb3⟩)
        have S3 := S0.trans (hb3.out.mono S0.size)
        refine hK.out _ _ (S3) (fun hHeld => ?_)
        clear hK K
        refine wpAnyH_take (i := 6) (v := .agg #[.int .i64 u, .slice A N cp]) rfl (by kernel_rfl) (by kernel_rfl) (by kernel_rfl) (fun _ _ _ h => h) (Or.inl ⟨by rfl, ?_⟩) (by first | assumption | exact trivial) ?_
        · intro W hSW; have q := HLk.out W hSW; go_simp; try (with_reducible rfl)
        simp only [Act.put, List.getElem_toArray, List.getElem_cons_succ, List.getElem_cons_zero, List.setIfInBounds_toArray, List.set_cons_zero, List.set_cons_succ]
        refine wpAnyH_ready (rs := [7]) (by kernel_rfl) (by simp) ?_
        refine AllReadyH.cons rfl (fun K hK => ?_) AllReadyH.nil
        go_simp
        obtain ⟨V6, hV6⟩ : ∃ V, w3.alloc (.cells #[.int .i64 0, .slice none 0 0] 126) = V := ⟨_, rfl⟩
        have hb6 : Below W1.heap.size W1 V6 := by rw [← hV6]; exact Me.below_alloc S3
        have hD6 : V6.heap[w3.heap.size]? = some (.cells #[.int .i64 0, .slice none 0 0] 126 (0, 0)) := by rw [← hV6]; exact heap_alloc_new w3 _
        have hX : W1.heap.size ≤ w3.heap.size := S3.size
        obtain ⟨X, hXX⟩ : ∃ X, w3.heap.size = X := ⟨_, rfl⟩
        rw [hV6]
        rw [hXX] at hD6 hX ⊢
        clear hV6 hXX
        refine hK.out _ _ (hb6) (fun hHeld => ?_)
        clear hK K
        refine wpAnyH_ready (rs := [8]) (by kernel_rfl) (by simp) ?_
        refine AllReadyH.cons rfl (fun K hK => ?_) AllReadyH.nil
        rw [if_pos (by kernel_rfl)]
        refine wp_store_row 126 (.tmp 6) (.tmp 20) rfl X #[.int .i64 u, .slice A N cp] rfl (by rfl) 126 _ hD6 (by kernel_rfl) rfl (mk_one _ _ _ _) ?_
        simp only [Act.put, List.getElem_toArray, List.getElem_cons_succ, List.getElem_cons_zero, List.setIfInBounds_toArray, List.set_cons_zero, List.set_cons_succ]
        obtain ⟨V9, hV9⟩ : ∃ V, V6.setRow X #[.int .i64 u, .slice A N cp] = V := ⟨_, rfl⟩
        have hb9 : Below W1.heap.size W1 V9 := by rw [← hV9]; exact Sb.below_setRow _ hb6 hX
        have hD9 : V9.heap[X]? = some (.cells #[.int .i64 u, .slice A N cp] 126 (0, 0)) := by rw [← hV9]; exact setRow_heap _ _ _ _ _ _ hD6
        rw [hV9]
        clear hV9
        refine hK.out _ _ (hb9) (fun hHeld => ?_)
        clear hK K
        refine wpAnyH_done (by kernel_rfl) ?_ _
        exact HC _ _ hD9 hb9
      case pb =>
        go_simp
        obtain ⟨V6, hV6⟩ : ∃ V, (w2.alloc (.cells #[.int .i64 0, .slice none 0 0] 126)).drew = V := ⟨_, rfl⟩
        have hb6 : Below W1.heap.size W1 V6 := by rw [← hV6]; exact (Me.below_alloc HS2.out).drew
        have hD6 : V6.heap[w2.heap.size]? = some (.cells #[.int .i64 0, .slice none 0 0] 126 (0, 0)) := by rw [← hV6]; exact heap_alloc_new w2 _
        have hX : W1.heap.size ≤ w2.heap.size := HS2.out.size
        obtain ⟨X, hXX⟩ : ∃ X, w2.heap.size = X := ⟨_, rfl⟩
        rw [hV6]
        rw [hXX] at hD6 hX ⊢
        clear hV6 hXX
        refine hK.out _ _ (hb6) (fun hHeld => ?_)
        clear hK K
        refine wpAnyH_ready (rs := [5]) (by kernel_rfl) (by simp) ?_
        refine AllReadyH.cons rfl (fun K hK => ?_) AllReadyH.nil
        go_simp
        go_wp2_with (go_at_call 69; refine (HP.out _).mono ?_; rintro e w3 ⟨rfl, hb3⟩)
        have S3 := hb6.trans (hb3.out.mono hb6.size)
        have hD7 := (hb3.out.block _ (Array.getElem?_eq_some_iff.1 hD6).1).trans hD6
        clear hb6 hD6
        have hb6 := S3
        have hD6 := hD7
        clear hD7
        refine hK.out _ _ (S3) (fun hHeld => ?_)
        clear hK K
        refine wpAnyH_take (i := 6) (v := .agg #[.int .i64 u, .slice A N cp]) rfl (by kernel_rfl) (by kernel_rfl) (by kernel_rfl) (fun _ _ _ h => h) (Or.inl ⟨by rfl, ?_⟩) (by first | assumption | exact trivial) ?_
        · intro W hSW; have q := HLk.out W hSW; go_simp; try (with_reducible rfl)
        simp only [Act.put, List.getElem_toArray, List.getElem_cons_succ, List.getElem_cons_zero, List.setIfInBounds_toArray, List.set_cons_zero, List.set_cons_succ]
        refine wpAnyH_ready (rs := [8]) (by kernel_rfl) (by simp) ?_
        refine AllReadyH.cons rfl (fun K hK => ?_) AllReadyH.nil
        rw [if_pos (by kernel_rfl)]
        refine wp_store_row 126 (.tmp 6) (.tmp 20) rfl X #[.int .i64 u, .slice A N cp] rfl (by rfl) 126 _ hD6 (by kernel_rfl) rfl (mk_one _ _ _ _) ?_
        simp only [Act.put, List.getElem_toArray, List.getElem_cons_succ, List.getElem_cons_zero, List.setIfInBounds_toArray, List.set_cons_zero, List.set_cons_succ]
        obtain ⟨V9, hV9⟩ : ∃ V, w3.setRow X #[.int .i64 u, .slice A N cp] = V := ⟨_, rfl⟩
        have hb9 : Below W1.heap.size W1 V9 := by rw [← hV9]; exact Sb.below_setRow _ hb6 hX
        have hD9 : V9.heap[X]? = some (.cells #[.int .i64 u, .slice A N cp] 126 (0, 0)) := by rw [← hV9]; exact setRow_heap _ _ _ _ _ _ hD6
        rw [hV9]
        clear hV9
        refine hK.out _ _ (hb9) (fun hHeld => ?_)
        clear hK K
        refine wpAnyH_done (by kernel_rfl) ?_ _
        exact HC _ _ hD9 hb9
    intro X V hD hB
    obtain ⟨n0, n1⟩ := mark_cells hD
    have HXD := Lib.hid hD
    have HXl : Hid (X < V.heap.size) := (Array.getElem?_eq_some_iff.1 hD).1
    have HBV1 := Lib.hid hB
    have HBV : Hid (Below w.heap.size w V) := HB1.out.trans (hB.mono HB1.out.size)
    obtain ⟨i0, i1, i2, i3⟩ := HID.out V hB
    clear hD hB hHeld S0 hb2 HS2 HLk HMay HW1 HCell
    go_wp2_with (go_at_call 70; refine (HWith.out _ HBV.out).mono ?_; rintro e w5 ⟨A5, c5, rfl, HE5, HG5, HB5⟩)
    obtain ⟨VY, hVY⟩ : ∃ X, w5.alloc (.cells #[.int .i64 m'.up, .slice A5 m'.more.length c5] 126) = X := ⟨_, rfl⟩
    obtain ⟨Y, hY⟩ : ∃ Y, w5.heap.size = Y := ⟨_, rfl⟩
    have hy : VY.heap[Y]? = some (.cells #[.int .i64 m'.up, .slice A5 m'.more.length c5] 126 (0, 0)) := by rw [← hVY, ← hY]; exact heap_alloc_new w5 _
    have b5 : Below w5.heap.size w5 VY := by rw [← hVY]; exact Me.below_alloc (Below.refl _ _)
    have k1V : But (fun k => ∃ a, A = some a ∧ a.block = k) W1 V := But.of_below HBV1.out
    have k15 : But (fun k => ∃ a, A = some a ∧ a.block = k) W1 w5 := k1V.trans HB5.out fun _ _ h => h
    have k1Y : But (fun k => ∃ a, A = some a ∧ a.block = k) W1 VY := k15.trans (But.of_below (S := fun _ => False) b5) fun _ _ h => h.elim
    have z1w := HB1.out.size
    obtain ⟨qD, qB, qI⟩ := HSW2.out W1 (Below.refl _ _)
    have nSD : ¬ ∃ a, A = some a ∧ a.block = D := fun h => by obtain ⟨_, _, cs, hc⟩ := HSA.out D h; rw [HBox.out] at hc; simp at hc
    have nSI : ¬ ∃ a, A = some a ∧ a.block = w.heap.size := fun h => by have := (HSA.out _ h).1; omega
    have b5D : w5.heap[D]? = some (.cells #[.int .i64 ro, .int .i64 ga, .map (some b)] 117 (0, 0)) := k15.at_ qD nSD
    have rD := k1Y.at_ qD nSD
    have rI := k1Y.at_ qI nSI
    have rB : But (fun k => ∃ a, A = some a ∧ a.block = k) w VY := (But.of_below (S := fun k => ∃ a, A = some a ∧ a.block = k) qB).trans k1Y fun _ _ h => h
    have kVY : But (fun k => ∃ a, A = some a ∧ a.block = k) V VY := HB5.out.trans (But.of_below (S := fun _ => False) b5) fun _ _ h => h.elim
    have nSX : ¬ ∃ a, A = some a ∧ a.block = X := fun h => by
      obtain ⟨h1, _, cs, hc⟩ := HSA.out X h
      have := HBV.out.block X h1
      rw [HXD.out, hc] at this
      simp at this
    have rX := kVY.at_ HXD.out nSX
    have hXD : X ≠ D := fun e => by rw [e, rD] at rX; simp at rX
    have hYD : Y ≠ D := fun e => by rw [e, rD] at hy; simp at hy
    obtain ⟨d0, d1, d2⟩ := set_cells rD
    have df : VY.frozen? ⟨D, 1, none⟩ = false := frozen_of_row VY D 1 _ _ rD
    rw [hVY, hY]
    have S0 : VY.drew.cell? ⟨Y, 1, none⟩ = some (.slice A5 m'.more.length c5) ∧ VY.drew.cell? ⟨X, 1, none⟩ = some (.slice A N cp) := ⟨(mark_cells hy).2, (mark_cells rX).2⟩
    have e1 : VY.drew.cell? ⟨D, 1, none⟩ = some (.int .i64 ga) := d1
    have ef : VY.drew.frozen? ⟨D, 1, none⟩ = false := df
    clear n0 n1 d0 d1 d2 df i0 i1 i2 i3
    refine wp_region_held_drew (S := fun W : World => W.cell? ⟨Y, 1, none⟩ = some (.slice A5 m'.more.length c5) ∧ W.cell? ⟨X, 1, none⟩ = some (.slice A N cp)) (by kernel_rfl) S0 (fun hHeld => ?_)
    refine wpAnyH_take (i := 0) (v := .pointer (some ⟨D, 0, none⟩)) rfl (by kernel_rfl) (by kernel_rfl) (by kernel_rfl) (fun _ _ _ h => h) (Or.inl ⟨by rfl, ?_⟩) (by first | assumption | exact trivial) ?_
    · intro W hSW; go_simp; try (with_reducible rfl)
    simp only [Act.put, List.getElem_toArray, List.getElem_cons_succ, List.getElem_cons_zero, List.setIfInBounds_toArray, List.set_cons_zero, List.set_cons_succ]
    refine wpAnyH_take (i := 1) (v := .pointer (some ⟨D, 0, none⟩)) rfl (by kernel_rfl) (by kernel_rfl) (by kernel_rfl) (fun _ _ _ h => h) (Or.inl ⟨by rfl, ?_⟩) (by first | assumption | exact trivial) ?_
    · intro W hSW; go_simp; try (with_reducible rfl)
    simp only [Act.put, List.getElem_toArray, List.getElem_cons_succ, List.getElem_cons_zero, List.setIfInBounds_toArray, List.set_cons_zero, List.set_cons_succ]
    refine wpAnyH_take (i := 2) (v := .pointer (some ⟨D, 1, none⟩)) rfl (by kernel_rfl) (by kernel_rfl) (by kernel_rfl) (fun _ _ _ h => h) (Or.inl ⟨by rfl, ?_⟩) (by first | assumption | exact trivial) ?_
    · intro W hSW; go_simp; try (with_reducible rfl)
    simp only [Act.put, List.getElem_toArray, List.getElem_cons_succ, List.getElem_cons_zero, List.setIfInBounds_toArray, List.set_cons_zero, List.set_cons_succ]
    refine wpAnyH_take (i := 4) (v := .pointer (some ⟨Y, 1, none⟩)) rfl (by kernel_rfl) (by kernel_rfl) (by kernel_rfl) (fun _ _ _ h => h) (Or.inl ⟨by rfl, ?_⟩) (by first | assumption | exact trivial) ?_
    · intro W hSW; go_simp; try (with_reducible rfl)
    simp only [Act.put, List.getElem_toArray, List.getElem_cons_succ, List.getElem_cons_zero, List.setIfInBounds_toArray, List.set_cons_zero, List.set_cons_succ]
    refine wpAnyH_take (i := 5) (v := .slice A5 m'.more.length c5) rfl (by kernel_rfl) (by kernel_rfl) (by kernel_rfl) (fun _ _ _ h => h) (Or.inl ⟨by rfl, ?_⟩) (by first | assumption | exact trivial) ?_
    · intro W hSW; have q := hSW.1; go_simp; try (with_reducible rfl)
    simp only [Act.put, List.getElem_toArray, List.getElem_cons_succ, List.getElem_cons_zero, List.setIfInBounds_toArray, List.set_cons_zero, List.set_cons_succ]
    refine wpAnyH_take (i := 6) (v := .int .i64 (m'.more.length : Int)) rfl (by kernel_rfl) (by kernel_rfl) (by kernel_rfl) (fun _ _ _ h => h) (Or.inl ⟨by rfl, ?_⟩) (by first | assumption | exact trivial) ?_
    · intro W hSW; go_simp; try (with_reducible rfl)
    simp only [Act.put, List.getElem_toArray, List.getElem_cons_succ, List.getElem_cons_zero, List.setIfInBounds_toArray, List.set_cons_zero, List.set_cons_succ]
    refine wpAnyH_take (i := 7) (v := .pointer (some ⟨X, 1, none⟩)) rfl (by kernel_rfl) (by kernel_rfl) (by kernel_rfl) (fun _ _ _ h => h) (Or.inl ⟨by rfl, ?_⟩) (by first | assumption | exact trivial) ?_
    · intro W hSW; go_simp; try (with_reducible rfl)
    simp only [Act.put, List.getElem_toArray, List.getElem_cons_succ, List.getElem_cons_zero, List.setIfInBounds_toArray, List.set_cons_zero, List.set_cons_succ]
    refine wpAnyH_take (i := 8) (v := .slice A N cp) rfl (by kernel_rfl) (by kernel_rfl) (by kernel_rfl) (fun _ _ _ h => h) (Or.inl ⟨by rfl, ?_⟩) (by first | assumption | exact trivial) ?_
    · intro W hSW; have q := hSW.2; go_simp; try (with_reducible rfl)
    simp only [Act.put, List.getElem_toArray, List.getElem_cons_succ, List.getElem_cons_zero, List.setIfInBounds_toArray, List.set_cons_zero, List.set_cons_succ]
    refine wpAnyH_take (i := 9) (v := .int .i64 (N : Int)) rfl (by kernel_rfl) (by kernel_rfl) (by kernel_rfl) (fun _ _ _ h => h) (Or.inl ⟨by rfl, ?_⟩) (by first | assumption | exact trivial) ?_
    · intro W hSW; go_simp; try (with_reducible rfl)
    simp only [Act.put, List.getElem_toArray, List.getElem_cons_succ, List.getElem_cons_zero, List.setIfInBounds_toArray, List.set_cons_zero, List.set_cons_succ]
    refine wpAnyH_take (i := 10) (v := .int .i64 ((m'.more.length : Int) - (N : Int))) rfl (by kernel_rfl) (by kernel_rfl) (by kernel_rfl) (fun _ _ _ h => h) (Or.inl ⟨by rfl, ?_⟩) (by first | assumption | exact trivial) ?_
    · intro W hSW; have q := HWa.out; go_simp; try (with_reducible rfl)
    simp only [Act.put, List.getElem_toArray, List.getElem_cons_succ, List.getElem_cons_zero, List.setIfInBounds_toArray, List.set_cons_zero, List.set_cons_succ]
    refine wpAnyH_ready (rs := [3]) (by kernel_rfl) (by simp) ?_
    refine AllReadyH.cons rfl (fun K hK => ?_) AllReadyH.nil
    go_simp
    refine hK.out _ _ (S0) (fun hHeld => ?_)
    clear hK K
    refine wpAnyH_take (i := 11) (v := .int .i64 (ga + ((m'.more.length : Int) - (N : Int)))) rfl (by kernel_rfl) (by kernel_rfl) (by kernel_rfl) (fun _ _ _ h => h) (Or.inl ⟨by rfl, ?_⟩) (by first | assumption | exact trivial) ?_
    · intro W hSW; have q := HWb.out; go_simp; try (with_reducible rfl)
    simp only [Act.put, List.getElem_toArray, List.getElem_cons_succ, List.getElem_cons_zero, List.setIfInBounds_toArray, List.set_cons_zero, List.set_cons_succ]
    refine wpAnyH_take (i := 12) (v := .pointer (some ⟨D, 0, none⟩)) rfl (by kernel_rfl) (by kernel_rfl) (by kernel_rfl) (fun _ _ _ h => h) (Or.inl ⟨by rfl, ?_⟩) (by first | assumption | exact trivial) ?_
    · intro W hSW; go_simp; try (with_reducible rfl)
    simp only [Act.put, List.getElem_toArray, List.getElem_cons_succ, List.getElem_cons_zero, List.setIfInBounds_toArray, List.set_cons_zero, List.set_cons_succ]
    refine wpAnyH_take (i := 13) (v := .pointer (some ⟨D, 1, none⟩)) rfl (by kernel_rfl) (by kernel_rfl) (by kernel_rfl) (fun _ _ _ h => h) (Or.inl ⟨by rfl, ?_⟩) (by first | assumption | exact trivial) ?_
    · intro W hSW; go_simp; try (with_reducible rfl)
    simp only [Act.put, List.getElem_toArray, List.getElem_cons_succ, List.getElem_cons_zero, List.setIfInBounds_toArray, List.set_cons_zero, List.set_cons_succ]
    refine wpAnyH_ready (rs := [14]) (by kernel_rfl) (by simp) ?_
    refine AllReadyH.cons rfl (fun K hK => ?_) AllReadyH.nil
    go_simp
    obtain ⟨V3, hV3⟩ : ∃ X, (VY.setCell ⟨D, 1, none⟩ (.int .i64 (ga + ((m'.more.length : Int) - (N : Int))))).drew = X := ⟨_, rfl⟩
    have p3D : V3.heap[D]? = some (.cells #[.int .i64 ro, .int .i64 (ga + ((m'.more.length : Int) - (N : Int))), .map (some b)] 117 (0, 0)) := by
      rw [← hV3]
      show (VY.setCell ⟨D, 1, none⟩ (.int .i64 (ga + ((m'.more.length : Int) - (N : Int))))).heap[D]? = _
      rw [heap_setCell_same VY D 1 _ _ _ rD]
      rfl
    have p3 : ∀ k, k ≠ D → V3.heap[k]? = VY.heap[k]? := fun k hk => by rw [← hV3]; exact Below.heap_setCell _ _ _ _ hk
    have b3 : But (fun k => k = D) VY V3 := by
      rw [← hV3]
      have h := But.set (S := fun k => k = D) (w := VY) (X := VY) (But.refl _ _) (p := ⟨D, 1, none⟩) (.inl rfl) (.int .i64 (ga + ((m'.more.length : Int) - (N : Int))))
      exact ⟨h.os, h.tape, h.output, h.size, h.same⟩
    have bw3 : But (fun k => k = D ∨ ∃ a, A = some a ∧ a.block = k) w V3 := (rB.mono (S' := fun k => k = D ∨ ∃ a, A = some a ∧ a.block = k) fun _ _ h => .inr h).trans b3 fun _ _ h => .inl h
    rw [hV3]
    refine hK.out _ _ (⟨(World.cell?_of_block (w := VY) (a := ⟨Y, 1, none⟩) (p3 Y hYD)).trans S0.1, (World.cell?_of_block (w := VY) (a := ⟨X, 1, none⟩) (p3 X hXD)).trans S0.2⟩) (fun hHeld => ?_)
    clear hK K
    refine wpAnyH_done (by kernel_rfl) ?_ _
    have rw3 := (p3 w.heap.size (by have := HNe.out.2.1; omega)).trans rI
    have ry3 := (p3 Y hYD).trans hy
    have bV53 : But (fun k => k = D) w5 V3 := (But.of_below (S := fun k => k = D) b5).trans b3 fun _ _ h => h
    clear hV3 b3 p3 S0 e1 ef rX hXD rD rI hHeld hVY b5 kVY k1Y k15 k1V
    go_wp2
    have S1 : V3.drew.heap[D]? = some (.cells #[.int .i64 ro, .int .i64 (ga + ((m'.more.length : Int) - (N : Int))), .map (some b)] 117 (0, 0)) ∧ V3.drew.heap[w.heap.size]? = some (.cells #[.int .i64 o, .int .i64 d, .int .i64 ee, .int .i64 c] 43 (0, 0)) ∧ V3.drew.heap[Y]? = some (.cells #[.int .i64 m'.up, .slice A5 m'.more.length c5] 126 (0, 0)) := ⟨p3D, rw3, ry3⟩
    refine wp_region_held_drew (S := fun W : World => W.heap[D]? = some (.cells #[.int .i64 ro, .int .i64 (ga + ((m'.more.length : Int) - (N : Int))), .map (some b)] 117 (0, 0)) ∧ W.heap[w.heap.size]? = some (.cells #[.int .i64 o, .int .i64 d, .int .i64 ee, .int .i64 c] 43 (0, 0)) ∧ W.heap[Y]? = some (.cells #[.int .i64 m'.up, .slice A5 m'.more.length c5] 126 (0, 0))) (by kernel_rfl) S1 (fun hHeld => ?_)
    refine wpAnyH_take (i := 0) (v := .pointer (some ⟨D, 0, none⟩)) rfl (by kernel_rfl) (by kernel_rfl) (by kernel_rfl) (fun _ _ _ h => h) (Or.inl ⟨by rfl, ?_⟩) (by first | assumption | exact trivial) ?_
    · intro W hSW; go_simp; try (with_reducible rfl)
    simp only [Act.put, List.getElem_toArray, List.getElem_cons_succ, List.getElem_cons_zero, List.setIfInBounds_toArray, List.set_cons_zero, List.set_cons_succ]
    refine wpAnyH_take (i := 1) (v := .pointer (some ⟨D, 0, none⟩)) rfl (by kernel_rfl) (by kernel_rfl) (by kernel_rfl) (fun _ _ _ h => h) (Or.inl ⟨by rfl, ?_⟩) (by first | assumption | exact trivial) ?_
    · intro W hSW; go_simp; try (with_reducible rfl)
    simp only [Act.put, List.getElem_toArray, List.getElem_cons_succ, List.getElem_cons_zero, List.setIfInBounds_toArray, List.set_cons_zero, List.set_cons_succ]
    refine wpAnyH_take (i := 2) (v := .pointer (some ⟨D, 2, none⟩)) rfl (by kernel_rfl) (by kernel_rfl) (by kernel_rfl) (fun _ _ _ h => h) (Or.inl ⟨by rfl, ?_⟩) (by first | assumption | exact trivial) ?_
    · intro W hSW; go_simp; try (with_reducible rfl)
    simp only [Act.put, List.getElem_toArray, List.getElem_cons_succ, List.getElem_cons_zero, List.setIfInBounds_toArray, List.set_cons_zero, List.set_cons_succ]
    refine wpAnyH_take (i := 3) (v := .map (some b)) rfl (by kernel_rfl) (by kernel_rfl) (by kernel_rfl) (fun _ _ _ h => h) (Or.inl ⟨by rfl, ?_⟩) (by first | assumption | exact trivial) ?_
    · intro W hSW; obtain ⟨z0, z1, z2⟩ := set_cells hSW.1; go_simp; try (with_reducible rfl)
    simp only [Act.put, List.getElem_toArray, List.getElem_cons_succ, List.getElem_cons_zero, List.setIfInBounds_toArray, List.set_cons_zero, List.set_cons_succ]
    refine wpAnyH_take (i := 4) (v := .agg #[.int .i64 o, .int .i64 d, .int .i64 ee, .int .i64 c]) rfl (by kernel_rfl) (by kernel_rfl) (by kernel_rfl) (fun _ _ _ h => h) (Or.inl ⟨by rfl, ?_⟩) (by first | assumption | exact trivial) ?_
    · intro W hSW; obtain ⟨z0, z1, z2, z3⟩ := id_cells hSW.2.1; go_simp; try (with_reducible rfl)
    simp only [Act.put, List.getElem_toArray, List.getElem_cons_succ, List.getElem_cons_zero, List.setIfInBounds_toArray, List.set_cons_zero, List.set_cons_succ]
    refine wpAnyH_take (i := 6) (v := .agg #[.int .i64 m'.up, .slice A5 m'.more.length c5]) rfl (by kernel_rfl) (by kernel_rfl) (by kernel_rfl) (fun _ _ _ h => h) (Or.inl ⟨by rfl, ?_⟩) (by first | assumption | exact trivial) ?_
    · intro W hSW; obtain ⟨z0, z1⟩ := mark_cells hSW.2.2; go_simp; try (with_reducible rfl)
    simp only [Act.put, List.getElem_toArray, List.getElem_cons_succ, List.getElem_cons_zero, List.setIfInBounds_toArray, List.set_cons_zero, List.set_cons_succ]
    refine wpAnyH_ready (rs := [5]) (by kernel_rfl) (by simp) ?_
    refine AllReadyH.cons rfl (fun K hK => ?_) AllReadyH.nil
    go_simp
    go_wp2_with (go_at_call 69; refine (HP.out _).mono ?_; rintro e w8 ⟨rfl, hb8⟩)
    have k8 : ∀ k x, V3.heap[k]? = some x → w8.heap[k]? = some x := fun k x hk => (hb8.out.block k (Array.getElem?_eq_some_iff.1 hk).1).trans hk
    have S8 := And.intro (k8 _ _ p3D) (And.intro (k8 _ _ rw3) (k8 _ _ ry3))
    have bV8 : But (fun _ => False) V3 w8 := But.of_below (w := V3) ⟨hb8.out.os, hb8.out.tape, hb8.out.output, hb8.out.size, hb8.out.block⟩
    have bw8 : But (fun k => k = D ∨ ∃ a, A = some a ∧ a.block = k) w w8 := bw3.trans bV8 (fun _ _ h => h.elim)
    have b58 : But (fun k => k = D) w5 w8 := bV53.trans bV8 (fun _ _ h => h.elim)
    refine hK.out _ _ (S8) (fun hHeld => ?_)
    clear hK K
    refine wpAnyH_ready (rs := [7]) (by kernel_rfl) (by simp) ?_
    refine AllReadyH.cons rfl (fun K hK => ?_) AllReadyH.nil
    rw [if_pos (by kernel_rfl)]
    have hE8 : Lw F w8 A5 c5 m'.more := HE5.out.same fun a ha => b58.same _ (HE5.out.lt ha) fun e => by
      obtain ⟨_, cs, hc⟩ := HE5.out.blk ha
      rw [e, b5D] at hc
      simp at hc
    obtain ⟨w9, hr9, hM9, hb9, hs9⟩ := HPut.out w8 m' A5 c5 (bw8.same b HNe.out.2.2 (fun e => e.elim (fun e => HNe.out.1 e.symm) fun h => by
      obtain ⟨_, _, cs, hc⟩ := HSA.out b h
      obtain ⟨es, cc, hm⟩ := HMp.out.isMap
      rw [hm] at hc
      cases hc)) (fun k cs hk hc hn => bw8.same k (Array.getElem?_eq_some_iff.1 hc).1 fun e => e.elim (fun e => by rw [e, HBox.out] at hc; simp at hc) hn) hE8 (fun a' ha' => (HG5.out a' ha').imp id fun h => Nat.le_trans HBV.out.size h) (by omega)
    refine put_run (.tmp 42) (.tmp 44) (.tmp 45) rfl (.map (some b)) (.agg #[.int .i64 o, .int .i64 ee]) (mkV m'.up A5 m'.more.length c5) rfl rfl rfl hr9 ?_
    simp only [Act.put, List.getElem_toArray, List.getElem_cons_succ, List.getElem_cons_zero, List.setIfInBounds_toArray, List.set_cons_zero, List.set_cons_succ]
    have k9 : ∀ k x, k ≠ b → w8.heap[k]? = some x → w9.heap[k]? = some x := fun k x hk h => (hb9.same k (Array.getElem?_eq_some_iff.1 h).1 hk).trans h
    have m8 : ∃ es cc, w8.heap[b]? = some (.map es cc) := by
      obtain ⟨es, cc, hm⟩ := HMp.out.isMap
      exact ⟨es, cc, (bw8.at_ hm fun e => e.elim (fun e => HNe.out.1 e.symm) fun h => by
        obtain ⟨_, _, cs, hc⟩ := HSA.out b h
        rw [hm] at hc
        cases hc)⟩
    have nY : Y ≠ b := fun e => by obtain ⟨es, cc, hm⟩ := m8; have := S8.2.2; rw [e, hm] at this; cases this
    have nI : w.heap.size ≠ b := by have := HNe.out.2.2; omega
    have S9 := And.intro (k9 _ _ HNe.out.1 S8.1) (And.intro (k9 _ _ nI S8.2.1) (k9 _ _ nY S8.2.2))
    refine hK.out _ _ (S9) (fun hHeld => ?_)
    clear hK K
    refine wpAnyH_done (by kernel_rfl) ?_ _
    have hfin : But (fun k => k = D ∨ k = b ∨ (F k ∧ ∃ cs, w.heap[k]? = some (.cells cs 3 (0, 0)))) w w9 := (bw8.mono (S' := fun k => k = D ∨ k = b ∨ (F k ∧ ∃ cs, w.heap[k]? = some (.cells cs 3 (0, 0)))) fun k _ h => h.elim .inl fun h => .inr (.inr (HSA.out k h).2)).trans hb9 (fun _ _ h => .inr (.inl h))
    go_wp2
    go_ret
    exact ⟨rfl, n + 1, Nat.le_refl _, ⟨S9.1, hM9, HOk.out⟩, hfin⟩
  · have hadd : addS s i = s := by unfold addS; rw [if_pos h0]
    rw [hadd]
    have hne := Mg.nz h0
    obtain ⟨k, hk⟩ : ∃ k, mayN s i = k := ⟨_, rfl⟩
    rw [hk] at HMay hne ⊢
    have HW1 := Lib.hid hW1
    have HS1 := Lib.hid (hSW W1 (Below.refl _ _)).1
    obtain ⟨o, d, ee, c⟩ := i
    simp only [Mg.idC] at HMay HW1 ⊢
    have HB1 := Lib.hid b1
    clear hW1 b1 r1 hlt hSW h0 hk hadd hS HP
    go_enter Tryz.func37, Tryz.ntmps37
    go_wp2_with (go_at_call 68; rw [HW1.out]; refine (HMay.out _ HS1.out).mono ?_; rintro e w2 ⟨rfl, hb2⟩)
    go_ret
    exact ⟨rfl, n, by omega, (HSW.out _ hb2.out).1, But.of_below (HSW.out _ hb2.out).2.1⟩
end Go.Proofs.YtfnlhfelpdkieaaGreat.Se
