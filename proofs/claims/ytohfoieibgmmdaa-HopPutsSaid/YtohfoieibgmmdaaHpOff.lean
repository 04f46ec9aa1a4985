/- isOffered, Waits. -/
import Derived.Test.YtohfoieibgmmdaaHpIs
namespace Go.Proofs.Ytohfoieibgmmdaa.Hp
open Go.RowKit Go.Maps
open Go.Proofs.Ytohfoieibgmmdaa.Me Go.Proofs.Ytohfoieibgmmdaa.Sb
set_option linter.unusedVariables false
set_option linter.unusedSimpArgs false

/-- Is an id offered to a neighbour by a number? -/
def offB (kept : Kn) (t n : Int) (i : Mg.Id4) : Bool := isB kept i && ((at_ kept i).t == t && (at_ kept i).n == n)
/-- How long does an id wait? -/
def waitN (d : Dk) (i : Mg.Id4) : Int := match d.kept i with
  | none => 0
  | some s => if s.o = true then 0 else s.u - d.passed
theorem sd_one (a : Bool) (b c d : Int) : (#[.bool a, .int .i64 b, .int .i64 c, .int .i64 d] : Array Value).all (·.oneCell') = true := by simp [Value.oneCell']
theorem sd_row {W : World} {g : Nat} {s : Sd} (h : W.heap[g]? = some (.cells (sdC s) 95 (0, 0))) : W.cell? ⟨g, 0, none⟩ = some (.bool s.o) ∧ W.cell? ⟨g, 1, none⟩ = some (.int .i64 s.t) ∧ W.cell? ⟨g, 2, none⟩ = some (.int .i64 s.n) ∧ W.cell? ⟨g, 3, none⟩ = some (.int .i64 s.u) := by
  refine ⟨?_, ?_, ?_, ?_⟩
  all_goals
    rw [cell_of_row W g _ _ _ (0, 0) h]
    rfl
theorem Off_nil (t n : Int) (i : Mg.Id4) (w : World) : Calls Try.prog 62 #[.pointer none, .int .i64 t, .int .i64 n, .agg (Mg.idC i)] w fun e w' => e = .returned (.bool false) ∧ Hid (Below w.heap.size w w') := by
  have HI := Lib.hid (fun W => Is_nil i W)
  have HX := Lib.hid (idbox i w)
  obtain ⟨o, d, ee, c⟩ := i
  simp only [Mg.idC] at HI HX ⊢
  go_enter Try.func62, Try.ntmps62
  go_wp2_with (go_at_call 23; refine (HI.out _).mono ?_; rintro e w1 ⟨rfl, b1⟩; obtain ⟨_, bw⟩ := HX.out w1 b1.out)
  go_ret
  exact ⟨rfl, bw⟩
set_option maxRecDepth 100000 in
theorem Off_any (D mb m : Nat) (dk : Dk) (t n : Int) (i : Mg.Id4) (w : World) (h : Hid (Dq w D mb m dk)) (hf : Fit i) : Calls Try.prog 62 #[.pointer (some ⟨D, 0, none⟩), .int .i64 t, .int .i64 n, .agg (Mg.idC i)] w fun e w' => e = .returned (.bool (offB dk.kept t n i)) ∧ Hid (Below w.heap.size w w') := by
  have HX := Lib.hid (idbox i w)
  have hb1 : Below w.heap.size w (w.alloc (.cells (Mg.idC i) 23 (0, 0))) := Me.below_alloc (Below.refl _ _)
  have HI : Hid (∀ W, Below w.heap.size w W → Calls Try.prog 23 #[.pointer (some ⟨D, 0, none⟩), .agg (Mg.idC i)] W fun e w' => e = .returned (.bool (isB dk.kept i)) ∧ Hid (Below W.heap.size W w')) := fun W hW => Is_any D mb m dk i W (h.out.below hW) hf
  have HD : Hid (∀ W, Below w.heap.size w W → W.cell? ⟨D, 3, none⟩ = some (.map (some mb))) := fun W hW => (h.out.below hW).cells.2.2.2
  have hlk := h.out.map.look hf
  have HL : Hid (∀ W, Below w.heap.size w W → (Instr.lookup 83 (.map (some mb)) (.agg (Mg.idC i)) false).run Try.prog W = .ok (.agg (sdC (at_ dk.kept i))) W) := fun W hW => (hlk W (hW.block _ h.out.ltm)).2
  unfold offB
  obtain ⟨s, hs⟩ : ∃ s, at_ dk.kept i = s := ⟨_, rfl⟩
  obtain ⟨q, hq⟩ : ∃ q, isB dk.kept i = q := ⟨_, rfl⟩
  rw [hs] at HL
  rw [hq] at HI
  rw [hq, hs]
  have HB1 := Lib.hid hb1
  clear hs hlk h hf hb1 hq
  obtain ⟨so, st, sn, su⟩ := s
  obtain ⟨o, d, ee, c⟩ := i
  simp only [Mg.idC, sdC] at HX HL HI HB1 ⊢
  cases q
  · rw [Bool.false_and]
    go_enter Try.func62, Try.ntmps62
    go_wp2_with (go_at_call 23; refine (HI.out _ HB1.out).mono ?_; rintro e w1 ⟨rfl, b1⟩; obtain ⟨_, bw⟩ := HX.out w1 b1.out)
    go_ret
    exact ⟨rfl, bw⟩
  · rw [Bool.true_and]
    obtain ⟨q1, e1⟩ : ∃ q, (st == t) = q := ⟨_, rfl⟩
    obtain ⟨q2, e2⟩ : ∃ q, (sn == n) = q := ⟨_, rfl⟩
    rw [e1, e2]
    cases q1
    all_goals
      go_enter Try.func62, Try.ntmps62
      go_wp2_with (go_at_call 23; refine (HI.out _ HB1.out).mono ?_; rintro e w1 ⟨rfl, b1⟩; obtain ⟨_, bw⟩ := HX.out w1 b1.out)
      have HBW := Lib.hid bw
      have HX1 : Hid (∀ W, Below w1.heap.size w1 W → (W.cell? ⟨w.heap.size, 0, none⟩ = some (.int .i64 o) ∧ W.cell? ⟨w.heap.size, 1, none⟩ = some (.int .i64 d) ∧ W.cell? ⟨w.heap.size, 2, none⟩ = some (.int .i64 ee) ∧ W.cell? ⟨w.heap.size, 3, none⟩ = some (.int .i64 c)) ∧ Below w.heap.size w W) := fun W hW => HX.out W (b1.out.trans (hW.mono b1.out.size))
      clear b1 bw HX HB1
      have S0 := (Below.refl w1.heap.size w1).drew
      refine wp_region_held_drew (S := fun W => Below w1.heap.size w1 W) (by kernel_rfl) S0 (fun hHeld => ?_)
      refine wpAnyH_take (i := 0) (v := .pointer (some ⟨D, 0, none⟩)) rfl (by kernel_rfl) (by kernel_rfl) (by kernel_rfl) (fun _ _ _ h => h) (Or.inl ⟨by rfl, ?_⟩) (by first | assumption | exact trivial) ?_
      · intro W hSW; go_simp; try (with_reducible rfl)
      simp only [Act.put, List.getElem_toArray, List.getElem_cons_succ, List.getElem_cons_zero, List.setIfInBounds_toArray, List.set_cons_zero, List.set_cons_succ]
      refine wpAnyH_take (i := 1) (v := .pointer (some ⟨D, 0, none⟩)) rfl (by kernel_rfl) (by kernel_rfl) (by kernel_rfl) (fun _ _ _ h => h) (Or.inl ⟨by rfl, ?_⟩) (by first | assumption | exact trivial) ?_
      · intro W hSW; go_simp; try (with_reducible rfl)
      simp only [Act.put, List.getElem_toArray, List.getElem_cons_succ, List.getElem_cons_zero, List.setIfInBounds_toArray, List.set_cons_zero, List.set_cons_succ]
      refine wpAnyH_take (i := 2) (v := .pointer (some ⟨D, 3, none⟩)) rfl (by kernel_rfl) (by kernel_rfl) (by kernel_rfl) (fun _ _ _ h => h) (Or.inl ⟨by rfl, ?_⟩) (by first | assumption | exact trivial) ?_
      · intro W hSW; go_simp; try (with_reducible rfl)
      simp only [Act.put, List.getElem_toArray, List.getElem_cons_succ, List.getElem_cons_zero, List.setIfInBounds_toArray, List.set_cons_zero, List.set_cons_succ]
      refine wpAnyH_take (i := 3) (v := .map (some mb)) rfl (by kernel_rfl) (by kernel_rfl) (by kernel_rfl) (fun _ _ _ h => h) (Or.inl ⟨by rfl, ?_⟩) (by first | assumption | exact trivial) ?_
      · intro W hSW; have q := HD.out W (HX1.out W hSW).2; go_simp; try (with_reducible rfl)
      simp only [Act.put, List.getElem_toArray, List.getElem_cons_succ, List.getElem_cons_zero, List.setIfInBounds_toArray, List.set_cons_zero, List.set_cons_succ]
      refine wpAnyH_take (i := 4) (v := .agg #[.int .i64 o, .int .i64 d, .int .i64 ee, .int .i64 c]) rfl (by kernel_rfl) (by kernel_rfl) (by kernel_rfl) (fun _ _ _ h => h) (Or.inl ⟨by rfl, ?_⟩) (by first | assumption | exact trivial) ?_
      · intro W hSW; obtain ⟨⟨y0, y1, y2, y3⟩, _⟩ := HX1.out W hSW; go_simp; try (with_reducible rfl)
      simp only [Act.put, List.getElem_toArray, List.getElem_cons_succ, List.getElem_cons_zero, List.setIfInBounds_toArray, List.set_cons_zero, List.set_cons_succ]
      refine wpAnyH_take (i := 5) (v := .agg #[.bool so, .int .i64 st, .int .i64 sn, .int .i64 su]) rfl (by kernel_rfl) (by kernel_rfl) (by kernel_rfl) (fun _ _ _ h => h) (Or.inl ⟨by rfl, ?_⟩) (by first | assumption | exact trivial) ?_
      · intro W hSW; have q := HL.out W (HX1.out W hSW).2; go_simp; try (with_reducible rfl)
      simp only [Act.put, List.getElem_toArray, List.getElem_cons_succ, List.getElem_cons_zero, List.setIfInBounds_toArray, List.set_cons_zero, List.set_cons_succ]
      refine wpAnyH_ready (rs := [6]) (by kernel_rfl) (by simp) ?_
      refine AllReadyH.cons rfl (fun K hK => ?_) AllReadyH.nil
      go_simp
      obtain ⟨V6, hV6⟩ : ∃ V, (w1.alloc (.cells #[.bool false, .int .i64 0, .int .i64 0, .int .i64 0] 95)).drew = V := ⟨_, rfl⟩
      have hb6 : Below w1.heap.size w1 V6 := by rw [← hV6]; exact (Me.below_alloc (Below.refl _ _)).drew
      have hg6 : V6.heap[w1.heap.size]? = some (.cells #[.bool false, .int .i64 0, .int .i64 0, .int .i64 0] 95 (0, 0)) := by rw [← hV6]; exact heap_alloc_new w1 _
      rw [hV6]
      obtain ⟨g, hg⟩ : ∃ g, w1.heap.size = g := ⟨_, rfl⟩
      rw [hg] at hg6
      have HG := Lib.hid hg
      simp only [hg]
      clear hV6 hg
      refine hK.out _ _ (hb6) (fun hHeld => ?_)
      clear hK K
      refine wpAnyH_ready (rs := [7]) (by kernel_rfl) (by simp) ?_
      refine AllReadyH.cons rfl (fun K hK => ?_) AllReadyH.nil
      rw [if_pos (by kernel_rfl)]
      refine wp_store_row 95 (.tmp 9) (.tmp 19) rfl g #[.bool so, .int .i64 st, .int .i64 sn, .int .i64 su] rfl (by rfl) 95 _ hg6 (by kernel_rfl) rfl (sd_one _ _ _ _) ?_
      simp only [Act.put, List.getElem_toArray, List.getElem_cons_succ, List.getElem_cons_zero, List.setIfInBounds_toArray, List.set_cons_zero, List.set_cons_succ]
      obtain ⟨V7, hV7⟩ : ∃ V, V6.setRow g #[.bool so, .int .i64 st, .int .i64 sn, .int .i64 su] = V := ⟨_, rfl⟩
      have hb7 : Below w1.heap.size w1 V7 := by rw [← hV7]; exact Sb.below_setRow _ hb6 (by rw [HG.out]; exact Nat.le_refl _)
      have hg7 : V7.heap[g]? = some (.cells #[.bool so, .int .i64 st, .int .i64 sn, .int .i64 su] 95 (0, 0)) := by rw [← hV7]; exact setRow_heap _ _ _ _ _ _ hg6
      rw [hV7]
      clear hV7
      refine hK.out _ _ (hb7) (fun hHeld => ?_)
      clear hK K
      refine wpAnyH_done (by kernel_rfl) ?_ _
      obtain ⟨x0, x1, x2, x3⟩ := sd_row (s := ⟨so, st, sn, su⟩) hg7
      simp only at x0 x1 x2 x3
      go_wp2
      go_ret
      exact ⟨rfl, (HX1.out _ hb7).2⟩
end Go.Proofs.Ytohfoieibgmmdaa.Hp
