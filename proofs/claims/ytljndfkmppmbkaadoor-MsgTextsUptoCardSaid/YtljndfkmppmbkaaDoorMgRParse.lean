/- The reference's Parse. -/
import Derived.Test.YtljndfkmppmbkaaDoorMgNums
namespace Go.Proofs.YtljndfkmppmbkaaDoor.Mg
open Go.RowKit
open Go.Proofs.YtljndfkmppmbkaaDoor.Me Go.Proofs.YtljndfkmppmbkaaDoor.Ba Go.Proofs.YtljndfkmppmbkaaDoor.Ma Go.Proofs.YtljndfkmppmbkaaDoor.Hd
set_option linter.unusedVariables false
set_option linter.unusedSimpArgs false

theorem four {l : List Nat} (h : l.length = 4) : ∃ a b c d, l = [a, b, c, d] := by
  match l, h with
  | [a, b, c, d], _ => exact ⟨a, b, c, d, rfl⟩
theorem nm_le (u : Nat) (hu : u ≤ 65536) : ∀ s, ∀ x ∈ nm u s, x ≤ 65536 := by
  intro s
  induction s generalizing u with
  | nil => intro x hx; simp [nm] at hx; omega
  | cons c r ih =>
    intro x hx
    unfold nm at hx
    split at hx
    · exact ih _ (by omega) x hx
    · rcases List.mem_cons.1 hx with h | h
      · omega
      · exact ih 0 (by omega) x h
theorem ps_rno {s : List UInt8} (h : (nm 0 s).length ≠ 4) : psI s = ⟨0, 0, 0, 0⟩ ∧ psZ s = 2 := ps_no fun i hr e => h (by rw [← e, nm_tx hr]; rfl)
theorem ps_rid {s : List UInt8} {a b c d : Nat} (h : nm 0 s = [a, b, c, d]) : (psI s = if chkN ⟨a, b, c, d⟩ = 0 ∧ txK ⟨a, b, c, d⟩ 4 = s then ⟨a, b, c, d⟩ else ⟨0, 0, 0, 0⟩) ∧ (psZ s = if chkN ⟨a, b, c, d⟩ = 0 ∧ txK ⟨a, b, c, d⟩ 4 = s then 0 else 2) := by
  by_cases hc : chkN ⟨a, b, c, d⟩ = 0 ∧ txK ⟨a, b, c, d⟩ 4 = s
  · rw [if_pos hc, if_pos hc]
    have := ps_of (right_iff.1 hc.1)
    rw [hc.2] at this
    exact this
  · rw [if_neg hc, if_neg hc]
    refine ps_no fun i hr e => hc ?_
    have h2 := nm_tx hr
    rw [e, h] at h2
    simp only [List.cons.injEq, and_true] at h2
    have hb := fun k (hk : k < 4) => (ix_nat hr hk).1
    have e0 := hb 0 (by omega); have e1 := hb 1 (by omega); have e2 := hb 2 (by omega); have e3 := hb 3 (by omega)
    rw [← h2.1] at e0
    rw [← h2.2.1] at e1
    rw [← h2.2.2.1] at e2
    rw [← h2.2.2.2] at e3
    have hi : i = ⟨a, b, c, d⟩ := by
      obtain ⟨o, dd, ee, cc⟩ := i
      simp only [ix] at e0 e1 e2 e3
      simp only [if_pos, show ¬ (1 : Nat) = 0 by decide, show ¬ (2 : Nat) = 0 by decide, show ¬ (3 : Nat) = 0 by decide, show ¬ (2 : Nat) = 1 by decide, show ¬ (3 : Nat) = 1 by decide, show ¬ (3 : Nat) = 2 by decide, if_false] at e0 e1 e2 e3
      rw [e0, e1, e2, e3]
    rw [← hi]
    exact ⟨right_iff.2 hr, e⟩
theorem four_cells {w : World} {B : Nat} {v : Value} {a b c d : Int} (h : Mi.Own w B v [a, b, c, d]) : ∃ g cap, v = .slice (some ⟨g, 0, none⟩) 4 cap ∧ 4 ≤ cap ∧ g < w.heap.size ∧ w.cell? ⟨g, 0, none⟩ = some (.int .i64 a) ∧ w.cell? ⟨g, 1, none⟩ = some (.int .i64 b) ∧ w.cell? ⟨g, 2, none⟩ = some (.int .i64 c) ∧ w.cell? ⟨g, 3, none⟩ = some (.int .i64 d) := by
  rcases h.2 with ⟨h1, h2⟩ | ⟨g, cap, cur, h1, h2, h3, h4, h5, h6, h7⟩
  · simp at h2
  · have hlt := h.lt g (by rw [h1]; rfl)
    subst h1
    refine ⟨g, cap, rfl, h4, hlt.2, ?_, ?_, ?_, ?_⟩
    · exact (World.ownsRow.cellAt h 0 (by simp)).trans (by simp [Mi.iV])
    · exact (World.ownsRow.cellAt h 1 (by simp)).trans (by simp [Mi.iV])
    · exact (World.ownsRow.cellAt h 2 (by simp)).trans (by simp [Mi.iV])
    · exact (World.ownsRow.cellAt h 3 (by simp)).trans (by simp [Mi.iV])
set_option maxRecDepth 100000 in
set_option maxHeartbeats 8000000 in
theorem RParse_any (s : List UInt8) (hs : s.length ≤ 1048576) (w : World) : Calls Tryd.prog 30 #[.string (sB s)] w (IdP (psI s) (psZ s) w) := by
  obtain ⟨W1, hW1⟩ : ∃ W, w.alloc (.cells #[.int .i64 0, .int .i64 0, .int .i64 0, .int .i64 0] 23) = W := ⟨_, rfl⟩
  have b1 : Below w.heap.size w W1 := by rw [← hW1]; exact Me.below_alloc (Below.refl _ _)
  have z1 : W1.heap.size = w.heap.size + 1 := by rw [← hW1]; simp
  have r1 : W1.heap[w.heap.size]? = some (.cells #[.int .i64 0, .int .i64 0, .int .i64 0, .int .i64 0] 23 (0, 0)) := by
    rw [← hW1]
    exact heap_alloc_new w _
  have HW := Lib.hid hW1
  have HNm := Lib.hid (RNums_any s hs W1)
  have HBB : Hid (∀ W, Below W1.heap.size W1 W → W.heap[w.heap.size]? = some (.cells #[.int .i64 0, .int .i64 0, .int .i64 0, .int .i64 0] 23 (0, 0)) ∧ ∀ cs, Below w.heap.size w (W.setRow w.heap.size cs)) := fun W hW =>
    ⟨(hW.block _ (by omega)).trans r1, fun cs => below_setRow cs (b1.trans (hW.mono b1.size)) (Nat.le_refl _)⟩
  unfold IdP
  by_cases h4 : (nm 0 s).length = 4
  · obtain ⟨a, b, c, d, hl⟩ := four h4
    obtain ⟨hI, hZ⟩ := ps_rid hl
    rw [hl] at HNm
    have hj2 := sB_beq (txK ⟨a, b, c, d⟩ 4) s
    have HTX : Hid (∀ W, Calls Tryd.prog 28 #[.agg #[.int .i64 (a : Int), .int .i64 (b : Int), .int .i64 (c : Int), .int .i64 (d : Int)]] W fun e w' => e = .returned (.tuple #[.string (if chkN ⟨a, b, c, d⟩ = 0 then sB (txK ⟨a, b, c, d⟩ 4) else ⟨#[]⟩), .int .i64 (chkN ⟨a, b, c, d⟩ : Int)]) ∧ Hid (Below W.heap.size W w')) := fun W => by
      by_cases hk : chkN ⟨a, b, c, d⟩ = 0
      · rw [if_pos hk, hk]
        exact RText_ok ⟨a, b, c, d⟩ (right_iff.1 hk) W
      · rw [if_neg hk]
        exact RText_no ⟨a, b, c, d⟩ hk W
    rw [hI, hZ]
    obtain ⟨S, hS⟩ : ∃ S, sB s = S := ⟨_, rfl⟩
    rw [hS] at HNm hj2 ⊢
    have HNm2 : Hid (Calls Tryd.prog 49 #[.string S] W1 fun e w' => ∃ v, e = .returned v ∧ Hid (Mi.Own w' W1.heap.size v [(a : Int), (b : Int), (c : Int), (d : Int)]) ∧ Hid (Below W1.heap.size W1 w')) := HNm.out
    by_cases hk : chkN ⟨a, b, c, d⟩ = 0
    · simp only [if_pos hk] at HTX
      rw [hk] at HTX
      by_cases hts : txK ⟨a, b, c, d⟩ 4 = s
      · rw [if_pos ⟨hk, hts⟩, if_pos ⟨hk, hts⟩]
        rw [decide_eq_true hts] at hj2
        obtain ⟨X, hX⟩ : ∃ X, sB (txK ⟨a, b, c, d⟩ 4) = X := ⟨_, rfl⟩
        rw [hX] at HTX hj2
        clear hW1 b1 z1 r1 hI hZ hl h4 HNm hS hk hts hX
        simp only [idC, show ((0 : Nat) : Int) = 0 from rfl] at HTX ⊢
        go_enter Tryd.func30, Tryd.ntmps30
        go_wp2_with (go_at_call 49; rw [HW.out]; refine HNm2.out.mono ?_; rintro e w2 ⟨v, rfl, ho2, hb2⟩; obtain ⟨g, cap, rfl, hcap, hgl, n0, n1, n2, n3⟩ := four_cells ho2.out; clear ho2)
        have HC : Hid (∀ W, Below w2.heap.size w2 W → W.cell? ⟨g, 0, none⟩ = some (.int .i64 (a : Int)) ∧ W.cell? ⟨g, 1, none⟩ = some (.int .i64 (b : Int)) ∧ W.cell? ⟨g, 2, none⟩ = some (.int .i64 (c : Int)) ∧ W.cell? ⟨g, 3, none⟩ = some (.int .i64 (d : Int))) := fun W hW => ⟨(hW.cell hgl).trans n0, (hW.cell hgl).trans n1, (hW.cell hgl).trans n2, (hW.cell hgl).trans n3⟩
        have S0 := (Below.refl w2.heap.size w2).drew
        clear n0 n1 n2 n3
        refine wp_region_held_drew (S := fun W => Below w2.heap.size w2 W) (by kernel_rfl) S0 (fun hHeld => ?_)
        refine wpAnyH_take (i := 0) (v := .slice (some ⟨g, 0, none⟩) 4 cap) rfl (by kernel_rfl) (by kernel_rfl) (by kernel_rfl) (fun _ _ _ h => h) (Or.inl ⟨by rfl, ?_⟩) (by first | assumption | exact trivial) ?_
        · intro W hSW; go_simp; try (with_reducible rfl)
        simp only [Act.put, List.getElem_toArray, List.getElem_cons_succ, List.getElem_cons_zero, List.setIfInBounds_toArray, List.set_cons_zero, List.set_cons_succ]
        refine wpAnyH_take (i := 1) (v := .pointer (some ⟨g, 0, none⟩)) rfl (by kernel_rfl) (by kernel_rfl) (by kernel_rfl) (fun _ _ _ h => h) (Or.inl ⟨by rfl, ?_⟩) (by first | assumption | exact trivial) ?_
        · intro W hSW; go_simp; try (with_reducible rfl)
        simp only [Act.put, List.getElem_toArray, List.getElem_cons_succ, List.getElem_cons_zero, List.setIfInBounds_toArray, List.set_cons_zero, List.set_cons_succ]
        refine wpAnyH_take (i := 2) (v := .int .i64 (a : Int)) rfl (by kernel_rfl) (by kernel_rfl) (by kernel_rfl) (fun _ _ _ h => h) (Or.inl ⟨by rfl, ?_⟩) (by first | assumption | exact trivial) ?_
        · intro W hSW; obtain ⟨y0, y1, y2, y3⟩ := HC.out W hSW; go_simp; try (with_reducible rfl)
        simp only [Act.put, List.getElem_toArray, List.getElem_cons_succ, List.getElem_cons_zero, List.setIfInBounds_toArray, List.set_cons_zero, List.set_cons_succ]
        refine wpAnyH_take (i := 3) (v := .slice (some ⟨g, 0, none⟩) 4 cap) rfl (by kernel_rfl) (by kernel_rfl) (by kernel_rfl) (fun _ _ _ h => h) (Or.inl ⟨by rfl, ?_⟩) (by first | assumption | exact trivial) ?_
        · intro W hSW; go_simp; try (with_reducible rfl)
        simp only [Act.put, List.getElem_toArray, List.getElem_cons_succ, List.getElem_cons_zero, List.setIfInBounds_toArray, List.set_cons_zero, List.set_cons_succ]
        refine wpAnyH_take (i := 4) (v := .pointer (some ⟨g, 1, none⟩)) rfl (by kernel_rfl) (by kernel_rfl) (by kernel_rfl) (fun _ _ _ h => h) (Or.inl ⟨by rfl, ?_⟩) (by first | assumption | exact trivial) ?_
        · intro W hSW; go_simp; try (with_reducible rfl)
        simp only [Act.put, List.getElem_toArray, List.getElem_cons_succ, List.getElem_cons_zero, List.setIfInBounds_toArray, List.set_cons_zero, List.set_cons_succ]
        refine wpAnyH_take (i := 5) (v := .int .i64 (b : Int)) rfl (by kernel_rfl) (by kernel_rfl) (by kernel_rfl) (fun _ _ _ h => h) (Or.inl ⟨by rfl, ?_⟩) (by first | assumption | exact trivial) ?_
        · intro W hSW; obtain ⟨y0, y1, y2, y3⟩ := HC.out W hSW; go_simp; try (with_reducible rfl)
        simp only [Act.put, List.getElem_toArray, List.getElem_cons_succ, List.getElem_cons_zero, List.setIfInBounds_toArray, List.set_cons_zero, List.set_cons_succ]
        refine wpAnyH_take (i := 6) (v := .slice (some ⟨g, 0, none⟩) 4 cap) rfl (by kernel_rfl) (by kernel_rfl) (by kernel_rfl) (fun _ _ _ h => h) (Or.inl ⟨by rfl, ?_⟩) (by first | assumption | exact trivial) ?_
        · intro W hSW; go_simp; try (with_reducible rfl)
        simp only [Act.put, List.getElem_toArray, List.getElem_cons_succ, List.getElem_cons_zero, List.setIfInBounds_toArray, List.set_cons_zero, List.set_cons_succ]
        refine wpAnyH_take (i := 7) (v := .pointer (some ⟨g, 2, none⟩)) rfl (by kernel_rfl) (by kernel_rfl) (by kernel_rfl) (fun _ _ _ h => h) (Or.inl ⟨by rfl, ?_⟩) (by first | assumption | exact trivial) ?_
        · intro W hSW; go_simp; try (with_reducible rfl)
        simp only [Act.put, List.getElem_toArray, List.getElem_cons_succ, List.getElem_cons_zero, List.setIfInBounds_toArray, List.set_cons_zero, List.set_cons_succ]
        refine wpAnyH_take (i := 8) (v := .int .i64 (c : Int)) rfl (by kernel_rfl) (by kernel_rfl) (by kernel_rfl) (fun _ _ _ h => h) (Or.inl ⟨by rfl, ?_⟩) (by first | assumption | exact trivial) ?_
        · intro W hSW; obtain ⟨y0, y1, y2, y3⟩ := HC.out W hSW; go_simp; try (with_reducible rfl)
        simp only [Act.put, List.getElem_toArray, List.getElem_cons_succ, List.getElem_cons_zero, List.setIfInBounds_toArray, List.set_cons_zero, List.set_cons_succ]
        refine wpAnyH_take (i := 9) (v := .slice (some ⟨g, 0, none⟩) 4 cap) rfl (by kernel_rfl) (by kernel_rfl) (by kernel_rfl) (fun _ _ _ h => h) (Or.inl ⟨by rfl, ?_⟩) (by first | assumption | exact trivial) ?_
        · intro W hSW; go_simp; try (with_reducible rfl)
        simp only [Act.put, List.getElem_toArray, List.getElem_cons_succ, List.getElem_cons_zero, List.setIfInBounds_toArray, List.set_cons_zero, List.set_cons_succ]
        refine wpAnyH_take (i := 10) (v := .pointer (some ⟨g, 3, none⟩)) rfl (by kernel_rfl) (by kernel_rfl) (by kernel_rfl) (fun _ _ _ h => h) (Or.inl ⟨by rfl, ?_⟩) (by first | assumption | exact trivial) ?_
        · intro W hSW; go_simp; try (with_reducible rfl)
        simp only [Act.put, List.getElem_toArray, List.getElem_cons_succ, List.getElem_cons_zero, List.setIfInBounds_toArray, List.set_cons_zero, List.set_cons_succ]
        refine wpAnyH_take (i := 11) (v := .int .i64 (d : Int)) rfl (by kernel_rfl) (by kernel_rfl) (by kernel_rfl) (fun _ _ _ h => h) (Or.inl ⟨by rfl, ?_⟩) (by first | assumption | exact trivial) ?_
        · intro W hSW; obtain ⟨y0, y1, y2, y3⟩ := HC.out W hSW; go_simp; try (with_reducible rfl)
        simp only [Act.put, List.getElem_toArray, List.getElem_cons_succ, List.getElem_cons_zero, List.setIfInBounds_toArray, List.set_cons_zero, List.set_cons_succ]
        refine wpAnyH_take (i := 12) (v := .agg #[.int .i64 (a : Int), .int .i64 (b : Int), .int .i64 (c : Int), .int .i64 (d : Int)]) rfl (by kernel_rfl) (by kernel_rfl) (by kernel_rfl) (fun _ _ _ h => h) (Or.inl ⟨by rfl, ?_⟩) (by first | assumption | exact trivial) ?_
        · intro W hSW; go_simp; try (with_reducible rfl)
        simp only [Act.put, List.getElem_toArray, List.getElem_cons_succ, List.getElem_cons_zero, List.setIfInBounds_toArray, List.set_cons_zero, List.set_cons_succ]
        refine wpAnyH_ready (rs := [13]) (by kernel_rfl) (by simp) ?_
        refine AllReadyH.cons rfl (fun K hK => ?_) AllReadyH.nil
        go_simp
        obtain ⟨V6, hV6⟩ : ∃ V, (w2.alloc (.cells #[.int .i64 0, .int .i64 0, .int .i64 0, .int .i64 0] 23)).drew = V := ⟨_, rfl⟩
        have hb6 : Below w2.heap.size w2 V6 := by rw [← hV6]; exact (Me.below_alloc (Below.refl _ _)).drew
        have hD6 : V6.heap[w2.heap.size]? = some (.cells #[.int .i64 0, .int .i64 0, .int .i64 0, .int .i64 0] 23 (0, 0)) := by rw [← hV6]; exact heap_alloc_new w2 _
        rw [hV6]
        clear hV6
        obtain ⟨D, hDD⟩ : ∃ D, w2.heap.size = D := ⟨_, rfl⟩
        have hd := Lib.hid hDD
        rw [hDD] at hD6 ⊢
        refine hK.out _ _ (hb6) (fun hHeld => ?_)
        clear hK K
        refine wpAnyH_ready (rs := [14]) (by kernel_rfl) (by simp) ?_
        refine AllReadyH.cons rfl (fun K hK => ?_) AllReadyH.nil
        rw [if_pos (by kernel_rfl)]
        refine wp_store_row 23 (.tmp 5) (.tmp 26) rfl D #[.int .i64 (a : Int), .int .i64 (b : Int), .int .i64 (c : Int), .int .i64 (d : Int)] rfl (by rfl) 23 _ hD6 (by kernel_rfl) rfl (id_one _ _ _ _) ?_
        simp only [Act.put, List.getElem_toArray, List.getElem_cons_succ, List.getElem_cons_zero, List.setIfInBounds_toArray, List.set_cons_zero, List.set_cons_succ]
        obtain ⟨V9, hV9⟩ : ∃ V, V6.setRow D #[.int .i64 (a : Int), .int .i64 (b : Int), .int .i64 (c : Int), .int .i64 (d : Int)] = V := ⟨_, rfl⟩
        have hb9 : Below w2.heap.size w2 V9 := by
          rw [← hV9]
          exact below_setRow _ hb6 (Nat.le_of_eq hd.out)
        have hD9 : V9.heap[D]? = some (.cells #[.int .i64 (a : Int), .int .i64 (b : Int), .int .i64 (c : Int), .int .i64 (d : Int)] 23 (0, 0)) := by rw [← hV9]; exact setRow_heap _ _ _ _ _ _ hD6
        rw [hV9]
        refine hK.out _ _ (hb9) (fun hHeld => ?_)
        clear hK K
        refine wpAnyH_done (by kernel_rfl) ?_ _
        obtain ⟨f0, f1, f2, f3⟩ := id_cells hD9
        have HDl : Hid (D < V9.heap.size) := (Array.getElem?_eq_some_iff.1 hD9).1
        have HD9 := Lib.hid hD9
        have HV : Hid (∀ W, Below V9.heap.size V9 W → Below W1.heap.size W1 W ∧ W.heap[D]? = some (.cells #[.int .i64 (a : Int), .int .i64 (b : Int), .int .i64 (c : Int), .int .i64 (d : Int)] 23 (0, 0))) := fun W hW => ⟨hb2.out.trans ((hb9.trans (hW.mono hb9.size)).mono hb2.out.size), (hW.block _ HDl.out).trans HD9.out⟩
        clear hV9 hb6 hD6 hb9 hD9 S0 hDD HC hcap hgl hd HDl HD9 hb2
        go_wp2_with (first
          | (go_at_call 28; refine (HTX.out _).mono ?_; rintro e w5 ⟨rfl, hb5⟩; obtain ⟨x1, x2⟩ := HV.out w5 hb5.out; obtain ⟨q1, q2⟩ := HBB.out w5 x1; obtain ⟨y0, y1, y2, y3⟩ := id_cells x2; clear x1 x2)
          | (refine wpList_store_row rfl 23 (.tmp 2) (.tmp 40) rfl w.heap.size #[.int .i64 (a : Int), .int .i64 (b : Int), .int .i64 (c : Int), .int .i64 (d : Int)] rfl rfl 23 _ q1 (by kernel_rfl) rfl (id_one _ _ _ _) ?_))
        exact ret_box2 (g := w.heap.size) rfl (by rfl) (setRow_heap _ _ _ _ _ _ q1) rfl Tryd.underlying23 (by kernel_rfl) rfl ⟨rfl, q2 _⟩
      · rw [if_neg (fun h => hts h.2), if_neg (fun h => hts h.2)]
        rw [decide_eq_false hts] at hj2
        obtain ⟨X, hX⟩ : ∃ X, sB (txK ⟨a, b, c, d⟩ 4) = X := ⟨_, rfl⟩
        rw [hX] at HTX hj2
        clear hW1 b1 z1 r1 hI hZ hl h4 HNm hS hk hts hX
        simp only [idC, show ((0 : Nat) : Int) = 0 from rfl] at HTX ⊢
        go_enter Tryd.func30, Tryd.ntmps30
        go_wp2_with (go_at_call 49; rw [HW.out]; refine HNm2.out.mono ?_; rintro e w2 ⟨v, rfl, ho2, hb2⟩; obtain ⟨g, cap, rfl, hcap, hgl, n0, n1, n2, n3⟩ := four_cells ho2.out; clear ho2)
        have HC : Hid (∀ W, Below w2.heap.size w2 W → W.cell? ⟨g, 0, none⟩ = some (.int .i64 (a : Int)) ∧ W.cell? ⟨g, 1, none⟩ = some (.int .i64 (b : Int)) ∧ W.cell? ⟨g, 2, none⟩ = some (.int .i64 (c : Int)) ∧ W.cell? ⟨g, 3, none⟩ = some (.int .i64 (d : Int))) := fun W hW => ⟨(hW.cell hgl).trans n0, (hW.cell hgl).trans n1, (hW.cell hgl).trans n2, (hW.cell hgl).trans n3⟩
        have S0 := (Below.refl w2.heap.size w2).drew
        clear n0 n1 n2 n3
        refine wp_region_held_drew (S := fun W => Below w2.heap.size w2 W) (by kernel_rfl) S0 (fun hHeld => ?_)
        refine wpAnyH_take (i := 0) (v := .slice (some ⟨g, 0, none⟩) 4 cap) rfl (by kernel_rfl) (by kernel_rfl) (by kernel_rfl) (fun _ _ _ h => h) (Or.inl ⟨by rfl, ?_⟩) (by first | assumption | exact trivial) ?_
        · intro W hSW; go_simp; try (with_reducible rfl)
        simp only [Act.put, List.getElem_toArray, List.getElem_cons_succ, List.getElem_cons_zero, List.setIfInBounds_toArray, List.set_cons_zero, List.set_cons_succ]
        refine wpAnyH_take (i := 1) (v := .pointer (some ⟨g, 0, none⟩)) rfl (by kernel_rfl) (by kernel_rfl) (by kernel_rfl) (fun _ _ _ h => h) (Or.inl ⟨by rfl, ?_⟩) (by first | assumption | exact trivial) ?_
        · intro W hSW; go_simp; try (with_reducible rfl)
        simp only [Act.put, List.getElem_toArray, List.getElem_cons_succ, List.getElem_cons_zero, List.setIfInBounds_toArray, List.set_cons_zero, List.set_cons_succ]
        refine wpAnyH_take (i := 2) (v := .int .i64 (a : Int)) rfl (by kernel_rfl) (by kernel_rfl) (by kernel_rfl) (fun _ _ _ h => h) (Or.inl ⟨by rfl, ?_⟩) (by first | assumption | exact trivial) ?_
        · intro W hSW; obtain ⟨y0, y1, y2, y3⟩ := HC.out W hSW; go_simp; try (with_reducible rfl)
        simp only [Act.put, List.getElem_toArray, List.getElem_cons_succ, List.getElem_cons_zero, List.setIfInBounds_toArray, List.set_cons_zero, List.set_cons_succ]
        refine wpAnyH_take (i := 3) (v := .slice (some ⟨g, 0, none⟩) 4 cap) rfl (by kernel_rfl) (by kernel_rfl) (by kernel_rfl) (fun _ _ _ h => h) (Or.inl ⟨by rfl, ?_⟩) (by first | assumption | exact trivial) ?_
        · intro W hSW; go_simp; try (with_reducible rfl)
        simp only [Act.put, List.getElem_toArray, List.getElem_cons_succ, List.getElem_cons_zero, List.setIfInBounds_toArray, List.set_cons_zero, List.set_cons_succ]
        refine wpAnyH_take (i := 4) (v := .pointer (some ⟨g, 1, none⟩)) rfl (by kernel_rfl) (by kernel_rfl) (by kernel_rfl) (fun _ _ _ h => h) (Or.inl ⟨by rfl, ?_⟩) (by first | assumption | exact trivial) ?_
        · intro W hSW; go_simp; try (with_reducible rfl)
        simp only [Act.put, List.getElem_toArray, List.getElem_cons_succ, List.getElem_cons_zero, List.setIfInBounds_toArray, List.set_cons_zero, List.set_cons_succ]
        refine wpAnyH_take (i := 5) (v := .int .i64 (b : Int)) rfl (by kernel_rfl) (by kernel_rfl) (by kernel_rfl) (fun _ _ _ h => h) (Or.inl ⟨by rfl, ?_⟩) (by first | assumption | exact trivial) ?_
        · intro W hSW; obtain ⟨y0, y1, y2, y3⟩ := HC.out W hSW; go_simp; try (with_reducible rfl)
        simp only [Act.put, List.getElem_toArray, List.getElem_cons_succ, List.getElem_cons_zero, List.setIfInBounds_toArray, List.set_cons_zero, List.set_cons_succ]
        refine wpAnyH_take (i := 6) (v := .slice (some ⟨g, 0, none⟩) 4 cap) rfl (by kernel_rfl) (by kernel_rfl) (by kernel_rfl) (fun _ _ _ h => h) (Or.inl ⟨by rfl, ?_⟩) (by first | assumption | exact trivial) ?_
        · intro W hSW; go_simp; try (with_reducible rfl)
        simp only [Act.put, List.getElem_toArray, List.getElem_cons_succ, List.getElem_cons_zero, List.setIfInBounds_toArray, List.set_cons_zero, List.set_cons_succ]
        refine wpAnyH_take (i := 7) (v := .pointer (some ⟨g, 2, none⟩)) rfl (by kernel_rfl) (by kernel_rfl) (by kernel_rfl) (fun _ _ _ h => h) (Or.inl ⟨by rfl, ?_⟩) (by first | assumption | exact trivial) ?_
        · intro W hSW; go_simp; try (with_reducible rfl)
        simp only [Act.put, List.getElem_toArray, List.getElem_cons_succ, List.getElem_cons_zero, List.setIfInBounds_toArray, List.set_cons_zero, List.set_cons_succ]
        refine wpAnyH_take (i := 8) (v := .int .i64 (c : Int)) rfl (by kernel_rfl) (by kernel_rfl) (by kernel_rfl) (fun _ _ _ h => h) (Or.inl ⟨by rfl, ?_⟩) (by first | assumption | exact trivial) ?_
        · intro W hSW; obtain ⟨y0, y1, y2, y3⟩ := HC.out W hSW; go_simp; try (with_reducible rfl)
        simp only [Act.put, List.getElem_toArray, List.getElem_cons_succ, List.getElem_cons_zero, List.setIfInBounds_toArray, List.set_cons_zero, List.set_cons_succ]
        refine wpAnyH_take (i := 9) (v := .slice (some ⟨g, 0, none⟩) 4 cap) rfl (by kernel_rfl) (by kernel_rfl) (by kernel_rfl) (fun _ _ _ h => h) (Or.inl ⟨by rfl, ?_⟩) (by first | assumption | exact trivial) ?_
        · intro W hSW; go_simp; try (with_reducible rfl)
        simp only [Act.put, List.getElem_toArray, List.getElem_cons_succ, List.getElem_cons_zero, List.setIfInBounds_toArray, List.set_cons_zero, List.set_cons_succ]
        refine wpAnyH_take (i := 10) (v := .pointer (some ⟨g, 3, none⟩)) rfl (by kernel_rfl) (by kernel_rfl) (by kernel_rfl) (fun _ _ _ h => h) (Or.inl ⟨by rfl, ?_⟩) (by first | assumption | exact trivial) ?_
        · intro W hSW; go_simp; try (with_reducible rfl)
        simp only [Act.put, List.getElem_toArray, List.getElem_cons_succ, List.getElem_cons_zero, List.setIfInBounds_toArray, List.set_cons_zero, List.set_cons_succ]
        refine wpAnyH_take (i := 11) (v := .int .i64 (d : Int)) rfl (by kernel_rfl) (by kernel_rfl) (by kernel_rfl) (fun _ _ _ h => h) (Or.inl ⟨by rfl, ?_⟩) (by first | assumption | exact trivial) ?_
        · intro W hSW; obtain ⟨y0, y1, y2, y3⟩ := HC.out W hSW; go_simp; try (with_reducible rfl)
        simp only [Act.put, List.getElem_toArray, List.getElem_cons_succ, List.getElem_cons_zero, List.setIfInBounds_toArray, List.set_cons_zero, List.set_cons_succ]
        refine wpAnyH_take (i := 12) (v := .agg #[.int .i64 (a : Int), .int .i64 (b : Int), .int .i64 (c : Int), .int .i64 (d : Int)]) rfl (by kernel_rfl) (by kernel_rfl) (by kernel_rfl) (fun _ _ _ h => h) (Or.inl ⟨by rfl, ?_⟩) (by first | assumption | exact trivial) ?_
        · intro W hSW; go_simp; try (with_reducible rfl)
        simp only [Act.put, List.getElem_toArray, List.getElem_cons_succ, List.getElem_cons_zero, List.setIfInBounds_toArray, List.set_cons_zero, List.set_cons_succ]
        refine wpAnyH_ready (rs := [13]) (by kernel_rfl) (by simp) ?_
        refine AllReadyH.cons rfl (fun K hK => ?_) AllReadyH.nil
        go_simp
        obtain ⟨V6, hV6⟩ : ∃ V, (w2.alloc (.cells #[.int .i64 0, .int .i64 0, .int .i64 0, .int .i64 0] 23)).drew = V := ⟨_, rfl⟩
        have hb6 : Below w2.heap.size w2 V6 := by rw [← hV6]; exact (Me.below_alloc (Below.refl _ _)).drew
        have hD6 : V6.heap[w2.heap.size]? = some (.cells #[.int .i64 0, .int .i64 0, .int .i64 0, .int .i64 0] 23 (0, 0)) := by rw [← hV6]; exact heap_alloc_new w2 _
        rw [hV6]
        clear hV6
        obtain ⟨D, hDD⟩ : ∃ D, w2.heap.size = D := ⟨_, rfl⟩
        have hd := Lib.hid hDD
        rw [hDD] at hD6 ⊢
        refine hK.out _ _ (hb6) (fun hHeld => ?_)
        clear hK K
        refine wpAnyH_ready (rs := [14]) (by kernel_rfl) (by simp) ?_
        refine AllReadyH.cons rfl (fun K hK => ?_) AllReadyH.nil
        rw [if_pos (by kernel_rfl)]
        refine wp_store_row 23 (.tmp 5) (.tmp 26) rfl D #[.int .i64 (a : Int), .int .i64 (b : Int), .int .i64 (c : Int), .int .i64 (d : Int)] rfl (by rfl) 23 _ hD6 (by kernel_rfl) rfl (id_one _ _ _ _) ?_
        simp only [Act.put, List.getElem_toArray, List.getElem_cons_succ, List.getElem_cons_zero, List.setIfInBounds_toArray, List.set_cons_zero, List.set_cons_succ]
        obtain ⟨V9, hV9⟩ : ∃ V, V6.setRow D #[.int .i64 (a : Int), .int .i64 (b : Int), .int .i64 (c : Int), .int .i64 (d : Int)] = V := ⟨_, rfl⟩
        have hb9 : Below w2.heap.size w2 V9 := by
          rw [← hV9]
          exact below_setRow _ hb6 (Nat.le_of_eq hd.out)
        have hD9 : V9.heap[D]? = some (.cells #[.int .i64 (a : Int), .int .i64 (b : Int), .int .i64 (c : Int), .int .i64 (d : Int)] 23 (0, 0)) := by rw [← hV9]; exact setRow_heap _ _ _ _ _ _ hD6
        rw [hV9]
        refine hK.out _ _ (hb9) (fun hHeld => ?_)
        clear hK K
        refine wpAnyH_done (by kernel_rfl) ?_ _
        obtain ⟨f0, f1, f2, f3⟩ := id_cells hD9
        have HDl : Hid (D < V9.heap.size) := (Array.getElem?_eq_some_iff.1 hD9).1
        have HD9 := Lib.hid hD9
        have HV : Hid (∀ W, Below V9.heap.size V9 W → Below W1.heap.size W1 W ∧ W.heap[D]? = some (.cells #[.int .i64 (a : Int), .int .i64 (b : Int), .int .i64 (c : Int), .int .i64 (d : Int)] 23 (0, 0))) := fun W hW => ⟨hb2.out.trans ((hb9.trans (hW.mono hb9.size)).mono hb2.out.size), (hW.block _ HDl.out).trans HD9.out⟩
        clear hV9 hb6 hD6 hb9 hD9 S0 hDD HC hcap hgl hd HDl HD9 hb2
        go_wp2_with (first
          | (go_at_call 28; refine (HTX.out _).mono ?_; rintro e w5 ⟨rfl, hb5⟩; obtain ⟨x1, x2⟩ := HV.out w5 hb5.out; obtain ⟨q1, q2⟩ := HBB.out w5 x1; obtain ⟨y0, y1, y2, y3⟩ := id_cells x2; clear x1 x2)
          | (refine wpList_store_row rfl 23 (.tmp 2) (.tmp 39) rfl w.heap.size #[.int .i64 0, .int .i64 0, .int .i64 0, .int .i64 0] rfl rfl 23 _ q1 (by kernel_rfl) rfl (id_one _ _ _ _) ?_))
        exact ret_box2 (g := w.heap.size) rfl (by rfl) (setRow_heap _ _ _ _ _ _ q1) rfl Tryd.underlying23 (by kernel_rfl) rfl ⟨rfl, q2 _⟩
    · simp only [if_neg hk] at HTX
      rw [if_neg (fun h => hk h.1), if_neg (fun h => hk h.1)]
      have hne := nz hk
      obtain ⟨k, hX⟩ : ∃ k, chkN ⟨a, b, c, d⟩ = k := ⟨_, rfl⟩
      rw [hX] at HTX hne
      have hne2 : ((k : Int) != 0) = true := by simp only [bne, hne, Bool.not_false]
      clear hW1 b1 z1 r1 hI hZ hl h4 HNm hS hk hX hj2
      simp only [idC] at HTX ⊢
      go_enter Tryd.func30, Tryd.ntmps30
      go_wp2_with (go_at_call 49; rw [HW.out]; refine HNm2.out.mono ?_; rintro e w2 ⟨v, rfl, ho2, hb2⟩; obtain ⟨g, cap, rfl, hcap, hgl, n0, n1, n2, n3⟩ := four_cells ho2.out; clear ho2)
      have HC : Hid (∀ W, Below w2.heap.size w2 W → W.cell? ⟨g, 0, none⟩ = some (.int .i64 (a : Int)) ∧ W.cell? ⟨g, 1, none⟩ = some (.int .i64 (b : Int)) ∧ W.cell? ⟨g, 2, none⟩ = some (.int .i64 (c : Int)) ∧ W.cell? ⟨g, 3, none⟩ = some (.int .i64 (d : Int))) := fun W hW => ⟨(hW.cell hgl).trans n0, (hW.cell hgl).trans n1, (hW.cell hgl).trans n2, (hW.cell hgl).trans n3⟩
      have S0 := (Below.refl w2.heap.size w2).drew
      clear n0 n1 n2 n3
      refine wp_region_held_drew (S := fun W => Below w2.heap.size w2 W) (by kernel_rfl) S0 (fun hHeld => ?_)
      refine wpAnyH_take (i := 0) (v := .slice (some ⟨g, 0, none⟩) 4 cap) rfl (by kernel_rfl) (by kernel_rfl) (by kernel_rfl) (fun _ _ _ h => h) (Or.inl ⟨by rfl, ?_⟩) (by first | assumption | exact trivial) ?_
      · intro W hSW; go_simp; try (with_reducible rfl)
      simp only [Act.put, List.getElem_toArray, List.getElem_cons_succ, List.getElem_cons_zero, List.setIfInBounds_toArray, List.set_cons_zero, List.set_cons_succ]
      refine wpAnyH_take (i := 1) (v := .pointer (some ⟨g, 0, none⟩)) rfl (by kernel_rfl) (by kernel_rfl) (by kernel_rfl) (fun _ _ _ h => h) (Or.inl ⟨by rfl, ?_⟩) (by first | assumption | exact trivial) ?_
      · intro W hSW; go_simp; try (with_reducible rfl)
      simp only [Act.put, List.getElem_toArray, List.getElem_cons_succ, List.getElem_cons_zero, List.setIfInBounds_toArray, List.set_cons_zero, List.set_cons_succ]
      refine wpAnyH_take (i := 2) (v := .int .i64 (a : Int)) rfl (by kernel_rfl) (by kernel_rfl) (by kernel_rfl) (fun _ _ _ h => h) (Or.inl ⟨by rfl, ?_⟩) (by first | assumption | exact trivial) ?_
      · intro W hSW; obtain ⟨y0, y1, y2, y3⟩ := HC.out W hSW; go_simp; try (with_reducible rfl)
      simp only [Act.put, List.getElem_toArray, List.getElem_cons_succ, List.getElem_cons_zero, List.setIfInBounds_toArray, List.set_cons_zero, List.set_cons_succ]
      refine wpAnyH_take (i := 3) (v := .slice (some ⟨g, 0, none⟩) 4 cap) rfl (by kernel_rfl) (by kernel_rfl) (by kernel_rfl) (fun _ _ _ h => h) (Or.inl ⟨by rfl, ?_⟩) (by first | assumption | exact trivial) ?_
      · intro W hSW; go_simp; try (with_reducible rfl)
      simp only [Act.put, List.getElem_toArray, List.getElem_cons_succ, List.getElem_cons_zero, List.setIfInBounds_toArray, List.set_cons_zero, List.set_cons_succ]
      refine wpAnyH_take (i := 4) (v := .pointer (some ⟨g, 1, none⟩)) rfl (by kernel_rfl) (by kernel_rfl) (by kernel_rfl) (fun _ _ _ h => h) (Or.inl ⟨by rfl, ?_⟩) (by first | assumption | exact trivial) ?_
      · intro W hSW; go_simp; try (with_reducible rfl)
      simp only [Act.put, List.getElem_toArray, List.getElem_cons_succ, List.getElem_cons_zero, List.setIfInBounds_toArray, List.set_cons_zero, List.set_cons_succ]
      refine wpAnyH_take (i := 5) (v := .int .i64 (b : Int)) rfl (by kernel_rfl) (by kernel_rfl) (by kernel_rfl) (fun _ _ _ h => h) (Or.inl ⟨by rfl, ?_⟩) (by first | assumption | exact trivial) ?_
      · intro W hSW; obtain ⟨y0, y1, y2, y3⟩ := HC.out W hSW; go_simp; try (with_reducible rfl)
      simp only [Act.put, List.getElem_toArray, List.getElem_cons_succ, List.getElem_cons_zero, List.setIfInBounds_toArray, List.set_cons_zero, List.set_cons_succ]
      refine wpAnyH_take (i := 6) (v := .slice (some ⟨g, 0, none⟩) 4 cap) rfl (by kernel_rfl) (by kernel_rfl) (by kernel_rfl) (fun _ _ _ h => h) (Or.inl ⟨by rfl, ?_⟩) (by first | assumption | exact trivial) ?_
      · intro W hSW; go_simp; try (with_reducible rfl)
      simp only [Act.put, List.getElem_toArray, List.getElem_cons_succ, List.getElem_cons_zero, List.setIfInBounds_toArray, List.set_cons_zero, List.set_cons_succ]
      refine wpAnyH_take (i := 7) (v := .pointer (some ⟨g, 2, none⟩)) rfl (by kernel_rfl) (by kernel_rfl) (by kernel_rfl) (fun _ _ _ h => h) (Or.inl ⟨by rfl, ?_⟩) (by first | assumption | exact trivial) ?_
      · intro W hSW; go_simp; try (with_reducible rfl)
      simp only [Act.put, List.getElem_toArray, List.getElem_cons_succ, List.getElem_cons_zero, List.setIfInBounds_toArray, List.set_cons_zero, List.set_cons_succ]
      refine wpAnyH_take (i := 8) (v := .int .i64 (c : Int)) rfl (by kernel_rfl) (by kernel_rfl) (by kernel_rfl) (fun _ _ _ h => h) (Or.inl ⟨by rfl, ?_⟩) (by first | assumption | exact trivial) ?_
      · intro W hSW; obtain ⟨y0, y1, y2, y3⟩ := HC.out W hSW; go_simp; try (with_reducible rfl)
      simp only [Act.put, List.getElem_toArray, List.getElem_cons_succ, List.getElem_cons_zero, List.setIfInBounds_toArray, List.set_cons_zero, List.set_cons_succ]
      refine wpAnyH_take (i := 9) (v := .slice (some ⟨g, 0, none⟩) 4 cap) rfl (by kernel_rfl) (by kernel_rfl) (by kernel_rfl) (fun _ _ _ h => h) (Or.inl ⟨by rfl, ?_⟩) (by first | assumption | exact trivial) ?_
      · intro W hSW; go_simp; try (with_reducible rfl)
      simp only [Act.put, List.getElem_toArray, List.getElem_cons_succ, List.getElem_cons_zero, List.setIfInBounds_toArray, List.set_cons_zero, List.set_cons_succ]
      refine wpAnyH_take (i := 10) (v := .pointer (some ⟨g, 3, none⟩)) rfl (by kernel_rfl) (by kernel_rfl) (by kernel_rfl) (fun _ _ _ h => h) (Or.inl ⟨by rfl, ?_⟩) (by first | assumption | exact trivial) ?_
      · intro W hSW; go_simp; try (with_reducible rfl)
      simp only [Act.put, List.getElem_toArray, List.getElem_cons_succ, List.getElem_cons_zero, List.setIfInBounds_toArray, List.set_cons_zero, List.set_cons_succ]
      refine wpAnyH_take (i := 11) (v := .int .i64 (d : Int)) rfl (by kernel_rfl) (by kernel_rfl) (by kernel_rfl) (fun _ _ _ h => h) (Or.inl ⟨by rfl, ?_⟩) (by first | assumption | exact trivial) ?_
      · intro W hSW; obtain ⟨y0, y1, y2, y3⟩ := HC.out W hSW; go_simp; try (with_reducible rfl)
      simp only [Act.put, List.getElem_toArray, List.getElem_cons_succ, List.getElem_cons_zero, List.setIfInBounds_toArray, List.set_cons_zero, List.set_cons_succ]
      refine wpAnyH_take (i := 12) (v := .agg #[.int .i64 (a : Int), .int .i64 (b : Int), .int .i64 (c : Int), .int .i64 (d : Int)]) rfl (by kernel_rfl) (by kernel_rfl) (by kernel_rfl) (fun _ _ _ h => h) (Or.inl ⟨by rfl, ?_⟩) (by first | assumption | exact trivial) ?_
      · intro W hSW; go_simp; try (with_reducible rfl)
      simp only [Act.put, List.getElem_toArray, List.getElem_cons_succ, List.getElem_cons_zero, List.setIfInBounds_toArray, List.set_cons_zero, List.set_cons_succ]
      refine wpAnyH_ready (rs := [13]) (by kernel_rfl) (by simp) ?_
      refine AllReadyH.cons rfl (fun K hK => ?_) AllReadyH.nil
      go_simp
      obtain ⟨V6, hV6⟩ : ∃ V, (w2.alloc (.cells #[.int .i64 0, .int .i64 0, .int .i64 0, .int .i64 0] 23)).drew = V := ⟨_, rfl⟩
      have hb6 : Below w2.heap.size w2 V6 := by rw [← hV6]; exact (Me.below_alloc (Below.refl _ _)).drew
      have hD6 : V6.heap[w2.heap.size]? = some (.cells #[.int .i64 0, .int .i64 0, .int .i64 0, .int .i64 0] 23 (0, 0)) := by rw [← hV6]; exact heap_alloc_new w2 _
      rw [hV6]
      clear hV6
      obtain ⟨D, hDD⟩ : ∃ D, w2.heap.size = D := ⟨_, rfl⟩
      have hd := Lib.hid hDD
      rw [hDD] at hD6 ⊢
      refine hK.out _ _ (hb6) (fun hHeld => ?_)
      clear hK K
      refine wpAnyH_ready (rs := [14]) (by kernel_rfl) (by simp) ?_
      refine AllReadyH.cons rfl (fun K hK => ?_) AllReadyH.nil
      rw [if_pos (by kernel_rfl)]
      refine wp_store_row 23 (.tmp 5) (.tmp 26) rfl D #[.int .i64 (a : Int), .int .i64 (b : Int), .int .i64 (c : Int), .int .i64 (d : Int)] rfl (by rfl) 23 _ hD6 (by kernel_rfl) rfl (id_one _ _ _ _) ?_
      simp only [Act.put, List.getElem_toArray, List.getElem_cons_succ, List.getElem_cons_zero, List.setIfInBounds_toArray, List.set_cons_zero, List.set_cons_succ]
      obtain ⟨V9, hV9⟩ : ∃ V, V6.setRow D #[.int .i64 (a : Int), .int .i64 (b : Int), .int .i64 (c : Int), .int .i64 (d : Int)] = V := ⟨_, rfl⟩
      have hb9 : Below w2.heap.size w2 V9 := by
        rw [← hV9]
        exact below_setRow _ hb6 (Nat.le_of_eq hd.out)
      have hD9 : V9.heap[D]? = some (.cells #[.int .i64 (a : Int), .int .i64 (b : Int), .int .i64 (c : Int), .int .i64 (d : Int)] 23 (0, 0)) := by rw [← hV9]; exact setRow_heap _ _ _ _ _ _ hD6
      rw [hV9]
      refine hK.out _ _ (hb9) (fun hHeld => ?_)
      clear hK K
      refine wpAnyH_done (by kernel_rfl) ?_ _
      obtain ⟨f0, f1, f2, f3⟩ := id_cells hD9
      have HDl : Hid (D < V9.heap.size) := (Array.getElem?_eq_some_iff.1 hD9).1
      have HD9 := Lib.hid hD9
      have HV : Hid (∀ W, Below V9.heap.size V9 W → Below W1.heap.size W1 W ∧ W.heap[D]? = some (.cells #[.int .i64 (a : Int), .int .i64 (b : Int), .int .i64 (c : Int), .int .i64 (d : Int)] 23 (0, 0))) := fun W hW => ⟨hb2.out.trans ((hb9.trans (hW.mono hb9.size)).mono hb2.out.size), (hW.block _ HDl.out).trans HD9.out⟩
      clear hV9 hb6 hD6 hb9 hD9 S0 hDD HC hcap hgl hd HDl HD9 hb2
      go_wp2_with (first
        | (go_at_call 28; refine (HTX.out _).mono ?_; rintro e w5 ⟨rfl, hb5⟩; obtain ⟨x1, x2⟩ := HV.out w5 hb5.out; obtain ⟨q1, q2⟩ := HBB.out w5 x1; obtain ⟨y0, y1, y2, y3⟩ := id_cells x2; clear x1 x2)
        | (refine wpList_store_row rfl 23 (.tmp 2) (.tmp 39) rfl w.heap.size #[.int .i64 0, .int .i64 0, .int .i64 0, .int .i64 0] rfl rfl 23 _ q1 (by kernel_rfl) rfl (id_one _ _ _ _) ?_))
      exact ret_box2 (g := w.heap.size) rfl (by rfl) (setRow_heap _ _ _ _ _ _ q1) rfl Tryd.underlying23 (by kernel_rfl) rfl ⟨rfl, q2 _⟩
  · obtain ⟨hI, hZ⟩ := ps_rno h4
    rw [hI, hZ]
    obtain ⟨N, hN⟩ : ∃ N, nm 0 s = N := ⟨_, rfl⟩
    rw [hN] at HNm h4
    have hne : ((N.length : Int) == 4) = false := by
      have : ¬ (N.length : Int) = 4 := by omega
      simpa using this
    have hne2 : ((N.length : Int) != 4) = true := by simp only [bne, hne, Bool.not_false]
    obtain ⟨S, hS⟩ : ∃ S, sB s = S := ⟨_, rfl⟩
    rw [hS] at HNm ⊢
    simp only [idC]
    clear hW1 b1 z1 r1 hI hZ hN hS h4
    go_enter Tryd.func30, Tryd.ntmps30
    go_wp2_with (first
      | (go_at_call 49; rw [HW.out]; refine HNm.out.mono ?_; rintro e w2 ⟨v, rfl, ho2, hb2⟩; obtain ⟨A2, c2, rfl, _⟩ := ho2.out.form; simp only [iL_len]; obtain ⟨q1, q2⟩ := HBB.out w2 hb2.out; clear ho2)
      | (refine wpList_store_row rfl 23 (.tmp 2) (.tmp 13) rfl w.heap.size #[.int .i64 0, .int .i64 0, .int .i64 0, .int .i64 0] rfl rfl 23 _ q1 (by kernel_rfl) rfl (id_one _ _ _ _) ?_))
    exact ret_box2 (g := w.heap.size) rfl (by rfl) (setRow_heap _ _ _ _ _ _ q1) rfl Tryd.underlying23 (by kernel_rfl) rfl ⟨rfl, q2 _⟩
end Go.Proofs.YtljndfkmppmbkaaDoor.Mg
