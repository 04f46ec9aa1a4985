/- Which of two ids is ahead. -/
import Derived.Test.YtljndfkmppmbkaaDoorMgCmp
namespace Go.Proofs.YtljndfkmppmbkaaDoor.Mg
open Go.RowKit
open Go.Proofs.YtljndfkmppmbkaaDoor.Me
set_option linter.unusedVariables false
set_option linter.unusedSimpArgs false

set_option maxRecDepth 100000 in
set_option maxHeartbeats 16000000 in
theorem Less_any (a b : Id4) (w : World) : Calls Tryd.prog 15 #[.agg (idC a), .agg (idC b)] w fun e w' => e = .returned (.bool (ltB a b)) ∧ Hid (Below w.heap.size w w') := by
  have HA := Lib.hid (fun W => numbers_any a W)
  have HB := Lib.hid (fun W => numbers_any b W)
  obtain ⟨W2, hW2⟩ : ∃ W2, (w.alloc (.cells (idC a) 23 (0, 0))).alloc (.cells (idC b) 23 (0, 0)) = W2 := ⟨_, rfl⟩
  have h1 : Below (w.alloc (.cells (idC a) 23 (0, 0))).heap.size (w.alloc (.cells (idC a) 23 (0, 0))) W2 := by rw [← hW2]; exact Me.below_alloc (Below.refl _ _)
  have hs2 : W2.heap.size = w.heap.size + 2 := by rw [← hW2]; simp
  have f1 : Four W2 w.heap.size a := (four_new w a 23).below (by simp) h1
  have f2 : Four W2 (w.heap.size + 1) b := by
    have := four_new (w.alloc (.cells (idC a) 23 (0, 0))) b 23
    rw [hW2, World.size_alloc] at this
    exact this
  have hbw : Below w.heap.size w W2 := by rw [← hW2]; exact Me.below_alloc (Me.below_alloc (Below.refl _ _))
  have HF : Hid (∀ W, Below W2.heap.size W2 W → Four W w.heap.size a ∧ Four W (w.heap.size + 1) b) := fun W hW => ⟨f1.below (by omega) hW, f2.below (by omega) hW⟩
  have S0 : Hid (Below W2.heap.size W2 W2.drew) := (Below.refl _ W2).drew
  have HW2 := Lib.hid hW2
  have HS := Lib.hid hs2
  clear h1 f1 f2 hs2
  obtain ⟨o, d, ee, c⟩ := a
  obtain ⟨p, q, r, s⟩ := b
  simp only [idC, Four] at HA HB HF hW2 ⊢
  go_enter Tryd.func15, Tryd.ntmps15
  go_wp2
  try rw [hW2]
  clear hW2
  rename_i Q0 K0 hA0
  refine wp_region_held_drew (S := Below W2.heap.size W2) (by kernel_rfl) S0.out (fun hHeld => ?_)
  refine wpAnyH_take (i := 0) (v := .agg #[.int .i64 o, .int .i64 d, .int .i64 ee, .int .i64 c]) rfl (by kernel_rfl) (by kernel_rfl) (by kernel_rfl) (fun _ _ _ h => h) (Or.inl ⟨by rfl, ?_⟩) (by first | assumption | exact trivial) ?_
  · intro W hSW; obtain ⟨⟨y0, y1, y2, y3⟩, y4, y5, y6, y7⟩ := HF.out W hSW; go_simp; try (with_reducible rfl)
  simp only [Act.put, List.getElem_toArray, List.getElem_cons_succ, List.getElem_cons_zero, List.setIfInBounds_toArray, List.set_cons_zero, List.set_cons_succ]
  refine wpAnyH_take (i := 2) (v := .agg #[.int .i64 p, .int .i64 q, .int .i64 r, .int .i64 s]) rfl (by kernel_rfl) (by kernel_rfl) (by kernel_rfl) (fun _ _ _ h => h) (Or.inl ⟨by rfl, ?_⟩) (by first | assumption | exact trivial) ?_
  · intro W hSW; obtain ⟨⟨y0, y1, y2, y3⟩, y4, y5, y6, y7⟩ := HF.out W hSW; go_simp; try (with_reducible rfl)
  simp only [Act.put, List.getElem_toArray, List.getElem_cons_succ, List.getElem_cons_zero, List.setIfInBounds_toArray, List.set_cons_zero, List.set_cons_succ]
  have D0 : W2.drew.heap.size = W2.heap.size := rfl
  -- twelve orders
  suffices HC : ∀ (g5 g6 : Nat) (W : World), Ar W g5 ⟨o, d, ee, c⟩ → Ar W g6 ⟨p, q, r, s⟩ → Below W2.heap.size W2 W → Exit.then K0 Q0 Exit.normal ⟨#[.agg #[.int .i64 o, .int .i64 d, .int .i64 ee, .int .i64 c], .agg #[.int .i64 p, .int .i64 q, .int .i64 r, .int .i64 s], .pointer (some ⟨w.heap.size, 0, none⟩), .pointer (some ⟨w.heap.size + 1, 0, none⟩), .bool false, .pointer (some ⟨g5, 0, none⟩), .pointer (some ⟨g6, 0, none⟩), .agg #[.int .i64 o, .int .i64 d, .int .i64 ee, .int .i64 c], .agg #[.int .i64 o, .int .i64 d, .int .i64 ee, .int .i64 c], .agg #[.int .i64 p, .int .i64 q, .int .i64 r, .int .i64 s], .agg #[.int .i64 p, .int .i64 q, .int .i64 r, .int .i64 s], undef, undef, undef, undef], []⟩ W by
    obtain ⟨v0, hv0⟩ : ∃ v, W2.drew = v := ⟨_, rfl⟩
    rw [hv0] at S0 ⊢
    have D0 : v0.heap.size = W2.heap.size := by rw [← hv0]; rfl
    clear hv0
    refine wpAnyH_ready (rs := [1, 4, 5]) (by kernel_rfl) (by simp) ?_
    refine AllReadyH.cons rfl (fun K hK => ?_) (AllReadyH.cons rfl (fun K hK => ?_) (AllReadyH.cons rfl (fun K hK => ?_) (AllReadyH.nil)))
    · go_simp
      go_wp2_with (go_at_call 33; refine (HA.out _).mono ?_; rintro e v1 ⟨rfl, bb⟩)
      have S1 : Hid (Below W2.heap.size W2 v1) := S0.out.trans (bb.out.mono S0.out.size)
      have T1 := bb.out.size
      have R1 := S1.out.size
      refine hK.out _ _ (S1.out) (fun hHeld => ?_)
      clear hK K
      refine wpAnyH_ready (rs := [3, 4, 5]) (by kernel_rfl) (by simp) ?_
      refine AllReadyH.cons rfl (fun K hK => ?_) (AllReadyH.cons rfl (fun K hK => ?_) (AllReadyH.cons rfl (fun K hK => ?_) (AllReadyH.nil)))
      · go_simp
        go_wp2_with (go_at_call 33; refine (HB.out _).mono ?_; rintro e v2 ⟨rfl, bb⟩)
        have S2 : Hid (Below W2.heap.size W2 v2) := S1.out.trans (bb.out.mono S1.out.size)
        have T2 := bb.out.size
        have R2 := S2.out.size
        refine hK.out _ _ (S2.out) (fun hHeld => ?_)
        clear hK K
        refine wpAnyH_ready (rs := [4, 5]) (by kernel_rfl) (by simp) ?_
        refine AllReadyH.cons rfl (fun K hK => ?_) (AllReadyH.cons rfl (fun K hK => ?_) (AllReadyH.nil))
        · go_simp
          obtain ⟨v3, hv⟩ : ∃ v, v2.alloc (.cells #[.int .i64 0, .int .i64 0, .int .i64 0, .int .i64 0] 49) = v := ⟨_, rfl⟩
          rw [hv]
          obtain ⟨a1, S3, bb⟩ := ar_alloc v2 W2 S2.out v3 hv.symm
          obtain ⟨g43, hg⟩ : ∃ g, v2.heap.size = g := ⟨_, rfl⟩
          have T3 := bb.size
          have z3 : v2.heap.size + 1 = v3.heap.size := by have h := congrArg (fun x : World => x.heap.size) hv; simp at h; omega
          clear hv hg
          have f34 := a1
          clear a1
          have R3 := S3.out.size
          refine hK.out _ _ (S3.out) (fun hHeld => ?_)
          clear hK K
          refine wpAnyH_ready (rs := [5]) (by kernel_rfl) (by simp) ?_
          refine AllReadyH.cons rfl (fun K hK => ?_) (AllReadyH.nil)
          · go_simp
            obtain ⟨v4, hv⟩ : ∃ v, v3.alloc (.cells #[.int .i64 0, .int .i64 0, .int .i64 0, .int .i64 0] 49) = v := ⟨_, rfl⟩
            rw [hv]
            obtain ⟨a1, S4, bb⟩ := ar_alloc v3 W2 S3.out v4 hv.symm
            obtain ⟨g54, hg⟩ : ∃ g, v3.heap.size = g := ⟨_, rfl⟩
            have T4 := bb.size
            have f44 := Ar0.below f34 bb
            have l44 := Ar0.lt f34
            have z4 : v3.heap.size + 1 = v4.heap.size := by have h := congrArg (fun x : World => x.heap.size) hv; simp at h; omega
            clear hv hg
            have f45 := a1
            clear a1
            have R4 := S4.out.size
            refine hK.out _ _ (S4.out) (fun hHeld => ?_)
            clear hK K
            refine wpAnyH_ready (rs := [6]) (by kernel_rfl) (by simp) ?_
            refine AllReadyH.cons rfl (fun K hK => ?_) (AllReadyH.nil)
            refine wp_store_row 49 (.tmp 5) (.tmp 8) rfl v2.heap.size #[.int .i64 o, .int .i64 d, .int .i64 ee, .int .i64 c] rfl rfl 49 #[.int .i64 0, .int .i64 0, .int .i64 0, .int .i64 0] f44 (by kernel_rfl) rfl (by kernel_rfl) ?_
            obtain ⟨p1, p2, p3⟩ := ar_store (i := ⟨o, d, ee, c⟩) f44 f45 (by omega) (by omega) S4.out
            refine hK.out _ _ (p3) (fun hHeld => ?_)
            clear hK K
            refine wpAnyH_ready (rs := [7]) (by kernel_rfl) (by simp) ?_
            refine AllReadyH.cons rfl (fun K hK => ?_) (AllReadyH.nil)
            refine wp_store_row 49 (.tmp 6) (.tmp 10) rfl v3.heap.size #[.int .i64 p, .int .i64 q, .int .i64 r, .int .i64 s] rfl rfl 49 #[.int .i64 0, .int .i64 0, .int .i64 0, .int .i64 0] p2 (by kernel_rfl) rfl (by kernel_rfl) ?_
            obtain ⟨p4, p5, p6⟩ := ar_store (i := ⟨p, q, r, s⟩) p2 p1 (by omega) (by omega) p3
            refine hK.out _ _ (p6) (fun hHeld => ?_)
            clear hK K
            refine wpAnyH_done (by kernel_rfl) ?_ _
            exact HC _ _ _ p5 p4 p6
        · go_simp
          obtain ⟨v3, hv⟩ : ∃ v, v2.alloc (.cells #[.int .i64 0, .int .i64 0, .int .i64 0, .int .i64 0] 49) = v := ⟨_, rfl⟩
          rw [hv]
          obtain ⟨a1, S3, bb⟩ := ar_alloc v2 W2 S2.out v3 hv.symm
          obtain ⟨g53, hg⟩ : ∃ g, v2.heap.size = g := ⟨_, rfl⟩
          have T3 := bb.size
          have z3 : v2.heap.size + 1 = v3.heap.size := by have h := congrArg (fun x : World => x.heap.size) hv; simp at h; omega
          clear hv hg
          have f35 := a1
          clear a1
          have R3 := S3.out.size
          refine hK.out _ _ (S3.out) (fun hHeld => ?_)
          clear hK K
          refine wpAnyH_ready (rs := [4]) (by kernel_rfl) (by simp) ?_
          refine AllReadyH.cons rfl (fun K hK => ?_) (AllReadyH.nil)
          · go_simp
            obtain ⟨v4, hv⟩ : ∃ v, v3.alloc (.cells #[.int .i64 0, .int .i64 0, .int .i64 0, .int .i64 0] 49) = v := ⟨_, rfl⟩
            rw [hv]
            obtain ⟨a1, S4, bb⟩ := ar_alloc v3 W2 S3.out v4 hv.symm
            obtain ⟨g44, hg⟩ : ∃ g, v3.heap.size = g := ⟨_, rfl⟩
            have T4 := bb.size
            have f45 := Ar0.below f35 bb
            have l45 := Ar0.lt f35
            have z4 : v3.heap.size + 1 = v4.heap.size := by have h := congrArg (fun x : World => x.heap.size) hv; simp at h; omega
            clear hv hg
            have f44 := a1
            clear a1
            have R4 := S4.out.size
            refine hK.out _ _ (S4.out) (fun hHeld => ?_)
            clear hK K
            refine wpAnyH_ready (rs := [6]) (by kernel_rfl) (by simp) ?_
            refine AllReadyH.cons rfl (fun K hK => ?_) (AllReadyH.nil)
            refine wp_store_row 49 (.tmp 5) (.tmp 8) rfl v3.heap.size #[.int .i64 o, .int .i64 d, .int .i64 ee, .int .i64 c] rfl rfl 49 #[.int .i64 0, .int .i64 0, .int .i64 0, .int .i64 0] f44 (by kernel_rfl) rfl (by kernel_rfl) ?_
            obtain ⟨p1, p2, p3⟩ := ar_store (i := ⟨o, d, ee, c⟩) f44 f45 (by omega) (by omega) S4.out
            refine hK.out _ _ (p3) (fun hHeld => ?_)
            clear hK K
            refine wpAnyH_ready (rs := [7]) (by kernel_rfl) (by simp) ?_
            refine AllReadyH.cons rfl (fun K hK => ?_) (AllReadyH.nil)
            refine wp_store_row 49 (.tmp 6) (.tmp 10) rfl v2.heap.size #[.int .i64 p, .int .i64 q, .int .i64 r, .int .i64 s] rfl rfl 49 #[.int .i64 0, .int .i64 0, .int .i64 0, .int .i64 0] p2 (by kernel_rfl) rfl (by kernel_rfl) ?_
            obtain ⟨p4, p5, p6⟩ := ar_store (i := ⟨p, q, r, s⟩) p2 p1 (by omega) (by omega) p3
            refine hK.out _ _ (p6) (fun hHeld => ?_)
            clear hK K
            refine wpAnyH_done (by kernel_rfl) ?_ _
            exact HC _ _ _ p5 p4 p6
      · go_simp
        obtain ⟨v2, hv⟩ : ∃ v, v1.alloc (.cells #[.int .i64 0, .int .i64 0, .int .i64 0, .int .i64 0] 49) = v := ⟨_, rfl⟩
        rw [hv]
        obtain ⟨a1, S2, bb⟩ := ar_alloc v1 W2 S1.out v2 hv.symm
        obtain ⟨g42, hg⟩ : ∃ g, v1.heap.size = g := ⟨_, rfl⟩
        have T2 := bb.size
        have z2 : v1.heap.size + 1 = v2.heap.size := by have h := congrArg (fun x : World => x.heap.size) hv; simp at h; omega
        clear hv hg
        have f24 := a1
        clear a1
        have R2 := S2.out.size
        refine hK.out _ _ (S2.out) (fun hHeld => ?_)
        clear hK K
        refine wpAnyH_ready (rs := [3, 5]) (by kernel_rfl) (by simp) ?_
        refine AllReadyH.cons rfl (fun K hK => ?_) (AllReadyH.cons rfl (fun K hK => ?_) (AllReadyH.nil))
        · go_simp
          go_wp2_with (go_at_call 33; refine (HB.out _).mono ?_; rintro e v3 ⟨rfl, bb⟩)
          have S3 : Hid (Below W2.heap.size W2 v3) := S2.out.trans (bb.out.mono S2.out.size)
          have T3 := bb.out.size
          have f34 := Ar0.below f24 bb.out
          have R3 := S3.out.size
          refine hK.out _ _ (S3.out) (fun hHeld => ?_)
          clear hK K
          refine wpAnyH_ready (rs := [5]) (by kernel_rfl) (by simp) ?_
          refine AllReadyH.cons rfl (fun K hK => ?_) (AllReadyH.nil)
          · go_simp
            obtain ⟨v4, hv⟩ : ∃ v, v3.alloc (.cells #[.int .i64 0, .int .i64 0, .int .i64 0, .int .i64 0] 49) = v := ⟨_, rfl⟩
            rw [hv]
            obtain ⟨a1, S4, bb⟩ := ar_alloc v3 W2 S3.out v4 hv.symm
            obtain ⟨g54, hg⟩ : ∃ g, v3.heap.size = g := ⟨_, rfl⟩
            have T4 := bb.size
            have f44 := Ar0.below f34 bb
            have l44 := Ar0.lt f34
            have z4 : v3.heap.size + 1 = v4.heap.size := by have h := congrArg (fun x : World => x.heap.size) hv; simp at h; omega
            clear hv hg
            have f45 := a1
            clear a1
            have R4 := S4.out.size
            refine hK.out _ _ (S4.out) (fun hHeld => ?_)
            clear hK K
            refine wpAnyH_ready (rs := [6]) (by kernel_rfl) (by simp) ?_
            refine AllReadyH.cons rfl (fun K hK => ?_) (AllReadyH.nil)
            refine wp_store_row 49 (.tmp 5) (.tmp 8) rfl v1.heap.size #[.int .i64 o, .int .i64 d, .int .i64 ee, .int .i64 c] rfl rfl 49 #[.int .i64 0, .int .i64 0, .int .i64 0, .int .i64 0] f44 (by kernel_rfl) rfl (by kernel_rfl) ?_
            obtain ⟨p1, p2, p3⟩ := ar_store (i := ⟨o, d, ee, c⟩) f44 f45 (by omega) (by omega) S4.out
            refine hK.out _ _ (p3) (fun hHeld => ?_)
            clear hK K
            refine wpAnyH_ready (rs := [7]) (by kernel_rfl) (by simp) ?_
            refine AllReadyH.cons rfl (fun K hK => ?_) (AllReadyH.nil)
            refine wp_store_row 49 (.tmp 6) (.tmp 10) rfl v3.heap.size #[.int .i64 p, .int .i64 q, .int .i64 r, .int .i64 s] rfl rfl 49 #[.int .i64 0, .int .i64 0, .int .i64 0, .int .i64 0] p2 (by kernel_rfl) rfl (by kernel_rfl) ?_
            obtain ⟨p4, p5, p6⟩ := ar_store (i := ⟨p, q, r, s⟩) p2 p1 (by omega) (by omega) p3
            refine hK.out _ _ (p6) (fun hHeld => ?_)
            clear hK K
            refine wpAnyH_done (by kernel_rfl) ?_ _
            exact HC _ _ _ p5 p4 p6
        · go_simp
          obtain ⟨v3, hv⟩ : ∃ v, v2.alloc (.cells #[.int .i64 0, .int .i64 0, .int .i64 0, .int .i64 0] 49) = v := ⟨_, rfl⟩
          rw [hv]
          obtain ⟨a1, S3, bb⟩ := ar_alloc v2 W2 S2.out v3 hv.symm
          obtain ⟨g53, hg⟩ : ∃ g, v2.heap.size = g := ⟨_, rfl⟩
          have T3 := bb.size
          have f34 := Ar0.below f24 bb
          have l34 := Ar0.lt f24
          have z3 : v2.heap.size + 1 = v3.heap.size := by have h := congrArg (fun x : World => x.heap.size) hv; simp at h; omega
          clear hv hg
          have f35 := a1
          clear a1
          have R3 := S3.out.size
          refine hK.out _ _ (S3.out) (fun hHeld => ?_)
          clear hK K
          refine wpAnyH_ready (rs := [3]) (by kernel_rfl) (by simp) ?_
          refine AllReadyH.cons rfl (fun K hK => ?_) (AllReadyH.nil)
          · go_simp
            go_wp2_with (go_at_call 33; refine (HB.out _).mono ?_; rintro e v4 ⟨rfl, bb⟩)
            have S4 : Hid (Below W2.heap.size W2 v4) := S3.out.trans (bb.out.mono S3.out.size)
            have T4 := bb.out.size
            have f44 := Ar0.below f34 bb.out
            have f45 := Ar0.below f35 bb.out
            have R4 := S4.out.size
            refine hK.out _ _ (S4.out) (fun hHeld => ?_)
            clear hK K
            refine wpAnyH_ready (rs := [6]) (by kernel_rfl) (by simp) ?_
            refine AllReadyH.cons rfl (fun K hK => ?_) (AllReadyH.nil)
            refine wp_store_row 49 (.tmp 5) (.tmp 8) rfl v1.heap.size #[.int .i64 o, .int .i64 d, .int .i64 ee, .int .i64 c] rfl rfl 49 #[.int .i64 0, .int .i64 0, .int .i64 0, .int .i64 0] f44 (by kernel_rfl) rfl (by kernel_rfl) ?_
            obtain ⟨p1, p2, p3⟩ := ar_store (i := ⟨o, d, ee, c⟩) f44 f45 (by omega) (by omega) S4.out
            refine hK.out _ _ (p3) (fun hHeld => ?_)
            clear hK K
            refine wpAnyH_ready (rs := [7]) (by kernel_rfl) (by simp) ?_
            refine AllReadyH.cons rfl (fun K hK => ?_) (AllReadyH.nil)
            refine wp_store_row 49 (.tmp 6) (.tmp 10) rfl v2.heap.size #[.int .i64 p, .int .i64 q, .int .i64 r, .int .i64 s] rfl rfl 49 #[.int .i64 0, .int .i64 0, .int .i64 0, .int .i64 0] p2 (by kernel_rfl) rfl (by kernel_rfl) ?_
            obtain ⟨p4, p5, p6⟩ := ar_store (i := ⟨p, q, r, s⟩) p2 p1 (by omega) (by omega) p3
            refine hK.out _ _ (p6) (fun hHeld => ?_)
            clear hK K
            refine wpAnyH_done (by kernel_rfl) ?_ _
            exact HC _ _ _ p5 p4 p6
      · go_simp
        obtain ⟨v2, hv⟩ : ∃ v, v1.alloc (.cells #[.int .i64 0, .int .i64 0, .int .i64 0, .int .i64 0] 49) = v := ⟨_, rfl⟩
        rw [hv]
        obtain ⟨a1, S2, bb⟩ := ar_alloc v1 W2 S1.out v2 hv.symm
        obtain ⟨g52, hg⟩ : ∃ g, v1.heap.size = g := ⟨_, rfl⟩
        have T2 := bb.size
        have z2 : v1.heap.size + 1 = v2.heap.size := by have h := congrArg (fun x : World => x.heap.size) hv; simp at h; omega
        clear hv hg
        have f25 := a1
        clear a1
        have R2 := S2.out.size
        refine hK.out _ _ (S2.out) (fun hHeld => ?_)
        clear hK K
        refine wpAnyH_ready (rs := [3, 4]) (by kernel_rfl) (by simp) ?_
        refine AllReadyH.cons rfl (fun K hK => ?_) (AllReadyH.cons rfl (fun K hK => ?_) (AllReadyH.nil))
        · go_simp
          go_wp2_with (go_at_call 33; refine (HB.out _).mono ?_; rintro e v3 ⟨rfl, bb⟩)
          have S3 : Hid (Below W2.heap.size W2 v3) := S2.out.trans (bb.out.mono S2.out.size)
          have T3 := bb.out.size
          have f35 := Ar0.below f25 bb.out
          have R3 := S3.out.size
          refine hK.out _ _ (S3.out) (fun hHeld => ?_)
          clear hK K
          refine wpAnyH_ready (rs := [4]) (by kernel_rfl) (by simp) ?_
          refine AllReadyH.cons rfl (fun K hK => ?_) (AllReadyH.nil)
          · go_simp
            obtain ⟨v4, hv⟩ : ∃ v, v3.alloc (.cells #[.int .i64 0, .int .i64 0, .int .i64 0, .int .i64 0] 49) = v := ⟨_, rfl⟩
            rw [hv]
            obtain ⟨a1, S4, bb⟩ := ar_alloc v3 W2 S3.out v4 hv.symm
            obtain ⟨g44, hg⟩ : ∃ g, v3.heap.size = g := ⟨_, rfl⟩
            have T4 := bb.size
            have f45 := Ar0.below f35 bb
            have l45 := Ar0.lt f35
            have z4 : v3.heap.size + 1 = v4.heap.size := by have h := congrArg (fun x : World => x.heap.size) hv; simp at h; omega
            clear hv hg
            have f44 := a1
            clear a1
            have R4 := S4.out.size
            refine hK.out _ _ (S4.out) (fun hHeld => ?_)
            clear hK K
            refine wpAnyH_ready (rs := [6]) (by kernel_rfl) (by simp) ?_
            refine AllReadyH.cons rfl (fun K hK => ?_) (AllReadyH.nil)
            refine wp_store_row 49 (.tmp 5) (.tmp 8) rfl v3.heap.size #[.int .i64 o, .int .i64 d, .int .i64 ee, .int .i64 c] rfl rfl 49 #[.int .i64 0, .int .i64 0, .int .i64 0, .int .i64 0] f44 (by kernel_rfl) rfl (by kernel_rfl) ?_
            obtain ⟨p1, p2, p3⟩ := ar_store (i := ⟨o, d, ee, c⟩) f44 f45 (by omega) (by omega) S4.out
            refine hK.out _ _ (p3) (fun hHeld => ?_)
            clear hK K
            refine wpAnyH_ready (rs := [7]) (by kernel_rfl) (by simp) ?_
            refine AllReadyH.cons rfl (fun K hK => ?_) (AllReadyH.nil)
            refine wp_store_row 49 (.tmp 6) (.tmp 10) rfl v1.heap.size #[.int .i64 p, .int .i64 q, .int .i64 r, .int .i64 s] rfl rfl 49 #[.int .i64 0, .int .i64 0, .int .i64 0, .int .i64 0] p2 (by kernel_rfl) rfl (by kernel_rfl) ?_
            obtain ⟨p4, p5, p6⟩ := ar_store (i := ⟨p, q, r, s⟩) p2 p1 (by omega) (by omega) p3
            refine hK.out _ _ (p6) (fun hHeld => ?_)
            clear hK K
            refine wpAnyH_done (by kernel_rfl) ?_ _
            exact HC _ _ _ p5 p4 p6
        · go_simp
          obtain ⟨v3, hv⟩ : ∃ v, v2.alloc (.cells #[.int .i64 0, .int .i64 0, .int .i64 0, .int .i64 0] 49) = v := ⟨_, rfl⟩
          rw [hv]
          obtain ⟨a1, S3, bb⟩ := ar_alloc v2 W2 S2.out v3 hv.symm
          obtain ⟨g43, hg⟩ : ∃ g, v2.heap.size = g := ⟨_, rfl⟩
          have T3 := bb.size
          have f35 := Ar0.below f25 bb
          have l35 := Ar0.lt f25
          have z3 : v2.heap.size + 1 = v3.heap.size := by have h := congrArg (fun x : World => x.heap.size) hv; simp at h; omega
          clear hv hg
          have f34 := a1
          clear a1
          have R3 := S3.out.size
          refine hK.out _ _ (S3.out) (fun hHeld => ?_)
          clear hK K
          refine wpAnyH_ready (rs := [3]) (by kernel_rfl) (by simp) ?_
          refine AllReadyH.cons rfl (fun K hK => ?_) (AllReadyH.nil)
          · go_simp
            go_wp2_with (go_at_call 33; refine (HB.out _).mono ?_; rintro e v4 ⟨rfl, bb⟩)
            have S4 : Hid (Below W2.heap.size W2 v4) := S3.out.trans (bb.out.mono S3.out.size)
            have T4 := bb.out.size
            have f45 := Ar0.below f35 bb.out
            have f44 := Ar0.below f34 bb.out
            have R4 := S4.out.size
            refine hK.out _ _ (S4.out) (fun hHeld => ?_)
            clear hK K
            refine wpAnyH_ready (rs := [6]) (by kernel_rfl) (by simp) ?_
            refine AllReadyH.cons rfl (fun K hK => ?_) (AllReadyH.nil)
            refine wp_store_row 49 (.tmp 5) (.tmp 8) rfl v2.heap.size #[.int .i64 o, .int .i64 d, .int .i64 ee, .int .i64 c] rfl rfl 49 #[.int .i64 0, .int .i64 0, .int .i64 0, .int .i64 0] f44 (by kernel_rfl) rfl (by kernel_rfl) ?_
            obtain ⟨p1, p2, p3⟩ := ar_store (i := ⟨o, d, ee, c⟩) f44 f45 (by omega) (by omega) S4.out
            refine hK.out _ _ (p3) (fun hHeld => ?_)
            clear hK K
            refine wpAnyH_ready (rs := [7]) (by kernel_rfl) (by simp) ?_
            refine AllReadyH.cons rfl (fun K hK => ?_) (AllReadyH.nil)
            refine wp_store_row 49 (.tmp 6) (.tmp 10) rfl v1.heap.size #[.int .i64 p, .int .i64 q, .int .i64 r, .int .i64 s] rfl rfl 49 #[.int .i64 0, .int .i64 0, .int .i64 0, .int .i64 0] p2 (by kernel_rfl) rfl (by kernel_rfl) ?_
            obtain ⟨p4, p5, p6⟩ := ar_store (i := ⟨p, q, r, s⟩) p2 p1 (by omega) (by omega) p3
            refine hK.out _ _ (p6) (fun hHeld => ?_)
            clear hK K
            refine wpAnyH_done (by kernel_rfl) ?_ _
            exact HC _ _ _ p5 p4 p6
    · go_simp
      obtain ⟨v1, hv⟩ : ∃ v, v0.alloc (.cells #[.int .i64 0, .int .i64 0, .int .i64 0, .int .i64 0] 49) = v := ⟨_, rfl⟩
      rw [hv]
      obtain ⟨a1, S1, bb⟩ := ar_alloc v0 W2 S0.out v1 hv.symm
      obtain ⟨g41, hg⟩ : ∃ g, v0.heap.size = g := ⟨_, rfl⟩
      have T1 := bb.size
      have z1 : W2.heap.size + 1 = v1.heap.size := by have h := congrArg (fun x : World => x.heap.size) hv; simp at h; omega
      rw [D0] at a1
      clear hv hg
      have f14 := a1
      clear a1
      have R1 := S1.out.size
      refine hK.out _ _ (S1.out) (fun hHeld => ?_)
      clear hK K
      refine wpAnyH_ready (rs := [1, 5]) (by kernel_rfl) (by simp) ?_
      refine AllReadyH.cons rfl (fun K hK => ?_) (AllReadyH.cons rfl (fun K hK => ?_) (AllReadyH.nil))
      · go_simp
        go_wp2_with (go_at_call 33; refine (HA.out _).mono ?_; rintro e v2 ⟨rfl, bb⟩)
        have S2 : Hid (Below W2.heap.size W2 v2) := S1.out.trans (bb.out.mono S1.out.size)
        have T2 := bb.out.size
        have f24 := Ar0.below f14 bb.out
        have R2 := S2.out.size
        refine hK.out _ _ (S2.out) (fun hHeld => ?_)
        clear hK K
        refine wpAnyH_ready (rs := [3, 5]) (by kernel_rfl) (by simp) ?_
        refine AllReadyH.cons rfl (fun K hK => ?_) (AllReadyH.cons rfl (fun K hK => ?_) (AllReadyH.nil))
        · go_simp
          go_wp2_with (go_at_call 33; refine (HB.out _).mono ?_; rintro e v3 ⟨rfl, bb⟩)
          have S3 : Hid (Below W2.heap.size W2 v3) := S2.out.trans (bb.out.mono S2.out.size)
          have T3 := bb.out.size
          have f34 := Ar0.below f24 bb.out
          have R3 := S3.out.size
          refine hK.out _ _ (S3.out) (fun hHeld => ?_)
          clear hK K
          refine wpAnyH_ready (rs := [5]) (by kernel_rfl) (by simp) ?_
          refine AllReadyH.cons rfl (fun K hK => ?_) (AllReadyH.nil)
          · go_simp
            obtain ⟨v4, hv⟩ : ∃ v, v3.alloc (.cells #[.int .i64 0, .int .i64 0, .int .i64 0, .int .i64 0] 49) = v := ⟨_, rfl⟩
            rw [hv]
            obtain ⟨a1, S4, bb⟩ := ar_alloc v3 W2 S3.out v4 hv.symm
            obtain ⟨g54, hg⟩ : ∃ g, v3.heap.size = g := ⟨_, rfl⟩
            have T4 := bb.size
            have f44 := Ar0.below f34 bb
            have l44 := Ar0.lt f34
            have z4 : v3.heap.size + 1 = v4.heap.size := by have h := congrArg (fun x : World => x.heap.size) hv; simp at h; omega
            clear hv hg
            have f45 := a1
            clear a1
            have R4 := S4.out.size
            refine hK.out _ _ (S4.out) (fun hHeld => ?_)
            clear hK K
            refine wpAnyH_ready (rs := [6]) (by kernel_rfl) (by simp) ?_
            refine AllReadyH.cons rfl (fun K hK => ?_) (AllReadyH.nil)
            refine wp_store_row 49 (.tmp 5) (.tmp 8) rfl W2.heap.size #[.int .i64 o, .int .i64 d, .int .i64 ee, .int .i64 c] rfl rfl 49 #[.int .i64 0, .int .i64 0, .int .i64 0, .int .i64 0] f44 (by kernel_rfl) rfl (by kernel_rfl) ?_
            obtain ⟨p1, p2, p3⟩ := ar_store (i := ⟨o, d, ee, c⟩) f44 f45 (by omega) (by omega) S4.out
            refine hK.out _ _ (p3) (fun hHeld => ?_)
            clear hK K
            refine wpAnyH_ready (rs := [7]) (by kernel_rfl) (by simp) ?_
            refine AllReadyH.cons rfl (fun K hK => ?_) (AllReadyH.nil)
            refine wp_store_row 49 (.tmp 6) (.tmp 10) rfl v3.heap.size #[.int .i64 p, .int .i64 q, .int .i64 r, .int .i64 s] rfl rfl 49 #[.int .i64 0, .int .i64 0, .int .i64 0, .int .i64 0] p2 (by kernel_rfl) rfl (by kernel_rfl) ?_
            obtain ⟨p4, p5, p6⟩ := ar_store (i := ⟨p, q, r, s⟩) p2 p1 (by omega) (by omega) p3
            refine hK.out _ _ (p6) (fun hHeld => ?_)
            clear hK K
            refine wpAnyH_done (by kernel_rfl) ?_ _
            exact HC _ _ _ p5 p4 p6
        · go_simp
          obtain ⟨v3, hv⟩ : ∃ v, v2.alloc (.cells #[.int .i64 0, .int .i64 0, .int .i64 0, .int .i64 0] 49) = v := ⟨_, rfl⟩
          rw [hv]
          obtain ⟨a1, S3, bb⟩ := ar_alloc v2 W2 S2.out v3 hv.symm
          obtain ⟨g53, hg⟩ : ∃ g, v2.heap.size = g := ⟨_, rfl⟩
          have T3 := bb.size
          have f34 := Ar0.below f24 bb
          have l34 := Ar0.lt f24
          have z3 : v2.heap.size + 1 = v3.heap.size := by have h := congrArg (fun x : World => x.heap.size) hv; simp at h; omega
          clear hv hg
          have f35 := a1
          clear a1
          have R3 := S3.out.size
          refine hK.out _ _ (S3.out) (fun hHeld => ?_)
          clear hK K
          refine wpAnyH_ready (rs := [3]) (by kernel_rfl) (by simp) ?_
          refine AllReadyH.cons rfl (fun K hK => ?_) (AllReadyH.nil)
          · go_simp
            go_wp2_with (go_at_call 33; refine (HB.out _).mono ?_; rintro e v4 ⟨rfl, bb⟩)
            have S4 : Hid (Below W2.heap.size W2 v4) := S3.out.trans (bb.out.mono S3.out.size)
            have T4 := bb.out.size
            have f44 := Ar0.below f34 bb.out
            have f45 := Ar0.below f35 bb.out
            have R4 := S4.out.size
            refine hK.out _ _ (S4.out) (fun hHeld => ?_)
            clear hK K
            refine wpAnyH_ready (rs := [6]) (by kernel_rfl) (by simp) ?_
            refine AllReadyH.cons rfl (fun K hK => ?_) (AllReadyH.nil)
            refine wp_store_row 49 (.tmp 5) (.tmp 8) rfl W2.heap.size #[.int .i64 o, .int .i64 d, .int .i64 ee, .int .i64 c] rfl rfl 49 #[.int .i64 0, .int .i64 0, .int .i64 0, .int .i64 0] f44 (by kernel_rfl) rfl (by kernel_rfl) ?_
            obtain ⟨p1, p2, p3⟩ := ar_store (i := ⟨o, d, ee, c⟩) f44 f45 (by omega) (by omega) S4.out
            refine hK.out _ _ (p3) (fun hHeld => ?_)
            clear hK K
            refine wpAnyH_ready (rs := [7]) (by kernel_rfl) (by simp) ?_
            refine AllReadyH.cons rfl (fun K hK => ?_) (AllReadyH.nil)
            refine wp_store_row 49 (.tmp 6) (.tmp 10) rfl v2.heap.size #[.int .i64 p, .int .i64 q, .int .i64 r, .int .i64 s] rfl rfl 49 #[.int .i64 0, .int .i64 0, .int .i64 0, .int .i64 0] p2 (by kernel_rfl) rfl (by kernel_rfl) ?_
            obtain ⟨p4, p5, p6⟩ := ar_store (i := ⟨p, q, r, s⟩) p2 p1 (by omega) (by omega) p3
            refine hK.out _ _ (p6) (fun hHeld => ?_)
            clear hK K
            refine wpAnyH_done (by kernel_rfl) ?_ _
            exact HC _ _ _ p5 p4 p6
      · go_simp
        obtain ⟨v2, hv⟩ : ∃ v, v1.alloc (.cells #[.int .i64 0, .int .i64 0, .int .i64 0, .int .i64 0] 49) = v := ⟨_, rfl⟩
        rw [hv]
        obtain ⟨a1, S2, bb⟩ := ar_alloc v1 W2 S1.out v2 hv.symm
        obtain ⟨g52, hg⟩ : ∃ g, v1.heap.size = g := ⟨_, rfl⟩
        have T2 := bb.size
        have f24 := Ar0.below f14 bb
        have l24 := Ar0.lt f14
        have z2 : v1.heap.size + 1 = v2.heap.size := by have h := congrArg (fun x : World => x.heap.size) hv; simp at h; omega
        clear hv hg
        have f25 := a1
        clear a1
        have R2 := S2.out.size
        refine hK.out _ _ (S2.out) (fun hHeld => ?_)
        clear hK K
        refine wpAnyH_ready (rs := [1]) (by kernel_rfl) (by simp) ?_
        refine AllReadyH.cons rfl (fun K hK => ?_) (AllReadyH.nil)
        · go_simp
          go_wp2_with (go_at_call 33; refine (HA.out _).mono ?_; rintro e v3 ⟨rfl, bb⟩)
          have S3 : Hid (Below W2.heap.size W2 v3) := S2.out.trans (bb.out.mono S2.out.size)
          have T3 := bb.out.size
          have f34 := Ar0.below f24 bb.out
          have f35 := Ar0.below f25 bb.out
          have R3 := S3.out.size
          refine hK.out _ _ (S3.out) (fun hHeld => ?_)
          clear hK K
          refine wpAnyH_ready (rs := [3]) (by kernel_rfl) (by simp) ?_
          refine AllReadyH.cons rfl (fun K hK => ?_) (AllReadyH.nil)
          · go_simp
            go_wp2_with (go_at_call 33; refine (HB.out _).mono ?_; rintro e v4 ⟨rfl, bb⟩)
            have S4 : Hid (Below W2.heap.size W2 v4) := S3.out.trans (bb.out.mono S3.out.size)
            have T4 := bb.out.size
            have f44 := Ar0.below f34 bb.out
            have f45 := Ar0.below f35 bb.out
            have R4 := S4.out.size
            refine hK.out _ _ (S4.out) (fun hHeld => ?_)
            clear hK K
            refine wpAnyH_ready (rs := [6]) (by kernel_rfl) (by simp) ?_
            refine AllReadyH.cons rfl (fun K hK => ?_) (AllReadyH.nil)
            refine wp_store_row 49 (.tmp 5) (.tmp 8) rfl W2.heap.size #[.int .i64 o, .int .i64 d, .int .i64 ee, .int .i64 c] rfl rfl 49 #[.int .i64 0, .int .i64 0, .int .i64 0, .int .i64 0] f44 (by kernel_rfl) rfl (by kernel_rfl) ?_
            obtain ⟨p1, p2, p3⟩ := ar_store (i := ⟨o, d, ee, c⟩) f44 f45 (by omega) (by omega) S4.out
            refine hK.out _ _ (p3) (fun hHeld => ?_)
            clear hK K
            refine wpAnyH_ready (rs := [7]) (by kernel_rfl) (by simp) ?_
            refine AllReadyH.cons rfl (fun K hK => ?_) (AllReadyH.nil)
            refine wp_store_row 49 (.tmp 6) (.tmp 10) rfl v1.heap.size #[.int .i64 p, .int .i64 q, .int .i64 r, .int .i64 s] rfl rfl 49 #[.int .i64 0, .int .i64 0, .int .i64 0, .int .i64 0] p2 (by kernel_rfl) rfl (by kernel_rfl) ?_
            obtain ⟨p4, p5, p6⟩ := ar_store (i := ⟨p, q, r, s⟩) p2 p1 (by omega) (by omega) p3
            refine hK.out _ _ (p6) (fun hHeld => ?_)
            clear hK K
            refine wpAnyH_done (by kernel_rfl) ?_ _
            exact HC _ _ _ p5 p4 p6
    · go_simp
      obtain ⟨v1, hv⟩ : ∃ v, v0.alloc (.cells #[.int .i64 0, .int .i64 0, .int .i64 0, .int .i64 0] 49) = v := ⟨_, rfl⟩
      rw [hv]
      obtain ⟨a1, S1, bb⟩ := ar_alloc v0 W2 S0.out v1 hv.symm
      obtain ⟨g51, hg⟩ : ∃ g, v0.heap.size = g := ⟨_, rfl⟩
      have T1 := bb.size
      have z1 : W2.heap.size + 1 = v1.heap.size := by have h := congrArg (fun x : World => x.heap.size) hv; simp at h; omega
      rw [D0] at a1
      clear hv hg
      have f15 := a1
      clear a1
      have R1 := S1.out.size
      refine hK.out _ _ (S1.out) (fun hHeld => ?_)
      clear hK K
      refine wpAnyH_ready (rs := [1, 4]) (by kernel_rfl) (by simp) ?_
      refine AllReadyH.cons rfl (fun K hK => ?_) (AllReadyH.cons rfl (fun K hK => ?_) (AllReadyH.nil))
      · go_simp
        go_wp2_with (go_at_call 33; refine (HA.out _).mono ?_; rintro e v2 ⟨rfl, bb⟩)
        have S2 : Hid (Below W2.heap.size W2 v2) := S1.out.trans (bb.out.mono S1.out.size)
        have T2 := bb.out.size
        have f25 := Ar0.below f15 bb.out
        have R2 := S2.out.size
        refine hK.out _ _ (S2.out) (fun hHeld => ?_)
        clear hK K
        refine wpAnyH_ready (rs := [3, 4]) (by kernel_rfl) (by simp) ?_
        refine AllReadyH.cons rfl (fun K hK => ?_) (AllReadyH.cons rfl (fun K hK => ?_) (AllReadyH.nil))
        · go_simp
          go_wp2_with (go_at_call 33; refine (HB.out _).mono ?_; rintro e v3 ⟨rfl, bb⟩)
          have S3 : Hid (Below W2.heap.size W2 v3) := S2.out.trans (bb.out.mono S2.out.size)
          have T3 := bb.out.size
          have f35 := Ar0.below f25 bb.out
          have R3 := S3.out.size
          refine hK.out _ _ (S3.out) (fun hHeld => ?_)
          clear hK K
          refine wpAnyH_ready (rs := [4]) (by kernel_rfl) (by simp) ?_
          refine AllReadyH.cons rfl (fun K hK => ?_) (AllReadyH.nil)
          · go_simp
            obtain ⟨v4, hv⟩ : ∃ v, v3.alloc (.cells #[.int .i64 0, .int .i64 0, .int .i64 0, .int .i64 0] 49) = v := ⟨_, rfl⟩
            rw [hv]
            obtain ⟨a1, S4, bb⟩ := ar_alloc v3 W2 S3.out v4 hv.symm
            obtain ⟨g44, hg⟩ : ∃ g, v3.heap.size = g := ⟨_, rfl⟩
            have T4 := bb.size
            have f45 := Ar0.below f35 bb
            have l45 := Ar0.lt f35
            have z4 : v3.heap.size + 1 = v4.heap.size := by have h := congrArg (fun x : World => x.heap.size) hv; simp at h; omega
            clear hv hg
            have f44 := a1
            clear a1
            have R4 := S4.out.size
            refine hK.out _ _ (S4.out) (fun hHeld => ?_)
            clear hK K
            refine wpAnyH_ready (rs := [6]) (by kernel_rfl) (by simp) ?_
            refine AllReadyH.cons rfl (fun K hK => ?_) (AllReadyH.nil)
            refine wp_store_row 49 (.tmp 5) (.tmp 8) rfl v3.heap.size #[.int .i64 o, .int .i64 d, .int .i64 ee, .int .i64 c] rfl rfl 49 #[.int .i64 0, .int .i64 0, .int .i64 0, .int .i64 0] f44 (by kernel_rfl) rfl (by kernel_rfl) ?_
            obtain ⟨p1, p2, p3⟩ := ar_store (i := ⟨o, d, ee, c⟩) f44 f45 (by omega) (by omega) S4.out
            refine hK.out _ _ (p3) (fun hHeld => ?_)
            clear hK K
            refine wpAnyH_ready (rs := [7]) (by kernel_rfl) (by simp) ?_
            refine AllReadyH.cons rfl (fun K hK => ?_) (AllReadyH.nil)
            refine wp_store_row 49 (.tmp 6) (.tmp 10) rfl W2.heap.size #[.int .i64 p, .int .i64 q, .int .i64 r, .int .i64 s] rfl rfl 49 #[.int .i64 0, .int .i64 0, .int .i64 0, .int .i64 0] p2 (by kernel_rfl) rfl (by kernel_rfl) ?_
            obtain ⟨p4, p5, p6⟩ := ar_store (i := ⟨p, q, r, s⟩) p2 p1 (by omega) (by omega) p3
            refine hK.out _ _ (p6) (fun hHeld => ?_)
            clear hK K
            refine wpAnyH_done (by kernel_rfl) ?_ _
            exact HC _ _ _ p5 p4 p6
        · go_simp
          obtain ⟨v3, hv⟩ : ∃ v, v2.alloc (.cells #[.int .i64 0, .int .i64 0, .int .i64 0, .int .i64 0] 49) = v := ⟨_, rfl⟩
          rw [hv]
          obtain ⟨a1, S3, bb⟩ := ar_alloc v2 W2 S2.out v3 hv.symm
          obtain ⟨g43, hg⟩ : ∃ g, v2.heap.size = g := ⟨_, rfl⟩
          have T3 := bb.size
          have f35 := Ar0.below f25 bb
          have l35 := Ar0.lt f25
          have z3 : v2.heap.size + 1 = v3.heap.size := by have h := congrArg (fun x : World => x.heap.size) hv; simp at h; omega
          clear hv hg
          have f34 := a1
          clear a1
          have R3 := S3.out.size
          refine hK.out _ _ (S3.out) (fun hHeld => ?_)
          clear hK K
          refine wpAnyH_ready (rs := [3]) (by kernel_rfl) (by simp) ?_
          refine AllReadyH.cons rfl (fun K hK => ?_) (AllReadyH.nil)
          · go_simp
            go_wp2_with (go_at_call 33; refine (HB.out _).mono ?_; rintro e v4 ⟨rfl, bb⟩)
            have S4 : Hid (Below W2.heap.size W2 v4) := S3.out.trans (bb.out.mono S3.out.size)
            have T4 := bb.out.size
            have f45 := Ar0.below f35 bb.out
            have f44 := Ar0.below f34 bb.out
            have R4 := S4.out.size
            refine hK.out _ _ (S4.out) (fun hHeld => ?_)
            clear hK K
            refine wpAnyH_ready (rs := [6]) (by kernel_rfl) (by simp) ?_
            refine AllReadyH.cons rfl (fun K hK => ?_) (AllReadyH.nil)
            refine wp_store_row 49 (.tmp 5) (.tmp 8) rfl v2.heap.size #[.int .i64 o, .int .i64 d, .int .i64 ee, .int .i64 c] rfl rfl 49 #[.int .i64 0, .int .i64 0, .int .i64 0, .int .i64 0] f44 (by kernel_rfl) rfl (by kernel_rfl) ?_
            obtain ⟨p1, p2, p3⟩ := ar_store (i := ⟨o, d, ee, c⟩) f44 f45 (by omega) (by omega) S4.out
            refine hK.out _ _ (p3) (fun hHeld => ?_)
            clear hK K
            refine wpAnyH_ready (rs := [7]) (by kernel_rfl) (by simp) ?_
            refine AllReadyH.cons rfl (fun K hK => ?_) (AllReadyH.nil)
            refine wp_store_row 49 (.tmp 6) (.tmp 10) rfl W2.heap.size #[.int .i64 p, .int .i64 q, .int .i64 r, .int .i64 s] rfl rfl 49 #[.int .i64 0, .int .i64 0, .int .i64 0, .int .i64 0] p2 (by kernel_rfl) rfl (by kernel_rfl) ?_
            obtain ⟨p4, p5, p6⟩ := ar_store (i := ⟨p, q, r, s⟩) p2 p1 (by omega) (by omega) p3
            refine hK.out _ _ (p6) (fun hHeld => ?_)
            clear hK K
            refine wpAnyH_done (by kernel_rfl) ?_ _
            exact HC _ _ _ p5 p4 p6
      · go_simp
        obtain ⟨v2, hv⟩ : ∃ v, v1.alloc (.cells #[.int .i64 0, .int .i64 0, .int .i64 0, .int .i64 0] 49) = v := ⟨_, rfl⟩
        rw [hv]
        obtain ⟨a1, S2, bb⟩ := ar_alloc v1 W2 S1.out v2 hv.symm
        obtain ⟨g42, hg⟩ : ∃ g, v1.heap.size = g := ⟨_, rfl⟩
        have T2 := bb.size
        have f25 := Ar0.below f15 bb
        have l25 := Ar0.lt f15
        have z2 : v1.heap.size + 1 = v2.heap.size := by have h := congrArg (fun x : World => x.heap.size) hv; simp at h; omega
        clear hv hg
        have f24 := a1
        clear a1
        have R2 := S2.out.size
        refine hK.out _ _ (S2.out) (fun hHeld => ?_)
        clear hK K
        refine wpAnyH_ready (rs := [1]) (by kernel_rfl) (by simp) ?_
        refine AllReadyH.cons rfl (fun K hK => ?_) (AllReadyH.nil)
        · go_simp
          go_wp2_with (go_at_call 33; refine (HA.out _).mono ?_; rintro e v3 ⟨rfl, bb⟩)
          have S3 : Hid (Below W2.heap.size W2 v3) := S2.out.trans (bb.out.mono S2.out.size)
          have T3 := bb.out.size
          have f35 := Ar0.below f25 bb.out
          have f34 := Ar0.below f24 bb.out
          have R3 := S3.out.size
          refine hK.out _ _ (S3.out) (fun hHeld => ?_)
          clear hK K
          refine wpAnyH_ready (rs := [3]) (by kernel_rfl) (by simp) ?_
          refine AllReadyH.cons rfl (fun K hK => ?_) (AllReadyH.nil)
          · go_simp
            go_wp2_with (go_at_call 33; refine (HB.out _).mono ?_; rintro e v4 ⟨rfl, bb⟩)
            have S4 : Hid (Below W2.heap.size W2 v4) := S3.out.trans (bb.out.mono S3.out.size)
            have T4 := bb.out.size
            have f45 := Ar0.below f35 bb.out
            have f44 := Ar0.below f34 bb.out
            have R4 := S4.out.size
            refine hK.out _ _ (S4.out) (fun hHeld => ?_)
            clear hK K
            refine wpAnyH_ready (rs := [6]) (by kernel_rfl) (by simp) ?_
            refine AllReadyH.cons rfl (fun K hK => ?_) (AllReadyH.nil)
            refine wp_store_row 49 (.tmp 5) (.tmp 8) rfl v1.heap.size #[.int .i64 o, .int .i64 d, .int .i64 ee, .int .i64 c] rfl rfl 49 #[.int .i64 0, .int .i64 0, .int .i64 0, .int .i64 0] f44 (by kernel_rfl) rfl (by kernel_rfl) ?_
            obtain ⟨p1, p2, p3⟩ := ar_store (i := ⟨o, d, ee, c⟩) f44 f45 (by omega) (by omega) S4.out
            refine hK.out _ _ (p3) (fun hHeld => ?_)
            clear hK K
            refine wpAnyH_ready (rs := [7]) (by kernel_rfl) (by simp) ?_
            refine AllReadyH.cons rfl (fun K hK => ?_) (AllReadyH.nil)
            refine wp_store_row 49 (.tmp 6) (.tmp 10) rfl W2.heap.size #[.int .i64 p, .int .i64 q, .int .i64 r, .int .i64 s] rfl rfl 49 #[.int .i64 0, .int .i64 0, .int .i64 0, .int .i64 0] p2 (by kernel_rfl) rfl (by kernel_rfl) ?_
            obtain ⟨p4, p5, p6⟩ := ar_store (i := ⟨p, q, r, s⟩) p2 p1 (by omega) (by omega) p3
            refine hK.out _ _ (p6) (fun hHeld => ?_)
            clear hK K
            refine wpAnyH_done (by kernel_rfl) ?_ _
            exact HC _ _ _ p5 p4 p6
  intro g5 g6 W A5 A6 BW
  have HCp := Lib.hid (fun W' (hW : Below W.heap.size W W') => Compare_any ⟨o, d, ee, c⟩ ⟨p, q, r, s⟩ g5 g6 W' (A5.below hW) (A6.below hW))
  obtain ⟨z, hz⟩ : ∃ z, cmpN ⟨o, d, ee, c⟩ ⟨p, q, r, s⟩ = z := ⟨_, rfl⟩
  have hn := cmpN_neg ⟨o, d, ee, c⟩ ⟨p, q, r, s⟩
  rw [hz] at HCp hn
  have HN := Lib.hid hn
  have T0 : Hid (Below W.heap.size W W.drew) := (Below.refl _ W).drew
  have HBW : Hid (Below w.heap.size w W) := hbw.trans (BW.mono hbw.size)
  clear hz hn
  refine hA0 _ _ ?_
  clear hA0
  go_wp2
  refine wp_region_held_drew (S := Below W.heap.size W) (by kernel_rfl) T0.out (fun hHeld => ?_)
  refine wpAnyH_take (i := 0) (v := .slice (some ⟨g5, 0, none⟩) 4 4) rfl (by kernel_rfl) (by kernel_rfl) (by kernel_rfl) (fun _ _ _ h => h) (Or.inl ⟨by rfl, ?_⟩) (by first | assumption | exact trivial) ?_
  · intro W hSW; go_simp; try (with_reducible rfl)
  simp only [Act.put, List.getElem_toArray, List.getElem_cons_succ, List.getElem_cons_zero, List.setIfInBounds_toArray, List.set_cons_zero, List.set_cons_succ]
  refine wpAnyH_take (i := 1) (v := .slice (some ⟨g6, 0, none⟩) 4 4) rfl (by kernel_rfl) (by kernel_rfl) (by kernel_rfl) (fun _ _ _ h => h) (Or.inl ⟨by rfl, ?_⟩) (by first | assumption | exact trivial) ?_
  · intro W hSW; go_simp; try (with_reducible rfl)
  simp only [Act.put, List.getElem_toArray, List.getElem_cons_succ, List.getElem_cons_zero, List.setIfInBounds_toArray, List.set_cons_zero, List.set_cons_succ]
  refine wpAnyH_ready (rs := [2]) (by kernel_rfl) (by simp) ?_
  refine AllReadyH.cons rfl (fun K hK => ?_) AllReadyH.nil
  go_simp
  go_wp2_with (go_at_call 34; refine (HCp.out _ T0.out).mono ?_; rintro e w3 ⟨rfl, b3⟩; have B3 : Hid (Below W.heap.size W w3) := T0.out.trans (b3.out.mono (Nat.le_refl _)))
  refine hK.out _ _ (B3.out) (fun hHeld => ?_)
  clear hK K
  refine wpAnyH_take (i := 3) (v := .bool (decide (z < 0))) rfl (by kernel_rfl) (by kernel_rfl) (by kernel_rfl) (fun _ _ _ h => h) (Or.inl ⟨by rfl, ?_⟩) (by first | assumption | exact trivial) ?_
  · intro W hSW; go_simp; try (with_reducible rfl)
  simp only [Act.put, List.getElem_toArray, List.getElem_cons_succ, List.getElem_cons_zero, List.setIfInBounds_toArray, List.set_cons_zero, List.set_cons_succ]
  refine wpAnyH_take (i := 4) (v := .bool (decide (z < 0))) rfl (by kernel_rfl) (by kernel_rfl) (by kernel_rfl) (fun _ _ _ h => h) (Or.inl ⟨by rfl, ?_⟩) (by first | assumption | exact trivial) ?_
  · intro W hSW; go_simp; try (with_reducible rfl)
  simp only [Act.put, List.getElem_toArray, List.getElem_cons_succ, List.getElem_cons_zero, List.setIfInBounds_toArray, List.set_cons_zero, List.set_cons_succ]
  refine wpAnyH_done (by kernel_rfl) ?_ _
  go_wp2
  go_ret
  exact ⟨congrArg (fun b => Ending.returned (Value.bool b)) HN.out, HBW.out.trans (B3.out.mono HBW.out.size)⟩
end Go.Proofs.YtljndfkmppmbkaaDoor.Mg
