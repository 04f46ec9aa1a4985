/- The reference's Text. -/
import Derived.Test.YtljndfkmppmbkaaDoorMgDig
namespace Go.Proofs.YtljndfkmppmbkaaDoor.Mg
open Go.RowKit
open Go.Proofs.YtljndfkmppmbkaaDoor.Me Go.Proofs.YtljndfkmppmbkaaDoor.Ba Go.Proofs.YtljndfkmppmbkaaDoor.Ma Go.Proofs.YtljndfkmppmbkaaDoor.Hd
set_option linter.unusedVariables false
set_option linter.unusedSimpArgs false

theorem RText_no (i : Id4) (h : Hid (chkN i ≠ 0)) (w : World) : Calls Tryd.prog 28 #[.agg (idC i)] w fun e w' => e = .returned (.tuple #[.string ⟨#[]⟩, .int .i64 (chkN i : Int)]) ∧ Hid (Below w.heap.size w w') := by
  have HC := Lib.hid (fun W => RCheck_any i W)
  have HB4 := Lib.hid (box4 i.o i.d i.e i.c w)
  obtain ⟨x, hx⟩ : ∃ x, chkN i = x := ⟨_, rfl⟩
  rw [hx] at HC h ⊢
  have h1 : ((x : Int) == 0) = false := nz h.out
  clear hx
  obtain ⟨o, d, ee, c⟩ := i
  simp only [idC] at HC HB4 ⊢
  have HBX := Lib.hid (Me.below_alloc (o := .cells #[.int .i64 o, .int .i64 d, .int .i64 ee, .int .i64 c] 23) (Below.refl w.heap.size w))
  go_enter Tryd.func28, Tryd.ntmps28
  go_wp2_with (go_at_call 11; refine (HC.out _).mono ?_; rintro e w1 ⟨rfl, b1⟩; first
    | (have b2 := Lib.hid (HBY.out.trans (b1.out.mono HBY.out.size)))
    | (obtain ⟨q0, q1, q2, q3⟩ := HB4.out w1 b1.out; have HBY := Lib.hid (HBX.out.trans (b1.out.mono HBX.out.size))))
  go_ret2
  exact ⟨rfl, b2.out⟩
set_option maxRecDepth 100000 in
set_option maxHeartbeats 8000000 in
theorem RText_ok (i : Id4) (hR : Hid (Right i)) (w : World) : Calls Tryd.prog 28 #[.agg (idC i)] w fun e w' => e = .returned (.tuple #[.string (sB (txK i 4)), .int .i64 0]) ∧ Hid (Below w.heap.size w w') := by
  have HC : Hid (∀ W, Calls Tryd.prog 11 #[.agg (idC i)] W fun e w' => e = .returned (.int .i64 0) ∧ Hid (Below W.heap.size W w')) := fun W => (RCheck_any i W).mono fun e w' h => by
    rw [right_iff.2 hR.out] at h
    exact h
  have HDg : ∀ k, k < 4 → ∀ W, Calls Tryd.prog 45 #[.int .i64 (ix i k)] W fun e w' => e = .returned (.string (sB (dK i k))) ∧ Hid (Below W.heap.size W w') := fun k hk W => by
    obtain ⟨e, hb⟩ := ix_nat hR.out hk
    have := Digits_any (ix i k).toNat hb W
    rw [← e] at this
    exact this
  have D0 := Lib.hid (HDg 0 (by omega)); have D1 := Lib.hid (HDg 1 (by omega)); have D2 := Lib.hid (HDg 2 (by omega)); have D3 := Lib.hid (HDg 3 (by omega))
  have l0 := dK_len hR.out (k := 0) (by omega); have l1 := dK_len hR.out (k := 1) (by omega); have l2 := dK_len hR.out (k := 2) (by omega); have l3 := dK_len hR.out (k := 3) (by omega)
  have hfin : txK i 4 = dK i 0 ++ [62] ++ dK i 1 ++ [58] ++ dK i 2 ++ [46] ++ dK i 3 := by simp [txK, sg, List.append_assoc]
  obtain ⟨d0, h0⟩ : ∃ d, dK i 0 = d := ⟨_, rfl⟩
  obtain ⟨d1, h1⟩ : ∃ d, dK i 1 = d := ⟨_, rfl⟩
  obtain ⟨d2, h2⟩ : ∃ d, dK i 2 = d := ⟨_, rfl⟩
  obtain ⟨d3, h3⟩ : ∃ d, dK i 3 = d := ⟨_, rfl⟩
  rw [h0] at D0 l0 hfin; rw [h1] at D1 l1 hfin; rw [h2] at D2 l2 hfin; rw [h3] at D3 l3 hfin
  rw [hfin]
  have e1 : sB d0 ++ ⟨#[62]⟩ = sB (d0 ++ [62]) := sB_app d0 [62]
  have e2 := sB_app (d0 ++ [62]) d1
  have e3 : sB (d0 ++ [62] ++ d1) ++ ⟨#[58]⟩ = sB (d0 ++ [62] ++ d1 ++ [58]) := sB_app _ [58]
  have e4 := sB_app (d0 ++ [62] ++ d1 ++ [58]) d2
  have e5 : sB (d0 ++ [62] ++ d1 ++ [58] ++ d2) ++ ⟨#[46]⟩ = sB (d0 ++ [62] ++ d1 ++ [58] ++ d2 ++ [46]) := sB_app _ [46]
  have e6 := sB_app (d0 ++ [62] ++ d1 ++ [58] ++ d2 ++ [46]) d3
  have s0 := sB_size d0; have s1 := sB_size d1; have s2 := sB_size d2; have s3 := sB_size d3
  have t1 := sB_size (d0 ++ [62]); have t2 := sB_size (d0 ++ [62] ++ d1); have t3 := sB_size (d0 ++ [62] ++ d1 ++ [58]); have t4 := sB_size (d0 ++ [62] ++ d1 ++ [58] ++ d2); have t5 := sB_size (d0 ++ [62] ++ d1 ++ [58] ++ d2 ++ [46])
  simp only [List.length_append, List.length_cons, List.length_nil] at t1 t2 t3 t4 t5
  obtain ⟨C0, c0⟩ : ∃ d, sB d0 = d := ⟨_, rfl⟩
  obtain ⟨C1, c1⟩ : ∃ d, sB (d0 ++ [62]) = d := ⟨_, rfl⟩
  obtain ⟨C2, c2⟩ : ∃ d, sB (d0 ++ [62] ++ d1) = d := ⟨_, rfl⟩
  obtain ⟨C3, c3⟩ : ∃ d, sB (d0 ++ [62] ++ d1 ++ [58]) = d := ⟨_, rfl⟩
  obtain ⟨C4, c4⟩ : ∃ d, sB (d0 ++ [62] ++ d1 ++ [58] ++ d2) = d := ⟨_, rfl⟩
  obtain ⟨C5, c5⟩ : ∃ d, sB (d0 ++ [62] ++ d1 ++ [58] ++ d2 ++ [46]) = d := ⟨_, rfl⟩
  obtain ⟨C6, c6⟩ : ∃ d, sB (d0 ++ [62] ++ d1 ++ [58] ++ d2 ++ [46] ++ d3) = d := ⟨_, rfl⟩
  obtain ⟨B1, b1⟩ : ∃ d, sB d1 = d := ⟨_, rfl⟩
  obtain ⟨B2, b2⟩ : ∃ d, sB d2 = d := ⟨_, rfl⟩
  obtain ⟨B3, b3⟩ : ∃ d, sB d3 = d := ⟨_, rfl⟩
  rw [c0] at D0 e1 s0
  rw [b1] at D1 e2 s1
  rw [b2] at D2 e4 s2
  rw [b3] at D3 e6 s3
  rw [c1] at e1 e2 t1
  rw [c2] at e2 e3 t2
  rw [c3] at e3 e4 t3
  rw [c4] at e4 e5 t4
  rw [c5] at e5 e6 t5
  rw [c6] at e6 ⊢
  have y1 : ¬ 9223372036854775807 < C0.size + 1 := by omega
  have y2 : ¬ 9223372036854775807 < C1.size + B1.size := by omega
  have y3 : ¬ 9223372036854775807 < C2.size + 1 := by omega
  have y4 : ¬ 9223372036854775807 < C3.size + B2.size := by omega
  have y5 : ¬ 9223372036854775807 < C4.size + 1 := by omega
  have y6 : ¬ 9223372036854775807 < C5.size + B3.size := by omega
  have z1 : (⟨#[62]⟩ : ByteArray).size = 1 := rfl
  have z3 : (⟨#[58]⟩ : ByteArray).size = 1 := rfl
  have z5 : (⟨#[46]⟩ : ByteArray).size = 1 := rfl
  clear HDg l0 l1 l2 l3 hfin h0 h1 h2 h3 s0 s1 s2 s3 t1 t2 t3 t4 t5 c0 c1 c2 c3 c4 c5 c6 b1 b2 b3
  have HB4 := Lib.hid (box4 i.o i.d i.e i.c w)
  obtain ⟨o, d, ee, c⟩ := i
  simp only [idC, ix, if_pos, show ¬ (1 : Nat) = 0 by decide, show ¬ (2 : Nat) = 0 by decide, show ¬ (3 : Nat) = 0 by decide, show ¬ (2 : Nat) = 1 by decide, show ¬ (3 : Nat) = 1 by decide, show ¬ (3 : Nat) = 2 by decide, if_false] at HC HB4 D0 D1 D2 D3 ⊢
  obtain ⟨W0, hW0⟩ : ∃ W, w.alloc (.cells #[.int .i64 o, .int .i64 d, .int .i64 ee, .int .i64 c] 23) = W := ⟨_, rfl⟩
  have HBW : Hid (Below w.heap.size w W0) := by show Below _ _ _; rw [← hW0]; exact Me.below_alloc (Below.refl _ _)
  rw [hW0] at HB4
  have HW0 := Lib.hid hW0
  clear hW0
  go_enter Tryd.func28, Tryd.ntmps28
  go_wp2_with (go_at_call 11; rw [HW0.out]; refine (HC.out _).mono ?_; rintro e w1 ⟨rfl, b1⟩)
  have S0 := b1.out.drew
  refine wp_region_held_drew (S := fun W => Below W0.heap.size W0 W) (by kernel_rfl) S0 (fun hHeld => ?_)
  refine wpAnyH_take (i := 0) (v := .pointer (some ⟨w.heap.size, 0, none⟩)) rfl (by kernel_rfl) (by kernel_rfl) (by kernel_rfl) (fun _ _ _ h => h) (Or.inl ⟨by rfl, ?_⟩) (by first | assumption | exact trivial) ?_
  · intro W hSW; go_simp; try (with_reducible rfl)
  simp only [Act.put, List.getElem_toArray, List.getElem_cons_succ, List.getElem_cons_zero, List.setIfInBounds_toArray, List.set_cons_zero, List.set_cons_succ]
  refine wpAnyH_take (i := 1) (v := .int .i64 o) rfl (by kernel_rfl) (by kernel_rfl) (by kernel_rfl) (fun _ _ _ h => h) (Or.inl ⟨by rfl, ?_⟩) (by first | assumption | exact trivial) ?_
  · intro W hSW; obtain ⟨q0, q1, q2, q3⟩ := HB4.out W hSW; go_simp; try (with_reducible rfl)
  simp only [Act.put, List.getElem_toArray, List.getElem_cons_succ, List.getElem_cons_zero, List.setIfInBounds_toArray, List.set_cons_zero, List.set_cons_succ]
  refine wpAnyH_take (i := 4) (v := .pointer (some ⟨w.heap.size, 1, none⟩)) rfl (by kernel_rfl) (by kernel_rfl) (by kernel_rfl) (fun _ _ _ h => h) (Or.inl ⟨by rfl, ?_⟩) (by first | assumption | exact trivial) ?_
  · intro W hSW; go_simp; try (with_reducible rfl)
  simp only [Act.put, List.getElem_toArray, List.getElem_cons_succ, List.getElem_cons_zero, List.setIfInBounds_toArray, List.set_cons_zero, List.set_cons_succ]
  refine wpAnyH_take (i := 5) (v := .int .i64 d) rfl (by kernel_rfl) (by kernel_rfl) (by kernel_rfl) (fun _ _ _ h => h) (Or.inl ⟨by rfl, ?_⟩) (by first | assumption | exact trivial) ?_
  · intro W hSW; obtain ⟨q0, q1, q2, q3⟩ := HB4.out W hSW; go_simp; try (with_reducible rfl)
  simp only [Act.put, List.getElem_toArray, List.getElem_cons_succ, List.getElem_cons_zero, List.setIfInBounds_toArray, List.set_cons_zero, List.set_cons_succ]
  refine wpAnyH_take (i := 9) (v := .pointer (some ⟨w.heap.size, 2, none⟩)) rfl (by kernel_rfl) (by kernel_rfl) (by kernel_rfl) (fun _ _ _ h => h) (Or.inl ⟨by rfl, ?_⟩) (by first | assumption | exact trivial) ?_
  · intro W hSW; go_simp; try (with_reducible rfl)
  simp only [Act.put, List.getElem_toArray, List.getElem_cons_succ, List.getElem_cons_zero, List.setIfInBounds_toArray, List.set_cons_zero, List.set_cons_succ]
  refine wpAnyH_take (i := 10) (v := .int .i64 ee) rfl (by kernel_rfl) (by kernel_rfl) (by kernel_rfl) (fun _ _ _ h => h) (Or.inl ⟨by rfl, ?_⟩) (by first | assumption | exact trivial) ?_
  · intro W hSW; obtain ⟨q0, q1, q2, q3⟩ := HB4.out W hSW; go_simp; try (with_reducible rfl)
  simp only [Act.put, List.getElem_toArray, List.getElem_cons_succ, List.getElem_cons_zero, List.setIfInBounds_toArray, List.set_cons_zero, List.set_cons_succ]
  refine wpAnyH_take (i := 14) (v := .pointer (some ⟨w.heap.size, 3, none⟩)) rfl (by kernel_rfl) (by kernel_rfl) (by kernel_rfl) (fun _ _ _ h => h) (Or.inl ⟨by rfl, ?_⟩) (by first | assumption | exact trivial) ?_
  · intro W hSW; go_simp; try (with_reducible rfl)
  simp only [Act.put, List.getElem_toArray, List.getElem_cons_succ, List.getElem_cons_zero, List.setIfInBounds_toArray, List.set_cons_zero, List.set_cons_succ]
  refine wpAnyH_take (i := 15) (v := .int .i64 c) rfl (by kernel_rfl) (by kernel_rfl) (by kernel_rfl) (fun _ _ _ h => h) (Or.inl ⟨by rfl, ?_⟩) (by first | assumption | exact trivial) ?_
  · intro W hSW; obtain ⟨q0, q1, q2, q3⟩ := HB4.out W hSW; go_simp; try (with_reducible rfl)
  simp only [Act.put, List.getElem_toArray, List.getElem_cons_succ, List.getElem_cons_zero, List.setIfInBounds_toArray, List.set_cons_zero, List.set_cons_succ]
  refine wpAnyH_ready (rs := [2]) (by kernel_rfl) (by simp) ?_
  refine AllReadyH.cons rfl (fun K hK => ?_) AllReadyH.nil
  go_simp
  go_wp2_with (go_at_call 45; refine (D0.out _).mono ?_; rintro e v1 ⟨rfl, k1⟩)
  have S1 := S0.trans (k1.out.mono S0.size)
  refine hK.out _ _ (S1) (fun hHeld => ?_)
  clear hK K
  refine wpAnyH_take (i := 3) (v := .string C1) rfl (by kernel_rfl) (by kernel_rfl) (by kernel_rfl) (fun _ _ _ h => h) (Or.inl ⟨by rfl, ?_⟩) (by first | assumption | exact trivial) ?_
  · intro W hSW; go_simp; try (with_reducible rfl)
  simp only [Act.put, List.getElem_toArray, List.getElem_cons_succ, List.getElem_cons_zero, List.setIfInBounds_toArray, List.set_cons_zero, List.set_cons_succ]
  refine wpAnyH_ready (rs := [6]) (by kernel_rfl) (by simp) ?_
  refine AllReadyH.cons rfl (fun K hK => ?_) AllReadyH.nil
  go_simp
  go_wp2_with (go_at_call 45; refine (D1.out _).mono ?_; rintro e v2 ⟨rfl, k2⟩)
  have S2 := S1.trans (k2.out.mono S1.size)
  refine hK.out _ _ (S2) (fun hHeld => ?_)
  clear hK K
  refine wpAnyH_take (i := 7) (v := .string C2) rfl (by kernel_rfl) (by kernel_rfl) (by kernel_rfl) (fun _ _ _ h => h) (Or.inl ⟨by rfl, ?_⟩) (by first | assumption | exact trivial) ?_
  · intro W hSW; go_simp; try (with_reducible rfl)
  simp only [Act.put, List.getElem_toArray, List.getElem_cons_succ, List.getElem_cons_zero, List.setIfInBounds_toArray, List.set_cons_zero, List.set_cons_succ]
  refine wpAnyH_take (i := 8) (v := .string C3) rfl (by kernel_rfl) (by kernel_rfl) (by kernel_rfl) (fun _ _ _ h => h) (Or.inl ⟨by rfl, ?_⟩) (by first | assumption | exact trivial) ?_
  · intro W hSW; go_simp; try (with_reducible rfl)
  simp only [Act.put, List.getElem_toArray, List.getElem_cons_succ, List.getElem_cons_zero, List.setIfInBounds_toArray, List.set_cons_zero, List.set_cons_succ]
  refine wpAnyH_ready (rs := [11]) (by kernel_rfl) (by simp) ?_
  refine AllReadyH.cons rfl (fun K hK => ?_) AllReadyH.nil
  go_simp
  go_wp2_with (go_at_call 45; refine (D2.out _).mono ?_; rintro e v3 ⟨rfl, k3⟩)
  have S3 := S2.trans (k3.out.mono S2.size)
  refine hK.out _ _ (S3) (fun hHeld => ?_)
  clear hK K
  refine wpAnyH_take (i := 12) (v := .string C4) rfl (by kernel_rfl) (by kernel_rfl) (by kernel_rfl) (fun _ _ _ h => h) (Or.inl ⟨by rfl, ?_⟩) (by first | assumption | exact trivial) ?_
  · intro W hSW; go_simp; try (with_reducible rfl)
  simp only [Act.put, List.getElem_toArray, List.getElem_cons_succ, List.getElem_cons_zero, List.setIfInBounds_toArray, List.set_cons_zero, List.set_cons_succ]
  refine wpAnyH_take (i := 13) (v := .string C5) rfl (by kernel_rfl) (by kernel_rfl) (by kernel_rfl) (fun _ _ _ h => h) (Or.inl ⟨by rfl, ?_⟩) (by first | assumption | exact trivial) ?_
  · intro W hSW; go_simp; try (with_reducible rfl)
  simp only [Act.put, List.getElem_toArray, List.getElem_cons_succ, List.getElem_cons_zero, List.setIfInBounds_toArray, List.set_cons_zero, List.set_cons_succ]
  refine wpAnyH_ready (rs := [16]) (by kernel_rfl) (by simp) ?_
  refine AllReadyH.cons rfl (fun K hK => ?_) AllReadyH.nil
  go_simp
  go_wp2_with (go_at_call 45; refine (D3.out _).mono ?_; rintro e v4 ⟨rfl, k4⟩)
  have S4 := S3.trans (k4.out.mono S3.size)
  refine hK.out _ _ (S4) (fun hHeld => ?_)
  clear hK K
  refine wpAnyH_take (i := 17) (v := .string C6) rfl (by kernel_rfl) (by kernel_rfl) (by kernel_rfl) (fun _ _ _ h => h) (Or.inl ⟨by rfl, ?_⟩) (by first | assumption | exact trivial) ?_
  · intro W hSW; go_simp; try (with_reducible rfl)
  simp only [Act.put, List.getElem_toArray, List.getElem_cons_succ, List.getElem_cons_zero, List.setIfInBounds_toArray, List.set_cons_zero, List.set_cons_succ]
  refine wpAnyH_take (i := 18) (v := .string C6) rfl (by kernel_rfl) (by kernel_rfl) (by kernel_rfl) (fun _ _ _ h => h) (Or.inl ⟨by rfl, ?_⟩) (by first | assumption | exact trivial) ?_
  · intro W hSW; go_simp; try (with_reducible rfl)
  simp only [Act.put, List.getElem_toArray, List.getElem_cons_succ, List.getElem_cons_zero, List.setIfInBounds_toArray, List.set_cons_zero, List.set_cons_succ]
  refine wpAnyH_take (i := 19) (v := .int .i64 0) rfl (by kernel_rfl) (by kernel_rfl) (by kernel_rfl) (fun _ _ _ h => h) (Or.inl ⟨by rfl, ?_⟩) (by first | assumption | exact trivial) ?_
  · intro W hSW; go_simp; try (with_reducible rfl)
  simp only [Act.put, List.getElem_toArray, List.getElem_cons_succ, List.getElem_cons_zero, List.setIfInBounds_toArray, List.set_cons_zero, List.set_cons_succ]
  refine wpAnyH_done (by kernel_rfl) ?_ _
  go_wp2
  go_ret2
  exact ⟨rfl, HBW.out.trans (S4.mono HBW.out.size)⟩
end Go.Proofs.YtljndfkmppmbkaaDoor.Mg
