/- The law's step, whatever its kind; its begin; its question whether what was told is a beginning of what was pushed. -/
import Derived.Test.YtnfjfcoonabmmaaRvPush
import Derived.Test.YtnfjfcoonabmmaaRvWay
import Derived.Test.YtnfjfcoonabmmaaRvWoke
namespace Go.Proofs.Ytnfjfcoonabmmaa.Rv
open Go.RowKit
open Go.Proofs.Ytnfjfcoonabmmaa.Me Go.Proofs.Ytnfjfcoonabmmaa.Hd Go.Proofs.Ytnfjfcoonabmmaa.Sn
set_option linter.unusedVariables false
set_option linter.unusedSimpArgs false

theorem step_any (M : Nat) (w : World) (P Ds D mb n : Nat) (x : Pr) (h : Hid (PM M w P Ds D mb n x)) (h300 : Hid (x.ps.length < 300)) (k N : Int) :
    Calls Try.prog 13 #[.pointer (some ⟨P, 0, none⟩), .agg #[.int .i64 k, .int .i64 N]] w fun e w' => (∃ v, e = .returned v) ∧ Hid (∃ x', PM M w' P Ds D mb n x' ∧ x'.ps.length ≤ x.ps.length + 1) ∧ Hid (Below M w w') := by
  have hM : M ≤ w.heap.size := by obtain ⟨_, _, _, _, _, _, _, hp⟩ := h.out; exact hp.hM
  have h3 : Hid (x.ps.length ≤ 300) := Nat.le_of_lt h300.out
  by_cases hk : k < 0 ∨ 4 < k
  · exact (step_none P k N hk w).mono fun e w' ⟨q1, q2⟩ => ⟨q1, ⟨x, h.out.below q2.out, Nat.le_succ _⟩, q2.out.mono hM⟩
  · have h5 : k = 0 ∨ k = 1 ∨ k = 2 ∨ k = 3 ∨ k = 4 := by omega
    rcases h5 with rfl | rfl | rfl | rfl | rfl
    · refine (step_push M w P Ds D mb n x h h300 N).mono fun e w' ⟨q1, q2, q3⟩ => ⟨q1, ?_, q3⟩
      obtain ⟨s', ps', p1, p2⟩ := q2.out
      exact ⟨_, p1, p2⟩
    · exact (step_send M w P Ds D mb n x h h3 N).mono fun e w' ⟨q1, q2, q3⟩ => ⟨q1, ⟨_, q2.out, Nat.le_succ _⟩, q3⟩
    · refine (step_way M w P Ds D mb n x h h3 N).mono fun e w' ⟨q1, q2, q3⟩ => ⟨q1, ?_, q3⟩
      obtain ⟨r', W', p1, p2⟩ := q2.out
      exact ⟨_, p1, Nat.le_succ _⟩
    · refine (step_again M w P Ds D mb n x h h3 N).mono fun e w' ⟨q1, q2, q3⟩ => ⟨q1, ?_, q3⟩
      obtain ⟨r', W', p1, p2⟩ := q2.out
      exact ⟨_, p1, Nat.le_succ _⟩
    · exact (step_ack M w P Ds D mb n x h N).mono fun e w' ⟨q1, q2, q3⟩ => ⟨q1, ⟨_, q2.out, Nat.le_succ _⟩, q3⟩
set_option maxRecDepth 100000 in
set_option maxHeartbeats 4000000 in
theorem row_any (M : Nat) (w : World) (P Ds D mb n : Nat) (x : Pr) (h : Hid (PM M w P Ds D mb n x)) (h300 : Hid (x.ps.length ≤ 300)) :
    Calls Try.prog 14 #[.pointer (some ⟨P, 0, none⟩)] w fun e w' => e = .returned (.bool true) ∧ Hid (Below w.heap.size w w') := by
  obtain ⟨hst, G, A1, c1, v2, A3, c3, hpm⟩ := h.out
  have hWl : x.W ≤ x.ps.length := Nat.le_trans hst.wS hst.Sle
  have hby : ∀ l ∈ x.ps, ∀ z ∈ l, z < 256 := fun l hl => (hst.by_ l hl).2
  have hby2 : ∀ l ∈ x.ps.take x.W, ∀ z ∈ l, z < 256 := fun l hl => hby l (List.mem_of_mem_take hl)
  have hlen : (x.ps.take x.W).length = x.W := by simp; omega
  have hS := Lib.hid (fun (W : World) (hW : Below w.heap.size w W) => Same_any W A3 A1 c3 c1 (x.ps.take x.W) (x.ps.take x.W)
    (Lib.hid ((hpm.below hW).to.lst hby2).1) (Lib.hid ((hpm.below hW).to.lst hby2).2) (Lib.hid (((hpm.below hW).pu.first hWl).lst hby2).1) (Lib.hid (((hpm.below hW).pu.first hWl).lst hby2).2) (by have := h300.out; omega))
  simp only [decide_true] at hS
  rw [hlen] at hS
  have e4 : w.cell? ⟨P, 4, none⟩ = some (.slice A3 (x.ps.take x.W).length c3) := hpm.cell 4
  have e2 : w.cell? ⟨P, 2, none⟩ = some (.slice A1 x.ps.length c1) := hpm.cell 2
  rw [hlen] at e4
  have hle := hpm.pu.le
  have HP := Lib.hid hpm.lt
  obtain ⟨W, hW⟩ : ∃ W, x.W = W := ⟨_, rfl⟩
  obtain ⟨lp, hlp⟩ : ∃ lp, x.ps.length = lp := ⟨_, rfl⟩
  rw [hW] at hS e4 hWl
  rw [hlp] at e2 hWl hle
  have g1 : (W : Int) ≤ (lp : Int) := by omega
  have g2 : (W : Int) ≤ (c1 : Int) := by omega
  have g3 : decide ((W : Int) ≤ (lp : Int)) = true := decide_eq_true g1
  clear hst hpm hby hby2 hlen hW hlp
  go_enter Try.func14, Try.ntmps14
  go_wp2
  refine wp_region_held_drew (S := KeptN w) (by kernel_rfl) ((Below.refl _ w).drew) (fun hHeld => ?_)
  refine wpAnyH_take (i := 0) (v := ?vz1) rfl (by kernel_rfl) (by kernel_rfl) (by kernel_rfl) (fun _ _ _ h => h) (Or.inl ⟨by rfl, ?hyz1⟩) (by first | assumption | exact trivial) ?restz1
  case hyz1 => intro W hSW; go_simp; try (with_reducible rfl)
  simp only [Act.put, List.getElem_toArray, List.getElem_cons_succ, List.getElem_cons_zero, List.setIfInBounds_toArray, List.set_cons_zero, List.set_cons_succ]
  refine wpAnyH_take (i := 1) (v := ?vz2) rfl (by kernel_rfl) (by kernel_rfl) (by kernel_rfl) (fun _ _ _ h => h) (Or.inl ⟨by rfl, ?hyz2⟩) (by first | assumption | exact trivial) ?restz2
  case hyz2 => intro W hSW; go_simp; try (with_reducible rfl)
  simp only [Act.put, List.getElem_toArray, List.getElem_cons_succ, List.getElem_cons_zero, List.setIfInBounds_toArray, List.set_cons_zero, List.set_cons_succ]
  refine wpAnyH_take (i := 2) (v := ?vz3) rfl (by kernel_rfl) (by kernel_rfl) (by kernel_rfl) (fun _ _ _ h => h) (Or.inl ⟨by rfl, ?hyz3⟩) (by first | assumption | exact trivial) ?restz3
  case hyz3 => intro W hSW; go_simp; try (with_reducible rfl)
  simp only [Act.put, List.getElem_toArray, List.getElem_cons_succ, List.getElem_cons_zero, List.setIfInBounds_toArray, List.set_cons_zero, List.set_cons_succ]
  refine wpAnyH_take (i := 3) (v := ?vz4) rfl (by kernel_rfl) (by kernel_rfl) (by kernel_rfl) (fun _ _ _ h => h) (Or.inl ⟨by rfl, ?hyz4⟩) (by first | assumption | exact trivial) ?restz4
  case hyz4 => intro W hSW; have q3 := (KeptN.cell hSW HP.out 4).trans e4; go_simp; try (with_reducible rfl)
  simp only [Act.put, List.getElem_toArray, List.getElem_cons_succ, List.getElem_cons_zero, List.setIfInBounds_toArray, List.set_cons_zero, List.set_cons_succ]
  refine wpAnyH_take (i := 4) (v := ?vz5) rfl (by kernel_rfl) (by kernel_rfl) (by kernel_rfl) (fun _ _ _ h => h) (Or.inl ⟨by rfl, ?hyz5⟩) (by first | assumption | exact trivial) ?restz5
  case hyz5 => intro W hSW; go_simp; try (with_reducible rfl)
  simp only [Act.put, List.getElem_toArray, List.getElem_cons_succ, List.getElem_cons_zero, List.setIfInBounds_toArray, List.set_cons_zero, List.set_cons_succ]
  refine wpAnyH_take (i := 5) (v := ?vz6) rfl (by kernel_rfl) (by kernel_rfl) (by kernel_rfl) (fun _ _ _ h => h) (Or.inl ⟨by rfl, ?hyz6⟩) (by first | assumption | exact trivial) ?restz6
  case hyz6 => intro W hSW; go_simp; try (with_reducible rfl)
  simp only [Act.put, List.getElem_toArray, List.getElem_cons_succ, List.getElem_cons_zero, List.setIfInBounds_toArray, List.set_cons_zero, List.set_cons_succ]
  refine wpAnyH_take (i := 6) (v := ?vz7) rfl (by kernel_rfl) (by kernel_rfl) (by kernel_rfl) (fun _ _ _ h => h) (Or.inl ⟨by rfl, ?hyz7⟩) (by first | assumption | exact trivial) ?restz7
  case hyz7 => intro W hSW; go_simp; try (with_reducible rfl)
  simp only [Act.put, List.getElem_toArray, List.getElem_cons_succ, List.getElem_cons_zero, List.setIfInBounds_toArray, List.set_cons_zero, List.set_cons_succ]
  refine wpAnyH_take (i := 7) (v := ?vz8) rfl (by kernel_rfl) (by kernel_rfl) (by kernel_rfl) (fun _ _ _ h => h) (Or.inl ⟨by rfl, ?hyz8⟩) (by first | assumption | exact trivial) ?restz8
  case hyz8 => intro W hSW; go_simp; try (with_reducible rfl)
  simp only [Act.put, List.getElem_toArray, List.getElem_cons_succ, List.getElem_cons_zero, List.setIfInBounds_toArray, List.set_cons_zero, List.set_cons_succ]
  refine wpAnyH_take (i := 8) (v := ?vz9) rfl (by kernel_rfl) (by kernel_rfl) (by kernel_rfl) (fun _ _ _ h => h) (Or.inl ⟨by rfl, ?hyz9⟩) (by first | assumption | exact trivial) ?restz9
  case hyz9 => intro W hSW; have q8 := (KeptN.cell hSW HP.out 2).trans e2; go_simp; try (with_reducible rfl)
  simp only [Act.put, List.getElem_toArray, List.getElem_cons_succ, List.getElem_cons_zero, List.setIfInBounds_toArray, List.set_cons_zero, List.set_cons_succ]
  refine wpAnyH_take (i := 9) (v := ?vz10) rfl (by kernel_rfl) (by kernel_rfl) (by kernel_rfl) (fun _ _ _ h => h) (Or.inl ⟨by rfl, ?hyz10⟩) (by first | assumption | exact trivial) ?restz10
  case hyz10 => intro W hSW; go_simp; try (with_reducible rfl)
  simp only [Act.put, List.getElem_toArray, List.getElem_cons_succ, List.getElem_cons_zero, List.setIfInBounds_toArray, List.set_cons_zero, List.set_cons_succ]
  refine wpAnyH_take (i := 10) (v := ?vz11) rfl (by kernel_rfl) (by kernel_rfl) (by kernel_rfl) (fun _ _ _ h => h) (Or.inl ⟨by rfl, ?hyz11⟩) (by first | assumption | exact trivial) ?restz11
  case hyz11 => intro W hSW; go_simp; try (with_reducible rfl)
  simp only [Act.put, List.getElem_toArray, List.getElem_cons_succ, List.getElem_cons_zero, List.setIfInBounds_toArray, List.set_cons_zero, List.set_cons_succ]
  refine wpAnyH_take (i := 11) (v := ?vz12) rfl (by kernel_rfl) (by kernel_rfl) (by kernel_rfl) (fun _ _ _ h => h) (Or.inl ⟨by rfl, ?hyz12⟩) (by first | assumption | exact trivial) ?restz12
  case hyz12 => intro W hSW; go_simp; try (with_reducible rfl)
  simp only [Act.put, List.getElem_toArray, List.getElem_cons_succ, List.getElem_cons_zero, List.setIfInBounds_toArray, List.set_cons_zero, List.set_cons_succ]
  refine wpAnyH_take (i := 12) (v := ?vz13) rfl (by kernel_rfl) (by kernel_rfl) (by kernel_rfl) (fun _ _ _ h => h) (Or.inl ⟨by rfl, ?hyz13⟩) (by first | assumption | exact trivial) ?restz13
  case hyz13 => intro W hSW; go_simp; try (with_reducible rfl)
  simp only [Act.put, List.getElem_toArray, List.getElem_cons_succ, List.getElem_cons_zero, List.setIfInBounds_toArray, List.set_cons_zero, List.set_cons_succ]
  refine wpAnyH_take (i := 13) (v := ?vz14) rfl (by kernel_rfl) (by kernel_rfl) (by kernel_rfl) (fun _ _ _ h => h) (Or.inl ⟨by rfl, ?hyz14⟩) (by first | assumption | exact trivial) ?restz14
  case hyz14 => intro W hSW; go_simp; try (with_reducible rfl)
  simp only [Act.put, List.getElem_toArray, List.getElem_cons_succ, List.getElem_cons_zero, List.setIfInBounds_toArray, List.set_cons_zero, List.set_cons_succ]
  refine wpAnyH_take (i := 14) (v := ?vz15) rfl (by kernel_rfl) (by kernel_rfl) (by kernel_rfl) (fun _ _ _ h => h) (Or.inl ⟨by rfl, ?hyz15⟩) (by first | assumption | exact trivial) ?restz15
  case hyz15 => intro W hSW; go_simp; try (with_reducible rfl)
  simp only [Act.put, List.getElem_toArray, List.getElem_cons_succ, List.getElem_cons_zero, List.setIfInBounds_toArray, List.set_cons_zero, List.set_cons_succ]
  refine wpAnyH_take (i := 15) (v := ?vz16) rfl (by kernel_rfl) (by kernel_rfl) (by kernel_rfl) (fun _ _ _ h => h) (Or.inl ⟨by rfl, ?hyz16⟩) (by first | assumption | exact trivial) ?restz16
  case hyz16 => intro W hSW; have q15 := (KeptN.cell hSW HP.out 4).trans e4; go_simp; try (with_reducible rfl)
  simp only [Act.put, List.getElem_toArray, List.getElem_cons_succ, List.getElem_cons_zero, List.setIfInBounds_toArray, List.set_cons_zero, List.set_cons_succ]
  refine wpAnyH_take (i := 16) (v := ?vz17) rfl (by kernel_rfl) (by kernel_rfl) (by kernel_rfl) (fun _ _ _ h => h) (Or.inl ⟨by rfl, ?hyz17⟩) (by first | assumption | exact trivial) ?restz17
  case hyz17 => intro W hSW; go_simp; try (with_reducible rfl)
  simp only [Act.put, List.getElem_toArray, List.getElem_cons_succ, List.getElem_cons_zero, List.setIfInBounds_toArray, List.set_cons_zero, List.set_cons_succ]
  refine wpAnyH_take (i := 17) (v := ?vz18) rfl (by kernel_rfl) (by kernel_rfl) (by kernel_rfl) (fun _ _ _ h => h) (Or.inl ⟨by rfl, ?hyz18⟩) (by first | assumption | exact trivial) ?restz18
  case hyz18 => intro W hSW; go_simp; try (with_reducible rfl)
  simp only [Act.put, List.getElem_toArray, List.getElem_cons_succ, List.getElem_cons_zero, List.setIfInBounds_toArray, List.set_cons_zero, List.set_cons_succ]
  refine wpAnyH_take (i := 18) (v := ?vz19) rfl (by kernel_rfl) (by kernel_rfl) (by kernel_rfl) (fun _ _ _ h => h) (Or.inl ⟨by rfl, ?hyz19⟩) (by first | assumption | exact trivial) ?restz19
  case hyz19 => intro W hSW; go_simp; try (with_reducible rfl)
  simp only [Act.put, List.getElem_toArray, List.getElem_cons_succ, List.getElem_cons_zero, List.setIfInBounds_toArray, List.set_cons_zero, List.set_cons_succ]
  refine wpAnyH_take (i := 19) (v := ?vz20) rfl (by kernel_rfl) (by kernel_rfl) (by kernel_rfl) (fun _ _ _ h => h) (Or.inl ⟨by rfl, ?hyz20⟩) (by first | assumption | exact trivial) ?restz20
  case hyz20 => intro W hSW; have q19 := (KeptN.cell hSW HP.out 2).trans e2; go_simp; try (with_reducible rfl)
  simp only [Act.put, List.getElem_toArray, List.getElem_cons_succ, List.getElem_cons_zero, List.setIfInBounds_toArray, List.set_cons_zero, List.set_cons_succ]
  refine wpAnyH_take (i := 20) (v := ?vz21) rfl (by kernel_rfl) (by kernel_rfl) (by kernel_rfl) (fun _ _ _ h => h) (Or.inl ⟨by rfl, ?hyz21⟩) (by first | assumption | exact trivial) ?restz21
  case hyz21 => intro W hSW; go_simp; try (with_reducible rfl)
  simp only [Act.put, List.getElem_toArray, List.getElem_cons_succ, List.getElem_cons_zero, List.setIfInBounds_toArray, List.set_cons_zero, List.set_cons_succ]
  refine wpAnyH_take (i := 21) (v := ?vz22) rfl (by kernel_rfl) (by kernel_rfl) (by kernel_rfl) (fun _ _ _ h => h) (Or.inl ⟨by rfl, ?hyz22⟩) (by first | assumption | exact trivial) ?restz22
  case hyz22 => intro W hSW; go_simp; try (with_reducible rfl)
  simp only [Act.put, List.getElem_toArray, List.getElem_cons_succ, List.getElem_cons_zero, List.setIfInBounds_toArray, List.set_cons_zero, List.set_cons_succ]
  refine wpAnyH_take (i := 22) (v := ?vz23) rfl (by kernel_rfl) (by kernel_rfl) (by kernel_rfl) (fun _ _ _ h => h) (Or.inl ⟨by rfl, ?hyz23⟩) (by first | assumption | exact trivial) ?restz23
  case hyz23 => intro W hSW; go_simp; try (with_reducible rfl)
  simp only [Act.put, List.getElem_toArray, List.getElem_cons_succ, List.getElem_cons_zero, List.setIfInBounds_toArray, List.set_cons_zero, List.set_cons_succ]
  refine wpAnyH_take (i := 23) (v := ?vz24) rfl (by kernel_rfl) (by kernel_rfl) (by kernel_rfl) (fun _ _ _ h => h) (Or.inl ⟨by rfl, ?hyz24⟩) (by first | assumption | exact trivial) ?restz24
  case hyz24 => intro W hSW; have q23 := (KeptN.cell hSW HP.out 4).trans e4; go_simp; try (with_reducible rfl)
  simp only [Act.put, List.getElem_toArray, List.getElem_cons_succ, List.getElem_cons_zero, List.setIfInBounds_toArray, List.set_cons_zero, List.set_cons_succ]
  refine wpAnyH_take (i := 24) (v := ?vz25) rfl (by kernel_rfl) (by kernel_rfl) (by kernel_rfl) (fun _ _ _ h => h) (Or.inl ⟨by rfl, ?hyz25⟩) (by first | assumption | exact trivial) ?restz25
  case hyz25 => intro W hSW; go_simp; try (with_reducible rfl)
  simp only [Act.put, List.getElem_toArray, List.getElem_cons_succ, List.getElem_cons_zero, List.setIfInBounds_toArray, List.set_cons_zero, List.set_cons_succ]
  refine wpAnyH_take (i := 25) (v := ?vz26) rfl (by kernel_rfl) (by kernel_rfl) (by kernel_rfl) (fun _ _ _ h => h) (Or.inl ⟨by rfl, ?hyz26⟩) (by first | assumption | exact trivial) ?restz26
  case hyz26 => intro W hSW; go_simp; try (with_reducible rfl)
  simp only [Act.put, List.getElem_toArray, List.getElem_cons_succ, List.getElem_cons_zero, List.setIfInBounds_toArray, List.set_cons_zero, List.set_cons_succ]
  refine wpAnyH_ready (rs := [26]) (by kernel_rfl) (by simp) ?_
  refine AllReadyH.cons rfl (fun K hK => ?_) AllReadyH.nil
  go_simp
  go_wp2_with (go_at_call 19; refine (hS.out w.drew ((Below.refl _ w).drew)).mono ?_; rintro e w2 ⟨rfl, b2⟩)
  have S2 : KeptN w w2 := Below.trans ((Below.refl _ w).drew) b2.out
  refine hK.out _ _ (S2) (fun hHeld => ?_)
  clear hK K
  refine wpAnyH_take (i := 27) (v := ?vz27) rfl (by kernel_rfl) (by kernel_rfl) (by kernel_rfl) (fun _ _ _ h => h) (Or.inl ⟨by rfl, ?hyz27⟩) (by first | assumption | exact trivial) ?restz27
  case hyz27 => intro W hSW; go_simp; try (with_reducible rfl)
  simp only [Act.put, List.getElem_toArray, List.getElem_cons_succ, List.getElem_cons_zero, List.setIfInBounds_toArray, List.set_cons_zero, List.set_cons_succ]
  refine wpAnyH_take (i := 28) (v := ?vz28) rfl (by kernel_rfl) (by kernel_rfl) (by kernel_rfl) (fun _ _ _ h => h) (Or.inl ⟨by rfl, ?hyz28⟩) (by first | assumption | exact trivial) ?restz28
  case hyz28 => intro W hSW; go_simp; try (with_reducible rfl)
  simp only [Act.put, List.getElem_toArray, List.getElem_cons_succ, List.getElem_cons_zero, List.setIfInBounds_toArray, List.set_cons_zero, List.set_cons_succ]
  refine wpAnyH_done (by kernel_rfl) ?_ _
  have HB2 : Hid (Below w.heap.size w w2) := S2
  clear S2 b2
  go_wp2
  go_ret
  exact ⟨rfl, HB2⟩
theorem begin_bad (n : Int) (h : n < 1 ∨ 63 < n) (w : World) : Calls Try.prog 12 #[.int .i64 n] w fun e w' => e = .returned (.pointer none) ∧ w = w' := by
  have N1 := Lib.hid (fun W => Sn.New_bad n h W)
  have N2 := Lib.hid (fun W => New_bad n h W)
  clear h
  go_enter Try.func12, Try.ntmps12
  go_wp2_with (first
    | (go_at_call 31; refine (N1.out _).mono ?_; rintro e w' ⟨rfl, rfl⟩)
    | (go_at_call 7; refine (N2.out _).mono ?_; rintro e w' ⟨rfl, rfl⟩))
  go_ret
  exact ⟨rfl, rfl⟩
set_option maxHeartbeats 2000000 in
theorem begin_ok (n : Nat) (h1 : 1 ≤ n) (h2 : n ≤ 63) (w : World) : Calls Try.prog 12 #[.int .i64 n] w fun e w' => ∃ P Ds D mb, e = .returned (.pointer (some ⟨P, 0, none⟩)) ∧ Hid (PM w.heap.size w' P Ds D mb n (newP n)) ∧ Hid (Below w.heap.size w w') := by
  have N1 := Lib.hid (New_s w.heap.size (fun _ => False) n h1 h2 w (Nat.le_refl _) (fun k h => h.elim))
  have N2 := Lib.hid (fun W => New_g n h1 h2 W)
  have HST := Lib.hid (Pst.new h1 h2)
  clear h1 h2
  go_enter Try.func12, Try.ntmps12
  go_wp2_with (first
    | (go_at_call 31; refine N1.out.mono ?_; rintro e w1 ⟨rfl, H1, B1⟩)
    | (go_at_call 7; refine (N2.out _).mono ?_; rintro e w2 ⟨rfl, H2, B2⟩))
  go_ret
  have hb3 : Below w2.heap.size w2 (w2.alloc (.cells #[.pointer (some ⟨w.heap.size, 0, none⟩), .pointer (some ⟨w1.heap.size + 1, 0, none⟩), .slice none 0 0, .slice none 0 0, .slice none 0 0] 47)) := Me.below_alloc (Below.refl _ _)
  have hs1 := B1.out.size
  have hs2 := B2.out.size
  have hs3 : (w2.alloc (.cells #[.pointer (some ⟨w.heap.size, 0, none⟩), .pointer (some ⟨w1.heap.size + 1, 0, none⟩), .slice none 0 0, .slice none 0 0, .slice none 0 0] 47)).heap.size = w2.heap.size + 1 := by simp
  refine ⟨w2.heap.size, w.heap.size, w1.heap.size + 1, w1.heap.size, rfl, ⟨HST.out, fun k => w1.heap.size ≤ k ∧ k < w2.heap.size + 1, none, 0, .slice none 0 0, none, 0, ?_⟩, (B1.out.trans (B2.out.mono hs1)).trans (hb3.mono (Nat.le_trans hs1 hs2))⟩
  refine ⟨heap_alloc_new w2 _, ⟨hs2, Nat.lt_succ_self _⟩, Sn.butG H1.out (But.of_below (S := fun _ => False) (B2.out.trans (hb3.mono hs2))) (fun _ h => h.elim) (fun k hk => .inr hk.1), (H2.out.below hb3).mono fun k hk hk' => ⟨hk', by rw [hs3] at hk; exact hk⟩, Ls.nil _ _, Wy.nil _ _ _, Ls.nil _ _, fun k ⟨a, e, _⟩ => (by cases e), fun k hk => ⟨Nat.le_trans hs1 hk.1, by rw [hs3]; exact hk.2⟩, Nat.le_trans hs1 (Nat.le_trans hs2 (by rw [hs3]; omega))⟩
end Go.Proofs.Ytnfjfcoonabmmaa.Rv
