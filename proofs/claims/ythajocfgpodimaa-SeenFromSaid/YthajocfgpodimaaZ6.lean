/- Has. -/
import Derived.Test.YthajocfgpodimaaSeMay
import Derived.Test.YthajocfgpodimaaZ2
namespace Go.Proofs.Ythajocfgpodimaa.Se
open Go.RowKit
open Go.Proofs.Ythajocfgpodimaa.Me Go.Proofs.Ythajocfgpodimaa.Sb
set_option linter.unusedVariables false
set_option linter.unusedSimpArgs false

set_option maxRecDepth 100000 in
set_option maxHeartbeats 4000000 in
theorem Has_nil (i : Mg.Id4) (w : World) : Calls Try.prog 23 #[.pointer none, .agg (Mg.idC i)] w fun e w' => e = .returned (.bool false) ∧ Hid (Below w.heap.size w w') := by
  obtain ⟨o, d, ee, c⟩ := i
  simp only [Mg.idC]
  have HB : Hid (Below w.heap.size w (w.alloc (.cells #[.int .i64 o, .int .i64 d, .int .i64 ee, .int .i64 c] 39))) := Me.below_alloc (Below.refl _ _)
  go_enter Try.func23, Try.ntmps23
  go_wp2
  obtain ⟨W1, hW1⟩ : ∃ W, w.alloc (.cells #[.int .i64 o, .int .i64 d, .int .i64 ee, .int .i64 c] 39) = W := ⟨_, rfl⟩
  rw [hW1] at HB ⊢
  have S0 : Below w.heap.size w W1.drew := HB.out.drew
  refine wp_region_held_drew (S := fun W => Below w.heap.size w W) (by kernel_rfl) S0 (fun hHeld => ?_)
  refine wpAnyH_take (i := 0) (v := .pointer none) rfl (by kernel_rfl) (by kernel_rfl) (by kernel_rfl) (fun _ _ _ h => h) (Or.inl ⟨by rfl, ?_⟩) (by first | assumption | exact trivial) ?_
  · intro W hSW; go_simp; try (with_reducible rfl)
  simp only [Act.put, List.getElem_toArray, List.getElem_cons_succ, List.getElem_cons_zero, List.setIfInBounds_toArray, List.set_cons_zero, List.set_cons_succ]
  refine wpAnyH_take (i := 1) (v := .bool false) rfl (by kernel_rfl) (by kernel_rfl) (by kernel_rfl) (fun _ _ _ h => h) (Or.inl ⟨by rfl, ?_⟩) (by first | assumption | exact trivial) ?_
  · intro W hSW; go_simp; try (with_reducible rfl)
  simp only [Act.put, List.getElem_toArray, List.getElem_cons_succ, List.getElem_cons_zero, List.setIfInBounds_toArray, List.set_cons_zero, List.set_cons_succ]
  refine wpAnyH_take (i := 2) (v := .bool false) rfl (by kernel_rfl) (by kernel_rfl) (by kernel_rfl) (fun _ _ _ h => h) (Or.inl ⟨by rfl, ?_⟩) (by first | assumption | exact trivial) ?_
  · intro W hSW; go_simp; try (with_reducible rfl)
  simp only [Act.put, List.getElem_toArray, List.getElem_cons_succ, List.getElem_cons_zero, List.setIfInBounds_toArray, List.set_cons_zero, List.set_cons_succ]
  refine wpAnyH_take (i := 3) (v := undef) rfl (by kernel_rfl) (by kernel_rfl) (by kernel_rfl) (fun _ _ _ h => h) (Or.inr ⟨by rfl, rfl⟩) (by first | assumption | exact trivial) ?restz1
  simp only [Act.put, List.getElem_toArray, List.getElem_cons_succ, List.getElem_cons_zero, List.setIfInBounds_toArray, List.set_cons_zero, List.set_cons_succ]
  refine wpAnyH_take (i := 4) (v := undef) rfl (by kernel_rfl) (by kernel_rfl) (by kernel_rfl) (fun _ _ _ h => h) (Or.inr ⟨by rfl, rfl⟩) (by first | assumption | exact trivial) ?restz2
  simp only [Act.put, List.getElem_toArray, List.getElem_cons_succ, List.getElem_cons_zero, List.setIfInBounds_toArray, List.set_cons_zero, List.set_cons_succ]
  refine wpAnyH_take (i := 5) (v := undef) rfl (by kernel_rfl) (by kernel_rfl) (by kernel_rfl) (fun _ _ _ h => h) (Or.inr ⟨by rfl, rfl⟩) (by first | assumption | exact trivial) ?restz3
  simp only [Act.put, List.getElem_toArray, List.getElem_cons_succ, List.getElem_cons_zero, List.setIfInBounds_toArray, List.set_cons_zero, List.set_cons_succ]
  refine wpAnyH_take (i := 6) (v := .bool false) rfl (by kernel_rfl) (by kernel_rfl) (by kernel_rfl) (fun _ _ _ h => h) (Or.inl ⟨by rfl, ?_⟩) (by first | assumption | exact trivial) ?_
  · intro W hSW; go_simp; try (with_reducible rfl)
  simp only [Act.put, List.getElem_toArray, List.getElem_cons_succ, List.getElem_cons_zero, List.setIfInBounds_toArray, List.set_cons_zero, List.set_cons_succ]
  refine wpAnyH_take (i := 7) (v := .bool false) rfl (by kernel_rfl) (by kernel_rfl) (by kernel_rfl) (fun _ _ _ h => h) (Or.inl ⟨by rfl, ?_⟩) (by first | assumption | exact trivial) ?_
  · intro W hSW; go_simp; try (with_reducible rfl)
  simp only [Act.put, List.getElem_toArray, List.getElem_cons_succ, List.getElem_cons_zero, List.setIfInBounds_toArray, List.set_cons_zero, List.set_cons_succ]
  refine wpAnyH_take (i := 8) (v := undef) rfl (by kernel_rfl) (by kernel_rfl) (by kernel_rfl) (fun _ _ _ h => h) (Or.inr ⟨by rfl, rfl⟩) (by first | assumption | exact trivial) ?restz4
  simp only [Act.put, List.getElem_toArray, List.getElem_cons_succ, List.getElem_cons_zero, List.setIfInBounds_toArray, List.set_cons_zero, List.set_cons_succ]
  refine wpAnyH_take (i := 9) (v := undef) rfl (by kernel_rfl) (by kernel_rfl) (by kernel_rfl) (fun _ _ _ h => h) (Or.inr ⟨by rfl, rfl⟩) (by first | assumption | exact trivial) ?restz5
  simp only [Act.put, List.getElem_toArray, List.getElem_cons_succ, List.getElem_cons_zero, List.setIfInBounds_toArray, List.set_cons_zero, List.set_cons_succ]
  refine wpAnyH_take (i := 10) (v := undef) rfl (by kernel_rfl) (by kernel_rfl) (by kernel_rfl) (fun _ _ _ h => h) (Or.inr ⟨by rfl, rfl⟩) (by first | assumption | exact trivial) ?restz6
  simp only [Act.put, List.getElem_toArray, List.getElem_cons_succ, List.getElem_cons_zero, List.setIfInBounds_toArray, List.set_cons_zero, List.set_cons_succ]
  refine wpAnyH_take (i := 11) (v := undef) rfl (by kernel_rfl) (by kernel_rfl) (by kernel_rfl) (fun _ _ _ h => h) (Or.inr ⟨by rfl, rfl⟩) (by first | assumption | exact trivial) ?restz7
  simp only [Act.put, List.getElem_toArray, List.getElem_cons_succ, List.getElem_cons_zero, List.setIfInBounds_toArray, List.set_cons_zero, List.set_cons_succ]
  refine wpAnyH_take (i := 12) (v := undef) rfl (by kernel_rfl) (by kernel_rfl) (by kernel_rfl) (fun _ _ _ h => h) (Or.inr ⟨by rfl, rfl⟩) (by first | assumption | exact trivial) ?restz8
  simp only [Act.put, List.getElem_toArray, List.getElem_cons_succ, List.getElem_cons_zero, List.setIfInBounds_toArray, List.set_cons_zero, List.set_cons_succ]
  refine wpAnyH_take (i := 13) (v := undef) rfl (by kernel_rfl) (by kernel_rfl) (by kernel_rfl) (fun _ _ _ h => h) (Or.inr ⟨by rfl, rfl⟩) (by first | assumption | exact trivial) ?restz9
  simp only [Act.put, List.getElem_toArray, List.getElem_cons_succ, List.getElem_cons_zero, List.setIfInBounds_toArray, List.set_cons_zero, List.set_cons_succ]
  refine wpAnyH_take (i := 14) (v := undef) rfl (by kernel_rfl) (by kernel_rfl) (by kernel_rfl) (fun _ _ _ h => h) (Or.inr ⟨by rfl, rfl⟩) (by first | assumption | exact trivial) ?restz10
  simp only [Act.put, List.getElem_toArray, List.getElem_cons_succ, List.getElem_cons_zero, List.setIfInBounds_toArray, List.set_cons_zero, List.set_cons_succ]
  refine wpAnyH_take (i := 15) (v := undef) rfl (by kernel_rfl) (by kernel_rfl) (by kernel_rfl) (fun _ _ _ h => h) (Or.inr ⟨by rfl, rfl⟩) (by first | assumption | exact trivial) ?restz11
  simp only [Act.put, List.getElem_toArray, List.getElem_cons_succ, List.getElem_cons_zero, List.setIfInBounds_toArray, List.set_cons_zero, List.set_cons_succ]
  refine wpAnyH_take (i := 16) (v := undef) rfl (by kernel_rfl) (by kernel_rfl) (by kernel_rfl) (fun _ _ _ h => h) (Or.inr ⟨by rfl, rfl⟩) (by first | assumption | exact trivial) ?restz12
  simp only [Act.put, List.getElem_toArray, List.getElem_cons_succ, List.getElem_cons_zero, List.setIfInBounds_toArray, List.set_cons_zero, List.set_cons_succ]
  refine wpAnyH_take (i := 17) (v := undef) rfl (by kernel_rfl) (by kernel_rfl) (by kernel_rfl) (fun _ _ _ h => h) (Or.inr ⟨by rfl, rfl⟩) (by first | assumption | exact trivial) ?restz13
  simp only [Act.put, List.getElem_toArray, List.getElem_cons_succ, List.getElem_cons_zero, List.setIfInBounds_toArray, List.set_cons_zero, List.set_cons_succ]
  refine wpAnyH_take (i := 18) (v := .bool false) rfl (by kernel_rfl) (by kernel_rfl) (by kernel_rfl) (fun _ _ _ h => h) (Or.inl ⟨by rfl, ?_⟩) (by first | assumption | exact trivial) ?_
  · intro W hSW; go_simp; try (with_reducible rfl)
  simp only [Act.put, List.getElem_toArray, List.getElem_cons_succ, List.getElem_cons_zero, List.setIfInBounds_toArray, List.set_cons_zero, List.set_cons_succ]
  refine wpAnyH_take (i := 19) (v := .bool false) rfl (by kernel_rfl) (by kernel_rfl) (by kernel_rfl) (fun _ _ _ h => h) (Or.inl ⟨by rfl, ?_⟩) (by first | assumption | exact trivial) ?_
  · intro W hSW; go_simp; try (with_reducible rfl)
  simp only [Act.put, List.getElem_toArray, List.getElem_cons_succ, List.getElem_cons_zero, List.setIfInBounds_toArray, List.set_cons_zero, List.set_cons_succ]
  refine wpAnyH_done (by kernel_rfl) ?_ _
  go_wp2
  go_ret
  exact ⟨rfl, S0⟩
set_option maxRecDepth 100000 in
set_option maxHeartbeats 8000000 in
theorem Has_any (t : Bool) (D b n : Nat) (s : St) (i : Mg.Id4) (w : World) (hS : Hid (Set w t D b n s)) : Calls Try.prog 23 #[.pointer (some ⟨D, 0, none⟩), .agg (Mg.idC i)] w fun e w' => e = .returned (.bool (hasS s i)) ∧ Hid (Below w.heap.size w w') := by
  have HK := Lib.hid (fun W => Mg.Check_any i W)
  have HP := Lib.hid (fun W => placeOf_any i W)
  obtain ⟨W1, hW1⟩ : ∃ W, w.alloc (.cells (Mg.idC i) 39) = W := ⟨_, rfl⟩
  have b1 : Below w.heap.size w W1 := by rw [← hW1]; exact Me.below_alloc (Below.refl _ _)
  have r1 : W1.heap[w.heap.size]? = some (.cells (Mg.idC i) 39 (0, 0)) := by rw [← hW1]; exact heap_alloc_new w _
  have hlt : w.heap.size < W1.heap.size := (Array.getElem?_eq_some_iff.1 r1).1
  have hSW : ∀ W, Below W1.heap.size W1 W → Set W t D b n s ∧ Below w.heap.size w W ∧ W.heap[w.heap.size]? = some (.cells (Mg.idC i) 39 (0, 0)) := fun W hW => by
    have h := b1.trans (hW.mono b1.size)
    exact ⟨hS.out.below h, h, (hW.block _ hlt).trans r1⟩
  have HSW := Lib.hid hSW
  by_cases h0 : Mg.chkN i = 0
  · have hr := Mg.right_iff.1 h0
    have hp : Pp i.o i.e := ⟨hr.o0, by have := hr.o1; omega, hr.e0, hr.e1⟩
    obtain ⟨v, hv, hlk⟩ := hS.out.map.look hp
    have ho := hS.out.ok.get i.o i.e
    have hml := hS.out.ok.more_le i.o i.e
    have hg1 := hS.out.ok.g1
    have hr1 := hS.out.ok.r1
    have hM : hasS s i = has (getM s.kept i.o i.e) i.c := by unfold hasS; rw [h0]; simp
    rw [hM]
    rw [h0] at HK
    have HLk : Hid (∀ W, Below W1.heap.size W1 W → (Instr.lookup 59 (.map (some b)) (.agg #[.int .i64 i.o, .int .i64 i.e]) false).run Try.prog W = .ok v W) := fun W hW => hlk W ((b1.trans (hW.mono b1.size)).block b hS.out.lt.2)
    have HHas : Hid (∀ W, Below w.heap.size w W → Calls Try.prog 34 #[v, .int .i64 i.c] W fun e w' => e = .returned (.bool (has (getM s.kept i.o i.e) i.c)) ∧ Hid (Below W.heap.size W w')) := fun W hW => has_any _ t v i.c W (hv.keep (Ints.below hW)) ho.lt (by omega)
    obtain ⟨A, cp, rfl, _, _⟩ := hv
    have HC : Hid (∀ W, Below W1.heap.size W1 W → W.cell? ⟨D, 0, none⟩ = some (.int .i64 s.room) ∧ W.cell? ⟨D, 1, none⟩ = some (.int .i64 s.gaps) ∧ W.cell? ⟨D, 2, none⟩ = some (.map (some b))) := fun W hW => set_cells (hSW W hW).1.box
    obtain ⟨u, hu⟩ : ∃ u, (getM s.kept i.o i.e).up = u := ⟨_, rfl⟩
    obtain ⟨N, hN⟩ : ∃ N, (getM s.kept i.o i.e).more.length = N := ⟨_, rfl⟩
    obtain ⟨hb, hhb⟩ : ∃ x, has (getM s.kept i.o i.e) i.c = x := ⟨_, rfl⟩
    simp only [hu, hN, hhb] at HLk HHas ⊢
    have hid : ∀ W, Below W1.heap.size W1 W → W.cell? ⟨w.heap.size, 0, none⟩ = some (.int .i64 i.o) ∧ W.cell? ⟨w.heap.size, 1, none⟩ = some (.int .i64 i.d) ∧ W.cell? ⟨w.heap.size, 2, none⟩ = some (.int .i64 i.e) ∧ W.cell? ⟨w.heap.size, 3, none⟩ = some (.int .i64 i.c) := fun W hW => id_cells (hSW W hW).2.2
    have HID := Lib.hid hid
    have HB1 := Lib.hid b1
    have HW1 := Lib.hid hW1
    obtain ⟨o, d, ee, c⟩ := i
    simp only [Mg.idC, show ((0 : Nat) : Int) = 0 from rfl] at HK HP HID HLk HHas HW1 ⊢
    clear hW1 b1 r1 hlt hSW h0 hr hp hlk ho hml hg1 hr1 hM hu hN hhb hid hS HSW
    go_enter Try.func23, Try.ntmps23
    go_wp2
    rw [HW1.out]
    have S0 := (Below.refl W1.heap.size W1).drew
    refine wp_region_held_drew (S := fun W => Below W1.heap.size W1 W) (by kernel_rfl) S0 (fun hHeld => ?_)
    refine wpAnyH_take (i := 0) (v := .pointer (some ⟨D, 0, none⟩)) rfl (by kernel_rfl) (by kernel_rfl) (by kernel_rfl) (fun _ _ _ h => h) (Or.inl ⟨by rfl, ?_⟩) (by first | assumption | exact trivial) ?_
    · intro W hSW; go_simp; try (with_reducible rfl)
    simp only [Act.put, List.getElem_toArray, List.getElem_cons_succ, List.getElem_cons_zero, List.setIfInBounds_toArray, List.set_cons_zero, List.set_cons_succ]
    refine wpAnyH_take (i := 1) (v := .bool true) rfl (by kernel_rfl) (by kernel_rfl) (by kernel_rfl) (fun _ _ _ h => h) (Or.inl ⟨by rfl, ?_⟩) (by first | assumption | exact trivial) ?_
    · intro W hSW; go_simp; try (with_reducible rfl)
    simp only [Act.put, List.getElem_toArray, List.getElem_cons_succ, List.getElem_cons_zero, List.setIfInBounds_toArray, List.set_cons_zero, List.set_cons_succ]
    refine wpAnyH_take (i := 2) (v := .bool true) rfl (by kernel_rfl) (by kernel_rfl) (by kernel_rfl) (fun _ _ _ h => h) (Or.inl ⟨by rfl, ?_⟩) (by first | assumption | exact trivial) ?_
    · intro W hSW; go_simp; try (with_reducible rfl)
    simp only [Act.put, List.getElem_toArray, List.getElem_cons_succ, List.getElem_cons_zero, List.setIfInBounds_toArray, List.set_cons_zero, List.set_cons_succ]
    refine wpAnyH_take (i := 3) (v := .agg #[.int .i64 o, .int .i64 d, .int .i64 ee, .int .i64 c]) rfl (by kernel_rfl) (by kernel_rfl) (by kernel_rfl) (fun _ _ _ h => h) (Or.inl ⟨by rfl, ?_⟩) (by first | assumption | exact trivial) ?_
    · intro W hSW; obtain ⟨y0, y1, y2, y3⟩ := HID.out W hSW; go_simp; try (with_reducible rfl)
    simp only [Act.put, List.getElem_toArray, List.getElem_cons_succ, List.getElem_cons_zero, List.setIfInBounds_toArray, List.set_cons_zero, List.set_cons_succ]
    refine wpAnyH_ready (rs := [4]) (by kernel_rfl) (by simp) ?_
    refine AllReadyH.cons rfl (fun K hK => ?_) AllReadyH.nil
    go_simp
    go_wp2_with (go_at_call 32; refine (HK.out _).mono ?_; rintro e w2 ⟨rfl, hb2⟩)
    have S2 := S0.trans (hb2.out.mono S0.size)
    refine hK.out _ _ (S2) (fun hHeld => ?_)
    clear hK K
    refine wpAnyH_take (i := 5) (v := .bool true) rfl (by kernel_rfl) (by kernel_rfl) (by kernel_rfl) (fun _ _ _ h => h) (Or.inl ⟨by rfl, ?_⟩) (by first | assumption | exact trivial) ?_
    · intro W hSW; go_simp; try (with_reducible rfl)
    simp only [Act.put, List.getElem_toArray, List.getElem_cons_succ, List.getElem_cons_zero, List.setIfInBounds_toArray, List.set_cons_zero, List.set_cons_succ]
    refine wpAnyH_take (i := 6) (v := .bool true) rfl (by kernel_rfl) (by kernel_rfl) (by kernel_rfl) (fun _ _ _ h => h) (Or.inl ⟨by rfl, ?_⟩) (by first | assumption | exact trivial) ?_
    · intro W hSW; go_simp; try (with_reducible rfl)
    simp only [Act.put, List.getElem_toArray, List.getElem_cons_succ, List.getElem_cons_zero, List.setIfInBounds_toArray, List.set_cons_zero, List.set_cons_succ]
    refine wpAnyH_take (i := 7) (v := .bool true) rfl (by kernel_rfl) (by kernel_rfl) (by kernel_rfl) (fun _ _ _ h => h) (Or.inl ⟨by rfl, ?_⟩) (by first | assumption | exact trivial) ?_
    · intro W hSW; go_simp; try (with_reducible rfl)
    simp only [Act.put, List.getElem_toArray, List.getElem_cons_succ, List.getElem_cons_zero, List.setIfInBounds_toArray, List.set_cons_zero, List.set_cons_succ]
    refine wpAnyH_take (i := 8) (v := .pointer (some ⟨D, 0, none⟩)) rfl (by kernel_rfl) (by kernel_rfl) (by kernel_rfl) (fun _ _ _ h => h) (Or.inl ⟨by rfl, ?_⟩) (by first | assumption | exact trivial) ?_
    · intro W hSW; go_simp; try (with_reducible rfl)
    simp only [Act.put, List.getElem_toArray, List.getElem_cons_succ, List.getElem_cons_zero, List.setIfInBounds_toArray, List.set_cons_zero, List.set_cons_succ]
    refine wpAnyH_take (i := 9) (v := .pointer (some ⟨D, 0, none⟩)) rfl (by kernel_rfl) (by kernel_rfl) (by kernel_rfl) (fun _ _ _ h => h) (Or.inl ⟨by rfl, ?_⟩) (by first | assumption | exact trivial) ?_
    · intro W hSW; go_simp; try (with_reducible rfl)
    simp only [Act.put, List.getElem_toArray, List.getElem_cons_succ, List.getElem_cons_zero, List.setIfInBounds_toArray, List.set_cons_zero, List.set_cons_succ]
    refine wpAnyH_take (i := 10) (v := .pointer (some ⟨D, 2, none⟩)) rfl (by kernel_rfl) (by kernel_rfl) (by kernel_rfl) (fun _ _ _ h => h) (Or.inl ⟨by rfl, ?_⟩) (by first | assumption | exact trivial) ?_
    · intro W hSW; go_simp; try (with_reducible rfl)
    simp only [Act.put, List.getElem_toArray, List.getElem_cons_succ, List.getElem_cons_zero, List.setIfInBounds_toArray, List.set_cons_zero, List.set_cons_succ]
    refine wpAnyH_take (i := 11) (v := .map (some b)) rfl (by kernel_rfl) (by kernel_rfl) (by kernel_rfl) (fun _ _ _ h => h) (Or.inl ⟨by rfl, ?_⟩) (by first | assumption | exact trivial) ?_
    · intro W hSW; obtain ⟨y0, y1, y2⟩ := HC.out W hSW; go_simp; try (with_reducible rfl)
    simp only [Act.put, List.getElem_toArray, List.getElem_cons_succ, List.getElem_cons_zero, List.setIfInBounds_toArray, List.set_cons_zero, List.set_cons_succ]
    refine wpAnyH_take (i := 12) (v := .agg #[.int .i64 o, .int .i64 d, .int .i64 ee, .int .i64 c]) rfl (by kernel_rfl) (by kernel_rfl) (by kernel_rfl) (fun _ _ _ h => h) (Or.inl ⟨by rfl, ?_⟩) (by first | assumption | exact trivial) ?_
    · intro W hSW; obtain ⟨y0, y1, y2, y3⟩ := HID.out W hSW; go_simp; try (with_reducible rfl)
    simp only [Act.put, List.getElem_toArray, List.getElem_cons_succ, List.getElem_cons_zero, List.setIfInBounds_toArray, List.set_cons_zero, List.set_cons_succ]
    refine wpAnyH_take (i := 15) (v := .pointer (some ⟨w.heap.size, 3, none⟩)) rfl (by kernel_rfl) (by kernel_rfl) (by kernel_rfl) (fun _ _ _ h => h) (Or.inl ⟨by rfl, ?_⟩) (by first | assumption | exact trivial) ?_
    · intro W hSW; go_simp; try (with_reducible rfl)
    simp only [Act.put, List.getElem_toArray, List.getElem_cons_succ, List.getElem_cons_zero, List.setIfInBounds_toArray, List.set_cons_zero, List.set_cons_succ]
    refine wpAnyH_take (i := 16) (v := .int .i64 c) rfl (by kernel_rfl) (by kernel_rfl) (by kernel_rfl) (fun _ _ _ h => h) (Or.inl ⟨by rfl, ?_⟩) (by first | assumption | exact trivial) ?_
    · intro W hSW; obtain ⟨y0, y1, y2, y3⟩ := HID.out W hSW; go_simp; try (with_reducible rfl)
    simp only [Act.put, List.getElem_toArray, List.getElem_cons_succ, List.getElem_cons_zero, List.setIfInBounds_toArray, List.set_cons_zero, List.set_cons_succ]
    refine wpAnyH_ready (rs := [13]) (by kernel_rfl) (by simp) ?_
    refine AllReadyH.cons rfl (fun K hK => ?_) AllReadyH.nil
    go_simp
    go_wp2_with (go_at_call 33; refine (HP.out _).mono ?_; rintro e w3 ⟨rfl, hb3⟩)
    have S3 := S2.trans (hb3.out.mono S2.size)
    refine hK.out _ _ (S3) (fun hHeld => ?_)
    clear hK K
    refine wpAnyH_take (i := 14) (v := .agg #[.int .i64 u, .slice A N cp]) rfl (by kernel_rfl) (by kernel_rfl) (by kernel_rfl) (fun _ _ _ h => h) (Or.inl ⟨by rfl, ?_⟩) (by first | assumption | exact trivial) ?_
    · intro W hSW; have q := HLk.out W hSW; go_simp; try (with_reducible rfl)
    simp only [Act.put, List.getElem_toArray, List.getElem_cons_succ, List.getElem_cons_zero, List.setIfInBounds_toArray, List.set_cons_zero, List.set_cons_succ]
    refine wpAnyH_ready (rs := [17]) (by kernel_rfl) (by simp) ?_
    refine AllReadyH.cons rfl (fun K hK => ?_) AllReadyH.nil
    go_simp
    have SW3 : Below w.heap.size w w3 := HB1.out.trans (S3.mono HB1.out.size)
    go_wp2_with (go_at_call 34; refine (HHas.out _ SW3).mono ?_; rintro e w4 ⟨rfl, hb4⟩)
    have S4 := S3.trans (hb4.out.mono S3.size)
    refine hK.out _ _ (S4) (fun hHeld => ?_)
    clear hK K
    refine wpAnyH_take (i := 18) (v := .bool hb) rfl (by kernel_rfl) (by kernel_rfl) (by kernel_rfl) (fun _ _ _ h => h) (Or.inl ⟨by rfl, ?_⟩) (by first | assumption | exact trivial) ?_
    · intro W hSW; go_simp; try (with_reducible rfl)
    simp only [Act.put, List.getElem_toArray, List.getElem_cons_succ, List.getElem_cons_zero, List.setIfInBounds_toArray, List.set_cons_zero, List.set_cons_succ]
    refine wpAnyH_take (i := 19) (v := .bool hb) rfl (by kernel_rfl) (by kernel_rfl) (by kernel_rfl) (fun _ _ _ h => h) (Or.inl ⟨by rfl, ?_⟩) (by first | assumption | exact trivial) ?_
    · intro W hSW; go_simp; try (with_reducible rfl)
    simp only [Act.put, List.getElem_toArray, List.getElem_cons_succ, List.getElem_cons_zero, List.setIfInBounds_toArray, List.set_cons_zero, List.set_cons_succ]
    refine wpAnyH_done (by kernel_rfl) ?_ _
    go_wp2
    go_ret
    exact ⟨rfl, HB1.out.trans (S4.mono HB1.out.size)⟩
  · have hM : hasS s i = false := by unfold hasS; simp [h0]
    rw [hM]
    have hne := Mg.nz h0
    obtain ⟨k, hk⟩ : ∃ k, Mg.chkN i = k := ⟨_, rfl⟩
    rw [hk] at HK hne
    have hid : ∀ W, Below W1.heap.size W1 W → W.cell? ⟨w.heap.size, 0, none⟩ = some (.int .i64 i.o) ∧ W.cell? ⟨w.heap.size, 1, none⟩ = some (.int .i64 i.d) ∧ W.cell? ⟨w.heap.size, 2, none⟩ = some (.int .i64 i.e) ∧ W.cell? ⟨w.heap.size, 3, none⟩ = some (.int .i64 i.c) := fun W hW => id_cells (hSW W hW).2.2
    have HID := Lib.hid hid
    have HB1 := Lib.hid b1
    have HW1 := Lib.hid hW1
    obtain ⟨o, d, ee, c⟩ := i
    simp only [Mg.idC] at HK HID HW1 ⊢
    clear hW1 b1 r1 hlt hSW h0 hk hM hid hS HSW HP
    go_enter Try.func23, Try.ntmps23
    go_wp2
    rw [HW1.out]
    have S0 := (Below.refl W1.heap.size W1).drew
    refine wp_region_held_drew (S := fun W => Below W1.heap.size W1 W) (by kernel_rfl) S0 (fun hHeld => ?_)
    refine wpAnyH_take (i := 0) (v := .pointer (some ⟨D, 0, none⟩)) rfl (by kernel_rfl) (by kernel_rfl) (by kernel_rfl) (fun _ _ _ h => h) (Or.inl ⟨by rfl, ?_⟩) (by first | assumption | exact trivial) ?_
    · intro W hSW; go_simp; try (with_reducible rfl)
    simp only [Act.put, List.getElem_toArray, List.getElem_cons_succ, List.getElem_cons_zero, List.setIfInBounds_toArray, List.set_cons_zero, List.set_cons_succ]
    refine wpAnyH_take (i := 1) (v := .bool true) rfl (by kernel_rfl) (by kernel_rfl) (by kernel_rfl) (fun _ _ _ h => h) (Or.inl ⟨by rfl, ?_⟩) (by first | assumption | exact trivial) ?_
    · intro W hSW; go_simp; try (with_reducible rfl)
    simp only [Act.put, List.getElem_toArray, List.getElem_cons_succ, List.getElem_cons_zero, List.setIfInBounds_toArray, List.set_cons_zero, List.set_cons_succ]
    refine wpAnyH_take (i := 2) (v := .bool true) rfl (by kernel_rfl) (by kernel_rfl) (by kernel_rfl) (fun _ _ _ h => h) (Or.inl ⟨by rfl, ?_⟩) (by first | assumption | exact trivial) ?_
    · intro W hSW; go_simp; try (with_reducible rfl)
    simp only [Act.put, List.getElem_toArray, List.getElem_cons_succ, List.getElem_cons_zero, List.setIfInBounds_toArray, List.set_cons_zero, List.set_cons_succ]
    refine wpAnyH_take (i := 3) (v := .agg #[.int .i64 o, .int .i64 d, .int .i64 ee, .int .i64 c]) rfl (by kernel_rfl) (by kernel_rfl) (by kernel_rfl) (fun _ _ _ h => h) (Or.inl ⟨by rfl, ?_⟩) (by first | assumption | exact trivial) ?_
    · intro W hSW; obtain ⟨y0, y1, y2, y3⟩ := HID.out W hSW; go_simp; try (with_reducible rfl)
    simp only [Act.put, List.getElem_toArray, List.getElem_cons_succ, List.getElem_cons_zero, List.setIfInBounds_toArray, List.set_cons_zero, List.set_cons_succ]
    refine wpAnyH_ready (rs := [4]) (by kernel_rfl) (by simp) ?_
    refine AllReadyH.cons rfl (fun K hK => ?_) AllReadyH.nil
    go_simp
    go_wp2_with (go_at_call 32; refine (HK.out _).mono ?_; rintro e w2 ⟨rfl, hb2⟩)
    have S2 := S0.trans (hb2.out.mono S0.size)
    refine hK.out _ _ (S2) (fun hHeld => ?_)
    clear hK K
    refine wpAnyH_take (i := 5) (v := .bool false) rfl (by kernel_rfl) (by kernel_rfl) (by kernel_rfl) (fun _ _ _ h => h) (Or.inl ⟨by rfl, ?_⟩) (by first | assumption | exact trivial) ?_
    · intro W hSW; go_simp; try (with_reducible rfl)
    simp only [Act.put, List.getElem_toArray, List.getElem_cons_succ, List.getElem_cons_zero, List.setIfInBounds_toArray, List.set_cons_zero, List.set_cons_succ]
    refine wpAnyH_take (i := 6) (v := .bool false) rfl (by kernel_rfl) (by kernel_rfl) (by kernel_rfl) (fun _ _ _ h => h) (Or.inl ⟨by rfl, ?_⟩) (by first | assumption | exact trivial) ?_
    · intro W hSW; go_simp; try (with_reducible rfl)
    simp only [Act.put, List.getElem_toArray, List.getElem_cons_succ, List.getElem_cons_zero, List.setIfInBounds_toArray, List.set_cons_zero, List.set_cons_succ]
    refine wpAnyH_take (i := 7) (v := .bool false) rfl (by kernel_rfl) (by kernel_rfl) (by kernel_rfl) (fun _ _ _ h => h) (Or.inl ⟨by rfl, ?_⟩) (by first | assumption | exact trivial) ?_
    · intro W hSW; go_simp; try (with_reducible rfl)
    simp only [Act.put, List.getElem_toArray, List.getElem_cons_succ, List.getElem_cons_zero, List.setIfInBounds_toArray, List.set_cons_zero, List.set_cons_succ]
    refine wpAnyH_take (i := 8) (v := undef) rfl (by kernel_rfl) (by kernel_rfl) (by kernel_rfl) (fun _ _ _ h => h) (Or.inr ⟨by rfl, rfl⟩) (by first | assumption | exact trivial) ?restz14
    simp only [Act.put, List.getElem_toArray, List.getElem_cons_succ, List.getElem_cons_zero, List.setIfInBounds_toArray, List.set_cons_zero, List.set_cons_succ]
    refine wpAnyH_take (i := 9) (v := undef) rfl (by kernel_rfl) (by kernel_rfl) (by kernel_rfl) (fun _ _ _ h => h) (Or.inr ⟨by rfl, rfl⟩) (by first | assumption | exact trivial) ?restz15
    simp only [Act.put, List.getElem_toArray, List.getElem_cons_succ, List.getElem_cons_zero, List.setIfInBounds_toArray, List.set_cons_zero, List.set_cons_succ]
    refine wpAnyH_take (i := 10) (v := undef) rfl (by kernel_rfl) (by kernel_rfl) (by kernel_rfl) (fun _ _ _ h => h) (Or.inr ⟨by rfl, rfl⟩) (by first | assumption | exact trivial) ?restz16
    simp only [Act.put, List.getElem_toArray, List.getElem_cons_succ, List.getElem_cons_zero, List.setIfInBounds_toArray, List.set_cons_zero, List.set_cons_succ]
    refine wpAnyH_take (i := 11) (v := undef) rfl (by kernel_rfl) (by kernel_rfl) (by kernel_rfl) (fun _ _ _ h => h) (Or.inr ⟨by rfl, rfl⟩) (by first | assumption | exact trivial) ?restz17
    simp only [Act.put, List.getElem_toArray, List.getElem_cons_succ, List.getElem_cons_zero, List.setIfInBounds_toArray, List.set_cons_zero, List.set_cons_succ]
    refine wpAnyH_take (i := 12) (v := undef) rfl (by kernel_rfl) (by kernel_rfl) (by kernel_rfl) (fun _ _ _ h => h) (Or.inr ⟨by rfl, rfl⟩) (by first | assumption | exact trivial) ?restz18
    simp only [Act.put, List.getElem_toArray, List.getElem_cons_succ, List.getElem_cons_zero, List.setIfInBounds_toArray, List.set_cons_zero, List.set_cons_succ]
    refine wpAnyH_take (i := 13) (v := undef) rfl (by kernel_rfl) (by kernel_rfl) (by kernel_rfl) (fun _ _ _ h => h) (Or.inr ⟨by rfl, rfl⟩) (by first | assumption | exact trivial) ?restz19
    simp only [Act.put, List.getElem_toArray, List.getElem_cons_succ, List.getElem_cons_zero, List.setIfInBounds_toArray, List.set_cons_zero, List.set_cons_succ]
    refine wpAnyH_take (i := 14) (v := undef) rfl (by kernel_rfl) (by kernel_rfl) (by kernel_rfl) (fun _ _ _ h => h) (Or.inr ⟨by rfl, rfl⟩) (by first | assumption | exact trivial) ?restz20
    simp only [Act.put, List.getElem_toArray, List.getElem_cons_succ, List.getElem_cons_zero, List.setIfInBounds_toArray, List.set_cons_zero, List.set_cons_succ]
    refine wpAnyH_take (i := 15) (v := undef) rfl (by kernel_rfl) (by kernel_rfl) (by kernel_rfl) (fun _ _ _ h => h) (Or.inr ⟨by rfl, rfl⟩) (by first | assumption | exact trivial) ?restz21
    simp only [Act.put, List.getElem_toArray, List.getElem_cons_succ, List.getElem_cons_zero, List.setIfInBounds_toArray, List.set_cons_zero, List.set_cons_succ]
    refine wpAnyH_take (i := 16) (v := undef) rfl (by kernel_rfl) (by kernel_rfl) (by kernel_rfl) (fun _ _ _ h => h) (Or.inr ⟨by rfl, rfl⟩) (by first | assumption | exact trivial) ?restz22
    simp only [Act.put, List.getElem_toArray, List.getElem_cons_succ, List.getElem_cons_zero, List.setIfInBounds_toArray, List.set_cons_zero, List.set_cons_succ]
    refine wpAnyH_take (i := 17) (v := undef) rfl (by kernel_rfl) (by kernel_rfl) (by kernel_rfl) (fun _ _ _ h => h) (Or.inr ⟨by rfl, rfl⟩) (by first | assumption | exact trivial) ?restz23
    simp only [Act.put, List.getElem_toArray, List.getElem_cons_succ, List.getElem_cons_zero, List.setIfInBounds_toArray, List.set_cons_zero, List.set_cons_succ]
    refine wpAnyH_take (i := 18) (v := .bool false) rfl (by kernel_rfl) (by kernel_rfl) (by kernel_rfl) (fun _ _ _ h => h) (Or.inl ⟨by rfl, ?_⟩) (by first | assumption | exact trivial) ?_
    · intro W hSW; go_simp; try (with_reducible rfl)
    simp only [Act.put, List.getElem_toArray, List.getElem_cons_succ, List.getElem_cons_zero, List.setIfInBounds_toArray, List.set_cons_zero, List.set_cons_succ]
    refine wpAnyH_take (i := 19) (v := .bool false) rfl (by kernel_rfl) (by kernel_rfl) (by kernel_rfl) (fun _ _ _ h => h) (Or.inl ⟨by rfl, ?_⟩) (by first | assumption | exact trivial) ?_
    · intro W hSW; go_simp; try (with_reducible rfl)
    simp only [Act.put, List.getElem_toArray, List.getElem_cons_succ, List.getElem_cons_zero, List.setIfInBounds_toArray, List.set_cons_zero, List.set_cons_succ]
    refine wpAnyH_done (by kernel_rfl) ?_ _
    go_wp2
    go_ret
    exact ⟨rfl, HB1.out.trans (S2.mono HB1.out.size)⟩
end Go.Proofs.Ythajocfgpodimaa.Se
/- The reference's New, less, There, Has. -/
namespace Go.Proofs.Ythajocfgpodimaa.Se
open Go.RowKit
open Go.Proofs.Ythajocfgpodimaa.Me Go.Proofs.Ythajocfgpodimaa.Sb
set_option linter.unusedVariables false
set_option linter.unusedSimpArgs false

def kyC (p : Ky) : Array Value := #[.int .i64 p.o, .int .i64 p.e, .int .i64 p.c]
def ltK (a b : Ky) : Bool := if a.o = b.o then (if a.e = b.e then decide (a.c < b.c) else decide (a.e < b.e)) else decide (a.o < b.o)
theorem two_keys (w : World) (x y : Array Value) : Below w.heap.size w ((w.alloc (.cells x 68 (0, 0))).alloc (.cells y 68 (0, 0))) := Me.below_alloc (Me.below_alloc (Below.refl _ _))
set_option maxRecDepth 100000 in
set_option maxHeartbeats 4000000 in
theorem less_any (a b : Ky) (w : World) : Calls Try.prog 42 #[.agg (kyC a), .agg (kyC b)] w fun e w' => e = .returned (.bool (ltK a b)) ∧ Hid (Below w.heap.size w w') := by
  have HT := Lib.hid (two_keys w (kyC a) (kyC b))
  unfold ltK
  obtain ⟨o, e, c⟩ := a
  obtain ⟨p, q, r⟩ := b
  simp only [kyC] at HT ⊢
  by_cases h1 : o = p
  · subst h1
    rw [if_pos rfl]
    by_cases h2 : e = q
    · subst h2
      rw [if_pos rfl]
      go_enter Try.func42, Try.ntmps42
      go_wp2
      go_ret
      exact ⟨rfl, HT.out⟩
    · have g2 : (e == q) = false := by simpa using h2
      have g3 : (e != q) = true := by simp only [bne, g2, Bool.not_false]
      rw [if_neg h2]
      clear h2
      go_enter Try.func42, Try.ntmps42
      go_wp2
      go_ret
      exact ⟨rfl, HT.out⟩
  · have g2 : (o == p) = false := by simpa using h1
    have g3 : (o != p) = true := by simp only [bne, g2, Bool.not_false]
    rw [if_neg h1]
    clear h1
    go_enter Try.func42, Try.ntmps42
    go_wp2
    go_ret
    exact ⟨rfl, HT.out⟩
set_option maxRecDepth 100000 in
set_option maxHeartbeats 8000000 in
theorem There_any (Q : Nat → Prop) (room : Int) (v : Value) (L : Ks) (k : Ky) (w : World) (hv : Hid (Kv Q w v L)) (hL : L.length ≤ 1000000) : Calls Try.prog 39 #[.agg #[.int .i64 room, v], .agg (kyC k)] w fun e w' => e = .returned (.bool (decide (k ∈ L))) ∧ Hid (Below w.heap.size w w') := by
  obtain ⟨A, cp, rfl, h1, h2⟩ := hv.out.form
  obtain ⟨W1, hW1⟩ : ∃ W, w.alloc (.cells #[.int .i64 room, .slice A L.length cp] 29) = W := ⟨_, rfl⟩
  obtain ⟨W2, hW2⟩ : ∃ W, W1.alloc (.cells (kyC k) 68) = W := ⟨_, rfl⟩
  have b1 : Below w.heap.size w W1 := by rw [← hW1]; exact Me.below_alloc (Below.refl _ _)
  have z1 : W1.heap.size = w.heap.size + 1 := by rw [← hW1]; simp
  have b2 : Below w.heap.size w W2 := by rw [← hW2]; exact Me.below_alloc b1
  have z2 : W2.heap.size = w.heap.size + 1 + 1 := by rw [← hW2, World.size_alloc, z1]
  have r1 : W2.heap[w.heap.size]? = some (.cells #[.int .i64 room, .slice A L.length cp] 29 (0, 0)) := by
    rw [← hW2, Below.heap_alloc _ _ _ (by omega), ← hW1]
    exact heap_alloc_new w _
  have r2 : W2.heap[w.heap.size + 1]? = some (.cells (kyC k) 68 (0, 0)) := by
    rw [← hW2, ← z1]
    exact heap_alloc_new W1 _
  have HW : Hid ((w.alloc (.cells #[.int .i64 room, .slice A L.length cp] 29)).alloc (.cells (kyC k) 68) = W2) := by show _ = _; rw [hW1, hW2]
  have HC : Hid (∀ W, Below W2.heap.size W2 W → W.cell? ⟨w.heap.size, 1, none⟩ = some (.slice A L.length cp) ∧ W.cell? ⟨w.heap.size + 1, 0, none⟩ = some (.int .i64 k.o) ∧ W.cell? ⟨w.heap.size + 1, 1, none⟩ = some (.int .i64 k.e) ∧ W.cell? ⟨w.heap.size + 1, 2, none⟩ = some (.int .i64 k.c)) := fun W hW => by
    have h := (hW.block w.heap.size (by omega)).trans r1
    have h' := (hW.block (w.heap.size + 1) (by omega)).trans r2
    exact ⟨cell_of_row W _ 1 _ _ (0, 0) h, cell_of_row W _ 0 _ _ (0, 0) h', cell_of_row W _ 1 _ _ (0, 0) h', cell_of_row W _ 2 _ _ (0, 0) h'⟩
  have HA : Hid (∀ j, j < L.length → ∃ g, A = some ⟨g, 0, none⟩ ∧ ∀ W, Below W2.heap.size W2 W → W.cell? ⟨g, j * 3, none⟩ = some (.int .i64 (kyAt L j).o) ∧ W.cell? ⟨g, j * 3 + 1, none⟩ = some (.int .i64 (kyAt L j).e) ∧ W.cell? ⟨g, j * 3 + 2, none⟩ = some (.int .i64 (kyAt L j).c)) := fun j hj => by
    obtain ⟨g, e1, _, e3⟩ := hv.out.at_ hj
    exact ⟨g, e1, fun W hW => e3 W (b2.trans (hW.mono b2.size))⟩
  have HB2 := Lib.hid b2
  have HMem : Hid (∀ j, j ≤ L.length → (∀ i, i < j → kyAt L i ≠ k) → j = L.length → k ∉ L) := fun j _ h e hm => by
    obtain ⟨i, hi, hk⟩ := List.getElem_of_mem hm
    exact h i (by omega) (by rw [kyAt_get hi]; exact hk)
  have HIn : Hid (∀ j, j < L.length → kyAt L j = k → k ∈ L) := fun j hj h => by
    rw [← h, kyAt_get hj]; exact List.getElem_mem hj
  clear hW1 hW2 b1 z1 b2 z2 r1 r2 hv
  obtain ⟨o, e, c⟩ := k
  simp only [kyC] at HW HC ⊢
  obtain ⟨B, hB⟩ : ∃ B, decide ((⟨o, e, c⟩ : Ky) ∈ L) = B := ⟨_, rfl⟩
  have HBd := Lib.hid hB
  rw [hB]
  clear hB
  have HF : Hid (∀ j, j < L.length → kyAt L j = ⟨o, e, c⟩ → B = true) := fun j hj h => by rw [← HBd.out]; exact decide_eq_true (HIn.out j hj h)
  have HFn : Hid ((∀ i, i < L.length → kyAt L i ≠ ⟨o, e, c⟩) → B = false) := fun h => by rw [← HBd.out]; exact decide_eq_false (HMem.out L.length (Nat.le_refl _) h rfl)
  obtain ⟨N, hN⟩ : ∃ N, L.length = N := ⟨_, rfl⟩
  rw [hN] at HW HC HA HF HFn h1 hL ⊢
  clear hN HMem HIn HBd
  go_enter Try.func39, Try.ntmps39
  go_wp2
  rw [HW.out]
  go_loopw [5] (fun i wr => ∃ j : Nat, i = .int .i64 (j : Int) ∧ j ≤ N ∧ Hid (∀ i, i < j → kyAt L i ≠ ⟨o, e, c⟩) ∧ Hid (Below W2.heap.size W2 wr)) (fun i _ => N - (intOf i).toNat)
  case atStart => exact ⟨0, rfl, Nat.zero_le _, fun i hi => absurd hi (by omega), Below.refl _ _⟩
  case round =>
    obtain ⟨j, rfl, hj, HNo, HBr⟩ := hrel
    obtain ⟨y0, y1, y2, y3⟩ := HC.out wr HBr.out
    by_cases hlt : j < N
    · obtain ⟨g, rfl, hgc⟩ := HA.out j hlt
      obtain ⟨z0, z1, z2⟩ := hgc wr HBr.out
      have g1 : (j : Int) < (N : Int) := by omega
      have HFj := Lib.hid (HF.out j hlt)
      obtain ⟨x, hx⟩ : ∃ x, kyAt L j = x := ⟨_, rfl⟩
      rw [hx] at z0 z1 z2 HFj
      have HX := Lib.hid hx
      clear hgc hx
      by_cases hk : x = ⟨o, e, c⟩
      · have hBt := HFj.out hk
        subst hBt hk
        simp only at z0 z1 z2
        go_wp2
        go_quiet (fail)
        go_wp2
        go_ret
        exact ⟨rfl, HB2.out.trans ((Me.below_drewN HBr.out _).mono HB2.out.size)⟩
      · obtain ⟨p, q, r⟩ := x
        have HK : Hid (¬ (p = o ∧ q = e ∧ r = c)) := fun h => hk (by obtain ⟨h1, h2, h3⟩ := h; rw [h1, h2, h3])
        simp only at z0 z1 z2
        have HN2 : Hid (∀ i, i < j + 1 → kyAt L i ≠ ⟨o, e, c⟩) := fun i hi => by
          by_cases h : i = j
          · subst h; rw [HX.out]; exact hk
          · exact HNo.out i (by omega)
        clear hk
        have HCs : (p == o) = false ∨ (p = o ∧ (q == e) = false) ∨ (p = o ∧ q = e ∧ (r == c) = false) := by
          by_cases h1 : p = o
          · by_cases h2 : q = e
            · right; right
              exact ⟨h1, h2, by simpa using fun h3 : r = c => HK.out ⟨h1, h2, h3⟩⟩
            · right; left
              exact ⟨h1, by simpa using h2⟩
          · left; simpa using h1
        rcases HCs with g2 | ⟨rfl, g2⟩ | ⟨rfl, rfl, g2⟩
        all_goals
          go_wp2
          go_quiet (fail)
          go_wp2
          go_roundw
          case rel => exact ⟨j + 1, by go_num, by omega, HN2.out, Me.below_drewN HBr.out _⟩
          case measure => simp [intOf]; omega
    · have hBf := HFn.out fun i hi => HNo.out i (by omega)
      subst hBf
      have g1 : ¬ (j : Int) < (N : Int) := by omega
      go_wp2
      go_ret
      exact ⟨rfl, HB2.out.trans (HBr.out.mono HB2.out.size)⟩
end Go.Proofs.Ythajocfgpodimaa.Se
/- The reference's New and Has; the set's Gaps. -/
namespace Go.Proofs.Ythajocfgpodimaa.Se
open Go.RowKit
open Go.Proofs.Ythajocfgpodimaa.Me Go.Proofs.Ythajocfgpodimaa.Sb
set_option linter.unusedVariables false
set_option linter.unusedSimpArgs false

set_option maxRecDepth 100000 in
set_option maxHeartbeats 4000000 in
theorem Gaps_any (t : Bool) (D b n : Nat) (s : St) (w : World) (hS : Hid (Set w t D b n s)) : Calls Try.prog 21 #[.pointer (some ⟨D, 0, none⟩)] w fun e w' => e = .returned (.int .i64 s.gaps) ∧ w = w' := by
  obtain ⟨y0, y1, y2⟩ := set_cells hS.out.box
  obtain ⟨ro, ga, ke⟩ := s
  simp only at y0 y1 y2 ⊢
  clear hS
  go_enter Try.func21, Try.ntmps21
  go_wp2
  go_ret
  exact ⟨rfl, rfl⟩
set_option maxRecDepth 100000 in
set_option maxHeartbeats 4000000 in
theorem New_no (g : Int) (h : g < 0 ∨ 256 < g) (w : World) : Calls Try.prog 9 #[.int .i64 g] w fun e w' => e = .returned (.tuple #[.pointer none, .int .i64 1]) ∧ w = w' := by
  by_cases a0 : g < 0
  · clear h
    go_enter Try.func9, Try.ntmps9
    go_wp2
    go_ret2
    exact ⟨rfl, rfl⟩
  · have a1 : 256 < g := by omega
    clear h
    go_enter Try.func9, Try.ntmps9
    go_wp2
    go_ret2
    exact ⟨rfl, rfl⟩
def rsC (room : Int) (v : Value) : Array Value := #[.int .i64 room, v]
set_option maxRecDepth 100000 in
set_option maxHeartbeats 4000000 in
theorem RNew_ok (g : Int) (h0 : 0 ≤ g) (h1 : g ≤ 256) (w : World) : Calls Try.prog 10 #[.int .i64 g] w fun e w' => e = .returned (.tuple #[.agg #[.int .i64 g, .slice none 0 0], .int .i64 0]) ∧ Hid (Below w.heap.size w w') := by
  have a0 : ¬ g < 0 := by omega
  have a1 : ¬ (256 < g) := by omega
  have HR := Lib.hid (heap_alloc_new w (.cells #[.int .i64 g, .slice none 0 0] 29))
  have HB : Hid (Below w.heap.size w (w.alloc (.cells #[.int .i64 g, .slice none 0 0] 29))) := Me.below_alloc (Below.refl _ _)
  clear h0 h1
  go_enter Try.func10, Try.ntmps10
  go_wp2
  exact ret_box2 (g := w.heap.size) rfl (by rfl) HR.out rfl Try.underlying29 (by kernel_rfl) rfl ⟨rfl, HB.out⟩
set_option maxRecDepth 100000 in
set_option maxHeartbeats 4000000 in
theorem RNew_no (g : Int) (h : g < 0 ∨ 256 < g) (w : World) : Calls Try.prog 10 #[.int .i64 g] w fun e w' => e = .returned (.tuple #[.agg #[.int .i64 0, .slice none 0 0], .int .i64 1]) ∧ Hid (Below w.heap.size w w') := by
  have HR := Lib.hid (heap_alloc_new w (.cells #[.int .i64 0, .slice none 0 0] 29))
  have HB : Hid (Below w.heap.size w (w.alloc (.cells #[.int .i64 0, .slice none 0 0] 29))) := Me.below_alloc (Below.refl _ _)
  by_cases a0 : g < 0
  · clear h
    go_enter Try.func10, Try.ntmps10
    go_wp2
    exact ret_box2 (g := w.heap.size) rfl (by rfl) HR.out rfl Try.underlying29 (by kernel_rfl) rfl ⟨rfl, HB.out⟩
  · have a1 : 256 < g := by omega
    clear h
    go_enter Try.func10, Try.ntmps10
    go_wp2
    exact ret_box2 (g := w.heap.size) rfl (by rfl) HR.out rfl Try.underlying29 (by kernel_rfl) rfl ⟨rfl, HB.out⟩
/-- Is an id there? -/
def rhas (L : Ks) (i : Mg.Id4) : Bool := decide (Mg.chkN i = 0) && decide ((⟨i.o, i.e, i.c⟩ : Ky) ∈ L)
set_option maxRecDepth 100000 in
set_option maxHeartbeats 8000000 in
theorem RHas_any (Q : Nat → Prop) (room : Int) (v : Value) (L : Ks) (i : Mg.Id4) (w : World) (hv : Hid (Kv Q w v L)) (hL : L.length ≤ 1000000) : Calls Try.prog 24 #[.agg #[.int .i64 room, v], .agg (Mg.idC i)] w fun e w' => e = .returned (.bool (rhas L i)) ∧ Hid (Below w.heap.size w w') := by
  have HK := Lib.hid (fun W => Mg.RCheck_any i W)
  obtain ⟨A, cp, rfl, h1, h2⟩ := hv.out.form
  obtain ⟨W1, hW1⟩ : ∃ W, w.alloc (.cells #[.int .i64 room, .slice A L.length cp] 29) = W := ⟨_, rfl⟩
  obtain ⟨W2, hW2⟩ : ∃ W, W1.alloc (.cells (Mg.idC i) 39) = W := ⟨_, rfl⟩
  have b1 : Below w.heap.size w W1 := by rw [← hW1]; exact Me.below_alloc (Below.refl _ _)
  have z1 : W1.heap.size = w.heap.size + 1 := by rw [← hW1]; simp
  have b2 : Below w.heap.size w W2 := by rw [← hW2]; exact Me.below_alloc b1
  have z2 : W2.heap.size = w.heap.size + 1 + 1 := by rw [← hW2, World.size_alloc, z1]
  have r1 : W2.heap[w.heap.size]? = some (.cells #[.int .i64 room, .slice A L.length cp] 29 (0, 0)) := by
    rw [← hW2, Below.heap_alloc _ _ _ (by omega), ← hW1]
    exact heap_alloc_new w _
  have r2 : W2.heap[w.heap.size + 1]? = some (.cells (Mg.idC i) 39 (0, 0)) := by
    rw [← hW2, ← z1]
    exact heap_alloc_new W1 _
  have HW : Hid ((w.alloc (.cells #[.int .i64 room, .slice A L.length cp] 29)).alloc (.cells (Mg.idC i) 39) = W2) := by show _ = _; rw [hW1, hW2]
  have HC : Hid (∀ W, Below W2.heap.size W2 W → W.cell? ⟨w.heap.size, 0, none⟩ = some (.int .i64 room) ∧ W.cell? ⟨w.heap.size, 1, none⟩ = some (.slice A L.length cp) ∧ W.heap[w.heap.size + 1]? = some (.cells (Mg.idC i) 39 (0, 0))) := fun W hW => by
    have h := (hW.block w.heap.size (by omega)).trans r1
    exact ⟨cell_of_row W _ 0 _ _ (0, 0) h, cell_of_row W _ 1 _ _ (0, 0) h, (hW.block (w.heap.size + 1) (by omega)).trans r2⟩
  have HTh : Hid (∀ W, Below w.heap.size w W → Calls Try.prog 39 #[.agg #[.int .i64 room, .slice A L.length cp], .agg (kyC ⟨i.o, i.e, i.c⟩)] W fun e w' => e = .returned (.bool (decide ((⟨i.o, i.e, i.c⟩ : Ky) ∈ L))) ∧ Hid (Below W.heap.size W w')) := fun W hW => There_any Q room _ L _ W (hv.out.below hW) hL
  have HB2 := Lib.hid b2
  unfold rhas
  obtain ⟨B, hB⟩ : ∃ B, decide ((⟨i.o, i.e, i.c⟩ : Ky) ∈ L) = B := ⟨_, rfl⟩
  simp only [hB] at HTh ⊢
  clear hW1 hW2 b1 z1 b2 z2 r1 r2 hv hB
  by_cases h0 : Mg.chkN i = 0
  · rw [h0] at HK
    have hd : (decide (Mg.chkN i = 0) && B) = B := by rw [h0]; simp
    rw [hd]
    clear hd h0
    obtain ⟨o, d, ee, c⟩ := i
    simp only [Mg.idC, kyC, show ((0 : Nat) : Int) = 0 from rfl] at HK HW HC HTh ⊢
    go_enter Try.func24, Try.ntmps24
    go_wp2_with (first
      | (go_at_call 28; rw [HW.out]; refine (HK.out _).mono ?_; rintro e w3 ⟨rfl, b3⟩; obtain ⟨y0, y1, y2⟩ := HC.out w3 b3.out; obtain ⟨x0, x1, x2, x3⟩ := id_cells y2; have HB3 := Lib.hid (HB2.out.trans (b3.out.mono HB2.out.size)); clear y2)
      | (go_at_call 39; refine (HTh.out _ HB3.out).mono ?_; rintro e w4 ⟨rfl, b4⟩))
    go_ret
    exact ⟨rfl, go_on HB3.out b4.out⟩
  · have hne := Mg.nz h0
    have hd : (decide (Mg.chkN i = 0) && B) = false := by simp [h0]
    rw [hd]
    obtain ⟨k, hk⟩ : ∃ k, Mg.chkN i = k := ⟨_, rfl⟩
    rw [hk] at HK hne
    clear hd h0 hk HTh
    obtain ⟨o, d, ee, c⟩ := i
    simp only [Mg.idC] at HK HW HC ⊢
    go_enter Try.func24, Try.ntmps24
    go_wp2_with (go_at_call 28; rw [HW.out]; refine (HK.out _).mono ?_; rintro e w3 ⟨rfl, b3⟩; have HB3 := Lib.hid (HB2.out.trans (b3.out.mono HB2.out.size)))
    go_ret
    exact ⟨rfl, HB3.out⟩
end Go.Proofs.Ythajocfgpodimaa.Se
