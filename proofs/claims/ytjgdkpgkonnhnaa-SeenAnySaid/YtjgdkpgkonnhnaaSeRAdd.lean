/- The reference's Add. -/
import Derived.Test.YtjgdkpgkonnhnaaSeRMay
import Derived.Test.YtjgdkpgkonnhnaaSeRPut
namespace Go.Proofs.Ytjgdkpgkonnhnaa.Se
open Go.RowKit
open Go.Proofs.Ytjgdkpgkonnhnaa.Me Go.Proofs.Ytjgdkpgkonnhnaa.Sb
set_option linter.unusedVariables false
set_option linter.unusedSimpArgs false

/-- The keys behind the reference's Add. -/
def raddL (room : Int) (L : Ks) (i : Mg.Id4) : Ks := if rmayN room L i = 0 then putL L ⟨i.o, i.e, i.c⟩ else L
/-- What holds over a call of Add: the world below, the copies of what was given. -/
structure Sp (w : World) (room : Int) (v : Value) (i : Mg.Id4) (W : World) : Prop where
  below : Below w.heap.size w W
  set : W.heap[w.heap.size]? = some (.cells #[.int .i64 room, v] 29 (0, 0))
  id : W.heap[w.heap.size + 1]? = some (.cells (Mg.idC i) 39 (0, 0))
theorem Sp.go {w : World} {room : Int} {v : Value} {i : Mg.Id4} {W W' : World} (h : Sp w room v i W) (hb : Below W.heap.size W W') : Sp w room v i W' :=
  ⟨go_on h.below hb, (hb.block _ (Array.getElem?_eq_some_iff.1 h.set).1).trans h.set, (hb.block _ (Array.getElem?_eq_some_iff.1 h.id).1).trans h.id⟩
theorem Sp.drew {w : World} {room : Int} {v : Value} {i : Mg.Id4} {W : World} (h : Sp w room v i W) : Sp w room v i W.drew := ⟨h.below.drew, h.set, h.id⟩
theorem Sp.row {w : World} {room : Int} {v : Value} {i : Mg.Id4} {W : World} (h : Sp w room v i W) {D : Nat} (hD : w.heap.size + 1 < D) (cs : Array Value) : Sp w room v i (W.setRow D cs) :=
  ⟨Sb.below_setRow _ h.below (by omega), (setRow_other _ _ _ _ (by omega)).trans h.set, (setRow_other _ _ _ _ (by omega)).trans h.id⟩
theorem Sp.cells {w : World} {room : Int} {v : Value} {i : Mg.Id4} {W : World} (h : Sp w room v i W) : (W.cell? ⟨w.heap.size, 0, none⟩ = some (.int .i64 room) ∧ W.cell? ⟨w.heap.size, 1, none⟩ = some v) ∧ W.cell? ⟨w.heap.size + 1, 0, none⟩ = some (.int .i64 i.o) ∧ W.cell? ⟨w.heap.size + 1, 1, none⟩ = some (.int .i64 i.d) ∧ W.cell? ⟨w.heap.size + 1, 2, none⟩ = some (.int .i64 i.e) ∧ W.cell? ⟨w.heap.size + 1, 3, none⟩ = some (.int .i64 i.c) :=
  ⟨⟨cell_of_row W _ 0 _ _ (0, 0) h.set, cell_of_row W _ 1 _ _ (0, 0) h.set⟩, id_cells h.id⟩
theorem Sp.start (w : World) (room : Int) (v : Value) (i : Mg.Id4) : ∃ W3, ((w.alloc (.cells #[.int .i64 room, v] 29)).alloc (.cells (Mg.idC i) 39)).alloc (.cells #[.int .i64 0, .slice none 0 0] 29) = W3 ∧ Sp w room v i W3 ∧ W3.heap[w.heap.size + 1 + 1]? = some (.cells #[.int .i64 0, .slice none 0 0] 29 (0, 0)) := by
  obtain ⟨W2, hW2⟩ : ∃ W, (w.alloc (.cells #[.int .i64 room, v] 29)).alloc (.cells (Mg.idC i) 39) = W := ⟨_, rfl⟩
  have b2 : Below w.heap.size w W2 := by rw [← hW2]; exact Me.below_alloc (Me.below_alloc (Below.refl _ _))
  have z2 : W2.heap.size = w.heap.size + 1 + 1 := by rw [← hW2]; simp
  have r1 : W2.heap[w.heap.size]? = some (.cells #[.int .i64 room, v] 29 (0, 0)) := by
    rw [← hW2, Below.heap_alloc _ _ _ (by simp)]; exact heap_alloc_new w _
  have r2 : W2.heap[w.heap.size + 1]? = some (.cells (Mg.idC i) 39 (0, 0)) := by
    have h := heap_alloc_new (w.alloc (.cells #[.int .i64 room, v] 29)) (.cells (Mg.idC i) 39)
    rw [hW2] at h
    simpa using h
  refine ⟨_, rfl, ?_, ?_⟩
  · rw [hW2]
    exact Sp.go ⟨b2, r1, r2⟩ (Me.below_alloc (Below.refl _ _))
  · rw [hW2, ← z2]
    exact heap_alloc_new W2 _
theorem set_one (room : Int) (v : Value) (hv : v.oneCell' = true) : (#[.int .i64 room, v] : Array Value).all (·.oneCell') = true := by
  simp [Value.oneCell'] at hv ⊢
  exact hv
theorem Kv.one {Q : Nat → Prop} {w : World} {v : Value} {L : Ks} (h : Kv Q w v L) : v.oneCell' = true := by
  obtain ⟨A, c, rfl, _⟩ := h.form
  rfl
set_option maxRecDepth 100000 in
set_option maxHeartbeats 8000000 in
theorem RAdd_no (Q : Nat → Prop) (room : Int) (v : Value) (L : Ks) (i : Mg.Id4) (w : World) (hv : Hid (Kv Q w v L)) (hL : L.length ≤ 900) (hm : rmayN room L i ≠ 0) : Calls Try.prog 16 #[.agg #[.int .i64 room, v], .agg (Mg.idC i)] w fun e w' => e = .returned (.tuple #[.agg #[.int .i64 room, v], .int .i64 (rmayN room L i : Nat)]) ∧ Hid (Below w.heap.size w w') := by
  have HM : Hid (∀ W, Sp w room v i W → Calls Try.prog 15 #[.agg #[.int .i64 room, v], .agg (Mg.idC i)] W fun e w' => e = .returned (.int .i64 (rmayN room L i : Nat)) ∧ Hid (Below W.heap.size W w')) := fun W hW => RMay_any Q room v L i W (hv.out.below hW.below) hL
  have Hone : Hid ((#[Value.int .i64 room, v] : Array Value).all (·.oneCell') = true) := set_one room v hv.out.one
  obtain ⟨W3, hW3, s3, r3⟩ := Sp.start w room v i
  have HW := Lib.hid hW3
  have HCl := Lib.hid (fun W (h : Sp w room v i W) => h.cells)
  clear hW3 hv
  obtain ⟨k, hk⟩ : ∃ k, rmayN room L i = k := ⟨_, rfl⟩
  rw [hk] at HM hm ⊢
  have hne : ((k : Int) != 0) = true := by simpa using hm
  clear hk
  obtain ⟨I4, hI⟩ : ∃ x, i = x := ⟨_, rfl⟩
  obtain ⟨o, d, ee, c⟩ := i
  simp only [Mg.idC] at HW HCl HM ⊢
  rw [hI] at HM HCl s3
  clear hI
  go_enter Try.func16, Try.ntmps16
  go_wp2_with (go_at_call 15; rw [HW.out]; refine (HM.out _ s3).mono ?_; rintro e w3 ⟨rfl, b3⟩; have s4 := s3.go b3.out; obtain ⟨⟨y0, y1⟩, i0, i1, i2, i3⟩ := HCl.out w3 s4; have r4 := (b3.out.block _ (Array.getElem?_eq_some_iff.1 r3).1).trans r3)
  have S0 := s4.drew
  refine wp_region_held_drew (S := fun W => Sp w room v I4 W) (by kernel_rfl) S0 (fun hHeld => ?_)
  refine wpAnyH_take (i := 0) (v := .agg #[.int .i64 room, v]) rfl (by kernel_rfl) (by kernel_rfl) (by kernel_rfl) (fun _ _ _ h => h) (Or.inl ⟨by rfl, ?_⟩) (by first | assumption | exact trivial) ?_
  · intro W hSW; obtain ⟨⟨y0, y1⟩, i0, i1, i2, i3⟩ := HCl.out W hSW; go_simp; try (with_reducible rfl)
  simp only [Act.put, List.getElem_toArray, List.getElem_cons_succ, List.getElem_cons_zero, List.setIfInBounds_toArray, List.set_cons_zero, List.set_cons_succ]
  refine wpAnyH_take (i := 1) (v := .agg #[.int .i64 room, v]) rfl (by kernel_rfl) (by kernel_rfl) (by kernel_rfl) (fun _ _ _ h => h) (Or.inl ⟨by rfl, ?_⟩) (by first | assumption | exact trivial) ?_
  · intro W hSW; obtain ⟨⟨y0, y1⟩, i0, i1, i2, i3⟩ := HCl.out W hSW; go_simp; try (with_reducible rfl)
  simp only [Act.put, List.getElem_toArray, List.getElem_cons_succ, List.getElem_cons_zero, List.setIfInBounds_toArray, List.set_cons_zero, List.set_cons_succ]
  refine wpAnyH_take (i := 2) (v := .agg #[.int .i64 o, .int .i64 d, .int .i64 ee, .int .i64 c]) rfl (by kernel_rfl) (by kernel_rfl) (by kernel_rfl) (fun _ _ _ h => h) (Or.inl ⟨by rfl, ?_⟩) (by first | assumption | exact trivial) ?_
  · intro W hSW; obtain ⟨⟨y0, y1⟩, i0, i1, i2, i3⟩ := HCl.out W hSW; go_simp; try (with_reducible rfl)
  simp only [Act.put, List.getElem_toArray, List.getElem_cons_succ, List.getElem_cons_zero, List.setIfInBounds_toArray, List.set_cons_zero, List.set_cons_succ]
  refine wpAnyH_ready (rs := [3]) (by kernel_rfl) (by simp) ?_
  refine AllReadyH.cons rfl (fun K hK => ?_) AllReadyH.nil
  go_simp
  go_wp2_with (go_at_call 15; refine (HM.out _ S0).mono ?_; rintro e w5 ⟨rfl, b5⟩)
  have S5 := S0.go b5.out
  have r5 : w5.heap[w.heap.size + 1 + 1]? = some (.cells #[.int .i64 0, .slice none 0 0] 29 (0, 0)) := (b5.out.block _ (Array.getElem?_eq_some_iff.1 r4).1).trans r4
  refine hK.out _ _ (S5) (fun hHeld => ?_)
  clear hK K
  refine wpAnyH_ready (rs := [4]) (by kernel_rfl) (by simp) ?_
  refine AllReadyH.cons rfl (fun K hK => ?_) AllReadyH.nil
  rw [if_pos (by kernel_rfl)]
  refine wp_store_row 29 (.tmp 4) (.tmp 10) rfl (w.heap.size + 1 + 1) #[.int .i64 room, v] rfl (by rfl) 29 _ r5 (by kernel_rfl) rfl Hone.out ?_
  simp only [Act.put, List.getElem_toArray, List.getElem_cons_succ, List.getElem_cons_zero, List.setIfInBounds_toArray, List.set_cons_zero, List.set_cons_succ]
  have S6 := S5.row (D := w.heap.size + 1 + 1) (Nat.lt_succ_self _) #[.int .i64 room, v]
  have r6 := setRow_heap _ _ _ #[.int .i64 room, v] _ _ r5
  obtain ⟨V6, hV6⟩ : ∃ V, w5.setRow (w.heap.size + 1 + 1) #[.int .i64 room, v] = V := ⟨_, rfl⟩
  rw [hV6] at S6 r6 ⊢
  clear hV6
  refine hK.out _ _ (S6) (fun hHeld => ?_)
  clear hK K
  refine wpAnyH_take (i := 5) (v := .int .i64 (k : Int)) rfl (by kernel_rfl) (by kernel_rfl) (by kernel_rfl) (fun _ _ _ h => h) (Or.inl ⟨by rfl, ?_⟩) (by first | assumption | exact trivial) ?_
  · intro W hSW; go_simp; try (with_reducible rfl)
  simp only [Act.put, List.getElem_toArray, List.getElem_cons_succ, List.getElem_cons_zero, List.setIfInBounds_toArray, List.set_cons_zero, List.set_cons_succ]
  refine wpAnyH_done (by kernel_rfl) ?_ _
  go_wp2
  exact ret_box2 (g := w.heap.size + 1 + 1) rfl (by rfl) r6 rfl Try.underlying29 (by kernel_rfl) rfl ⟨rfl, S6.below⟩
set_option maxRecDepth 100000 in
set_option maxHeartbeats 8000000 in
theorem RAdd_ok (Q : Nat → Prop) (room : Int) (v : Value) (L : Ks) (i : Mg.Id4) (w : World) (hv : Hid (Kv Q w v L)) (hL : L.length ≤ 900) (hm : rmayN room L i = 0) : Calls Try.prog 16 #[.agg #[.int .i64 room, v], .agg (Mg.idC i)] w fun e w' => ∃ v', e = .returned (.tuple #[.agg #[.int .i64 room, v'], .int .i64 0]) ∧ Hid (Kv (fun k => w.heap.size ≤ k) w' v' (putL L ⟨i.o, i.e, i.c⟩)) ∧ Hid (Below w.heap.size w w') := by
  have HM : Hid (∀ W, Sp w room v i W → Calls Try.prog 15 #[.agg #[.int .i64 room, v], .agg (Mg.idC i)] W fun e w' => e = .returned (.int .i64 (0 : Int)) ∧ Hid (Below W.heap.size W w')) := fun W hW => by
    have h := RMay_any Q room v L i W (hv.out.below hW.below) hL
    rw [hm] at h
    exact h
  have HP : Hid (∀ W, Sp w room v i W → Calls Try.prog 31 #[v, .agg #[.int .i64 i.o, .int .i64 i.e, .int .i64 i.c]] W fun e w' => ∃ v', e = .returned v' ∧ Hid (Ko w' W.heap.size v' (putL L ⟨i.o, i.e, i.c⟩)) ∧ Hid (Below W.heap.size W w')) := fun W hW => put_any Q v L ⟨i.o, i.e, i.c⟩ W (hv.out.below hW.below) hL
  obtain ⟨W3, hW3, s3, r3⟩ := Sp.start w room v i
  have HW := Lib.hid hW3
  have HCl := Lib.hid (fun W (h : Sp w room v i W) => h.cells)
  clear hW3 hv hm
  obtain ⟨L2, hL2⟩ : ∃ x, putL L ⟨i.o, i.e, i.c⟩ = x := ⟨_, rfl⟩
  rw [hL2] at HP ⊢
  clear hL2
  obtain ⟨I4, hI⟩ : ∃ x, i = x := ⟨_, rfl⟩
  obtain ⟨o, d, ee, c⟩ := i
  simp only [Mg.idC] at HW HCl HM HP ⊢
  rw [hI] at HM HCl HP s3
  clear hI
  go_enter Try.func16, Try.ntmps16
  go_wp2_with (go_at_call 15; rw [HW.out]; refine (HM.out _ s3).mono ?_; rintro e w3 ⟨rfl, b3⟩; have s4 := s3.go b3.out; obtain ⟨⟨y0, y1⟩, i0, i1, i2, i3⟩ := HCl.out w3 s4; have r4 := (b3.out.block _ (Array.getElem?_eq_some_iff.1 r3).1).trans r3)
  have S0 := s4.drew
  refine wp_region_held_drew (S := fun W => Sp w room v I4 W) (by kernel_rfl) S0 (fun hHeld => ?_)
  refine wpAnyH_take (i := 0) (v := .pointer (some ⟨w.heap.size, 0, none⟩)) rfl (by kernel_rfl) (by kernel_rfl) (by kernel_rfl) (fun _ _ _ h => h) (Or.inl ⟨by rfl, ?_⟩) (by first | assumption | exact trivial) ?_
  · intro W hSW; go_simp; try (with_reducible rfl)
  simp only [Act.put, List.getElem_toArray, List.getElem_cons_succ, List.getElem_cons_zero, List.setIfInBounds_toArray, List.set_cons_zero, List.set_cons_succ]
  refine wpAnyH_take (i := 1) (v := .int .i64 room) rfl (by kernel_rfl) (by kernel_rfl) (by kernel_rfl) (fun _ _ _ h => h) (Or.inl ⟨by rfl, ?_⟩) (by first | assumption | exact trivial) ?_
  · intro W hSW; obtain ⟨⟨y0, y1⟩, i0, i1, i2, i3⟩ := HCl.out W hSW; go_simp; try (with_reducible rfl)
  simp only [Act.put, List.getElem_toArray, List.getElem_cons_succ, List.getElem_cons_zero, List.setIfInBounds_toArray, List.set_cons_zero, List.set_cons_succ]
  refine wpAnyH_take (i := 2) (v := .pointer (some ⟨w.heap.size, 1, none⟩)) rfl (by kernel_rfl) (by kernel_rfl) (by kernel_rfl) (fun _ _ _ h => h) (Or.inl ⟨by rfl, ?_⟩) (by first | assumption | exact trivial) ?_
  · intro W hSW; go_simp; try (with_reducible rfl)
  simp only [Act.put, List.getElem_toArray, List.getElem_cons_succ, List.getElem_cons_zero, List.setIfInBounds_toArray, List.set_cons_zero, List.set_cons_succ]
  refine wpAnyH_take (i := 3) (v := v) rfl (by kernel_rfl) (by kernel_rfl) (by kernel_rfl) (fun _ _ _ h => h) (Or.inl ⟨by rfl, ?_⟩) (by first | assumption | exact trivial) ?_
  · intro W hSW; obtain ⟨⟨y0, y1⟩, i0, i1, i2, i3⟩ := HCl.out W hSW; go_simp; try (with_reducible rfl)
  simp only [Act.put, List.getElem_toArray, List.getElem_cons_succ, List.getElem_cons_zero, List.setIfInBounds_toArray, List.set_cons_zero, List.set_cons_succ]
  refine wpAnyH_take (i := 4) (v := .pointer (some ⟨w.heap.size + 1, 0, none⟩)) rfl (by kernel_rfl) (by kernel_rfl) (by kernel_rfl) (fun _ _ _ h => h) (Or.inl ⟨by rfl, ?_⟩) (by first | assumption | exact trivial) ?_
  · intro W hSW; go_simp; try (with_reducible rfl)
  simp only [Act.put, List.getElem_toArray, List.getElem_cons_succ, List.getElem_cons_zero, List.setIfInBounds_toArray, List.set_cons_zero, List.set_cons_succ]
  refine wpAnyH_take (i := 5) (v := .int .i64 o) rfl (by kernel_rfl) (by kernel_rfl) (by kernel_rfl) (fun _ _ _ h => h) (Or.inl ⟨by rfl, ?_⟩) (by first | assumption | exact trivial) ?_
  · intro W hSW; obtain ⟨⟨y0, y1⟩, i0, i1, i2, i3⟩ := HCl.out W hSW; go_simp; try (with_reducible rfl)
  simp only [Act.put, List.getElem_toArray, List.getElem_cons_succ, List.getElem_cons_zero, List.setIfInBounds_toArray, List.set_cons_zero, List.set_cons_succ]
  refine wpAnyH_take (i := 6) (v := .pointer (some ⟨w.heap.size + 1, 2, none⟩)) rfl (by kernel_rfl) (by kernel_rfl) (by kernel_rfl) (fun _ _ _ h => h) (Or.inl ⟨by rfl, ?_⟩) (by first | assumption | exact trivial) ?_
  · intro W hSW; go_simp; try (with_reducible rfl)
  simp only [Act.put, List.getElem_toArray, List.getElem_cons_succ, List.getElem_cons_zero, List.setIfInBounds_toArray, List.set_cons_zero, List.set_cons_succ]
  refine wpAnyH_take (i := 7) (v := .int .i64 ee) rfl (by kernel_rfl) (by kernel_rfl) (by kernel_rfl) (fun _ _ _ h => h) (Or.inl ⟨by rfl, ?_⟩) (by first | assumption | exact trivial) ?_
  · intro W hSW; obtain ⟨⟨y0, y1⟩, i0, i1, i2, i3⟩ := HCl.out W hSW; go_simp; try (with_reducible rfl)
  simp only [Act.put, List.getElem_toArray, List.getElem_cons_succ, List.getElem_cons_zero, List.setIfInBounds_toArray, List.set_cons_zero, List.set_cons_succ]
  refine wpAnyH_take (i := 8) (v := .pointer (some ⟨w.heap.size + 1, 3, none⟩)) rfl (by kernel_rfl) (by kernel_rfl) (by kernel_rfl) (fun _ _ _ h => h) (Or.inl ⟨by rfl, ?_⟩) (by first | assumption | exact trivial) ?_
  · intro W hSW; go_simp; try (with_reducible rfl)
  simp only [Act.put, List.getElem_toArray, List.getElem_cons_succ, List.getElem_cons_zero, List.setIfInBounds_toArray, List.set_cons_zero, List.set_cons_succ]
  refine wpAnyH_take (i := 9) (v := .int .i64 c) rfl (by kernel_rfl) (by kernel_rfl) (by kernel_rfl) (fun _ _ _ h => h) (Or.inl ⟨by rfl, ?_⟩) (by first | assumption | exact trivial) ?_
  · intro W hSW; obtain ⟨⟨y0, y1⟩, i0, i1, i2, i3⟩ := HCl.out W hSW; go_simp; try (with_reducible rfl)
  simp only [Act.put, List.getElem_toArray, List.getElem_cons_succ, List.getElem_cons_zero, List.setIfInBounds_toArray, List.set_cons_zero, List.set_cons_succ]
  refine wpAnyH_take (i := 10) (v := .agg #[.int .i64 o, .int .i64 ee, .int .i64 c]) rfl (by kernel_rfl) (by kernel_rfl) (by kernel_rfl) (fun _ _ _ h => h) (Or.inl ⟨by rfl, ?_⟩) (by first | assumption | exact trivial) ?_
  · intro W hSW; go_simp; try (with_reducible rfl)
  simp only [Act.put, List.getElem_toArray, List.getElem_cons_succ, List.getElem_cons_zero, List.setIfInBounds_toArray, List.set_cons_zero, List.set_cons_succ]
  refine wpAnyH_ready (rs := [11]) (by kernel_rfl) (by simp) ?_
  refine AllReadyH.cons rfl (fun K hK => ?_) AllReadyH.nil
  go_simp
  go_wp2_with (go_at_call 31; refine (HP.out _ S0).mono ?_; rintro e w5 ⟨v5, rfl, k5, b5⟩; obtain ⟨A5, c5, rfl, _, _⟩ := k5.out.form)
  have S5 := S0.go b5.out
  have r5 : w5.heap[w.heap.size + 1 + 1]? = some (.cells #[.int .i64 0, .slice none 0 0] 29 (0, 0)) := (b5.out.block _ (Array.getElem?_eq_some_iff.1 r4).1).trans r4
  refine hK.out _ _ (S5) (fun hHeld => ?_)
  clear hK K
  refine wpAnyH_take (i := 12) (v := .agg #[.int .i64 room, .slice A5 L2.length c5]) rfl (by kernel_rfl) (by kernel_rfl) (by kernel_rfl) (fun _ _ _ h => h) (Or.inl ⟨by rfl, ?_⟩) (by first | assumption | exact trivial) ?_
  · intro W hSW; go_simp; try (with_reducible rfl)
  simp only [Act.put, List.getElem_toArray, List.getElem_cons_succ, List.getElem_cons_zero, List.setIfInBounds_toArray, List.set_cons_zero, List.set_cons_succ]
  refine wpAnyH_ready (rs := [13]) (by kernel_rfl) (by simp) ?_
  refine AllReadyH.cons rfl (fun K hK => ?_) AllReadyH.nil
  rw [if_pos (by kernel_rfl)]
  refine wp_store_row 29 (.tmp 4) (.tmp 26) rfl (w.heap.size + 1 + 1) #[.int .i64 room, .slice A5 L2.length c5] rfl (by rfl) 29 _ r5 (by kernel_rfl) rfl (set_one room _ rfl) ?_
  simp only [Act.put, List.getElem_toArray, List.getElem_cons_succ, List.getElem_cons_zero, List.setIfInBounds_toArray, List.set_cons_zero, List.set_cons_succ]
  have S6 := S5.row (D := w.heap.size + 1 + 1) (Nat.lt_succ_self _) #[.int .i64 room, .slice A5 L2.length c5]
  have r6 := setRow_heap _ _ _ #[.int .i64 room, .slice A5 L2.length c5] _ _ r5
  have k6 : Kv (fun k => w.heap.size ≤ k) (w5.setRow (w.heap.size + 1 + 1) #[.int .i64 room, .slice A5 L2.length c5]) (.slice A5 L2.length c5) L2 :=
    (k5.out.kv.but ((But.refl (fun k => k = w.heap.size + 1 + 1) w5).setRow (.inl rfl) _) (fun k hk e => by
      have h4 := (Array.getElem?_eq_some_iff.1 r4).1
      subst e
      exact absurd hk (Nat.not_le.2 h4))).mono (fun k _ hk => Nat.le_trans s4.below.size hk)
  obtain ⟨V6, hV6⟩ : ∃ V, w5.setRow (w.heap.size + 1 + 1) #[.int .i64 room, .slice A5 L2.length c5] = V := ⟨_, rfl⟩
  rw [hV6] at S6 r6 k6 ⊢
  clear hV6
  refine hK.out _ _ (S6) (fun hHeld => ?_)
  clear hK K
  refine wpAnyH_take (i := 14) (v := .int .i64 0) rfl (by kernel_rfl) (by kernel_rfl) (by kernel_rfl) (fun _ _ _ h => h) (Or.inl ⟨by rfl, ?_⟩) (by first | assumption | exact trivial) ?_
  · intro W hSW; go_simp; try (with_reducible rfl)
  simp only [Act.put, List.getElem_toArray, List.getElem_cons_succ, List.getElem_cons_zero, List.setIfInBounds_toArray, List.set_cons_zero, List.set_cons_succ]
  refine wpAnyH_done (by kernel_rfl) ?_ _
  go_wp2
  exact ret_box2 (g := w.heap.size + 1 + 1) rfl (by rfl) r6 rfl Try.underlying29 (by kernel_rfl) rfl ⟨_, rfl, k6, S6.below⟩
end Go.Proofs.Ytjgdkpgkonnhnaa.Se
