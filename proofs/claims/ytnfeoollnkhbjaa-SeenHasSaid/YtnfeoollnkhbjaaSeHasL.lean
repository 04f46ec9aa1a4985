/- The law SeenHas. -/
import Derived.Test.YtnfeoollnkhbjaaSeIds
import Derived.Test.YtnfeoollnkhbjaaSeHasM
import Derived.Test.YtnfeoollnkhbjaaSeAddA
import Derived.Test.YtnfeoollnkhbjaaSeWoke
namespace Go.Proofs.Ytnfeoollnkhbjaa.Se
open Go.RowKit
open Go.Proofs.Ytnfeoollnkhbjaa.Me Go.Proofs.Ytnfeoollnkhbjaa.Sb
set_option linter.unusedVariables false
set_option linter.unusedSimpArgs false

set_option maxRecDepth 100000 in
set_option maxHeartbeats 16000000 in
theorem seenHas_no (g : Int) (vl : Value) (i : Mg.Id4) (w : World) (h : g < 0 ∨ 256 < g) : Calls Try.prog 4 #[.int .i64 g, vl, .agg (Mg.idC i)] w fun e w' => e = .returned (.bool true) ∧ Below w.heap.size w w' := by
  have HN := Lib.hid (fun W => New_no g h W)
  have HR := Lib.hid (fun W => RNew_no g h W)
  have HA := Lib.hid (fun W => awake_any W)
  have HB := Lib.hid (Me.below_alloc (o := .cells (Mg.idC i) 39) (Below.refl w.heap.size w))
  clear h
  obtain ⟨o, d, ee, c⟩ := i
  simp only [Mg.idC] at HB ⊢
  go_enter Try.func4, Try.ntmps4
  go_wp2_with (first
    | (go_at_call 9; refine (HN.out _).mono ?_; rintro e w1 ⟨rfl, rfl⟩)
    | (go_at_call 10; refine (HR.out _).mono ?_; rintro e w2 ⟨rfl, b2⟩; have k2 := Lib.hid (go_on HB.out b2.out))
    | (go_at_call 11; refine (HA.out _).mono ?_; rintro e w7 ⟨rfl, b7⟩))
  go_ret
  exact ⟨rfl, go_on (Me.below_alloc k2.out) b7.out⟩
theorem RAdd_any (Q : Nat → Prop) (room : Int) (v : Value) (L : Ks) (i : Mg.Id4) (w : World) (hv : Hid (Kv Q w v L)) (hQ : ∀ k, w.heap.size ≤ k → Q k) (hL : L.length ≤ 900) : Calls Try.prog 16 #[.agg #[.int .i64 room, v], .agg (Mg.idC i)] w fun e w' => ∃ v' k, e = .returned (.tuple #[.agg #[.int .i64 room, v'], .int .i64 k]) ∧ Hid (Kv Q w' v' (raddL room L i)) ∧ Hid (Below w.heap.size w w') := by
  by_cases hm : rmayN room L i = 0
  · refine (RAdd_ok Q room v L i w hv hL hm).mono ?_
    rintro e w' ⟨v', rfl, h1, h2⟩
    refine ⟨v', 0, rfl, ?_, h2⟩
    have e : raddL room L i = putL L ⟨i.o, i.e, i.c⟩ := by unfold raddL; rw [if_pos hm]
    rw [e]
    exact h1.out.mono fun k _ hk => hQ k hk
  · refine (RAdd_no Q room v L i w hv hL hm).mono ?_
    rintro e w' ⟨rfl, h2⟩
    refine ⟨v, _, rfl, ?_, h2⟩
    have e : raddL room L i = L := by unfold raddL; rw [if_neg hm]
    rw [e]
    exact hv.out.below h2.out
/-- What holds between rounds. -/
structure Both (w : World) (D b gb : Nat) (g : Int) (i : Mg.Id4) (j : Nat) (wr : World) (v : Value) (s : St) (L : Ks) : Prop where
  set : ∃ n, n ≤ j ∧ Set wr true D b n s
  kv : Kv (fun k => ¬ (k = D ∨ k = b ∨ k = gb)) wr v L
  box : wr.heap[gb]? = some (.cells #[.int .i64 g, v] 29 (0, 0))
  id : wr.heap[w.heap.size]? = some (.cells (Mg.idC i) 39 (0, 0))
  rel : Rel s L
  room : s.room = g
  len : L.length ≤ j
  below : Below w.heap.size w wr
  ge : w.heap.size < D ∧ w.heap.size < b ∧ w.heap.size < gb ∧ D ≠ gb ∧ b ≠ gb
set_option maxRecDepth 100000 in
set_option maxHeartbeats 16000000 in
theorem seenHas_ok (g : Int) (A : Option Addr) (len cap : Nat) (ls : List Mg.Id4) (i : Mg.Id4) (w : World) (h0 : 0 ≤ g) (h1 : g ≤ 256) (hl : len = ls.length ∧ len ≤ cap ∧ cap ≤ 9223372036854775807 ∧ Ids w A ls) : Calls Try.prog 4 #[.int .i64 g, .slice A len cap, .agg (Mg.idC i)] w fun e w' => e = .returned (.bool true) ∧ Below w.heap.size w w' := by
  have HN := Lib.hid (fun W => New_ok g h0 h1 W)
  have HR := Lib.hid (fun W => RNew_ok g h0 h1 W)
  have HA := Lib.hid (fun W => awake_any W)
  obtain ⟨hl1, hl2, hl3, hids⟩ := hl
  have HCut := Lib.hid (fun W => cutL_any A len cap hl2 hl3 (fun hlt => by obtain ⟨b, off, e, _⟩ := hids 0 (by omega); exact ⟨b, off, e⟩) W)
  obtain ⟨W1, hW1⟩ : ∃ W, w.alloc (.cells (Mg.idC i) 39) = W := ⟨_, rfl⟩
  have b1 : Below w.heap.size w W1 := by rw [← hW1]; exact Me.below_alloc (Below.refl _ _)
  have z1 : W1.heap.size = w.heap.size + 1 := by rw [← hW1]; simp
  have r1 : W1.heap[w.heap.size]? = some (.cells (Mg.idC i) 39 (0, 0)) := by rw [← hW1]; exact heap_alloc_new w _
  have HW := Lib.hid hW1
  have HZ := Lib.hid z1
  have HB1 := Lib.hid b1
  have HR1 := Lib.hid r1
  clear hW1 b1 z1 r1
  obtain ⟨N, hN⟩ : ∃ N, min len 60 = N := ⟨_, rfl⟩
  have hN2 : N ≤ len ∧ N ≤ 60 := by omega
  have HIds : Hid (∀ j, j < N → ∃ bl off, A = some ⟨bl, off, none⟩ ∧ bl < w.heap.size ∧ w.cell? ⟨bl, off + j * 4, none⟩ = some (.int .i64 (idAt ls j).o) ∧ w.cell? ⟨bl, off + j * 4 + 1, none⟩ = some (.int .i64 (idAt ls j).d) ∧ w.cell? ⟨bl, off + j * 4 + 2, none⟩ = some (.int .i64 (idAt ls j).e) ∧ w.cell? ⟨bl, off + j * 4 + 3, none⟩ = some (.int .i64 (idAt ls j).c)) := fun j hj => hids j (by omega)
  have hN3 : N ≤ 60 := hN2.2
  have hN4 : N ≤ cap := by omega
  clear hids hl1 hl2 hN2 h0 h1
  rw [hN] at HCut
  clear hN
  obtain ⟨I4, hI⟩ : ∃ x, i = x := ⟨_, rfl⟩
  obtain ⟨o, d, ee, c⟩ := i
  simp only [Mg.idC] at HW ⊢
  rw [hI] at HR1
  go_enter Try.func4, Try.ntmps4
  go_wp2_with (first
    | (go_at_call 9; rw [HW.out]; refine (HN.out _).mono ?_; rintro e w1 ⟨D, b, rfl, hS, hD, hb, hb1⟩)
    | (go_at_call 10; refine (HR.out _).mono ?_; rintro e w2 ⟨rfl, b2⟩)
    | (go_at_call 12; refine (HCut.out _).mono ?_; rintro e w3 ⟨rfl, hw3⟩)
    | (go_at_call 11; refine (HA.out _).mono ?_; rintro e w7 ⟨rfl, b7⟩))
  obtain ⟨gb, hgb⟩ : ∃ x, w2.heap.size = x := ⟨_, rfl⟩
  have hlt := hS.lt
  have hs1 := hb1.out.size
  have hs2 := b2.out.size
  have hz := HZ.out
  have k3 : Below w2.heap.size w2 w3 := by rw [← hw3]; exact Me.below_alloc (Below.refl _ _)
  have k23 := go_on b2.out k3
  have hbox : w3.heap[w2.heap.size]? = some (.cells #[.int .i64 g, .slice none 0 0] 29 (0, 0)) := by rw [← hw3]; exact heap_alloc_new w2 _
  rw [hgb] at hbox hs2 ⊢
  have B0 : Both w D b gb g I4 0 w3 (.slice none 0 0) ⟨g, 0, fun _ _ => none⟩ [] := by
    refine ⟨⟨0, Nat.le_refl _, hS.below k23⟩, Kv.nil _ _, hbox, ?_, Rel.nil hS.ok (fun _ _ => rfl), rfl, Nat.le_refl _, go_on HB1.out (go_on hb1.out k23), by omega, by omega, by omega, by omega, by omega⟩
    exact (k23.block _ (by omega)).trans ((hb1.out.block _ (by omega)).trans HR1.out)
  have HB0 := Lib.hid B0
  clear hgb hlt hs1 hs2 hz k3 k23 hbox B0 hS hD hb hb1 b2 hw3 HW HZ HB1 HR1 HN HR HCut
  go_loopw [11] (fun v11 wr => ∃ (j : Nat) (v : Value) (s : St) (L : Ks), v11 = .int .i64 (j : Int) ∧ j ≤ N ∧ Hid (Both w D b gb g I4 j wr v s L)) (fun i _ => N - (intOf i).toNat)
  case atStart => exact ⟨0, _, _, _, rfl, Nat.zero_le _, HB0.out⟩
  case round =>
    obtain ⟨j, v, s, L, rfl, hj, HBo⟩ := hrel
    obtain ⟨⟨n, hn, hSet⟩, hkv, hbox, hid, hrl, hroom, hlen, hbel, hge⟩ := HBo.out
    obtain ⟨A5, c5, rfl, _, _⟩ := hkv.form
    have y0 : wr.cell? ⟨gb, 0, none⟩ = some (.int .i64 g) := cell_of_row wr gb 0 _ _ (0, 0) hbox
    have y1 : wr.cell? ⟨gb, 1, none⟩ = some (.slice A5 L.length c5) := cell_of_row wr gb 1 _ _ (0, 0) hbox
    obtain ⟨i0, i1, i2, i3⟩ := id_cells hid
    by_cases hlt : j < N
    · obtain ⟨bl, off, rfl, hbl, c0, c1, c2, c3⟩ := HIds.out j hlt
      have g1 : (j : Int) < (N : Int) := by omega
      have g2 : ¬ ((N : Int) ≤ (j : Int)) := by omega
      obtain ⟨x, hx⟩ : ∃ x, idAt ls j = x := ⟨_, rfl⟩
      rw [hx] at c0 c1 c2 c3
      clear hx
      obtain ⟨p, q, r, t⟩ := x
      simp only at c0 c1 c2 c3
      have HXc : Hid (∀ W, Below w.heap.size w W → W.cell? ⟨bl, off + j * 4, none⟩ = some (.int .i64 p) ∧ W.cell? ⟨bl, off + j * 4 + 1, none⟩ = some (.int .i64 q) ∧ W.cell? ⟨bl, off + j * 4 + 2, none⟩ = some (.int .i64 r) ∧ W.cell? ⟨bl, off + j * 4 + 3, none⟩ = some (.int .i64 t)) := fun W hW => by
        have hb := hW.block bl hbl
        exact ⟨(World.cell?_of_block hb).trans c0, (World.cell?_of_block hb).trans c1, (World.cell?_of_block hb).trans c2, (World.cell?_of_block hb).trans c3⟩
      have HAdd : Hid (Calls Try.prog 18 #[.pointer (some ⟨D, 0, none⟩), .agg #[.int .i64 p, .int .i64 q, .int .i64 r, .int .i64 t]] wr (AddP D b n s ⟨p, q, r, t⟩ wr)) := Add_all D b n s ⟨p, q, r, t⟩ wr hSet (by omega)
      have HRA : Hid (∀ W, But (fun k => k = D ∨ k = b) wr W → Calls Try.prog 16 #[.agg #[.int .i64 g, .slice A5 L.length c5], .agg #[.int .i64 p, .int .i64 q, .int .i64 r, .int .i64 t]] W fun e w' => ∃ v' k, e = .returned (.tuple #[.agg #[.int .i64 g, v'], .int .i64 k]) ∧ Hid (Kv (fun k => ¬ (k = D ∨ k = b ∨ k = gb)) w' v' (raddL g L ⟨p, q, r, t⟩)) ∧ Hid (Below W.heap.size W w')) := fun W hW => RAdd_any _ g _ L ⟨p, q, r, t⟩ W (hkv.but hW fun k h1 h2 => h1 (by rcases h2 with h2 | h2 <;> simp [h2])) (fun k hk => by
        have h1 := hSet.lt
        have h2 := (Array.getElem?_eq_some_iff.1 hbox).1
        have h3 := hW.size
        rintro (h4 | h4 | h4) <;> omega) (by omega)
      obtain ⟨e0, e1, e2, e3⟩ := HXc.out wr hbel
      have HKeep : Hid (∀ W, But (fun k => k = D ∨ k = b) wr W → Below w.heap.size w W ∧ W.heap[gb]? = some (.cells #[.int .i64 g, .slice A5 L.length c5] 29 (0, 0)) ∧ W.heap[w.heap.size]? = some (.cells (Mg.idC I4) 39 (0, 0))) := fun W hW => ⟨hbel.trans (hW.below hbel.size fun k hk => by rcases hk with h1 | h1 <;> omega), hW.at_ hbox (by rintro (h1 | h1) <;> omega), hW.at_ hid (by rintro (h1 | h1) <;> omega)⟩
      clear hkv hbox hid hSet hbel c0 c1 c2 c3 hbl i0 i1 i2 i3
      go_wp2_with (first
        | (go_at_call 18; refine HAdd.out.mono ?_; rintro e w4 ⟨rfl, n4, hn4, hS4, hB4⟩; obtain ⟨k4, x4, d4⟩ := HKeep.out w4 hB4.out; obtain ⟨e0, e1, e2, e3⟩ := HXc.out w4 k4; have y0 : w4.cell? ⟨gb, 0, none⟩ = some (.int .i64 g) := cell_of_row w4 gb 0 _ _ (0, 0) x4; have y1 : w4.cell? ⟨gb, 1, none⟩ = some (.slice A5 L.length c5) := cell_of_row w4 gb 1 _ _ (0, 0) x4))
      have S0 := k4.drew
      have hB4d : But (fun k => k = D ∨ k = b) wr w4.drew := hB4.out.trans (But.of_below (S := fun _ => False) ((Below.refl _ _).drew)) (fun _ _ h => h.elim)
      refine wp_region_held_drew (S := fun W => Below w.heap.size w W) (by kernel_rfl) S0 (fun hHeld => ?_)
      refine wpAnyH_take (i := 1) (v := .slice (some ⟨bl, off, none⟩) N cap) rfl (by kernel_rfl) (by kernel_rfl) (by kernel_rfl) (fun _ _ _ h => h) (Or.inl ⟨by rfl, ?_⟩) (by first | assumption | exact trivial) ?_
      · intro W hSW; go_simp; try (with_reducible rfl)
      simp only [Act.put, List.getElem_toArray, List.getElem_cons_succ, List.getElem_cons_zero, List.setIfInBounds_toArray, List.set_cons_zero, List.set_cons_succ]
      refine wpAnyH_take (i := 2) (v := .int .i64 (j : Int)) rfl (by kernel_rfl) (by kernel_rfl) (by kernel_rfl) (fun _ _ _ h => h) (Or.inl ⟨by rfl, ?_⟩) (by first | assumption | exact trivial) ?_
      · intro W hSW; go_simp; try (with_reducible rfl)
      simp only [Act.put, List.getElem_toArray, List.getElem_cons_succ, List.getElem_cons_zero, List.setIfInBounds_toArray, List.set_cons_zero, List.set_cons_succ]
      refine wpAnyH_take (i := 3) (v := .pointer (some ⟨bl, off + j * 4, none⟩)) rfl (by kernel_rfl) (by kernel_rfl) (by kernel_rfl) (fun _ _ _ h => h) (Or.inl ⟨by rfl, ?_⟩) (by first | assumption | exact trivial) ?_
      · intro W hSW; go_simp; try (with_reducible rfl)
      simp only [Act.put, List.getElem_toArray, List.getElem_cons_succ, List.getElem_cons_zero, List.setIfInBounds_toArray, List.set_cons_zero, List.set_cons_succ]
      refine wpAnyH_take (i := 4) (v := .agg #[.int .i64 p, .int .i64 q, .int .i64 r, .int .i64 t]) rfl (by kernel_rfl) (by kernel_rfl) (by kernel_rfl) (fun _ _ _ h => h) (Or.inl ⟨by rfl, ?_⟩) (by first | assumption | exact trivial) ?_
      · intro W hSW; obtain ⟨e0, e1, e2, e3⟩ := HXc.out W hSW; go_simp; try (with_reducible rfl)
      simp only [Act.put, List.getElem_toArray, List.getElem_cons_succ, List.getElem_cons_zero, List.setIfInBounds_toArray, List.set_cons_zero, List.set_cons_succ]
      refine wpAnyH_ready (rs := [0]) (by kernel_rfl) (by simp) ?_
      refine AllReadyH.cons rfl (fun K hK => ?_) AllReadyH.nil
      go_simp
      refine hK.out _ _ (S0) (fun hHeld => ?_)
      clear hK K
      refine wpAnyH_ready (rs := [5]) (by kernel_rfl) (by simp) ?_
      refine AllReadyH.cons rfl (fun K hK => ?_) AllReadyH.nil
      go_simp
      go_wp2_with (go_at_call 16; refine (HRA.out _ hB4d).mono ?_; rintro e w5 ⟨v5, k5, rfl, hk5, hB5⟩; obtain ⟨A6, c6, rfl, _, _⟩ := hk5.out.form)
      have S5 := go_on S0 hB5.out
      have x5 : w5.heap[gb]? = some (.cells #[.int .i64 g, .slice A5 L.length c5] 29 (0, 0)) := (hB5.out.block _ (Array.getElem?_eq_some_iff.1 x4).1).trans x4
      have d5 : w5.heap[w.heap.size]? = some (.cells (Mg.idC I4) 39 (0, 0)) := (hB5.out.block _ (Array.getElem?_eq_some_iff.1 d4).1).trans d4
      refine hK.out _ _ (S5) (fun hHeld => ?_)
      clear hK K
      refine wpAnyH_take (i := 6) (v := .tuple #[.agg #[.int .i64 g, .slice A6 (raddL g L ⟨p, q, r, t⟩).length c6], .int .i64 k5]) rfl (by kernel_rfl) (by kernel_rfl) (by kernel_rfl) (fun _ _ _ h => h) (Or.inl ⟨by rfl, ?_⟩) (by first | assumption | exact trivial) ?_
      · intro W hSW; go_simp; try (with_reducible rfl)
      simp only [Act.put, List.getElem_toArray, List.getElem_cons_succ, List.getElem_cons_zero, List.setIfInBounds_toArray, List.set_cons_zero, List.set_cons_succ]
      refine wpAnyH_take (i := 7) (v := .agg #[.int .i64 g, .slice A6 (raddL g L ⟨p, q, r, t⟩).length c6]) rfl (by kernel_rfl) (by kernel_rfl) (by kernel_rfl) (fun _ _ _ h => h) (Or.inl ⟨by rfl, ?_⟩) (by first | assumption | exact trivial) ?_
      · intro W hSW; go_simp; try (with_reducible rfl)
      simp only [Act.put, List.getElem_toArray, List.getElem_cons_succ, List.getElem_cons_zero, List.setIfInBounds_toArray, List.set_cons_zero, List.set_cons_succ]
      refine wpAnyH_take (i := 8) (v := .int .i64 k5) rfl (by kernel_rfl) (by kernel_rfl) (by kernel_rfl) (fun _ _ _ h => h) (Or.inl ⟨by rfl, ?_⟩) (by first | assumption | exact trivial) ?_
      · intro W hSW; go_simp; try (with_reducible rfl)
      simp only [Act.put, List.getElem_toArray, List.getElem_cons_succ, List.getElem_cons_zero, List.setIfInBounds_toArray, List.set_cons_zero, List.set_cons_succ]
      refine wpAnyH_ready (rs := [9]) (by kernel_rfl) (by simp) ?_
      refine AllReadyH.cons rfl (fun K hK => ?_) AllReadyH.nil
      rw [if_pos (by kernel_rfl)]
      refine wp_store_row 29 (.tmp 9) (.tmp 55) rfl gb #[.int .i64 g, .slice A6 (raddL g L ⟨p, q, r, t⟩).length c6] rfl (by rfl) 29 _ x5 (by kernel_rfl) rfl (set_one g _ rfl) ?_
      simp only [Act.put, List.getElem_toArray, List.getElem_cons_succ, List.getElem_cons_zero, List.setIfInBounds_toArray, List.set_cons_zero, List.set_cons_succ]
      have hS5 := hS4.out.below (go_on (Below.refl w4.heap.size w4).drew hB5.out)
      have hB6 : But (fun k => k = gb) w5 (w5.setRow gb #[.int .i64 g, .slice A6 (raddL g L ⟨p, q, r, t⟩).length c6]) := But.setRow (S := fun k => k = gb) (D := gb) (But.refl _ w5) (.inl rfl) _
      have BB : Both w D b gb g I4 (j + 1) (w5.setRow gb #[.int .i64 g, .slice A6 (raddL g L ⟨p, q, r, t⟩).length c6]) (.slice A6 (raddL g L ⟨p, q, r, t⟩).length c6) (addS s ⟨p, q, r, t⟩) (raddL g L ⟨p, q, r, t⟩) := by
        refine ⟨⟨n4, by omega, hS5.keep (setRow_other _ _ _ _ (by omega)) (setRow_other _ _ _ _ (by omega)) (Ints.but hB6 fun k cs hk e => ?_)⟩, hk5.out.but hB6 fun k h1 h2 => h1 (by simp [h2]), setRow_heap _ _ _ _ _ _ x5, (setRow_other _ _ _ _ (by omega)).trans d5, ?_, ?_, ?_, Sb.below_setRow _ S5 (by omega), hge⟩
        · subst e
          rw [x5] at hk
          injection hk with hk
          injection hk with _ hT _
          exact absurd hT (by decide)
        · have h := hrl.add ⟨p, q, r, t⟩
          rw [hroom] at h
          exact h
        · rw [addS_room]; exact hroom
        · have := radd_len g L ⟨p, q, r, t⟩
          omega
      obtain ⟨V6, hV6⟩ : ∃ V, w5.setRow gb #[.int .i64 g, .slice A6 (raddL g L ⟨p, q, r, t⟩).length c6] = V := ⟨_, rfl⟩
      rw [hV6] at BB ⊢
      have HBB := Lib.hid BB
      have S6 := BB.below
      clear hV6 BB hS5 hB6 x5 d5 hk5 hS4 hB4 hB4d
      refine hK.out _ _ (S6) (fun hHeld => ?_)
      clear hK K
      refine wpAnyH_done (by kernel_rfl) ?_ _
      clear HRA HAdd HKeep HXc hrl
      go_wp2
      go_roundw
      case rel => exact ⟨j + 1, _, _, _, by go_num, hlt, HBB.out⟩
      case measure => simp [intOf]; omega
    · obtain rfl : j = N := by omega
      have g1 : ¬ (j : Int) < (j : Int) := by omega
      obtain ⟨H, hH⟩ : ∃ H, hasS s I4 = H := ⟨_, rfl⟩
      have HHas : Hid (∀ W, Below wr.heap.size wr W → Calls Try.prog 23 #[.pointer (some ⟨D, 0, none⟩), .agg (Mg.idC I4)] W fun e w' => e = .returned (.bool H) ∧ Hid (Below W.heap.size W w')) := fun W hW => by
        rw [← hH]
        exact Has_any true D b n s I4 W (hSet.below hW)
      have HRH : Hid (∀ W, Below wr.heap.size wr W → Calls Try.prog 24 #[.agg #[.int .i64 g, .slice A5 L.length c5], .agg (Mg.idC I4)] W fun e w' => e = .returned (.bool H) ∧ Hid (Below W.heap.size W w')) := fun W hW => by
        rw [← hH, ← hrl.has]
        exact RHas_any _ g _ L I4 W (hkv.below hW) (by omega)
      have HCl : Hid (∀ W, Below wr.heap.size wr W → (W.cell? ⟨gb, 0, none⟩ = some (.int .i64 g) ∧ W.cell? ⟨gb, 1, none⟩ = some (.slice A5 L.length c5)) ∧ W.cell? ⟨w.heap.size, 0, none⟩ = some (.int .i64 I4.o) ∧ W.cell? ⟨w.heap.size, 1, none⟩ = some (.int .i64 I4.d) ∧ W.cell? ⟨w.heap.size, 2, none⟩ = some (.int .i64 I4.e) ∧ W.cell? ⟨w.heap.size, 3, none⟩ = some (.int .i64 I4.c)) := fun W hW => by
        have h1 := (hW.block _ (Array.getElem?_eq_some_iff.1 hbox).1).trans hbox
        exact ⟨⟨cell_of_row W gb 0 _ _ (0, 0) h1, cell_of_row W gb 1 _ _ (0, 0) h1⟩, id_cells ((hW.block _ (Array.getElem?_eq_some_iff.1 hid).1).trans hid)⟩
      have HBe := Lib.hid hbel
      clear hSet hkv hbox hid hrl hroom hbel hge hH HIds y0 y1 i0 i1 i2 i3
      subst hI
      simp only [Mg.idC] at HHas HRH HCl
      go_wp2
      have S0 := (Below.refl wr.heap.size wr).drew
      refine wp_region_held_drew (S := fun W => Below wr.heap.size wr W) (by kernel_rfl) S0 (fun hHeld => ?_)
      refine wpAnyH_take (i := 0) (v := .pointer (some ⟨D, 0, none⟩)) rfl (by kernel_rfl) (by kernel_rfl) (by kernel_rfl) (fun _ _ _ h => h) (Or.inl ⟨by rfl, ?_⟩) (by first | assumption | exact trivial) ?_
      · intro W hSW; go_simp; try (with_reducible rfl)
      simp only [Act.put, List.getElem_toArray, List.getElem_cons_succ, List.getElem_cons_zero, List.setIfInBounds_toArray, List.set_cons_zero, List.set_cons_succ]
      refine wpAnyH_take (i := 1) (v := .agg #[.int .i64 o, .int .i64 d, .int .i64 ee, .int .i64 c]) rfl (by kernel_rfl) (by kernel_rfl) (by kernel_rfl) (fun _ _ _ h => h) (Or.inl ⟨by rfl, ?_⟩) (by first | assumption | exact trivial) ?_
      · intro W hSW; obtain ⟨⟨y0, y1⟩, i0, i1, i2, i3⟩ := HCl.out W hSW; go_simp; try (with_reducible rfl)
      simp only [Act.put, List.getElem_toArray, List.getElem_cons_succ, List.getElem_cons_zero, List.setIfInBounds_toArray, List.set_cons_zero, List.set_cons_succ]
      refine wpAnyH_take (i := 3) (v := .agg #[.int .i64 g, .slice A5 L.length c5]) rfl (by kernel_rfl) (by kernel_rfl) (by kernel_rfl) (fun _ _ _ h => h) (Or.inl ⟨by rfl, ?_⟩) (by first | assumption | exact trivial) ?_
      · intro W hSW; obtain ⟨⟨y0, y1⟩, i0, i1, i2, i3⟩ := HCl.out W hSW; go_simp; try (with_reducible rfl)
      simp only [Act.put, List.getElem_toArray, List.getElem_cons_succ, List.getElem_cons_zero, List.setIfInBounds_toArray, List.set_cons_zero, List.set_cons_succ]
      refine wpAnyH_take (i := 4) (v := .agg #[.int .i64 o, .int .i64 d, .int .i64 ee, .int .i64 c]) rfl (by kernel_rfl) (by kernel_rfl) (by kernel_rfl) (fun _ _ _ h => h) (Or.inl ⟨by rfl, ?_⟩) (by first | assumption | exact trivial) ?_
      · intro W hSW; obtain ⟨⟨y0, y1⟩, i0, i1, i2, i3⟩ := HCl.out W hSW; go_simp; try (with_reducible rfl)
      simp only [Act.put, List.getElem_toArray, List.getElem_cons_succ, List.getElem_cons_zero, List.setIfInBounds_toArray, List.set_cons_zero, List.set_cons_succ]
      refine wpAnyH_ready (rs := [2]) (by kernel_rfl) (by simp) ?_
      refine AllReadyH.cons rfl (fun K hK => ?_) AllReadyH.nil
      go_simp
      go_wp2_with (go_at_call 23; refine (HHas.out _ S0).mono ?_; rintro e w4 ⟨rfl, hb4⟩)
      have S4 := go_on S0 hb4.out
      refine hK.out _ _ (S4) (fun hHeld => ?_)
      clear hK K
      refine wpAnyH_ready (rs := [5]) (by kernel_rfl) (by simp) ?_
      refine AllReadyH.cons rfl (fun K hK => ?_) AllReadyH.nil
      go_simp
      go_wp2_with (go_at_call 24; refine (HRH.out _ S4).mono ?_; rintro e w5 ⟨rfl, hb5⟩)
      have S5 := go_on S4 hb5.out
      refine hK.out _ _ (S5) (fun hHeld => ?_)
      clear hK K
      refine wpAnyH_take (i := 6) (v := .bool true) rfl (by kernel_rfl) (by kernel_rfl) (by kernel_rfl) (fun _ _ _ h => h) (Or.inl ⟨by rfl, ?_⟩) (by first | assumption | exact trivial) ?_
      · intro W hSW; go_simp; try (with_reducible rfl)
      simp only [Act.put, List.getElem_toArray, List.getElem_cons_succ, List.getElem_cons_zero, List.setIfInBounds_toArray, List.set_cons_zero, List.set_cons_succ]
      refine wpAnyH_take (i := 7) (v := .bool true) rfl (by kernel_rfl) (by kernel_rfl) (by kernel_rfl) (fun _ _ _ h => h) (Or.inl ⟨by rfl, ?_⟩) (by first | assumption | exact trivial) ?_
      · intro W hSW; go_simp; try (with_reducible rfl)
      simp only [Act.put, List.getElem_toArray, List.getElem_cons_succ, List.getElem_cons_zero, List.setIfInBounds_toArray, List.set_cons_zero, List.set_cons_succ]
      refine wpAnyH_ready (rs := [8]) (by kernel_rfl) (by simp) ?_
      refine AllReadyH.cons rfl (fun K hK => ?_) AllReadyH.nil
      go_simp
      go_wp2_with (go_at_call 11; refine (HA.out _).mono ?_; rintro e w6 ⟨rfl, hb6⟩)
      have S6 := go_on S5 hb6.out
      refine hK.out _ _ (S6) (fun hHeld => ?_)
      clear hK K
      refine wpAnyH_take (i := 9) (v := .bool true) rfl (by kernel_rfl) (by kernel_rfl) (by kernel_rfl) (fun _ _ _ h => h) (Or.inl ⟨by rfl, ?_⟩) (by first | assumption | exact trivial) ?_
      · intro W hSW; go_simp; try (with_reducible rfl)
      simp only [Act.put, List.getElem_toArray, List.getElem_cons_succ, List.getElem_cons_zero, List.setIfInBounds_toArray, List.set_cons_zero, List.set_cons_succ]
      refine wpAnyH_take (i := 10) (v := .bool true) rfl (by kernel_rfl) (by kernel_rfl) (by kernel_rfl) (fun _ _ _ h => h) (Or.inl ⟨by rfl, ?_⟩) (by first | assumption | exact trivial) ?_
      · intro W hSW; go_simp; try (with_reducible rfl)
      simp only [Act.put, List.getElem_toArray, List.getElem_cons_succ, List.getElem_cons_zero, List.setIfInBounds_toArray, List.set_cons_zero, List.set_cons_succ]
      refine wpAnyH_done (by kernel_rfl) ?_ _
      go_wp2
      go_ret
      exact ⟨rfl, go_on HBe.out S6⟩
theorem seenHas (g : Int) (A : Option Addr) (len cap : Nat) (ls : List Mg.Id4) (o d e c : Int) (w : World) (w0 : (Lit.int .i64 g).wf = true) (w1 : len = ls.length ∧ len ≤ cap ∧ cap ≤ 9223372036854775807 ∧ Ids w A ls) (q0 : (Lit.int .i64 o).wf = true) (q1 : (Lit.int .i64 d).wf = true) (q2 : (Lit.int .i64 e).wf = true) (q3 : (Lit.int .i64 c).wf = true) :
    Calls Try.prog 4 #[.int .i64 g, .slice A len cap, .agg #[.int .i64 o, .int .i64 d, .int .i64 e, .int .i64 c]] w fun e w' => e = .returned (.bool true) ∧ Below w.heap.size w w' := by
  by_cases h : g < 0 ∨ 256 < g
  · exact seenHas_no g _ ⟨o, d, e, c⟩ w h
  · exact seenHas_ok g A len cap ls ⟨o, d, e, c⟩ w (by omega) (by omega) w1
end Go.Proofs.Ytnfeoollnkhbjaa.Se
