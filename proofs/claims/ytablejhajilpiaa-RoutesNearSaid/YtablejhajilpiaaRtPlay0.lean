/- The law's play: a call of both tables. -/
import Derived.Test.YtablejhajilpiaaRtBoth
import Derived.Test.YtablejhajilpiaaRtIn
namespace Go.Proofs.Ytablejhajilpiaa.Rt
open Go.RowKit Go.Maps
open Go.Proofs.Ytablejhajilpiaa.Sb
set_option linter.unusedVariables false
set_option linter.unusedSimpArgs false

def actT (t : Tb) (a : Ac) : Tb := if a.k = 0 then setT t a.d a.v else if a.k = 1 then hearT t a.v a.p else if a.k = 2 then tickT t else t
/-- Blocks that no table turns. -/
abbrev NM (D mb : Nat) (X : Nat → Prop) : Nat → Prop := fun b => (b ≠ D ∧ b ≠ mb) ∧ ¬ X b
def acV (k d v : Int) (R : Option Addr) (n c : Nat) : Array Value := #[.int .i64 k, .int .i64 d, .int .i64 v, .slice R n c]
theorem exec_boxa (ρ : Operand → Value) (o : Oper) (k d v : Int) (R : Option Addr) (n c : Nat) (x : Operand) (ho : o.op = .box 40 x) (h0 : ρ x = .agg (acV k d v R n c)) (w : World) :
    (execOp ρ o).run Try.prog w = .ok (.value (.pointer (some ⟨w.heap.size, 0, none⟩))) (w.alloc (.cells (acV k d v R n c) 40 (0, 0))) := by
  unfold execOp
  rw [ho]
  simp only [h0]
  kernel_rfl
/-- The three boxes of play. -/
structure Thr (w W : World) (q : RQ) (p : Pl) (k d v : Int) (R : Option Addr) (n c : Nat) : Prop where
  b : Bq W w.heap.size q p
  a : W.heap[w.heap.size + 1]? = some (.cells (acV k d v R n c) 40 (0, 0))
  z : Bq W (w.heap.size + 2) q0 p0
  bel : Below w.heap.size w W
  sz : W.heap.size = w.heap.size + 3
theorem thr_boxes (w : World) (q : RQ) (p : Pl) (k d v : Int) (R : Option Addr) (n c : Nat) : Thr w (((w.alloc (.cells (rqV q p) 33)).alloc (.cells (acV k d v R n c) 40)).alloc (.cells (rqV q0 p0) 33)) q p k d v R n c := by
  have h1 : Bq (w.alloc (.cells (rqV q p) 33)) w.heap.size q p := box_rq q p w
  have h2 := heap_alloc_new (w.alloc (.cells (rqV q p) 33)) (.cells (acV k d v R n c) 40)
  rw [World.size_alloc] at h2
  have h3 := box_rq q0 p0 ((w.alloc (.cells (rqV q p) 33)).alloc (.cells (acV k d v R n c) 40))
  rw [World.size_alloc, World.size_alloc] at h3
  refine ⟨(Below.heap_alloc _ _ _ (by simp; omega)).trans ((Below.heap_alloc _ _ _ (by simp)).trans h1), (Below.heap_alloc _ _ _ (by simp)).trans h2, h3, Mi.below_alloc (Mi.below_alloc (Mi.below_alloc (Below.refl _ _))), by simp⟩
theorem act_cells {W : World} {g : Nat} {k d v : Int} {R : Option Addr} {n c : Nat} (h : W.heap[g]? = some (.cells (acV k d v R n c) 40 (0, 0))) : W.cell? ⟨g, 0, none⟩ = some (.int .i64 k) ∧ W.cell? ⟨g, 1, none⟩ = some (.int .i64 d) ∧ W.cell? ⟨g, 2, none⟩ = some (.int .i64 v) ∧ W.cell? ⟨g, 3, none⟩ = some (.slice R n c) := by
  refine ⟨?_, ?_, ?_, ?_⟩
  all_goals
    rw [cell_of_row _ g _ _ _ (0, 0) h]
    rfl
/-- What a play answers and leaves. -/
def PlayP (X : Nat → Prop) (s : Nat) (w : World) (D mb : Nat) (v : Value) (t' : Tb) (c : Nat) (e : Ending) (w' : World) : Prop := ∃ q' p', e = .returned (.tuple #[.agg (rqV q' p'), .bool true]) ∧ Hid (Tn s w' D mb v t') ∧ Hid (Rq (NM D mb X) w' t' q' p' (c + 1)) ∧ Hid (But (DM D mb) w w')
theorem bel_but {S : Nat → Prop} {w w1 w2 : World} (h1 : Below w.heap.size w w1) (h2 : But S w1 w2) : But S w w2 := (But.of_below (S := S) h1).trans h2 fun _ _ h => h
set_option maxRecDepth 100000 in
set_option maxHeartbeats 4000000 in
theorem play0 {X : Nat → Prop} {s : Nat} (w : World) (D mb : Nat) (v : Value) (t : Tb) (q : RQ) (p : Pl) (c : Nat) (h : Hid (Tn s w D mb v t)) (hq : Hid (Rq (NM D mb X) w t q p c)) (hc : c ≤ 999) (hX : ∀ b, X b → b < w.heap.size) (d x : Int) (R : Option Addr) (n cr : Nat) :
    Calls Try.prog 12 #[.pointer (some ⟨D, 0, none⟩), .agg (rqV q p), .agg (acV 0 d x R n cr)] w (PlayP X s w D mb v (setT t d x) c) := by
  have HT := Lib.hid (thr_boxes w q p 0 d x R n cr)
  obtain ⟨w1, hw1⟩ : ∃ w1, ((w.alloc (.cells (rqV q p) 33)).alloc (.cells (acV 0 d x R n cr) 40)).alloc (.cells (rqV q0 p0) 33) = w1 := ⟨_, rfl⟩
  have HW1 : Hid (((w.alloc (.cells (rqV q p) 33)).alloc (.cells (acV 0 d x R n cr) 40)).alloc (.cells (rqV q0 p0) 33) = w1) := hw1
  rw [hw1] at HT
  clear hw1
  obtain ⟨a0, a1, a2, a3⟩ := act_cells HT.out.a
  have hDw := h.out.tq.lt
  have hmw := h.out.tq.ltm
  have hM : ∀ (W : World), Below w.heap.size w W → ∀ b, W.heap.size ≤ b → NM D mb X b := fun W hW b hb => ⟨⟨by have := hW.size; omega, by have := hW.size; omega⟩, fun hx => by have := hX b hx; have := hW.size; omega⟩
  have HM := Lib.hid hM
  clear hM
  have HS := Lib.hid (RSet_f (M := fun b => NM D mb X b ∧ b ≠ w.heap.size + 2) (Lib.hid ((hq.out.mono (fun b hb hm => ⟨hm, by omega⟩)).below HT.out.bel)) h.out.nl hc (fun b hb => ⟨HM.out _ HT.out.bel b hb, by have := HT.out.sz; omega⟩) d x)
  obtain ⟨E, hE⟩ : ∃ E : Int, ((setE t d x : Nat) : Int) = E := ⟨_, rfl⟩
  have HEE : Hid (((setE t d x : Nat) : Int) = E) := hE
  rw [hE] at HS
  clear hE
  go_enter Try.func12, Try.ntmps12
  go_wp2_with (first
    | (refine Mi.allocTo rfl (.pointer (some ⟨_, 0, none⟩)) (.cells (rqV q p) 33 (0, 0)) (exec_boxq _ _ q p (.tmp 1) rfl rfl _) ?_)
    | (refine allocAt rfl (w.heap.size + 1) (.cells (acV 0 d x R n cr) 40 (0, 0)) (exec_boxa _ _ 0 d x R n cr (.tmp 2) rfl rfl _) (World.size_alloc _ _) ?_)
    | (refine allocAt rfl (w.heap.size + 2) (.cells (rqV q0 p0) 33 (0, 0)) (alloc_rq _ _ rfl _) ((World.size_alloc _ _).trans (congrArg (· + 1) (World.size_alloc _ _))) ?_; rw [HW1.out])
    | (refine wpList_load_row rfl 33 (.tmp 4) rfl w.heap.size rfl 33 _ (0, 0) _ HT.out.b Try.underlying33 rfl (rq_size _ _) ?_)
    | (go_at_call 36; refine HS.out.mono ?_; rintro e w2 ⟨q', p', rfl, hq2, hb2⟩; have HZ2 : Hid (Bq (w2.alloc (.cells (rqV q0 p0) 33)) w2.heap.size q0 p0) := box_rq q0 p0 w2)
    | (refine Mi.allocTo rfl (.pointer (some ⟨_, 0, none⟩)) (.cells (rqV q0 p0) 33 (0, 0)) (alloc_rq _ _ rfl _) ?_)
    | (refine wpList_store_row rfl 33 (.tmp 8) (.tmp 26) rfl w2.heap.size (rqV q' p') rfl rfl 33 _ HZ2.out (rq_size _ _) rfl (rq_one _ _) ?_))
  have HB8 : Hid (Bq ((w2.alloc (.cells (rqV q0 p0) 33)).setRow w2.heap.size (rqV q' p')) w2.heap.size q' p') := setRow_heap _ _ _ _ _ _ HZ2.out
  have hb3 : Below w2.heap.size w2 ((w2.alloc (.cells (rqV q0 p0) 33)).setRow w2.heap.size (rqV q' p')) := Sb.below_setRow _ (Mi.below_alloc (Below.refl _ _)) (Nat.le_refl _)
  obtain ⟨w3, hw3⟩ : ∃ w3, (w2.alloc (.cells (rqV q0 p0) 33)).setRow w2.heap.size (rqV q' p') = w3 := ⟨_, rfl⟩
  rw [hw3] at HB8 hb3 ⊢
  clear hw3 HZ2
  have k3 : Hid (Below w1.heap.size w1 w3) := go_on hb2.out hb3
  have HT3 : Hid (Tn s w3.drew D mb v t) := (h.out.below HT.out.bel).below k3.out.drew
  have hlt2 : Hid (w1.heap.size ≤ w2.heap.size ∧ w2.heap.size < w3.heap.size) := ⟨hb2.out.size, HB8.out.lt⟩
  have hsz : Hid (w1.heap.size = w.heap.size + 3) := HT.out.sz
  have HA3 : Hid (∀ W, Below w3.heap.size w3 W ∨ But (DM D mb) w3 W → W.heap[w.heap.size + 1]? = some (.cells (acV 0 d x R n cr) 40 (0, 0))) := fun W hW => by
    have h3 := (k3.out.block (w.heap.size + 1) (by have := hsz.out; omega)).trans HT.out.a
    rcases hW with hW | hW
    · exact (hW.block _ (by have := hlt2.out; have := hsz.out; omega)).trans h3
    · exact (hW.same _ (by have := hlt2.out; have := hsz.out; omega) (by rintro (e | e) <;> omega)).trans h3
  have HSP := Lib.hid (Set_any HT3 d x)
  rw [HEE.out] at HSP
  refine wp_region_held_drew (S := fun W => Bq W w2.heap.size q' p' ∧ W.heap[w.heap.size + 1]? = some (.cells (acV 0 d x R n cr) 40 (0, 0))) (by kernel_rfl) ⟨HB8.out, HA3.out _ (.inl (Below.refl _ _).drew)⟩ (fun hHeld => ?_)
  refine wpAnyH_take (i := 0) (v := .agg (rqV q' p')) rfl (by kernel_rfl) (by kernel_rfl) (by kernel_rfl) (fun _ _ _ h => h) (yieldsIf_load_rq (by rfl) (.tmp 8) rfl w2.heap.size rfl q' p' (fun W hW => hW.1)) (by first | assumption | exact trivial) ?_
  simp only [Act.put, List.getElem_toArray, List.getElem_cons_succ, List.getElem_cons_zero, List.setIfInBounds_toArray, List.set_cons_zero, List.set_cons_succ]
  refine wpAnyH_take (i := 1) (v := .pointer (some ⟨D, 0, none⟩)) rfl (by kernel_rfl) (by kernel_rfl) (by kernel_rfl) (fun _ _ _ h => h) (Or.inl ⟨by rfl, ?_⟩) (by first | assumption | exact trivial) ?_
  · intro W hSW; go_simp; try (with_reducible rfl)
  simp only [Act.put, List.getElem_toArray, List.getElem_cons_succ, List.getElem_cons_zero, List.setIfInBounds_toArray, List.set_cons_zero, List.set_cons_succ]
  refine wpAnyH_take (i := 2) (v := .pointer (some ⟨w.heap.size + 1, 1, none⟩)) rfl (by kernel_rfl) (by kernel_rfl) (by kernel_rfl) (fun _ _ _ h => h) (Or.inl ⟨by rfl, ?_⟩) (by first | assumption | exact trivial) ?_
  · intro W hSW; go_simp; try (with_reducible rfl)
  simp only [Act.put, List.getElem_toArray, List.getElem_cons_succ, List.getElem_cons_zero, List.setIfInBounds_toArray, List.set_cons_zero, List.set_cons_succ]
  refine wpAnyH_take (i := 3) (v := .int .i64 d) rfl (by kernel_rfl) (by kernel_rfl) (by kernel_rfl) (fun _ _ _ h => h) (Or.inl ⟨by rfl, ?_⟩) (by first | assumption | exact trivial) ?_
  · intro W hSW; have qd := (act_cells hSW.2).2.1; go_simp; try (with_reducible rfl)
  simp only [Act.put, List.getElem_toArray, List.getElem_cons_succ, List.getElem_cons_zero, List.setIfInBounds_toArray, List.set_cons_zero, List.set_cons_succ]
  refine wpAnyH_take (i := 4) (v := .pointer (some ⟨w.heap.size + 1, 2, none⟩)) rfl (by kernel_rfl) (by kernel_rfl) (by kernel_rfl) (fun _ _ _ h => h) (Or.inl ⟨by rfl, ?_⟩) (by first | assumption | exact trivial) ?_
  · intro W hSW; go_simp; try (with_reducible rfl)
  simp only [Act.put, List.getElem_toArray, List.getElem_cons_succ, List.getElem_cons_zero, List.setIfInBounds_toArray, List.set_cons_zero, List.set_cons_succ]
  refine wpAnyH_take (i := 5) (v := .int .i64 x) rfl (by kernel_rfl) (by kernel_rfl) (by kernel_rfl) (fun _ _ _ h => h) (Or.inl ⟨by rfl, ?_⟩) (by first | assumption | exact trivial) ?_
  · intro W hSW; have qx := (act_cells hSW.2).2.2.1; go_simp; try (with_reducible rfl)
  simp only [Act.put, List.getElem_toArray, List.getElem_cons_succ, List.getElem_cons_zero, List.setIfInBounds_toArray, List.set_cons_zero, List.set_cons_succ]
  refine wpAnyH_take (i := 7) (v := .int .i64 E) rfl (by kernel_rfl) (by kernel_rfl) (by kernel_rfl) (fun _ _ _ h => h) (Or.inl ⟨by rfl, ?_⟩) (by first | assumption | exact trivial) ?_
  · intro W hSW; go_simp; try (with_reducible rfl)
  simp only [Act.put, List.getElem_toArray, List.getElem_cons_succ, List.getElem_cons_zero, List.setIfInBounds_toArray, List.set_cons_zero, List.set_cons_succ]
  refine wpAnyH_ready (rs := [6]) (by kernel_rfl) (by simp) ?_
  refine AllReadyH.cons rfl (fun K hK => ?_) AllReadyH.nil
  go_simp
  go_wp2_with (go_at_call 30; refine HSP.out.mono ?_; rintro e w4 ⟨rfl, ht4, hb4⟩)
  have hb34 : But (DM D mb) w3 w4 := (bel_but (Below.refl _ _).drew hb4.out)
  have hB84 : Bq w4 w2.heap.size q' p' := (hb34.same _ hlt2.out.2 (by rintro (e | e) <;> (have := hlt2.out; have := hsz.out; omega))).trans HB8.out
  have hZ4 : Bq w4 (w.heap.size + 2) q0 p0 := (hb34.same _ (by have := hlt2.out; have := hsz.out; omega) (by rintro (e | e) <;> omega)).trans ((k3.out.block _ (by have := hsz.out; omega)).trans HT.out.z)
  refine hK.out _ _ (⟨hB84, HA3.out _ (.inr hb34)⟩) (fun hHeld => ?_)
  clear hK K
  refine wpAnyH_take (i := 8) (v := .bool true) rfl (by kernel_rfl) (by kernel_rfl) (by kernel_rfl) (fun _ _ _ h => h) (Or.inl ⟨by rfl, ?_⟩) (by first | assumption | exact trivial) ?_
  · intro W hSW; go_simp; try (with_reducible rfl)
  simp only [Act.put, List.getElem_toArray, List.getElem_cons_succ, List.getElem_cons_zero, List.setIfInBounds_toArray, List.set_cons_zero, List.set_cons_succ]
  refine wpAnyH_ready (rs := [9]) (by kernel_rfl) (by simp) ?_
  refine AllReadyH.cons rfl (fun K hK => ?_) AllReadyH.nil
  refine wp_store_row 33 (.tmp 6) (.tmp 28) rfl (w.heap.size + 2) (rqV q' p') rfl rfl 33 _ hZ4 (rq_size _ _) rfl (rq_one _ _) ?_
  have hb5 : But (fun k => k = w.heap.size + 2) w4 (w4.setRow (w.heap.size + 2) (rqV q' p')) := (But.refl (fun k => k = w.heap.size + 2) w4).setRow (D := w.heap.size + 2) (.inl rfl) _
  have h5w : But (DM D mb) w (w4.setRow (w.heap.size + 2) (rqV q' p')) := ((bel_but HT.out.bel (bel_but k3.out hb34)).trans hb5 (fun b hb e => by omega))
  have h5t : Tn s (w4.setRow (w.heap.size + 2) (rqV q' p')) D mb v (setT t d x) := ht4.out.but hb5 (by omega) (by omega) fun k hk e => by have := h.out.tq.ltv k hk; omega
  have hr2 : Rq (fun b => NM D mb X b ∧ b ≠ w.heap.size + 2) w2 (setT t d x) q' p' (c + 1) := hq2.out
  have h5q : Rq (NM D mb X) (w4.setRow (w.heap.size + 2) (rqV q' p')) (setT t d x) q' p' (c + 1) := (((hr2.below hb3).but hb34 fun b hb e => by rcases e with e | e; exact hb.1.1.1 e; exact hb.1.1.2 e).but hb5 fun b hb e => hb.2 e).mono fun b _ hb => hb.1
  refine hK.out _ _ (⟨(hb5.same _ hB84.lt (by have := hlt2.out; have := hsz.out; omega)).trans hB84, (hb5.same _ (by have := hb34.size; have := hlt2.out; have := hsz.out; omega) (by omega)).trans (HA3.out _ (.inr hb34))⟩) (fun hHeld => ?_)
  clear hK K
  refine wpAnyH_take (i := 10) (v := .bool true) rfl (by kernel_rfl) (by kernel_rfl) (by kernel_rfl) (fun _ _ _ h => h) (Or.inl ⟨by rfl, ?_⟩) (by first | assumption | exact trivial) ?_
  · intro W hSW; go_simp; try (with_reducible rfl)
  simp only [Act.put, List.getElem_toArray, List.getElem_cons_succ, List.getElem_cons_zero, List.setIfInBounds_toArray, List.set_cons_zero, List.set_cons_succ]
  refine wpAnyH_done (by kernel_rfl) ?_ _
  go_wp2
  exact ret_box2 rfl rfl (setRow_heap _ _ _ _ _ _ hZ4) rfl Try.underlying33 (rq_size _ _) rfl ⟨q', p', rfl, h5t, h5q, h5w⟩
end Go.Proofs.Ytablejhajilpiaa.Rt
