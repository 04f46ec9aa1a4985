/- The contracts of the reference's Remove, Sync. -/
import Derived.Test.YtdjgkoklkoahbaaDkRSmall
namespace Go.Proofs.Ytdjgkoklkoahbaa.Dk
open Go.RowKit
open Go.Proofs.Ytdjgkoklkoahbaa.Me Go.Proofs.Ytdjgkoklkoahbaa.Hd
set_option linter.unusedVariables false
set_option linter.unusedSimpArgs false

/-- What the reference's calls answer that make a disk anew: the disk, its files in old blocks or new ones, and a code. -/
def ROp (Q : Nat → Prop) (w : World) (s' : St) (c : Nat) (e : Ending) (w' : World) : Prop := ∃ A n k, e = .returned (.tuple #[.agg (rcs s' (.slice A n k)), .int .i64 (c : Int)]) ∧ Hid (Fv (fun b => Q b ∨ w.heap.size ≤ b) w' (.slice A n k) s'.files) ∧ Hid (Below w.heap.size w w')
def zD : Array Value := #[.int .i64 0, .slice none 0 0, .int .i64 0, .bool false]
theorem rcs_one (s : St) (A : Option Addr) (n c : Nat) : (rcs s (.slice A n c)).all (·.oneCell') = true := by simp [rcs, Value.oneCell']
/-- The boxes of the argument and of the result. -/
structure RY (w : World) (s : St) (v : Value) (z : Array Value) (W : World) : Prop where
  x : RX w s v W
  z : W.heap[w.heap.size + 1]? = some (.cells z 29 (0, 0))
section
variable {w W W' : World} {s : St} {v : Value} {z : Array Value}
theorem RY.new (w : World) (s : St) (v : Value) : RY w s v zD ((w.alloc (.cells (rcs s v) 29)).alloc (.cells zD 29)) := by
  refine ⟨(RX.new w s v).alloc _, ?_⟩
  have := heap_alloc_new (w.alloc (.cells (rcs s v) 29)) (.cells zD 29)
  rw [World.size_alloc] at this
  exact this
theorem RY.lt (h : RY w s v z W) : w.heap.size + 1 < W.heap.size := (Array.getElem?_eq_some_iff.1 h.z).1
theorem RY.grow (h : RY w s v z W) (hb : Below W.heap.size W W') : RY w s v z W' := ⟨h.x.grow hb, (hb.block _ h.lt).trans h.z⟩
theorem RY.alloc (h : RY w s v z W) (o : Obj) : RY w s v z (W.alloc o) := h.grow (Me.below_alloc (Below.refl _ _))
theorem RY.drew (h : RY w s v z W) : RY w s v z W.drew := h.grow ((Below.refl _ W).drew)
theorem RY.store (h : RY w s v z W) (cs : Array Value) : RY w s v cs (W.setRow (w.heap.size + 1) cs) := ⟨h.x.setRow (by omega) cs, setRow_heap _ _ _ _ _ _ h.z⟩
theorem RY.other (h : RY w s v z W) {g : Nat} (hg : w.heap.size + 1 < g) (cs : Array Value) : RY w s v z (W.setRow g cs) := ⟨h.x.setRow (by omega) cs, (setRow_other _ _ _ _ (by omega)).trans h.z⟩
end
theorem ret_cell {fn : Func} {R : Ending → World → Prop} {a : Act} {w : World} {g : Nat} {cs : Array Value} {p u : Tmp} {ty t : TypeId} {fr : Nat × Nat} {d : TypeDesc} (hres : fn.results = #[.cell p ty, .tmp u]) (hp : a.tmps.getD p undef = .pointer (some ⟨g, 0, none⟩)) (hg : w.heap[g]? = some (.cells cs t fr))
    (hd : d.isRow = true) (hu : Try.prog.underlying ty = some d) (hi : (Try.prog.info? ty).map (·.size) = some cs.size) (hdef : a.defers = [])
    (hR : R (.returned (.tuple #[.agg cs, a.tmps.getD u undef])) w) : bodyPost Try.prog fn R .ret a w :=
  bodyPost_ret (v := .tuple #[.agg cs, a.tmps.getD u undef]) (by rw [results_cell_tmp hres, hp]; simp only [asAddr, Sem.run_pure, Result.andThen_ok, run_loadVar_row w g t ty cs fr d hg hu (by cases d <;> first | rfl | cases hd) hi]) hdef hR
theorem fv_old {Q : Nat → Prop} {w W : World} {v : Value} {L : Fs} (h : Fv Q w v L) (hb : Below w.heap.size w W) : Fv (fun b => Q b ∨ w.heap.size ≤ b) W v L := (h.below hb).mono fun _ _ h => .inl h
theorem fv_new {Q : Nat → Prop} {w W W' : World} {v : Value} {L : Fs} (h : Fv (fun b => W.heap.size ≤ b) W' v L) (hb : w.heap.size ≤ W.heap.size) : Fv (fun b => Q b ∨ w.heap.size ≤ b) W' v L := h.mono fun _ _ h => .inr (Nat.le_trans hb h)
/-- Out of reach of a store into the result's box. -/
theorem fv_keep {Q : Nat → Prop} {W : World} {g : Nat} {v : Value} {L : Fs} (h : Fv Q W v L) (hg : ¬ Q g) (cs : Array Value) : Fv Q (W.setRow g cs) v L :=
  h.but (S := fun k => k = g) ⟨rfl, rfl, rfl, by simp [World.setRow], fun k _ hk => setRow_other _ _ k _ hk⟩ fun k hk e => hg (e ▸ hk)
section
variable {Q : Nat → Prop} (w : World) (s : St) (v : Value) (hv : Hid (Fv Q w v s.files))
include hv
set_option maxRecDepth 100000 in
set_option maxHeartbeats 4000000 in
theorem RRemove_any (ok : s.Ok) (n : Nm) : Calls Try.prog 41 #[.agg (rcs s v), nmV n] w (ROp Q w (remS s n) (findE s n)) := by
  obtain ⟨A, c, rfl, h1, h2⟩ := hv.out.form
  have TH := Lib.hid (fun (W : World) (hW : RX w s (.slice A s.files.length c) W) => There_any W s (.slice A s.files.length c) (hv.out.below hW.b) ok.srt n)
  have WO := Lib.hid (fun (W : World) (hW : RX w s (.slice A s.files.length c) W) => without_any W (.slice A s.files.length c) s.files (hv.out.below hW.b) (by have := ok.cnt; omega) n)
  have HVO := Lib.hid (fun (W : World) (hW : RX w s (.slice A s.files.length c) W) => fv_old hv.out hW.b)
  have HOK := Lib.hid ok
  obtain ⟨F, hF⟩ : ∃ F, s.files.length = F := ⟨_, rfl⟩
  rw [hF] at h1 TH WO HVO ⊢
  obtain ⟨W0, hW0⟩ : ∃ W0, (w.alloc (.cells (rcs s (.slice A F c)) 29)).alloc (.cells zD 29) = W0 := ⟨_, rfl⟩
  have HWE := Lib.hid hW0
  have HY0 : Hid (RY w s (.slice A F c) zD W0) := by show RY _ _ _ _ _; rw [← hW0]; exact RY.new w s (.slice A F c)
  obtain ⟨y0, y1, y2, y3⟩ := HY0.out.x.cells
  rw [← hW0] at y0 y1 y2 y3
  show Calls Try.prog 41 #[.agg #[.int .i64 (s.limit : Int), .slice A F c, .int .i64 (leftI s), .bool s.down], nmV n] w _
  unfold rcs zD at HWE y0 y1 y2 y3
  clear hW0 hF ok
  by_cases he : findE s n = 0
  · have hd := (findE_ok he).1
    have CH := Lib.hid (fun (W : World) (A2 : Option Addr) (n2 c2 : Nat) => rchanged_any W s (.slice A F c) A2 n2 c2 hd HOK.out.left (del s.files n))
    have HE : Hid (remS s n = chg s (del s.files n)) := by show _ = _; unfold remS; rw [if_pos he]
    rw [he] at TH ⊢
    clear he hd
    go_enter Try.func41, Try.ntmps41
    go_wp2_with (go_at_call 58; rw [HWE.out]; refine (TH.out W0 HY0.out.x).mono ?_; rintro e w1 ⟨rfl, hb1⟩; have HY1 := Lib.hid (HY0.out.grow hb1.out))
    clear y0 y1 y2 y3
    refine wp_region_held_drew (S := RX w s (.slice A F c)) (by kernel_rfl) HY1.out.drew.x (fun hHeld => ?_)
    refine wpAnyH_take (i := 0) (v := ?vz1) rfl (by kernel_rfl) (by kernel_rfl) (by kernel_rfl) (fun _ _ _ h => h) (Or.inl ⟨by rfl, ?hyz1⟩) (by first | assumption | exact trivial) ?restz1
    case hyz1 => intro W hSW; obtain ⟨r0, r1, r2, r3⟩ := hSW.cells; go_simp; try (with_reducible rfl)
    simp only [Act.put, List.getElem_toArray, List.getElem_cons_succ, List.getElem_cons_zero, List.setIfInBounds_toArray, List.set_cons_zero, List.set_cons_succ]
    refine wpAnyH_take (i := 1) (v := ?vz2) rfl (by kernel_rfl) (by kernel_rfl) (by kernel_rfl) (fun _ _ _ h => h) (Or.inl ⟨by rfl, ?hyz2⟩) (by first | assumption | exact trivial) ?restz2
    case hyz2 => intro W hSW; go_simp; try (with_reducible rfl)
    simp only [Act.put, List.getElem_toArray, List.getElem_cons_succ, List.getElem_cons_zero, List.setIfInBounds_toArray, List.set_cons_zero, List.set_cons_succ]
    refine wpAnyH_take (i := 2) (v := ?vz3) rfl (by kernel_rfl) (by kernel_rfl) (by kernel_rfl) (fun _ _ _ h => h) (Or.inl ⟨by rfl, ?hyz3⟩) (by first | assumption | exact trivial) ?restz3
    case hyz3 => intro W hSW; obtain ⟨r0, r1, r2, r3⟩ := hSW.cells; go_simp; try (with_reducible rfl)
    simp only [Act.put, List.getElem_toArray, List.getElem_cons_succ, List.getElem_cons_zero, List.setIfInBounds_toArray, List.set_cons_zero, List.set_cons_succ]
    refine wpAnyH_take (i := 3) (v := ?vz4) rfl (by kernel_rfl) (by kernel_rfl) (by kernel_rfl) (fun _ _ _ h => h) (Or.inl ⟨by rfl, ?hyz4⟩) (by first | assumption | exact trivial) ?restz4
    case hyz4 => intro W hSW; go_simp; try (with_reducible rfl)
    simp only [Act.put, List.getElem_toArray, List.getElem_cons_succ, List.getElem_cons_zero, List.setIfInBounds_toArray, List.set_cons_zero, List.set_cons_succ]
    refine wpAnyH_ready (rs := [4]) (by kernel_rfl) (by simp) ?_
    refine AllReadyH.cons rfl (fun K hK => ?_) AllReadyH.nil
    go_simp
    go_wp2_with (go_at_call 59; refine (WO.out w1.drew HY1.out.drew.x).mono ?_; rintro e w2 ⟨v2, rfl, hv2, hb2⟩; obtain ⟨A2, c2, rfl, _, _⟩ := hv2.out.form)
    have HY2 := Lib.hid (HY1.out.drew.grow hb2.out)
    refine hK.out _ _ (HY2.out.x) (fun hHeld => ?_)
    clear hK K
    refine wpAnyH_ready (rs := [5]) (by kernel_rfl) (by simp) ?_
    refine AllReadyH.cons rfl (fun K hK => ?_) AllReadyH.nil
    go_simp
    go_wp2_with (go_at_call 56; refine (CH.out w2 _ _ _).mono ?_; rintro e w3 ⟨rfl, hb3⟩)
    have HY3 := Lib.hid (HY2.out.grow hb3.out)
    refine hK.out _ _ (HY3.out.x) (fun hHeld => ?_)
    clear hK K
    refine wpAnyH_ready (rs := [6]) (by kernel_rfl) (by simp) ?_
    refine AllReadyH.cons rfl (fun K hK => ?_) AllReadyH.nil
    rw [if_pos (by kernel_rfl)]
    refine wp_store_row 29 (.tmp 4) (.tmp 19) rfl (w.heap.size + 1) (rcs (chg s (del s.files n)) (.slice A2 (del s.files n).length c2)) rfl (by rfl) 29 _ HY3.out.z (by kernel_rfl) rfl (rcs_one _ _ _ _) ?_
    simp only [Act.put, List.getElem_toArray, List.getElem_cons_succ, List.getElem_cons_zero, List.setIfInBounds_toArray, List.set_cons_zero, List.set_cons_succ]
    have HY4 := Lib.hid (HY3.out.store (rcs (chg s (del s.files n)) (.slice A2 (del s.files n).length c2)))
    refine hK.out _ _ (HY4.out.x) (fun hHeld => ?_)
    clear hK K
    refine wpAnyH_take (i := 7) (v := ?vz5) rfl (by kernel_rfl) (by kernel_rfl) (by kernel_rfl) (fun _ _ _ h => h) (Or.inl ⟨by rfl, ?hyz5⟩) (by first | assumption | exact trivial) ?restz5
    case hyz5 => intro W hSW; go_simp; try (with_reducible rfl)
    simp only [Act.put, List.getElem_toArray, List.getElem_cons_succ, List.getElem_cons_zero, List.setIfInBounds_toArray, List.set_cons_zero, List.set_cons_succ]
    refine wpAnyH_done (by kernel_rfl) ?_ _
    go_wp2
    refine ret_cell rfl rfl HY4.out.z rfl Try.underlying29 (by kernel_rfl) rfl ?_
    have hz1 := HY1.out.lt
    refine ⟨A2, _, c2, by rw [HE.out]; rfl, ?_, HY4.out.x.b⟩
    rw [HE.out]
    have q1 : Fv (fun b => w1.drew.heap.size ≤ b) w3 (.slice A2 (del s.files n).length c2) (del s.files n) := hv2.out.below hb3.out
    exact fv_new (fv_keep q1 (by show ¬ w1.heap.size ≤ _; omega) _) (by show w.heap.size ≤ w1.heap.size; omega)
  · have HE : Hid (remS s n = s) := by show _ = _; unfold remS; rw [if_neg he]
    obtain ⟨q, hq⟩ : ∃ q, findE s n = q := ⟨_, rfl⟩
    rw [hq] at he TH ⊢
    have hne : ((q : Int) == 0) = false := beq_eq_false_iff_ne.mpr (by omega)
    have hne2 : ((q : Int) != 0) = true := by rw [bne, hne]; rfl
    clear he hq
    go_enter Try.func41, Try.ntmps41
    go_wp2_with (go_at_call 58; rw [HWE.out]; refine (TH.out W0 HY0.out.x).mono ?_; rintro e w1 ⟨rfl, hb1⟩; have HY1 := Lib.hid (HY0.out.grow hb1.out))
    clear y0 y1 y2 y3
    refine wp_region_held_drew (S := RX w s (.slice A F c)) (by kernel_rfl) HY1.out.drew.x (fun hHeld => ?_)
    refine wpAnyH_take (i := 0) (v := ?vz6) rfl (by kernel_rfl) (by kernel_rfl) (by kernel_rfl) (fun _ _ _ h => h) (Or.inl ⟨by rfl, ?hyz6⟩) (by first | assumption | exact trivial) ?restz6
    case hyz6 => intro W hSW; obtain ⟨r0, r1, r2, r3⟩ := hSW.cells; go_simp; try (with_reducible rfl)
    simp only [Act.put, List.getElem_toArray, List.getElem_cons_succ, List.getElem_cons_zero, List.setIfInBounds_toArray, List.set_cons_zero, List.set_cons_succ]
    refine wpAnyH_take (i := 1) (v := ?vz7) rfl (by kernel_rfl) (by kernel_rfl) (by kernel_rfl) (fun _ _ _ h => h) (Or.inl ⟨by rfl, ?hyz7⟩) (by first | assumption | exact trivial) ?restz7
    case hyz7 => intro W hSW; obtain ⟨r0, r1, r2, r3⟩ := hSW.cells; go_simp; try (with_reducible rfl)
    simp only [Act.put, List.getElem_toArray, List.getElem_cons_succ, List.getElem_cons_zero, List.setIfInBounds_toArray, List.set_cons_zero, List.set_cons_succ]
    refine wpAnyH_take (i := 2) (v := ?vz8) rfl (by kernel_rfl) (by kernel_rfl) (by kernel_rfl) (fun _ _ _ h => h) (Or.inl ⟨by rfl, ?hyz8⟩) (by first | assumption | exact trivial) ?restz8
    case hyz8 => intro W hSW; go_simp; try (with_reducible rfl)
    simp only [Act.put, List.getElem_toArray, List.getElem_cons_succ, List.getElem_cons_zero, List.setIfInBounds_toArray, List.set_cons_zero, List.set_cons_succ]
    refine wpAnyH_ready (rs := [3]) (by kernel_rfl) (by simp) ?_
    refine AllReadyH.cons rfl (fun K hK => ?_) AllReadyH.nil
    go_simp
    go_wp2_with (go_at_call 58; refine (TH.out w1.drew HY1.out.drew.x).mono ?_; rintro e w2 ⟨rfl, hb2⟩)
    have HY2 := Lib.hid (HY1.out.drew.grow hb2.out)
    refine hK.out _ _ (HY2.out.x) (fun hHeld => ?_)
    clear hK K
    refine wpAnyH_ready (rs := [4]) (by kernel_rfl) (by simp) ?_
    refine AllReadyH.cons rfl (fun K hK => ?_) AllReadyH.nil
    rw [if_pos (by kernel_rfl)]
    refine wp_store_row 29 (.tmp 4) (.tmp 10) rfl (w.heap.size + 1) (rcs s (.slice A F c)) rfl (by rfl) 29 _ HY2.out.z (by kernel_rfl) rfl (rcs_one _ _ _ _) ?_
    simp only [Act.put, List.getElem_toArray, List.getElem_cons_succ, List.getElem_cons_zero, List.setIfInBounds_toArray, List.set_cons_zero, List.set_cons_succ]
    have HY3 := Lib.hid (HY2.out.store (rcs s (.slice A F c)))
    refine hK.out _ _ (HY3.out.x) (fun hHeld => ?_)
    clear hK K
    refine wpAnyH_take (i := 5) (v := ?vz9) rfl (by kernel_rfl) (by kernel_rfl) (by kernel_rfl) (fun _ _ _ h => h) (Or.inl ⟨by rfl, ?hyz9⟩) (by first | assumption | exact trivial) ?restz9
    case hyz9 => intro W hSW; go_simp; try (with_reducible rfl)
    simp only [Act.put, List.getElem_toArray, List.getElem_cons_succ, List.getElem_cons_zero, List.setIfInBounds_toArray, List.set_cons_zero, List.set_cons_succ]
    refine wpAnyH_done (by kernel_rfl) ?_ _
    go_wp2
    refine ret_cell rfl rfl HY3.out.z rfl Try.underlying29 (by kernel_rfl) rfl ?_
    exact ⟨A, F, c, by rw [HE.out]; rfl, by rw [HE.out]; exact HVO.out _ HY3.out.x, HY3.out.x.b⟩
end
end Go.Proofs.Ytdjgkoklkoahbaa.Dk
