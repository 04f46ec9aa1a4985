/- The disk and the reference's disk side by side; the law's steps but appends, reads and crashes. -/
import Derived.Test.YtdjgkoklkoahbaaDkROpsC
import Derived.Test.YtdjgkoklkoahbaaDkROpsD
import Derived.Test.YtdjgkoklkoahbaaDkROpsE
import Derived.Test.YtdjgkoklkoahbaaDkRCrash
import Derived.Test.YtdjgkoklkoahbaaDkCrashB
import Derived.Test.YtdjgkoklkoahbaaDkActs
namespace Go.Proofs.Ytdjgkoklkoahbaa.Dk
open Go.RowKit
open Go.Proofs.Ytdjgkoklkoahbaa.Me Go.Proofs.Ytdjgkoklkoahbaa.Hd
set_option linter.unusedVariables false
set_option linter.unusedSimpArgs false

/-- The disk at D, in blocks G, and the reference's files at v, in others, are both st. -/
structure Pz (G : Nat → Prop) (w : World) (D mb : Nat) (st : St) (v : Value) : Prop where
  dq : Dq G w D mb st
  ok : st.Ok
  fv : Fv (fun k => ¬ G k) w v st.files
  lt : ∀ k, G k → k < w.heap.size
/-- What a step of the law answers, and leaves. -/
def StepP (G : Nat → Prop) (w : World) (D mb : Nat) (e : Ending) (w' : World) : Prop :=
  ∃ st' A n c G', e = .returned (.tuple #[.agg (rcs st' (.slice A n c)), .bool true]) ∧ Hid (Pz G' w' D mb st' (.slice A n c)) ∧ Hid (∀ k, k < w.heap.size → G' k → G k) ∧ Hid (But G w w')
/-- The law's boxes of its arguments and of its result. -/
structure Sb (N : Nat) (st : St) (v : Value) (ac : Array Value) (W : World) : Prop where
  x : W.heap[N]? = some (.cells (rcs st v) 29 (0, 0))
  a : W.heap[N + 1]? = some (.cells ac 36 (0, 0))
  z : W.heap[N + 1 + 1]? = some (.cells zD 29 (0, 0))
theorem Sb.lt {N : Nat} {st : St} {v : Value} {ac : Array Value} {W : World} (h : Sb N st v ac W) : N + 1 + 1 < W.heap.size := (Array.getElem?_eq_some_iff.1 h.z).1
theorem Sb.but {N : Nat} {st : St} {v : Value} {ac : Array Value} {W W' : World} {S : Nat → Prop} (h : Sb N st v ac W) (hb : But S W W') (hS : ∀ k, N ≤ k → k < N + 3 → ¬ S k) : Sb N st v ac W' := by
  have := h.lt
  exact ⟨(hb.same _ (by omega) (hS _ (by omega) (by omega))).trans h.x, (hb.same _ (by omega) (hS _ (by omega) (by omega))).trans h.a, (hb.same _ (by omega) (hS _ (by omega) (by omega))).trans h.z⟩
theorem Sb.grow {N : Nat} {st : St} {v : Value} {ac : Array Value} {W W' : World} (h : Sb N st v ac W) (hb : Below W.heap.size W W') : Sb N st v ac W' := h.but (S := fun _ => False) (But.of_below hb) fun _ _ _ => id
theorem Sb.new (w : World) (st : St) (v : Value) (ac : Array Value) : Sb w.heap.size st v ac (((w.alloc (.cells (rcs st v) 29)).alloc (.cells ac 36)).alloc (.cells zD 29)) := by
  have h1 := heap_alloc_new (w.alloc (.cells (rcs st v) 29)) (.cells ac 36)
  have h2 := heap_alloc_new ((w.alloc (.cells (rcs st v) 29)).alloc (.cells ac 36)) (.cells zD 29)
  simp only [World.size_alloc] at h1 h2
  refine ⟨(Below.heap_alloc _ _ _ (by simp; omega)).trans ((Below.heap_alloc _ _ _ (by simp)).trans (heap_alloc_new w _)), (Below.heap_alloc _ _ _ (by simp)).trans h1, h2⟩
theorem Sb.act {N : Nat} {st : St} {v : Value} {ac : Array Value} {W : World} (h : Sb N st v ac W) (i : Nat) : W.cell? ⟨N + 1, i, none⟩ = ac[i]? := cell_of_row W _ i _ _ (0, 0) h.a
/-- Behind the disk's call and the store of the result: both are as before. -/
theorem step_fin {G : Nat → Prop} {w W2 W3 : World} {D mb : Nat} {st st' : St} {v v' : Value} (h : Pz G w D mb st v) (b2 : Below w.heap.size w W2) (n2 : w.heap.size + 3 ≤ W2.heap.size)
    (hf : Fv (fun k => (¬ G k ∧ k < w.heap.size) ∨ w.heap.size + 3 ≤ k) W2 v' st'.files) (hd : Dq (Gn G W2.heap.size) W3 D mb st') (hb : But G W2 W3) (ok : st'.Ok) (cs : Array Value) :
    ∃ G', Pz G' (W3.setRow (w.heap.size + 1 + 1) cs) D mb st' v' ∧ (∀ k, k < w.heap.size → G' k → G k) ∧ But G w (W3.setRow (w.heap.size + 1 + 1) cs) := by
  have hl := h.lt
  have hs := hb.size
  have bs : But (fun k => k = w.heap.size + 1 + 1) W3 (W3.setRow (w.heap.size + 1 + 1) cs) := ⟨rfl, rfl, rfl, by simp [World.setRow], fun k _ hk => setRow_other _ _ k _ hk⟩
  refine ⟨fun k => G k ∨ (W2.heap.size ≤ k ∧ k < W3.heap.size), ⟨?_, ok, ?_, ?_⟩, ?_, ?_⟩
  · refine (hd.mono (G' := fun k => G k ∨ (W2.heap.size ≤ k ∧ k < W3.heap.size)) fun k hk hg => ?_).but bs fun k hk e => ?_
    · rcases hg with hg | hg
      · exact .inl hg
      · exact .inr ⟨hg, hk⟩
    · subst e
      rcases hk with hk | hk
      · have := hl _ hk; omega
      · omega
  · have f1 : Fv (fun k => ((¬ G k ∧ k < w.heap.size) ∨ w.heap.size + 3 ≤ k) ∧ k < W2.heap.size) W2 v' st'.files := hf.mono fun k hk hq => ⟨hq, hk⟩
    have f2 : Fv (fun k => ((¬ G k ∧ k < w.heap.size) ∨ w.heap.size + 3 ≤ k) ∧ k < W2.heap.size) W3 v' st'.files := f1.but hb fun k hk hg => by
      rcases hk.1 with h1 | h1
      · exact h1.1 hg
      · have := hl _ hg; omega
    have f3 := f2.but bs fun k hk e => by
      subst e
      rcases hk.1 with h1 | h1
      · omega
      · omega
    refine f3.mono fun k _ hk hg => ?_
    rcases hg with hg | hg
    · rcases hk.1 with h1 | h1
      · exact h1.1 hg
      · have := hl _ hg; omega
    · omega
  · intro k hk
    have e : (W3.setRow (w.heap.size + 1 + 1) cs).heap.size = W3.heap.size := by simp [World.setRow]
    rw [e]
    rcases hk with hk | hk
    · have := hl _ hk; omega
    · exact hk.2
  · intro k hk hg
    rcases hg with hg | hg
    · exact hg
    · omega
  · have b3 : But G w W3 := (But.of_below (S := G) b2).trans hb fun _ _ h => h
    have hle : w.heap.size ≤ W3.heap.size := b3.size
    exact ⟨b3.os, b3.tape, b3.output, by simp [World.setRow]; exact hle, fun k hk hn => (setRow_other _ _ _ _ (by omega)).trans (b3.same k hk hn)⟩
theorem Dq.gn {G : Nat → Prop} {w : World} {D mb n : Nat} {st : St} (h : Dq G w D mb st) : Dq (Gn G n) w D mb st := h.mono fun _ _ h => .inl h
section
variable {G : Nat → Prop} (w : World) (D mb : Nat) (st : St)
theorem Limit_o (h : Hid (Dq G w D mb st)) (k : Int) : Calls Try.prog 30 #[.pointer (some ⟨D, 0, none⟩), .int .i64 k] w (OpP G w D mb (limS st k) (limE k)) :=
  (Limit_any w D mb st h k).mono fun e w' ⟨h1, h2, h3⟩ => ⟨h1, h2.out.gn, h3⟩
theorem Arm_o (h : Hid (Dq G w D mb st)) (k : Int) : Calls Try.prog 29 #[.pointer (some ⟨D, 0, none⟩), .int .i64 k] w (OpP G w D mb (armS st k) (armE st)) :=
  (Arm_any w D mb st h k).mono fun e w' ⟨h1, h2, h3⟩ => ⟨h1, h2.out.gn, h3⟩
end
/-- The reference's files, when the boxes have been laid. -/
theorem Pz.fv0 {G : Nat → Prop} {w W : World} {D mb : Nat} {st : St} {v : Value} (h : Pz G w D mb st v) (hb : Below w.heap.size w W) : Fv (fun k => ¬ G k ∧ k < w.heap.size) W v st.files := (h.fv.mono fun k hk hq => ⟨hq, hk⟩).below hb
/-- The box of what the reference's call answered. -/
structure XB (N : Nat) (st : St) (v : Value) (ac : Array Value) (g : Nat) (st' : St) (v' : Value) (W : World) : Prop where
  s : Sb N st v ac W
  x : W.heap[g]? = some (.cells (rcs st' v') 29 (0, 0))
theorem x_box {N : Nat} {st st' : St} {v v' : Value} {ac : Array Value} {W : World} (h : Sb N st v ac W) : XB N st v ac W.heap.size st' v' ((W.alloc (.cells zD 29)).setRow W.heap.size (rcs st' v')) ∧ Below W.heap.size W ((W.alloc (.cells zD 29)).setRow W.heap.size (rcs st' v')) ∧ ((W.alloc (.cells zD 29)).setRow W.heap.size (rcs st' v')).heap.size = W.heap.size + 1 := by
  have b1 : Below W.heap.size W ((W.alloc (.cells zD 29)).setRow W.heap.size (rcs st' v')) :=
    (Me.below_alloc (Below.refl _ W)).trans ⟨rfl, rfl, rfl, by simp [World.setRow], fun k hk => setRow_other _ _ k _ (by omega)⟩
  exact ⟨⟨h.grow b1, setRow_heap _ _ _ _ _ _ (heap_alloc_new W _)⟩, b1, by simp [World.setRow]⟩
theorem XB.but {N g : Nat} {st st' : St} {v v' : Value} {ac : Array Value} {W W' : World} {S : Nat → Prop} (h : XB N st v ac g st' v' W) (hb : But S W W') (hS : ∀ k, N ≤ k → ¬ S k) (hg : N ≤ g) : XB N st v ac g st' v' W' := ⟨h.s.but hb fun k hk _ => hS k hk, (hb.same _ (Array.getElem?_eq_some_iff.1 h.x).1 (hS g hg)).trans h.x⟩
theorem XB.store {N g : Nat} {st st' : St} {v v' : Value} {ac : Array Value} {W : World} (h : XB N st v ac g st' v' W) (hg : N + 1 + 1 < g) (cs : Array Value) : (W.setRow (N + 1 + 1) cs).heap[g]? = some (.cells (rcs st' v') 29 (0, 0)) ∧ (W.setRow (N + 1 + 1) cs).heap[N + 1]? = some (.cells ac 36 (0, 0)) ∧ (W.setRow (N + 1 + 1) cs).heap[N + 1 + 1]? = some (.cells cs 29 (0, 0)) :=
  ⟨(setRow_other _ _ _ _ (by omega)).trans h.x, (setRow_other _ _ _ _ (by omega)).trans h.s.a, setRow_heap _ _ _ _ _ _ h.s.z⟩
/-- What a region of the step holds. -/
def SS (N : Nat) (ac : Array Value) (g : Nat) (st' : St) (v' : Value) (W : World) : Prop := W.heap[g]? = some (.cells (rcs st' v') 29 (0, 0)) ∧ W.heap[N + 1]? = some (.cells ac 36 (0, 0))
theorem XB.ss {N g : Nat} {st st' : St} {v v' : Value} {ac : Array Value} {W : World} (h : XB N st v ac g st' v' W) : SS N ac g st' v' W := ⟨h.x, h.s.a⟩
theorem SS.c {N g : Nat} {st' : St} {v' : Value} {ac : Array Value} {W : World} (h : SS N ac g st' v' W) : W.cell? ⟨g, 0, none⟩ = some (.int .i64 (st'.limit : Int)) ∧ W.cell? ⟨g, 1, none⟩ = some v' ∧ W.cell? ⟨g, 2, none⟩ = some (.int .i64 (leftI st')) ∧ W.cell? ⟨g, 3, none⟩ = some (.bool st'.down) := row_cells4 h.1
theorem SS.a {N g : Nat} {st' : St} {v' : Value} {ac : Array Value} {W : World} (h : SS N ac g st' v' W) (i : Nat) : W.cell? ⟨N + 1, i, none⟩ = ac[i]? := cell_of_row W _ i _ _ (0, 0) h.2
section
variable {G : Nat → Prop} (w : World) (D mb : Nat) (st : St) (A : Option Addr) (n c : Nat) (h : Hid (Pz G w D mb st (.slice A n c)))
include h
set_option maxRecDepth 100000 in
set_option maxHeartbeats 4000000 in
theorem step1 (nm to : Nm) (pv : Value) (an : Int) (kv : Value) : Calls Try.prog 15 #[.pointer (some ⟨D, 0, none⟩), .agg (rcs st (.slice A n c)), .agg #[.int .i64 1, nmV nm, nmV to, pv, .int .i64 an, kv]] w (StepP G w D mb) := by
  obtain ⟨W0, hW0⟩ : ∃ W0, ((w.alloc (.cells (rcs st (.slice A n c)) 29)).alloc (.cells #[.int .i64 1, nmV nm, nmV to, pv, .int .i64 an, kv] 36)).alloc (.cells zD 29) = W0 := ⟨_, rfl⟩
  have HWE := Lib.hid hW0
  have HB0 : Hid (Sb w.heap.size st (.slice A n c) #[.int .i64 1, nmV nm, nmV to, pv, .int .i64 an, kv] W0) := by show Sb _ _ _ _ _; rw [← hW0]; exact Sb.new w st _ _
  have HD0 : Hid (Below w.heap.size w W0) := by show Below _ _ _; rw [← hW0]; exact Me.below_alloc (Me.below_alloc (Me.below_alloc (Below.refl _ _)))
  have HN0 : Hid (W0.heap.size = w.heap.size + 3) := by show _ = _; rw [← hW0]; simp
  have HF0 : Hid (Fv (fun k => ¬ G k ∧ k < w.heap.size) W0 (.slice A n c) st.files) := h.out.fv0 HD0.out
  obtain ⟨y0, y1, y2, y3⟩ := row_cells4 HB0.out.x
  have a0 := HB0.out.act 0
  have a1 := HB0.out.act 1
  rw [← hW0] at y0 y1 y2 y3 a0 a1
  have HR := Lib.hid (RSync_any W0 st (.slice A n c) HF0 h.out.ok nm)
  obtain ⟨st', hst⟩ : ∃ st', syncS st nm = st' := ⟨_, rfl⟩
  obtain ⟨cc, hcc⟩ : ∃ cc : Nat, findE st nm = cc := ⟨_, rfl⟩
  have HOK : Hid st'.Ok := by rw [← hst]; exact h.out.ok.sync nm
  have HDF : Hid (∀ W, Below w.heap.size w W → Calls Try.prog 23 #[.pointer (some ⟨D, 0, none⟩), nmV nm] W (OpP G W D mb st' cc)) := fun W hW => by
    rw [← hst, ← hcc]
    exact Sync_any W D mb st (h.out.dq.below hW) h.out.ok nm
  rw [hst, hcc] at HR
  show Calls Try.prog 15 #[.pointer (some ⟨D, 0, none⟩), .agg #[.int .i64 (st.limit : Int), .slice A n c, .int .i64 (leftI st), .bool st.down], .agg #[.int .i64 1, nmV nm, nmV to, pv, .int .i64 an, kv]] w _
  unfold rcs zD at HWE y0 y1 y2 y3 a0 a1
  clear hW0 hst hcc
  go_enter Try.func15, Try.ntmps15
  go_wp2_with (first
    | (go_at_call 38; rw [HWE.out]; refine HR.out.mono ?_; rintro e w1 ⟨A2, n2, c2, rfl, hf1, hb1⟩; have HB1 := Lib.hid (HB0.out.grow hb1.out); clear y0 y1 y2 y3 a0 a1)
    | (refine wpList_store_row rfl 29 (.tmp 10) (.tmp 58) rfl w1.heap.size (rcs st' (.slice A2 n2 c2)) rfl rfl 29 _ (heap_alloc_new w1 _) (by kernel_rfl) rfl (rcs_one _ _ _ _) ?_; have hxb := x_box (st' := st') (v' := .slice A2 n2 c2) HB1.out; obtain ⟨W2, hW2⟩ : ∃ W2, (w1.alloc (.cells #[.int .i64 0, .slice none 0 0, .int .i64 0, .bool false] 29)).setRow w1.heap.size (rcs st' (.slice A2 n2 c2)) = W2 := ⟨_, rfl⟩; unfold zD at hxb; rw [hW2] at hxb ⊢; obtain ⟨gx, hgx⟩ : ∃ gx, w1.heap.size = gx := ⟨_, rfl⟩; have hg3 : w.heap.size + 3 ≤ gx := (by have h1 := HN0.out; have h2 := hb1.out.size; omega); have hbw : Below w.heap.size w W2 := (HD0.out.trans (hb1.out.mono HD0.out.size)).trans (hxb.2.1.mono (by omega)); have hf2 := hf1.out.below hxb.2.1; have hn2 := hxb.2.2; simp only [hgx] at hxb hn2 ⊢; have HX2 := Lib.hid hxb.1; have HG3 := Lib.hid hg3; have HBW := Lib.hid hbw; have HF2 := Lib.hid hf2; have HN2 := Lib.hid hn2; clear hW2 hxb hgx hg3 hbw hf2 hn2))
  have HCALL := Lib.hid (HDF.out W2.drew (HBW.out.trans ((Below.refl _ W2).drew.mono HBW.out.size)))
  refine wp_region_held_drew (S := SS w.heap.size #[.int .i64 1, nmV nm, nmV to, pv, .int .i64 an, kv] gx st' (.slice A2 n2 c2)) (by kernel_rfl) (HX2.out.but (But.of_below (S := fun _ => False) ((Below.refl _ W2).drew)) (fun _ _ => id) (by have := HG3.out; omega)).ss (fun hHeld => ?_)
  refine wpAnyH_take (i := 0) (v := ?vz1) rfl (by kernel_rfl) (by kernel_rfl) (by kernel_rfl) (fun _ _ _ h => h) (Or.inl ⟨by rfl, ?hyz1⟩) (by first | assumption | exact trivial) ?restz1
  case hyz1 => intro W hSW; obtain ⟨r0, r1, r2, r3⟩ := hSW.c; go_simp; try (with_reducible rfl)
  simp only [Act.put, List.getElem_toArray, List.getElem_cons_succ, List.getElem_cons_zero, List.setIfInBounds_toArray, List.set_cons_zero, List.set_cons_succ]
  refine wpAnyH_take (i := 1) (v := ?vz2) rfl (by kernel_rfl) (by kernel_rfl) (by kernel_rfl) (fun _ _ _ h => h) (Or.inl ⟨by rfl, ?hyz2⟩) (by first | assumption | exact trivial) ?restz2
  case hyz2 => intro W hSW; go_simp; try (with_reducible rfl)
  simp only [Act.put, List.getElem_toArray, List.getElem_cons_succ, List.getElem_cons_zero, List.setIfInBounds_toArray, List.set_cons_zero, List.set_cons_succ]
  refine wpAnyH_take (i := 2) (v := ?vz3) rfl (by kernel_rfl) (by kernel_rfl) (by kernel_rfl) (fun _ _ _ h => h) (Or.inl ⟨by rfl, ?hyz3⟩) (by first | assumption | exact trivial) ?restz3
  case hyz3 => intro W hSW; go_simp; try (with_reducible rfl)
  simp only [Act.put, List.getElem_toArray, List.getElem_cons_succ, List.getElem_cons_zero, List.setIfInBounds_toArray, List.set_cons_zero, List.set_cons_succ]
  refine wpAnyH_take (i := 3) (v := ?vz4) rfl (by kernel_rfl) (by kernel_rfl) (by kernel_rfl) (fun _ _ _ h => h) (Or.inl ⟨by rfl, ?hyz4⟩) (by first | assumption | exact trivial) ?restz4
  case hyz4 => intro W hSW; have r1 := hSW.a 1; go_simp; try (with_reducible rfl)
  simp only [Act.put, List.getElem_toArray, List.getElem_cons_succ, List.getElem_cons_zero, List.setIfInBounds_toArray, List.set_cons_zero, List.set_cons_succ]
  refine wpAnyH_take (i := 5) (v := ?vz5) rfl (by kernel_rfl) (by kernel_rfl) (by kernel_rfl) (fun _ _ _ h => h) (Or.inl ⟨by rfl, ?hyz5⟩) (by first | assumption | exact trivial) ?restz5
  case hyz5 => intro W hSW; go_simp; try (with_reducible rfl)
  simp only [Act.put, List.getElem_toArray, List.getElem_cons_succ, List.getElem_cons_zero, List.setIfInBounds_toArray, List.set_cons_zero, List.set_cons_succ]
  refine wpAnyH_ready (rs := [4]) (by kernel_rfl) (by simp) ?_
  refine AllReadyH.cons rfl (fun K hK => ?_) AllReadyH.nil
  go_simp
  go_wp2_with (go_at_call 23; refine HCALL.out.mono ?_; rintro e w4 ⟨rfl, hd4, hb4⟩)
  have HX4 := Lib.hid ((HX2.out.but (But.of_below (S := fun _ => False) ((Below.refl _ W2).drew)) (fun _ _ => id) (by have := HG3.out; omega)).but hb4.out (fun k hk hg => by have := h.out.lt k hg; omega) (by have := HG3.out; omega))
  refine hK.out _ _ (HX4.out.ss) (fun hHeld => ?_)
  clear hK K
  refine wpAnyH_take (i := 6) (v := ?vz6) rfl (by kernel_rfl) (by kernel_rfl) (by kernel_rfl) (fun _ _ _ h => h) (Or.inl ⟨by rfl, ?hyz6⟩) (by first | assumption | exact trivial) ?restz6
  case hyz6 => intro W hSW; go_simp; try (with_reducible rfl)
  simp only [Act.put, List.getElem_toArray, List.getElem_cons_succ, List.getElem_cons_zero, List.setIfInBounds_toArray, List.set_cons_zero, List.set_cons_succ]
  refine wpAnyH_ready (rs := [7]) (by kernel_rfl) (by simp) ?_
  refine AllReadyH.cons rfl (fun K hK => ?_) AllReadyH.nil
  rw [if_pos (by kernel_rfl)]
  refine wp_store_row 29 (.tmp 6) (.tmp 60) rfl (w.heap.size + 1 + 1) (rcs st' (.slice A2 n2 c2)) rfl (by rfl) 29 _ HX4.out.s.z (by kernel_rfl) rfl (rcs_one _ _ _ _) ?_
  simp only [Act.put, List.getElem_toArray, List.getElem_cons_succ, List.getElem_cons_zero, List.setIfInBounds_toArray, List.set_cons_zero, List.set_cons_succ]
  have HX5 := Lib.hid (HX4.out.store (by have := HG3.out; omega) (rcs st' (.slice A2 n2 c2)))
  refine hK.out _ _ (⟨HX5.out.1, HX5.out.2.1⟩) (fun hHeld => ?_)
  clear hK K
  refine wpAnyH_take (i := 8) (v := ?vz7) rfl (by kernel_rfl) (by kernel_rfl) (by kernel_rfl) (fun _ _ _ h => h) (Or.inl ⟨by rfl, ?hyz7⟩) (by first | assumption | exact trivial) ?restz7
  case hyz7 => intro W hSW; go_simp; try (with_reducible rfl)
  simp only [Act.put, List.getElem_toArray, List.getElem_cons_succ, List.getElem_cons_zero, List.setIfInBounds_toArray, List.set_cons_zero, List.set_cons_succ]
  refine wpAnyH_done (by kernel_rfl) ?_ _
  go_wp2
  refine ret_cell rfl rfl HX5.out.2.2 rfl Try.underlying29 (by kernel_rfl) rfl ?_
  obtain ⟨G', p1, p2, p3⟩ := step_fin (W2 := W2.drew) h.out (HBW.out.trans ((Below.refl _ W2).drew.mono HBW.out.size)) (by show _ ≤ W2.heap.size; have h1 := HG3.out; have h2 := HN2.out; omega) (by rw [HN0.out] at HF2; exact HF2.out.below ((Below.refl _ W2).drew)) hd4.out hb4.out HOK.out (rcs st' (.slice A2 n2 c2))
  exact ⟨st', A2, n2, c2, G', by first | rfl | (simp only [beq_self_eq_true]; rfl), p1, p2, p3⟩
set_option maxRecDepth 100000 in
set_option maxHeartbeats 4000000 in
theorem step2 (nm to : Nm) (pv : Value) (an : Int) (kv : Value) : Calls Try.prog 15 #[.pointer (some ⟨D, 0, none⟩), .agg (rcs st (.slice A n c)), .agg #[.int .i64 2, nmV nm, nmV to, pv, .int .i64 an, kv]] w (StepP G w D mb) := by
  obtain ⟨W0, hW0⟩ : ∃ W0, ((w.alloc (.cells (rcs st (.slice A n c)) 29)).alloc (.cells #[.int .i64 2, nmV nm, nmV to, pv, .int .i64 an, kv] 36)).alloc (.cells zD 29) = W0 := ⟨_, rfl⟩
  have HWE := Lib.hid hW0
  have HB0 : Hid (Sb w.heap.size st (.slice A n c) #[.int .i64 2, nmV nm, nmV to, pv, .int .i64 an, kv] W0) := by show Sb _ _ _ _ _; rw [← hW0]; exact Sb.new w st _ _
  have HD0 : Hid (Below w.heap.size w W0) := by show Below _ _ _; rw [← hW0]; exact Me.below_alloc (Me.below_alloc (Me.below_alloc (Below.refl _ _)))
  have HN0 : Hid (W0.heap.size = w.heap.size + 3) := by show _ = _; rw [← hW0]; simp
  have HF0 : Hid (Fv (fun k => ¬ G k ∧ k < w.heap.size) W0 (.slice A n c) st.files) := h.out.fv0 HD0.out
  obtain ⟨y0, y1, y2, y3⟩ := row_cells4 HB0.out.x
  have a0 := HB0.out.act 0
  have a1 := HB0.out.act 1
  have a4 := HB0.out.act 4
  rw [← hW0] at y0 y1 y2 y3 a0 a1 a4
  have HR := Lib.hid (RCut_any W0 st (.slice A n c) HF0 h.out.ok nm an)
  obtain ⟨st', hst⟩ : ∃ st', cutS st nm an = st' := ⟨_, rfl⟩
  obtain ⟨cc, hcc⟩ : ∃ cc : Nat, cutE st nm an = cc := ⟨_, rfl⟩
  have HOK : Hid st'.Ok := by rw [← hst]; exact h.out.ok.cut nm an
  have HDF : Hid (∀ W, Below w.heap.size w W → Calls Try.prog 26 #[.pointer (some ⟨D, 0, none⟩), nmV nm, .int .i64 an] W (OpP G W D mb st' cc)) := fun W hW => by
    rw [← hst, ← hcc]
    exact Cut_any W D mb st (h.out.dq.below hW) h.out.ok nm an
  rw [hst, hcc] at HR
  show Calls Try.prog 15 #[.pointer (some ⟨D, 0, none⟩), .agg #[.int .i64 (st.limit : Int), .slice A n c, .int .i64 (leftI st), .bool st.down], .agg #[.int .i64 2, nmV nm, nmV to, pv, .int .i64 an, kv]] w _
  unfold rcs zD at HWE y0 y1 y2 y3 a0 a1 a4
  clear hW0 hst hcc
  go_enter Try.func15, Try.ntmps15
  go_wp2_with (first
    | (go_at_call 39; rw [HWE.out]; refine HR.out.mono ?_; rintro e w1 ⟨A2, n2, c2, rfl, hf1, hb1⟩; have HB1 := Lib.hid (HB0.out.grow hb1.out); clear y0 y1 y2 y3 a0 a1 a4)
    | (refine wpList_store_row rfl 29 (.tmp 12) (.tmp 76) rfl w1.heap.size (rcs st' (.slice A2 n2 c2)) rfl rfl 29 _ (heap_alloc_new w1 _) (by kernel_rfl) rfl (rcs_one _ _ _ _) ?_; have hxb := x_box (st' := st') (v' := .slice A2 n2 c2) HB1.out; obtain ⟨W2, hW2⟩ : ∃ W2, (w1.alloc (.cells #[.int .i64 0, .slice none 0 0, .int .i64 0, .bool false] 29)).setRow w1.heap.size (rcs st' (.slice A2 n2 c2)) = W2 := ⟨_, rfl⟩; unfold zD at hxb; rw [hW2] at hxb ⊢; obtain ⟨gx, hgx⟩ : ∃ gx, w1.heap.size = gx := ⟨_, rfl⟩; have hg3 : w.heap.size + 3 ≤ gx := (by have h1 := HN0.out; have h2 := hb1.out.size; omega); have hbw : Below w.heap.size w W2 := (HD0.out.trans (hb1.out.mono HD0.out.size)).trans (hxb.2.1.mono (by omega)); have hf2 := hf1.out.below hxb.2.1; have hn2 := hxb.2.2; simp only [hgx] at hxb hn2 ⊢; have HX2 := Lib.hid hxb.1; have HG3 := Lib.hid hg3; have HBW := Lib.hid hbw; have HF2 := Lib.hid hf2; have HN2 := Lib.hid hn2; clear hW2 hxb hgx hg3 hbw hf2 hn2))
  have HCALL := Lib.hid (HDF.out W2.drew (HBW.out.trans ((Below.refl _ W2).drew.mono HBW.out.size)))
  refine wp_region_held_drew (S := SS w.heap.size #[.int .i64 2, nmV nm, nmV to, pv, .int .i64 an, kv] gx st' (.slice A2 n2 c2)) (by kernel_rfl) (HX2.out.but (But.of_below (S := fun _ => False) ((Below.refl _ W2).drew)) (fun _ _ => id) (by have := HG3.out; omega)).ss (fun hHeld => ?_)
  refine wpAnyH_take (i := 0) (v := ?vz8) rfl (by kernel_rfl) (by kernel_rfl) (by kernel_rfl) (fun _ _ _ h => h) (Or.inl ⟨by rfl, ?hyz8⟩) (by first | assumption | exact trivial) ?restz8
  case hyz8 => intro W hSW; obtain ⟨r0, r1, r2, r3⟩ := hSW.c; go_simp; try (with_reducible rfl)
  simp only [Act.put, List.getElem_toArray, List.getElem_cons_succ, List.getElem_cons_zero, List.setIfInBounds_toArray, List.set_cons_zero, List.set_cons_succ]
  refine wpAnyH_take (i := 1) (v := ?vz9) rfl (by kernel_rfl) (by kernel_rfl) (by kernel_rfl) (fun _ _ _ h => h) (Or.inl ⟨by rfl, ?hyz9⟩) (by first | assumption | exact trivial) ?restz9
  case hyz9 => intro W hSW; go_simp; try (with_reducible rfl)
  simp only [Act.put, List.getElem_toArray, List.getElem_cons_succ, List.getElem_cons_zero, List.setIfInBounds_toArray, List.set_cons_zero, List.set_cons_succ]
  refine wpAnyH_take (i := 2) (v := ?vz10) rfl (by kernel_rfl) (by kernel_rfl) (by kernel_rfl) (fun _ _ _ h => h) (Or.inl ⟨by rfl, ?hyz10⟩) (by first | assumption | exact trivial) ?restz10
  case hyz10 => intro W hSW; go_simp; try (with_reducible rfl)
  simp only [Act.put, List.getElem_toArray, List.getElem_cons_succ, List.getElem_cons_zero, List.setIfInBounds_toArray, List.set_cons_zero, List.set_cons_succ]
  refine wpAnyH_take (i := 3) (v := ?vz11) rfl (by kernel_rfl) (by kernel_rfl) (by kernel_rfl) (fun _ _ _ h => h) (Or.inl ⟨by rfl, ?hyz11⟩) (by first | assumption | exact trivial) ?restz11
  case hyz11 => intro W hSW; have r1 := hSW.a 1; go_simp; try (with_reducible rfl)
  simp only [Act.put, List.getElem_toArray, List.getElem_cons_succ, List.getElem_cons_zero, List.setIfInBounds_toArray, List.set_cons_zero, List.set_cons_succ]
  refine wpAnyH_take (i := 4) (v := ?vz12) rfl (by kernel_rfl) (by kernel_rfl) (by kernel_rfl) (fun _ _ _ h => h) (Or.inl ⟨by rfl, ?hyz12⟩) (by first | assumption | exact trivial) ?restz12
  case hyz12 => intro W hSW; go_simp; try (with_reducible rfl)
  simp only [Act.put, List.getElem_toArray, List.getElem_cons_succ, List.getElem_cons_zero, List.setIfInBounds_toArray, List.set_cons_zero, List.set_cons_succ]
  refine wpAnyH_take (i := 5) (v := ?vz13) rfl (by kernel_rfl) (by kernel_rfl) (by kernel_rfl) (fun _ _ _ h => h) (Or.inl ⟨by rfl, ?hyz13⟩) (by first | assumption | exact trivial) ?restz13
  case hyz13 => intro W hSW; have r4 := hSW.a 4; go_simp; try (with_reducible rfl)
  simp only [Act.put, List.getElem_toArray, List.getElem_cons_succ, List.getElem_cons_zero, List.setIfInBounds_toArray, List.set_cons_zero, List.set_cons_succ]
  refine wpAnyH_take (i := 7) (v := ?vz14) rfl (by kernel_rfl) (by kernel_rfl) (by kernel_rfl) (fun _ _ _ h => h) (Or.inl ⟨by rfl, ?hyz14⟩) (by first | assumption | exact trivial) ?restz14
  case hyz14 => intro W hSW; go_simp; try (with_reducible rfl)
  simp only [Act.put, List.getElem_toArray, List.getElem_cons_succ, List.getElem_cons_zero, List.setIfInBounds_toArray, List.set_cons_zero, List.set_cons_succ]
  refine wpAnyH_ready (rs := [6]) (by kernel_rfl) (by simp) ?_
  refine AllReadyH.cons rfl (fun K hK => ?_) AllReadyH.nil
  go_simp
  go_wp2_with (go_at_call 26; refine HCALL.out.mono ?_; rintro e w4 ⟨rfl, hd4, hb4⟩)
  have HX4 := Lib.hid ((HX2.out.but (But.of_below (S := fun _ => False) ((Below.refl _ W2).drew)) (fun _ _ => id) (by have := HG3.out; omega)).but hb4.out (fun k hk hg => by have := h.out.lt k hg; omega) (by have := HG3.out; omega))
  refine hK.out _ _ (HX4.out.ss) (fun hHeld => ?_)
  clear hK K
  refine wpAnyH_take (i := 8) (v := ?vz15) rfl (by kernel_rfl) (by kernel_rfl) (by kernel_rfl) (fun _ _ _ h => h) (Or.inl ⟨by rfl, ?hyz15⟩) (by first | assumption | exact trivial) ?restz15
  case hyz15 => intro W hSW; go_simp; try (with_reducible rfl)
  simp only [Act.put, List.getElem_toArray, List.getElem_cons_succ, List.getElem_cons_zero, List.setIfInBounds_toArray, List.set_cons_zero, List.set_cons_succ]
  refine wpAnyH_ready (rs := [9]) (by kernel_rfl) (by simp) ?_
  refine AllReadyH.cons rfl (fun K hK => ?_) AllReadyH.nil
  rw [if_pos (by kernel_rfl)]
  refine wp_store_row 29 (.tmp 6) (.tmp 78) rfl (w.heap.size + 1 + 1) (rcs st' (.slice A2 n2 c2)) rfl (by rfl) 29 _ HX4.out.s.z (by kernel_rfl) rfl (rcs_one _ _ _ _) ?_
  simp only [Act.put, List.getElem_toArray, List.getElem_cons_succ, List.getElem_cons_zero, List.setIfInBounds_toArray, List.set_cons_zero, List.set_cons_succ]
  have HX5 := Lib.hid (HX4.out.store (by have := HG3.out; omega) (rcs st' (.slice A2 n2 c2)))
  refine hK.out _ _ (⟨HX5.out.1, HX5.out.2.1⟩) (fun hHeld => ?_)
  clear hK K
  refine wpAnyH_take (i := 10) (v := ?vz16) rfl (by kernel_rfl) (by kernel_rfl) (by kernel_rfl) (fun _ _ _ h => h) (Or.inl ⟨by rfl, ?hyz16⟩) (by first | assumption | exact trivial) ?restz16
  case hyz16 => intro W hSW; go_simp; try (with_reducible rfl)
  simp only [Act.put, List.getElem_toArray, List.getElem_cons_succ, List.getElem_cons_zero, List.setIfInBounds_toArray, List.set_cons_zero, List.set_cons_succ]
  refine wpAnyH_done (by kernel_rfl) ?_ _
  go_wp2
  refine ret_cell rfl rfl HX5.out.2.2 rfl Try.underlying29 (by kernel_rfl) rfl ?_
  obtain ⟨G', p1, p2, p3⟩ := step_fin (W2 := W2.drew) h.out (HBW.out.trans ((Below.refl _ W2).drew.mono HBW.out.size)) (by show _ ≤ W2.heap.size; have h1 := HG3.out; have h2 := HN2.out; omega) (by rw [HN0.out] at HF2; exact HF2.out.below ((Below.refl _ W2).drew)) hd4.out hb4.out HOK.out (rcs st' (.slice A2 n2 c2))
  exact ⟨st', A2, n2, c2, G', by first | rfl | (simp only [beq_self_eq_true]; rfl), p1, p2, p3⟩
set_option maxRecDepth 100000 in
set_option maxHeartbeats 4000000 in
theorem step3 (nm to : Nm) (pv : Value) (an : Int) (kv : Value) : Calls Try.prog 15 #[.pointer (some ⟨D, 0, none⟩), .agg (rcs st (.slice A n c)), .agg #[.int .i64 3, nmV nm, nmV to, pv, .int .i64 an, kv]] w (StepP G w D mb) := by
  obtain ⟨W0, hW0⟩ : ∃ W0, ((w.alloc (.cells (rcs st (.slice A n c)) 29)).alloc (.cells #[.int .i64 3, nmV nm, nmV to, pv, .int .i64 an, kv] 36)).alloc (.cells zD 29) = W0 := ⟨_, rfl⟩
  have HWE := Lib.hid hW0
  have HB0 : Hid (Sb w.heap.size st (.slice A n c) #[.int .i64 3, nmV nm, nmV to, pv, .int .i64 an, kv] W0) := by show Sb _ _ _ _ _; rw [← hW0]; exact Sb.new w st _ _
  have HD0 : Hid (Below w.heap.size w W0) := by show Below _ _ _; rw [← hW0]; exact Me.below_alloc (Me.below_alloc (Me.below_alloc (Below.refl _ _)))
  have HN0 : Hid (W0.heap.size = w.heap.size + 3) := by show _ = _; rw [← hW0]; simp
  have HF0 : Hid (Fv (fun k => ¬ G k ∧ k < w.heap.size) W0 (.slice A n c) st.files) := h.out.fv0 HD0.out
  obtain ⟨y0, y1, y2, y3⟩ := row_cells4 HB0.out.x
  have a0 := HB0.out.act 0
  have a1 := HB0.out.act 1
  have a2 := HB0.out.act 2
  rw [← hW0] at y0 y1 y2 y3 a0 a1 a2
  have HR := Lib.hid (RRename_any W0 st (.slice A n c) HF0 h.out.ok nm to)
  obtain ⟨st', hst⟩ : ∃ st', renS st nm to = st' := ⟨_, rfl⟩
  obtain ⟨cc, hcc⟩ : ∃ cc : Nat, renE st nm to = cc := ⟨_, rfl⟩
  have HOK : Hid st'.Ok := by rw [← hst]; exact h.out.ok.ren nm to
  have HDF : Hid (∀ W, Below w.heap.size w W → Calls Try.prog 27 #[.pointer (some ⟨D, 0, none⟩), nmV nm, nmV to] W (OpP G W D mb st' cc)) := fun W hW => by
    rw [← hst, ← hcc]
    exact Rename_any W D mb st (h.out.dq.below hW) h.out.ok nm to
  rw [hst, hcc] at HR
  show Calls Try.prog 15 #[.pointer (some ⟨D, 0, none⟩), .agg #[.int .i64 (st.limit : Int), .slice A n c, .int .i64 (leftI st), .bool st.down], .agg #[.int .i64 3, nmV nm, nmV to, pv, .int .i64 an, kv]] w _
  unfold rcs zD at HWE y0 y1 y2 y3 a0 a1 a2
  clear hW0 hst hcc
  go_enter Try.func15, Try.ntmps15
  go_wp2_with (first
    | (go_at_call 40; rw [HWE.out]; refine HR.out.mono ?_; rintro e w1 ⟨A2, n2, c2, rfl, hf1, hb1⟩; have HB1 := Lib.hid (HB0.out.grow hb1.out); clear y0 y1 y2 y3 a0 a1 a2)
    | (refine wpList_store_row rfl 29 (.tmp 14) (.tmp 96) rfl w1.heap.size (rcs st' (.slice A2 n2 c2)) rfl rfl 29 _ (heap_alloc_new w1 _) (by kernel_rfl) rfl (rcs_one _ _ _ _) ?_; have hxb := x_box (st' := st') (v' := .slice A2 n2 c2) HB1.out; obtain ⟨W2, hW2⟩ : ∃ W2, (w1.alloc (.cells #[.int .i64 0, .slice none 0 0, .int .i64 0, .bool false] 29)).setRow w1.heap.size (rcs st' (.slice A2 n2 c2)) = W2 := ⟨_, rfl⟩; unfold zD at hxb; rw [hW2] at hxb ⊢; obtain ⟨gx, hgx⟩ : ∃ gx, w1.heap.size = gx := ⟨_, rfl⟩; have hg3 : w.heap.size + 3 ≤ gx := (by have h1 := HN0.out; have h2 := hb1.out.size; omega); have hbw : Below w.heap.size w W2 := (HD0.out.trans (hb1.out.mono HD0.out.size)).trans (hxb.2.1.mono (by omega)); have hf2 := hf1.out.below hxb.2.1; have hn2 := hxb.2.2; simp only [hgx] at hxb hn2 ⊢; have HX2 := Lib.hid hxb.1; have HG3 := Lib.hid hg3; have HBW := Lib.hid hbw; have HF2 := Lib.hid hf2; have HN2 := Lib.hid hn2; clear hW2 hxb hgx hg3 hbw hf2 hn2))
  have HCALL := Lib.hid (HDF.out W2.drew (HBW.out.trans ((Below.refl _ W2).drew.mono HBW.out.size)))
  refine wp_region_held_drew (S := SS w.heap.size #[.int .i64 3, nmV nm, nmV to, pv, .int .i64 an, kv] gx st' (.slice A2 n2 c2)) (by kernel_rfl) (HX2.out.but (But.of_below (S := fun _ => False) ((Below.refl _ W2).drew)) (fun _ _ => id) (by have := HG3.out; omega)).ss (fun hHeld => ?_)
  refine wpAnyH_take (i := 0) (v := ?vz17) rfl (by kernel_rfl) (by kernel_rfl) (by kernel_rfl) (fun _ _ _ h => h) (Or.inl ⟨by rfl, ?hyz17⟩) (by first | assumption | exact trivial) ?restz17
  case hyz17 => intro W hSW; obtain ⟨r0, r1, r2, r3⟩ := hSW.c; go_simp; try (with_reducible rfl)
  simp only [Act.put, List.getElem_toArray, List.getElem_cons_succ, List.getElem_cons_zero, List.setIfInBounds_toArray, List.set_cons_zero, List.set_cons_succ]
  refine wpAnyH_take (i := 1) (v := ?vz18) rfl (by kernel_rfl) (by kernel_rfl) (by kernel_rfl) (fun _ _ _ h => h) (Or.inl ⟨by rfl, ?hyz18⟩) (by first | assumption | exact trivial) ?restz18
  case hyz18 => intro W hSW; go_simp; try (with_reducible rfl)
  simp only [Act.put, List.getElem_toArray, List.getElem_cons_succ, List.getElem_cons_zero, List.setIfInBounds_toArray, List.set_cons_zero, List.set_cons_succ]
  refine wpAnyH_take (i := 2) (v := ?vz19) rfl (by kernel_rfl) (by kernel_rfl) (by kernel_rfl) (fun _ _ _ h => h) (Or.inl ⟨by rfl, ?hyz19⟩) (by first | assumption | exact trivial) ?restz19
  case hyz19 => intro W hSW; go_simp; try (with_reducible rfl)
  simp only [Act.put, List.getElem_toArray, List.getElem_cons_succ, List.getElem_cons_zero, List.setIfInBounds_toArray, List.set_cons_zero, List.set_cons_succ]
  refine wpAnyH_take (i := 3) (v := ?vz20) rfl (by kernel_rfl) (by kernel_rfl) (by kernel_rfl) (fun _ _ _ h => h) (Or.inl ⟨by rfl, ?hyz20⟩) (by first | assumption | exact trivial) ?restz20
  case hyz20 => intro W hSW; have r1 := hSW.a 1; go_simp; try (with_reducible rfl)
  simp only [Act.put, List.getElem_toArray, List.getElem_cons_succ, List.getElem_cons_zero, List.setIfInBounds_toArray, List.set_cons_zero, List.set_cons_succ]
  refine wpAnyH_take (i := 4) (v := ?vz21) rfl (by kernel_rfl) (by kernel_rfl) (by kernel_rfl) (fun _ _ _ h => h) (Or.inl ⟨by rfl, ?hyz21⟩) (by first | assumption | exact trivial) ?restz21
  case hyz21 => intro W hSW; go_simp; try (with_reducible rfl)
  simp only [Act.put, List.getElem_toArray, List.getElem_cons_succ, List.getElem_cons_zero, List.setIfInBounds_toArray, List.set_cons_zero, List.set_cons_succ]
  refine wpAnyH_take (i := 5) (v := ?vz22) rfl (by kernel_rfl) (by kernel_rfl) (by kernel_rfl) (fun _ _ _ h => h) (Or.inl ⟨by rfl, ?hyz22⟩) (by first | assumption | exact trivial) ?restz22
  case hyz22 => intro W hSW; have r2 := hSW.a 2; go_simp; try (with_reducible rfl)
  simp only [Act.put, List.getElem_toArray, List.getElem_cons_succ, List.getElem_cons_zero, List.setIfInBounds_toArray, List.set_cons_zero, List.set_cons_succ]
  refine wpAnyH_take (i := 7) (v := ?vz23) rfl (by kernel_rfl) (by kernel_rfl) (by kernel_rfl) (fun _ _ _ h => h) (Or.inl ⟨by rfl, ?hyz23⟩) (by first | assumption | exact trivial) ?restz23
  case hyz23 => intro W hSW; go_simp; try (with_reducible rfl)
  simp only [Act.put, List.getElem_toArray, List.getElem_cons_succ, List.getElem_cons_zero, List.setIfInBounds_toArray, List.set_cons_zero, List.set_cons_succ]
  refine wpAnyH_ready (rs := [6]) (by kernel_rfl) (by simp) ?_
  refine AllReadyH.cons rfl (fun K hK => ?_) AllReadyH.nil
  go_simp
  go_wp2_with (go_at_call 27; refine HCALL.out.mono ?_; rintro e w4 ⟨rfl, hd4, hb4⟩)
  have HX4 := Lib.hid ((HX2.out.but (But.of_below (S := fun _ => False) ((Below.refl _ W2).drew)) (fun _ _ => id) (by have := HG3.out; omega)).but hb4.out (fun k hk hg => by have := h.out.lt k hg; omega) (by have := HG3.out; omega))
  refine hK.out _ _ (HX4.out.ss) (fun hHeld => ?_)
  clear hK K
  refine wpAnyH_take (i := 8) (v := ?vz24) rfl (by kernel_rfl) (by kernel_rfl) (by kernel_rfl) (fun _ _ _ h => h) (Or.inl ⟨by rfl, ?hyz24⟩) (by first | assumption | exact trivial) ?restz24
  case hyz24 => intro W hSW; go_simp; try (with_reducible rfl)
  simp only [Act.put, List.getElem_toArray, List.getElem_cons_succ, List.getElem_cons_zero, List.setIfInBounds_toArray, List.set_cons_zero, List.set_cons_succ]
  refine wpAnyH_ready (rs := [9]) (by kernel_rfl) (by simp) ?_
  refine AllReadyH.cons rfl (fun K hK => ?_) AllReadyH.nil
  rw [if_pos (by kernel_rfl)]
  refine wp_store_row 29 (.tmp 6) (.tmp 98) rfl (w.heap.size + 1 + 1) (rcs st' (.slice A2 n2 c2)) rfl (by rfl) 29 _ HX4.out.s.z (by kernel_rfl) rfl (rcs_one _ _ _ _) ?_
  simp only [Act.put, List.getElem_toArray, List.getElem_cons_succ, List.getElem_cons_zero, List.setIfInBounds_toArray, List.set_cons_zero, List.set_cons_succ]
  have HX5 := Lib.hid (HX4.out.store (by have := HG3.out; omega) (rcs st' (.slice A2 n2 c2)))
  refine hK.out _ _ (⟨HX5.out.1, HX5.out.2.1⟩) (fun hHeld => ?_)
  clear hK K
  refine wpAnyH_take (i := 10) (v := ?vz25) rfl (by kernel_rfl) (by kernel_rfl) (by kernel_rfl) (fun _ _ _ h => h) (Or.inl ⟨by rfl, ?hyz25⟩) (by first | assumption | exact trivial) ?restz25
  case hyz25 => intro W hSW; go_simp; try (with_reducible rfl)
  simp only [Act.put, List.getElem_toArray, List.getElem_cons_succ, List.getElem_cons_zero, List.setIfInBounds_toArray, List.set_cons_zero, List.set_cons_succ]
  refine wpAnyH_done (by kernel_rfl) ?_ _
  go_wp2
  refine ret_cell rfl rfl HX5.out.2.2 rfl Try.underlying29 (by kernel_rfl) rfl ?_
  obtain ⟨G', p1, p2, p3⟩ := step_fin (W2 := W2.drew) h.out (HBW.out.trans ((Below.refl _ W2).drew.mono HBW.out.size)) (by show _ ≤ W2.heap.size; have h1 := HG3.out; have h2 := HN2.out; omega) (by rw [HN0.out] at HF2; exact HF2.out.below ((Below.refl _ W2).drew)) hd4.out hb4.out HOK.out (rcs st' (.slice A2 n2 c2))
  exact ⟨st', A2, n2, c2, G', by first | rfl | (simp only [beq_self_eq_true]; rfl), p1, p2, p3⟩
set_option maxRecDepth 100000 in
set_option maxHeartbeats 4000000 in
theorem step4 (nm to : Nm) (pv : Value) (an : Int) (kv : Value) : Calls Try.prog 15 #[.pointer (some ⟨D, 0, none⟩), .agg (rcs st (.slice A n c)), .agg #[.int .i64 4, nmV nm, nmV to, pv, .int .i64 an, kv]] w (StepP G w D mb) := by
  obtain ⟨W0, hW0⟩ : ∃ W0, ((w.alloc (.cells (rcs st (.slice A n c)) 29)).alloc (.cells #[.int .i64 4, nmV nm, nmV to, pv, .int .i64 an, kv] 36)).alloc (.cells zD 29) = W0 := ⟨_, rfl⟩
  have HWE := Lib.hid hW0
  have HB0 : Hid (Sb w.heap.size st (.slice A n c) #[.int .i64 4, nmV nm, nmV to, pv, .int .i64 an, kv] W0) := by show Sb _ _ _ _ _; rw [← hW0]; exact Sb.new w st _ _
  have HD0 : Hid (Below w.heap.size w W0) := by show Below _ _ _; rw [← hW0]; exact Me.below_alloc (Me.below_alloc (Me.below_alloc (Below.refl _ _)))
  have HN0 : Hid (W0.heap.size = w.heap.size + 3) := by show _ = _; rw [← hW0]; simp
  have HF0 : Hid (Fv (fun k => ¬ G k ∧ k < w.heap.size) W0 (.slice A n c) st.files) := h.out.fv0 HD0.out
  obtain ⟨y0, y1, y2, y3⟩ := row_cells4 HB0.out.x
  have a0 := HB0.out.act 0
  have a1 := HB0.out.act 1
  rw [← hW0] at y0 y1 y2 y3 a0 a1
  have HR := Lib.hid (RRemove_any W0 st (.slice A n c) HF0 h.out.ok nm)
  obtain ⟨st', hst⟩ : ∃ st', remS st nm = st' := ⟨_, rfl⟩
  obtain ⟨cc, hcc⟩ : ∃ cc : Nat, findE st nm = cc := ⟨_, rfl⟩
  have HOK : Hid st'.Ok := by rw [← hst]; exact h.out.ok.rem nm
  have HDF : Hid (∀ W, Below w.heap.size w W → Calls Try.prog 28 #[.pointer (some ⟨D, 0, none⟩), nmV nm] W (OpP G W D mb st' cc)) := fun W hW => by
    rw [← hst, ← hcc]
    exact Remove_any W D mb st (h.out.dq.below hW) h.out.ok nm
  rw [hst, hcc] at HR
  show Calls Try.prog 15 #[.pointer (some ⟨D, 0, none⟩), .agg #[.int .i64 (st.limit : Int), .slice A n c, .int .i64 (leftI st), .bool st.down], .agg #[.int .i64 4, nmV nm, nmV to, pv, .int .i64 an, kv]] w _
  unfold rcs zD at HWE y0 y1 y2 y3 a0 a1
  clear hW0 hst hcc
  go_enter Try.func15, Try.ntmps15
  go_wp2_with (first
    | (go_at_call 41; rw [HWE.out]; refine HR.out.mono ?_; rintro e w1 ⟨A2, n2, c2, rfl, hf1, hb1⟩; have HB1 := Lib.hid (HB0.out.grow hb1.out); clear y0 y1 y2 y3 a0 a1)
    | (refine wpList_store_row rfl 29 (.tmp 16) (.tmp 114) rfl w1.heap.size (rcs st' (.slice A2 n2 c2)) rfl rfl 29 _ (heap_alloc_new w1 _) (by kernel_rfl) rfl (rcs_one _ _ _ _) ?_; have hxb := x_box (st' := st') (v' := .slice A2 n2 c2) HB1.out; obtain ⟨W2, hW2⟩ : ∃ W2, (w1.alloc (.cells #[.int .i64 0, .slice none 0 0, .int .i64 0, .bool false] 29)).setRow w1.heap.size (rcs st' (.slice A2 n2 c2)) = W2 := ⟨_, rfl⟩; unfold zD at hxb; rw [hW2] at hxb ⊢; obtain ⟨gx, hgx⟩ : ∃ gx, w1.heap.size = gx := ⟨_, rfl⟩; have hg3 : w.heap.size + 3 ≤ gx := (by have h1 := HN0.out; have h2 := hb1.out.size; omega); have hbw : Below w.heap.size w W2 := (HD0.out.trans (hb1.out.mono HD0.out.size)).trans (hxb.2.1.mono (by omega)); have hf2 := hf1.out.below hxb.2.1; have hn2 := hxb.2.2; simp only [hgx] at hxb hn2 ⊢; have HX2 := Lib.hid hxb.1; have HG3 := Lib.hid hg3; have HBW := Lib.hid hbw; have HF2 := Lib.hid hf2; have HN2 := Lib.hid hn2; clear hW2 hxb hgx hg3 hbw hf2 hn2))
  have HCALL := Lib.hid (HDF.out W2.drew (HBW.out.trans ((Below.refl _ W2).drew.mono HBW.out.size)))
  refine wp_region_held_drew (S := SS w.heap.size #[.int .i64 4, nmV nm, nmV to, pv, .int .i64 an, kv] gx st' (.slice A2 n2 c2)) (by kernel_rfl) (HX2.out.but (But.of_below (S := fun _ => False) ((Below.refl _ W2).drew)) (fun _ _ => id) (by have := HG3.out; omega)).ss (fun hHeld => ?_)
  refine wpAnyH_take (i := 0) (v := ?vz26) rfl (by kernel_rfl) (by kernel_rfl) (by kernel_rfl) (fun _ _ _ h => h) (Or.inl ⟨by rfl, ?hyz26⟩) (by first | assumption | exact trivial) ?restz26
  case hyz26 => intro W hSW; obtain ⟨r0, r1, r2, r3⟩ := hSW.c; go_simp; try (with_reducible rfl)
  simp only [Act.put, List.getElem_toArray, List.getElem_cons_succ, List.getElem_cons_zero, List.setIfInBounds_toArray, List.set_cons_zero, List.set_cons_succ]
  refine wpAnyH_take (i := 1) (v := ?vz27) rfl (by kernel_rfl) (by kernel_rfl) (by kernel_rfl) (fun _ _ _ h => h) (Or.inl ⟨by rfl, ?hyz27⟩) (by first | assumption | exact trivial) ?restz27
  case hyz27 => intro W hSW; go_simp; try (with_reducible rfl)
  simp only [Act.put, List.getElem_toArray, List.getElem_cons_succ, List.getElem_cons_zero, List.setIfInBounds_toArray, List.set_cons_zero, List.set_cons_succ]
  refine wpAnyH_take (i := 2) (v := ?vz28) rfl (by kernel_rfl) (by kernel_rfl) (by kernel_rfl) (fun _ _ _ h => h) (Or.inl ⟨by rfl, ?hyz28⟩) (by first | assumption | exact trivial) ?restz28
  case hyz28 => intro W hSW; go_simp; try (with_reducible rfl)
  simp only [Act.put, List.getElem_toArray, List.getElem_cons_succ, List.getElem_cons_zero, List.setIfInBounds_toArray, List.set_cons_zero, List.set_cons_succ]
  refine wpAnyH_take (i := 3) (v := ?vz29) rfl (by kernel_rfl) (by kernel_rfl) (by kernel_rfl) (fun _ _ _ h => h) (Or.inl ⟨by rfl, ?hyz29⟩) (by first | assumption | exact trivial) ?restz29
  case hyz29 => intro W hSW; have r1 := hSW.a 1; go_simp; try (with_reducible rfl)
  simp only [Act.put, List.getElem_toArray, List.getElem_cons_succ, List.getElem_cons_zero, List.setIfInBounds_toArray, List.set_cons_zero, List.set_cons_succ]
  refine wpAnyH_take (i := 5) (v := ?vz30) rfl (by kernel_rfl) (by kernel_rfl) (by kernel_rfl) (fun _ _ _ h => h) (Or.inl ⟨by rfl, ?hyz30⟩) (by first | assumption | exact trivial) ?restz30
  case hyz30 => intro W hSW; go_simp; try (with_reducible rfl)
  simp only [Act.put, List.getElem_toArray, List.getElem_cons_succ, List.getElem_cons_zero, List.setIfInBounds_toArray, List.set_cons_zero, List.set_cons_succ]
  refine wpAnyH_ready (rs := [4]) (by kernel_rfl) (by simp) ?_
  refine AllReadyH.cons rfl (fun K hK => ?_) AllReadyH.nil
  go_simp
  go_wp2_with (go_at_call 28; refine HCALL.out.mono ?_; rintro e w4 ⟨rfl, hd4, hb4⟩)
  have HX4 := Lib.hid ((HX2.out.but (But.of_below (S := fun _ => False) ((Below.refl _ W2).drew)) (fun _ _ => id) (by have := HG3.out; omega)).but hb4.out (fun k hk hg => by have := h.out.lt k hg; omega) (by have := HG3.out; omega))
  refine hK.out _ _ (HX4.out.ss) (fun hHeld => ?_)
  clear hK K
  refine wpAnyH_take (i := 6) (v := ?vz31) rfl (by kernel_rfl) (by kernel_rfl) (by kernel_rfl) (fun _ _ _ h => h) (Or.inl ⟨by rfl, ?hyz31⟩) (by first | assumption | exact trivial) ?restz31
  case hyz31 => intro W hSW; go_simp; try (with_reducible rfl)
  simp only [Act.put, List.getElem_toArray, List.getElem_cons_succ, List.getElem_cons_zero, List.setIfInBounds_toArray, List.set_cons_zero, List.set_cons_succ]
  refine wpAnyH_ready (rs := [7]) (by kernel_rfl) (by simp) ?_
  refine AllReadyH.cons rfl (fun K hK => ?_) AllReadyH.nil
  rw [if_pos (by kernel_rfl)]
  refine wp_store_row 29 (.tmp 6) (.tmp 116) rfl (w.heap.size + 1 + 1) (rcs st' (.slice A2 n2 c2)) rfl (by rfl) 29 _ HX4.out.s.z (by kernel_rfl) rfl (rcs_one _ _ _ _) ?_
  simp only [Act.put, List.getElem_toArray, List.getElem_cons_succ, List.getElem_cons_zero, List.setIfInBounds_toArray, List.set_cons_zero, List.set_cons_succ]
  have HX5 := Lib.hid (HX4.out.store (by have := HG3.out; omega) (rcs st' (.slice A2 n2 c2)))
  refine hK.out _ _ (⟨HX5.out.1, HX5.out.2.1⟩) (fun hHeld => ?_)
  clear hK K
  refine wpAnyH_take (i := 8) (v := ?vz32) rfl (by kernel_rfl) (by kernel_rfl) (by kernel_rfl) (fun _ _ _ h => h) (Or.inl ⟨by rfl, ?hyz32⟩) (by first | assumption | exact trivial) ?restz32
  case hyz32 => intro W hSW; go_simp; try (with_reducible rfl)
  simp only [Act.put, List.getElem_toArray, List.getElem_cons_succ, List.getElem_cons_zero, List.setIfInBounds_toArray, List.set_cons_zero, List.set_cons_succ]
  refine wpAnyH_done (by kernel_rfl) ?_ _
  go_wp2
  refine ret_cell rfl rfl HX5.out.2.2 rfl Try.underlying29 (by kernel_rfl) rfl ?_
  obtain ⟨G', p1, p2, p3⟩ := step_fin (W2 := W2.drew) h.out (HBW.out.trans ((Below.refl _ W2).drew.mono HBW.out.size)) (by show _ ≤ W2.heap.size; have h1 := HG3.out; have h2 := HN2.out; omega) (by rw [HN0.out] at HF2; exact HF2.out.below ((Below.refl _ W2).drew)) hd4.out hb4.out HOK.out (rcs st' (.slice A2 n2 c2))
  exact ⟨st', A2, n2, c2, G', by first | rfl | (simp only [beq_self_eq_true]; rfl), p1, p2, p3⟩
set_option maxRecDepth 100000 in
set_option maxHeartbeats 4000000 in
theorem step6 (nm to : Nm) (pv : Value) (an : Int) (kv : Value) : Calls Try.prog 15 #[.pointer (some ⟨D, 0, none⟩), .agg (rcs st (.slice A n c)), .agg #[.int .i64 6, nmV nm, nmV to, pv, .int .i64 an, kv]] w (StepP G w D mb) := by
  obtain ⟨W0, hW0⟩ : ∃ W0, ((w.alloc (.cells (rcs st (.slice A n c)) 29)).alloc (.cells #[.int .i64 6, nmV nm, nmV to, pv, .int .i64 an, kv] 36)).alloc (.cells zD 29) = W0 := ⟨_, rfl⟩
  have HWE := Lib.hid hW0
  have HB0 : Hid (Sb w.heap.size st (.slice A n c) #[.int .i64 6, nmV nm, nmV to, pv, .int .i64 an, kv] W0) := by show Sb _ _ _ _ _; rw [← hW0]; exact Sb.new w st _ _
  have HD0 : Hid (Below w.heap.size w W0) := by show Below _ _ _; rw [← hW0]; exact Me.below_alloc (Me.below_alloc (Me.below_alloc (Below.refl _ _)))
  have HN0 : Hid (W0.heap.size = w.heap.size + 3) := by show _ = _; rw [← hW0]; simp
  have HF0 : Hid (Fv (fun k => ¬ G k ∧ k < w.heap.size) W0 (.slice A n c) st.files) := h.out.fv0 HD0.out
  obtain ⟨y0, y1, y2, y3⟩ := row_cells4 HB0.out.x
  have a0 := HB0.out.act 0
  have a4 := HB0.out.act 4
  rw [← hW0] at y0 y1 y2 y3 a0 a4
  have HR := Lib.hid (RLimit_any W0 st (.slice A n c) HF0 an)
  obtain ⟨st', hst⟩ : ∃ st', limS st an = st' := ⟨_, rfl⟩
  obtain ⟨cc, hcc⟩ : ∃ cc : Nat, limE an = cc := ⟨_, rfl⟩
  have HOK : Hid st'.Ok := by rw [← hst]; exact h.out.ok.lim' an
  have HDF : Hid (∀ W, Below w.heap.size w W → Calls Try.prog 30 #[.pointer (some ⟨D, 0, none⟩), .int .i64 an] W (OpP G W D mb st' cc)) := fun W hW => by
    rw [← hst, ← hcc]
    exact Limit_o W D mb st (h.out.dq.below hW) an
  rw [hst, hcc] at HR
  show Calls Try.prog 15 #[.pointer (some ⟨D, 0, none⟩), .agg #[.int .i64 (st.limit : Int), .slice A n c, .int .i64 (leftI st), .bool st.down], .agg #[.int .i64 6, nmV nm, nmV to, pv, .int .i64 an, kv]] w _
  unfold rcs zD at HWE y0 y1 y2 y3 a0 a4
  clear hW0 hst hcc
  go_enter Try.func15, Try.ntmps15
  go_wp2_with (first
    | (go_at_call 43; rw [HWE.out]; refine HR.out.mono ?_; rintro e w1 ⟨A2, n2, c2, rfl, hf1, hb1⟩; have HB1 := Lib.hid (HB0.out.grow hb1.out); clear y0 y1 y2 y3 a0 a4)
    | (refine wpList_store_row rfl 29 (.tmp 23) (.tmp 184) rfl w1.heap.size (rcs st' (.slice A2 n2 c2)) rfl rfl 29 _ (heap_alloc_new w1 _) (by kernel_rfl) rfl (rcs_one _ _ _ _) ?_; have hxb := x_box (st' := st') (v' := .slice A2 n2 c2) HB1.out; obtain ⟨W2, hW2⟩ : ∃ W2, (w1.alloc (.cells #[.int .i64 0, .slice none 0 0, .int .i64 0, .bool false] 29)).setRow w1.heap.size (rcs st' (.slice A2 n2 c2)) = W2 := ⟨_, rfl⟩; unfold zD at hxb; rw [hW2] at hxb ⊢; obtain ⟨gx, hgx⟩ : ∃ gx, w1.heap.size = gx := ⟨_, rfl⟩; have hg3 : w.heap.size + 3 ≤ gx := (by have h1 := HN0.out; have h2 := hb1.out.size; omega); have hbw : Below w.heap.size w W2 := (HD0.out.trans (hb1.out.mono HD0.out.size)).trans (hxb.2.1.mono (by omega)); have hf2 := hf1.out.below hxb.2.1; have hn2 := hxb.2.2; simp only [hgx] at hxb hn2 ⊢; have HX2 := Lib.hid hxb.1; have HG3 := Lib.hid hg3; have HBW := Lib.hid hbw; have HF2 := Lib.hid hf2; have HN2 := Lib.hid hn2; clear hW2 hxb hgx hg3 hbw hf2 hn2))
  have HCALL := Lib.hid (HDF.out W2.drew (HBW.out.trans ((Below.refl _ W2).drew.mono HBW.out.size)))
  refine wp_region_held_drew (S := SS w.heap.size #[.int .i64 6, nmV nm, nmV to, pv, .int .i64 an, kv] gx st' (.slice A2 n2 c2)) (by kernel_rfl) (HX2.out.but (But.of_below (S := fun _ => False) ((Below.refl _ W2).drew)) (fun _ _ => id) (by have := HG3.out; omega)).ss (fun hHeld => ?_)
  refine wpAnyH_take (i := 0) (v := ?vz33) rfl (by kernel_rfl) (by kernel_rfl) (by kernel_rfl) (fun _ _ _ h => h) (Or.inl ⟨by rfl, ?hyz33⟩) (by first | assumption | exact trivial) ?restz33
  case hyz33 => intro W hSW; obtain ⟨r0, r1, r2, r3⟩ := hSW.c; go_simp; try (with_reducible rfl)
  simp only [Act.put, List.getElem_toArray, List.getElem_cons_succ, List.getElem_cons_zero, List.setIfInBounds_toArray, List.set_cons_zero, List.set_cons_succ]
  refine wpAnyH_take (i := 1) (v := ?vz34) rfl (by kernel_rfl) (by kernel_rfl) (by kernel_rfl) (fun _ _ _ h => h) (Or.inl ⟨by rfl, ?hyz34⟩) (by first | assumption | exact trivial) ?restz34
  case hyz34 => intro W hSW; go_simp; try (with_reducible rfl)
  simp only [Act.put, List.getElem_toArray, List.getElem_cons_succ, List.getElem_cons_zero, List.setIfInBounds_toArray, List.set_cons_zero, List.set_cons_succ]
  refine wpAnyH_take (i := 2) (v := ?vz35) rfl (by kernel_rfl) (by kernel_rfl) (by kernel_rfl) (fun _ _ _ h => h) (Or.inl ⟨by rfl, ?hyz35⟩) (by first | assumption | exact trivial) ?restz35
  case hyz35 => intro W hSW; go_simp; try (with_reducible rfl)
  simp only [Act.put, List.getElem_toArray, List.getElem_cons_succ, List.getElem_cons_zero, List.setIfInBounds_toArray, List.set_cons_zero, List.set_cons_succ]
  refine wpAnyH_take (i := 3) (v := ?vz36) rfl (by kernel_rfl) (by kernel_rfl) (by kernel_rfl) (fun _ _ _ h => h) (Or.inl ⟨by rfl, ?hyz36⟩) (by first | assumption | exact trivial) ?restz36
  case hyz36 => intro W hSW; have r4 := hSW.a 4; go_simp; try (with_reducible rfl)
  simp only [Act.put, List.getElem_toArray, List.getElem_cons_succ, List.getElem_cons_zero, List.setIfInBounds_toArray, List.set_cons_zero, List.set_cons_succ]
  refine wpAnyH_take (i := 5) (v := ?vz37) rfl (by kernel_rfl) (by kernel_rfl) (by kernel_rfl) (fun _ _ _ h => h) (Or.inl ⟨by rfl, ?hyz37⟩) (by first | assumption | exact trivial) ?restz37
  case hyz37 => intro W hSW; go_simp; try (with_reducible rfl)
  simp only [Act.put, List.getElem_toArray, List.getElem_cons_succ, List.getElem_cons_zero, List.setIfInBounds_toArray, List.set_cons_zero, List.set_cons_succ]
  refine wpAnyH_ready (rs := [4]) (by kernel_rfl) (by simp) ?_
  refine AllReadyH.cons rfl (fun K hK => ?_) AllReadyH.nil
  go_simp
  go_wp2_with (go_at_call 30; refine HCALL.out.mono ?_; rintro e w4 ⟨rfl, hd4, hb4⟩)
  have HX4 := Lib.hid ((HX2.out.but (But.of_below (S := fun _ => False) ((Below.refl _ W2).drew)) (fun _ _ => id) (by have := HG3.out; omega)).but hb4.out (fun k hk hg => by have := h.out.lt k hg; omega) (by have := HG3.out; omega))
  refine hK.out _ _ (HX4.out.ss) (fun hHeld => ?_)
  clear hK K
  refine wpAnyH_take (i := 6) (v := ?vz38) rfl (by kernel_rfl) (by kernel_rfl) (by kernel_rfl) (fun _ _ _ h => h) (Or.inl ⟨by rfl, ?hyz38⟩) (by first | assumption | exact trivial) ?restz38
  case hyz38 => intro W hSW; go_simp; try (with_reducible rfl)
  simp only [Act.put, List.getElem_toArray, List.getElem_cons_succ, List.getElem_cons_zero, List.setIfInBounds_toArray, List.set_cons_zero, List.set_cons_succ]
  refine wpAnyH_ready (rs := [7]) (by kernel_rfl) (by simp) ?_
  refine AllReadyH.cons rfl (fun K hK => ?_) AllReadyH.nil
  rw [if_pos (by kernel_rfl)]
  refine wp_store_row 29 (.tmp 6) (.tmp 186) rfl (w.heap.size + 1 + 1) (rcs st' (.slice A2 n2 c2)) rfl (by rfl) 29 _ HX4.out.s.z (by kernel_rfl) rfl (rcs_one _ _ _ _) ?_
  simp only [Act.put, List.getElem_toArray, List.getElem_cons_succ, List.getElem_cons_zero, List.setIfInBounds_toArray, List.set_cons_zero, List.set_cons_succ]
  have HX5 := Lib.hid (HX4.out.store (by have := HG3.out; omega) (rcs st' (.slice A2 n2 c2)))
  refine hK.out _ _ (⟨HX5.out.1, HX5.out.2.1⟩) (fun hHeld => ?_)
  clear hK K
  refine wpAnyH_take (i := 8) (v := ?vz39) rfl (by kernel_rfl) (by kernel_rfl) (by kernel_rfl) (fun _ _ _ h => h) (Or.inl ⟨by rfl, ?hyz39⟩) (by first | assumption | exact trivial) ?restz39
  case hyz39 => intro W hSW; go_simp; try (with_reducible rfl)
  simp only [Act.put, List.getElem_toArray, List.getElem_cons_succ, List.getElem_cons_zero, List.setIfInBounds_toArray, List.set_cons_zero, List.set_cons_succ]
  refine wpAnyH_done (by kernel_rfl) ?_ _
  go_wp2
  refine ret_cell rfl rfl HX5.out.2.2 rfl Try.underlying29 (by kernel_rfl) rfl ?_
  obtain ⟨G', p1, p2, p3⟩ := step_fin (W2 := W2.drew) h.out (HBW.out.trans ((Below.refl _ W2).drew.mono HBW.out.size)) (by show _ ≤ W2.heap.size; have h1 := HG3.out; have h2 := HN2.out; omega) (by rw [HN0.out] at HF2; exact HF2.out.below ((Below.refl _ W2).drew)) hd4.out hb4.out HOK.out (rcs st' (.slice A2 n2 c2))
  exact ⟨st', A2, n2, c2, G', by first | rfl | (simp only [beq_self_eq_true]; rfl), p1, p2, p3⟩
set_option maxRecDepth 100000 in
set_option maxHeartbeats 4000000 in
theorem step7 (nm to : Nm) (pv : Value) (an : Int) (kv : Value) (han : an ≤ 9223372036854775807) : Calls Try.prog 15 #[.pointer (some ⟨D, 0, none⟩), .agg (rcs st (.slice A n c)), .agg #[.int .i64 7, nmV nm, nmV to, pv, .int .i64 an, kv]] w (StepP G w D mb) := by
  obtain ⟨W0, hW0⟩ : ∃ W0, ((w.alloc (.cells (rcs st (.slice A n c)) 29)).alloc (.cells #[.int .i64 7, nmV nm, nmV to, pv, .int .i64 an, kv] 36)).alloc (.cells zD 29) = W0 := ⟨_, rfl⟩
  have HWE := Lib.hid hW0
  have HB0 : Hid (Sb w.heap.size st (.slice A n c) #[.int .i64 7, nmV nm, nmV to, pv, .int .i64 an, kv] W0) := by show Sb _ _ _ _ _; rw [← hW0]; exact Sb.new w st _ _
  have HD0 : Hid (Below w.heap.size w W0) := by show Below _ _ _; rw [← hW0]; exact Me.below_alloc (Me.below_alloc (Me.below_alloc (Below.refl _ _)))
  have HN0 : Hid (W0.heap.size = w.heap.size + 3) := by show _ = _; rw [← hW0]; simp
  have HF0 : Hid (Fv (fun k => ¬ G k ∧ k < w.heap.size) W0 (.slice A n c) st.files) := h.out.fv0 HD0.out
  obtain ⟨y0, y1, y2, y3⟩ := row_cells4 HB0.out.x
  have a0 := HB0.out.act 0
  have a4 := HB0.out.act 4
  rw [← hW0] at y0 y1 y2 y3 a0 a4
  have HR := Lib.hid (RArm_any W0 st (.slice A n c) HF0 an)
  obtain ⟨st', hst⟩ : ∃ st', armS st an = st' := ⟨_, rfl⟩
  obtain ⟨cc, hcc⟩ : ∃ cc : Nat, armE st = cc := ⟨_, rfl⟩
  have HOK : Hid st'.Ok := by rw [← hst]; exact h.out.ok.arm han
  have HDF : Hid (∀ W, Below w.heap.size w W → Calls Try.prog 29 #[.pointer (some ⟨D, 0, none⟩), .int .i64 an] W (OpP G W D mb st' cc)) := fun W hW => by
    rw [← hst, ← hcc]
    exact Arm_o W D mb st (h.out.dq.below hW) an
  rw [hst, hcc] at HR
  show Calls Try.prog 15 #[.pointer (some ⟨D, 0, none⟩), .agg #[.int .i64 (st.limit : Int), .slice A n c, .int .i64 (leftI st), .bool st.down], .agg #[.int .i64 7, nmV nm, nmV to, pv, .int .i64 an, kv]] w _
  unfold rcs zD at HWE y0 y1 y2 y3 a0 a4
  clear hW0 hst hcc
  go_enter Try.func15, Try.ntmps15
  go_wp2_with (first
    | (go_at_call 44; rw [HWE.out]; refine HR.out.mono ?_; rintro e w1 ⟨A2, n2, c2, rfl, hf1, hb1⟩; have HB1 := Lib.hid (HB0.out.grow hb1.out); clear y0 y1 y2 y3 a0 a4)
    | (refine wpList_store_row rfl 29 (.tmp 25) (.tmp 200) rfl w1.heap.size (rcs st' (.slice A2 n2 c2)) rfl rfl 29 _ (heap_alloc_new w1 _) (by kernel_rfl) rfl (rcs_one _ _ _ _) ?_; have hxb := x_box (st' := st') (v' := .slice A2 n2 c2) HB1.out; obtain ⟨W2, hW2⟩ : ∃ W2, (w1.alloc (.cells #[.int .i64 0, .slice none 0 0, .int .i64 0, .bool false] 29)).setRow w1.heap.size (rcs st' (.slice A2 n2 c2)) = W2 := ⟨_, rfl⟩; unfold zD at hxb; rw [hW2] at hxb ⊢; obtain ⟨gx, hgx⟩ : ∃ gx, w1.heap.size = gx := ⟨_, rfl⟩; have hg3 : w.heap.size + 3 ≤ gx := (by have h1 := HN0.out; have h2 := hb1.out.size; omega); have hbw : Below w.heap.size w W2 := (HD0.out.trans (hb1.out.mono HD0.out.size)).trans (hxb.2.1.mono (by omega)); have hf2 := hf1.out.below hxb.2.1; have hn2 := hxb.2.2; simp only [hgx] at hxb hn2 ⊢; have HX2 := Lib.hid hxb.1; have HG3 := Lib.hid hg3; have HBW := Lib.hid hbw; have HF2 := Lib.hid hf2; have HN2 := Lib.hid hn2; clear hW2 hxb hgx hg3 hbw hf2 hn2))
  have HCALL := Lib.hid (HDF.out W2.drew (HBW.out.trans ((Below.refl _ W2).drew.mono HBW.out.size)))
  refine wp_region_held_drew (S := SS w.heap.size #[.int .i64 7, nmV nm, nmV to, pv, .int .i64 an, kv] gx st' (.slice A2 n2 c2)) (by kernel_rfl) (HX2.out.but (But.of_below (S := fun _ => False) ((Below.refl _ W2).drew)) (fun _ _ => id) (by have := HG3.out; omega)).ss (fun hHeld => ?_)
  refine wpAnyH_take (i := 0) (v := ?vz40) rfl (by kernel_rfl) (by kernel_rfl) (by kernel_rfl) (fun _ _ _ h => h) (Or.inl ⟨by rfl, ?hyz40⟩) (by first | assumption | exact trivial) ?restz40
  case hyz40 => intro W hSW; obtain ⟨r0, r1, r2, r3⟩ := hSW.c; go_simp; try (with_reducible rfl)
  simp only [Act.put, List.getElem_toArray, List.getElem_cons_succ, List.getElem_cons_zero, List.setIfInBounds_toArray, List.set_cons_zero, List.set_cons_succ]
  refine wpAnyH_take (i := 1) (v := ?vz41) rfl (by kernel_rfl) (by kernel_rfl) (by kernel_rfl) (fun _ _ _ h => h) (Or.inl ⟨by rfl, ?hyz41⟩) (by first | assumption | exact trivial) ?restz41
  case hyz41 => intro W hSW; go_simp; try (with_reducible rfl)
  simp only [Act.put, List.getElem_toArray, List.getElem_cons_succ, List.getElem_cons_zero, List.setIfInBounds_toArray, List.set_cons_zero, List.set_cons_succ]
  refine wpAnyH_take (i := 2) (v := ?vz42) rfl (by kernel_rfl) (by kernel_rfl) (by kernel_rfl) (fun _ _ _ h => h) (Or.inl ⟨by rfl, ?hyz42⟩) (by first | assumption | exact trivial) ?restz42
  case hyz42 => intro W hSW; go_simp; try (with_reducible rfl)
  simp only [Act.put, List.getElem_toArray, List.getElem_cons_succ, List.getElem_cons_zero, List.setIfInBounds_toArray, List.set_cons_zero, List.set_cons_succ]
  refine wpAnyH_take (i := 3) (v := ?vz43) rfl (by kernel_rfl) (by kernel_rfl) (by kernel_rfl) (fun _ _ _ h => h) (Or.inl ⟨by rfl, ?hyz43⟩) (by first | assumption | exact trivial) ?restz43
  case hyz43 => intro W hSW; have r4 := hSW.a 4; go_simp; try (with_reducible rfl)
  simp only [Act.put, List.getElem_toArray, List.getElem_cons_succ, List.getElem_cons_zero, List.setIfInBounds_toArray, List.set_cons_zero, List.set_cons_succ]
  refine wpAnyH_take (i := 5) (v := ?vz44) rfl (by kernel_rfl) (by kernel_rfl) (by kernel_rfl) (fun _ _ _ h => h) (Or.inl ⟨by rfl, ?hyz44⟩) (by first | assumption | exact trivial) ?restz44
  case hyz44 => intro W hSW; go_simp; try (with_reducible rfl)
  simp only [Act.put, List.getElem_toArray, List.getElem_cons_succ, List.getElem_cons_zero, List.setIfInBounds_toArray, List.set_cons_zero, List.set_cons_succ]
  refine wpAnyH_ready (rs := [4]) (by kernel_rfl) (by simp) ?_
  refine AllReadyH.cons rfl (fun K hK => ?_) AllReadyH.nil
  go_simp
  go_wp2_with (go_at_call 29; refine HCALL.out.mono ?_; rintro e w4 ⟨rfl, hd4, hb4⟩)
  have HX4 := Lib.hid ((HX2.out.but (But.of_below (S := fun _ => False) ((Below.refl _ W2).drew)) (fun _ _ => id) (by have := HG3.out; omega)).but hb4.out (fun k hk hg => by have := h.out.lt k hg; omega) (by have := HG3.out; omega))
  refine hK.out _ _ (HX4.out.ss) (fun hHeld => ?_)
  clear hK K
  refine wpAnyH_take (i := 6) (v := ?vz45) rfl (by kernel_rfl) (by kernel_rfl) (by kernel_rfl) (fun _ _ _ h => h) (Or.inl ⟨by rfl, ?hyz45⟩) (by first | assumption | exact trivial) ?restz45
  case hyz45 => intro W hSW; go_simp; try (with_reducible rfl)
  simp only [Act.put, List.getElem_toArray, List.getElem_cons_succ, List.getElem_cons_zero, List.setIfInBounds_toArray, List.set_cons_zero, List.set_cons_succ]
  refine wpAnyH_ready (rs := [7]) (by kernel_rfl) (by simp) ?_
  refine AllReadyH.cons rfl (fun K hK => ?_) AllReadyH.nil
  rw [if_pos (by kernel_rfl)]
  refine wp_store_row 29 (.tmp 6) (.tmp 202) rfl (w.heap.size + 1 + 1) (rcs st' (.slice A2 n2 c2)) rfl (by rfl) 29 _ HX4.out.s.z (by kernel_rfl) rfl (rcs_one _ _ _ _) ?_
  simp only [Act.put, List.getElem_toArray, List.getElem_cons_succ, List.getElem_cons_zero, List.setIfInBounds_toArray, List.set_cons_zero, List.set_cons_succ]
  have HX5 := Lib.hid (HX4.out.store (by have := HG3.out; omega) (rcs st' (.slice A2 n2 c2)))
  refine hK.out _ _ (⟨HX5.out.1, HX5.out.2.1⟩) (fun hHeld => ?_)
  clear hK K
  refine wpAnyH_take (i := 8) (v := ?vz46) rfl (by kernel_rfl) (by kernel_rfl) (by kernel_rfl) (fun _ _ _ h => h) (Or.inl ⟨by rfl, ?hyz46⟩) (by first | assumption | exact trivial) ?restz46
  case hyz46 => intro W hSW; go_simp; try (with_reducible rfl)
  simp only [Act.put, List.getElem_toArray, List.getElem_cons_succ, List.getElem_cons_zero, List.setIfInBounds_toArray, List.set_cons_zero, List.set_cons_succ]
  refine wpAnyH_done (by kernel_rfl) ?_ _
  go_wp2
  refine ret_cell rfl rfl HX5.out.2.2 rfl Try.underlying29 (by kernel_rfl) rfl ?_
  obtain ⟨G', p1, p2, p3⟩ := step_fin (W2 := W2.drew) h.out (HBW.out.trans ((Below.refl _ W2).drew.mono HBW.out.size)) (by show _ ≤ W2.heap.size; have h1 := HG3.out; have h2 := HN2.out; omega) (by rw [HN0.out] at HF2; exact HF2.out.below ((Below.refl _ W2).drew)) hd4.out hb4.out HOK.out (rcs st' (.slice A2 n2 c2))
  exact ⟨st', A2, n2, c2, G', by first | rfl | (simp only [beq_self_eq_true]; rfl), p1, p2, p3⟩
end
end Go.Proofs.Ytdjgkoklkoahbaa.Dk
