/- The law's steps that read, or do nothing. -/
import Derived.Test.YtdjgkoklkoahbaaDkStep
namespace Go.Proofs.Ytdjgkoklkoahbaa.Dk
open Go.RowKit
open Go.Proofs.Ytdjgkoklkoahbaa.Me Go.Proofs.Ytdjgkoklkoahbaa.Hd
set_option linter.unusedVariables false
set_option linter.unusedSimpArgs false

/-- A step that leaves the disk alone: both are as before. -/
theorem step_same {G : Nat → Prop} {w W : World} {D mb : Nat} {st : St} {v : Value} (h : Pz G w D mb st v) (hb : Below w.heap.size w W) (cs : Array Value) :
    Pz G (W.setRow (w.heap.size + 1 + 1) cs) D mb st v ∧ But G w (W.setRow (w.heap.size + 1 + 1) cs) := by
  have b2 : Below w.heap.size w (W.setRow (w.heap.size + 1 + 1) cs) := hb.trans ⟨rfl, rfl, rfl, by simp [World.setRow], fun k hk => setRow_other _ _ k _ (by omega)⟩
  exact ⟨⟨h.dq.below b2, h.ok, h.fv.below b2, fun k hk => Nat.lt_of_lt_of_le (h.lt k hk) b2.size⟩, But.of_below b2⟩
theorem turn_twice {w : World} {g j : Nat} {l : List Nat} (h : Me.Row w g l) (hj : j < l.length) (y : Nat) (hy : by_ l j = y) : Me.Row ((w.setCell ⟨g, j, none⟩ (.int .u8 ((255 - y : Nat) : Int))).setCell ⟨g, j, none⟩ (.int .u8 (y : Int))) g l := by
  have h2 := (h.store j (255 - y)).store j y
  have e : (l.set j (255 - y)).set j y = l := by
    rw [List.set_set, ← hy, by_get hj, List.set_getElem_self]
  rw [e] at h2
  exact h2
section
variable {G : Nat → Prop} (w : World) (D mb : Nat) (st : St) (A : Option Addr) (n c : Nat) (h : Hid (Pz G w D mb st (.slice A n c)))
include h
set_option maxRecDepth 100000 in
set_option maxHeartbeats 4000000 in
theorem step_other (kd : Int) (e0 : (kd == 0) = false) (e1 : (kd == 1) = false) (e2 : (kd == 2) = false) (e3 : (kd == 3) = false) (e4 : (kd == 4) = false) (e5 : (kd == 5) = false) (e6 : (kd == 6) = false) (e7 : (kd == 7) = false) (e8 : (kd == 8) = false) (nm to : Nm) (pv : Value) (an : Int) (kv : Value) :
    Calls Try.prog 15 #[.pointer (some ⟨D, 0, none⟩), .agg (rcs st (.slice A n c)), .agg #[.int .i64 kd, nmV nm, nmV to, pv, .int .i64 an, kv]] w (StepP G w D mb) := by
  obtain ⟨W0, hW0⟩ : ∃ W0, ((w.alloc (.cells (rcs st (.slice A n c)) 29)).alloc (.cells #[.int .i64 kd, nmV nm, nmV to, pv, .int .i64 an, kv] 36)).alloc (.cells zD 29) = W0 := ⟨_, rfl⟩
  have HWE := Lib.hid hW0
  have HB0 : Hid (Sb w.heap.size st (.slice A n c) #[.int .i64 kd, nmV nm, nmV to, pv, .int .i64 an, kv] W0) := by show Sb _ _ _ _ _; rw [← hW0]; exact Sb.new w st _ _
  have HD0 : Hid (Below w.heap.size w W0) := by show Below _ _ _; rw [← hW0]; exact Me.below_alloc (Me.below_alloc (Me.below_alloc (Below.refl _ _)))
  have HN0 : Hid (W0.heap.size = w.heap.size + 3) := by show _ = _; rw [← hW0]; simp
  have HF0 : Hid (Fv (fun k => ¬ G k ∧ k < w.heap.size) W0 (.slice A n c) st.files) := h.out.fv0 HD0.out
  obtain ⟨y0, y1, y2, y3⟩ := row_cells4 HB0.out.x
  have a0 := HB0.out.act 0
  rw [← hW0] at y0 y1 y2 y3 a0
  have hz := HB0.out.z
  rw [← hW0] at hz
  show Calls Try.prog 15 #[.pointer (some ⟨D, 0, none⟩), .agg #[.int .i64 (st.limit : Int), .slice A n c, .int .i64 (leftI st), .bool st.down], .agg #[.int .i64 kd, nmV nm, nmV to, pv, .int .i64 an, kv]] w _
  unfold rcs zD at HWE y0 y1 y2 y3 a0 hz
  have HZ := Lib.hid hz
  clear hW0 hz
  go_enter Try.func15, Try.ntmps15
  go_wp2_with (refine wpList_store_row rfl 29 (.tmp 6) (.tmp 222) rfl (w.heap.size + 1 + 1) (rcs st (.slice A n c)) rfl rfl 29 _ HZ.out (by kernel_rfl) rfl (rcs_one _ _ _ _) ?_; rw [HWE.out])
  obtain ⟨p1, p3⟩ := step_same h.out HD0.out (rcs st (.slice A n c))
  refine ret_cell rfl rfl (setRow_heap _ _ _ _ _ _ HB0.out.z) rfl Try.underlying29 (by kernel_rfl) rfl ?_
  exact ⟨st, A, n, c, G, rfl, p1, fun _ _ => id, p3⟩
set_option maxRecDepth 100000 in
set_option maxHeartbeats 4000000 in
theorem step5 (nm to : Nm) (pv : Value) (an : Int) (kv : Value) :
    Calls Try.prog 15 #[.pointer (some ⟨D, 0, none⟩), .agg (rcs st (.slice A n c)), .agg #[.int .i64 5, nmV nm, nmV to, pv, .int .i64 an, kv]] w (StepP G w D mb) := by
  obtain ⟨W0, hW0⟩ : ∃ W0, ((w.alloc (.cells (rcs st (.slice A n c)) 29)).alloc (.cells #[.int .i64 5, nmV nm, nmV to, pv, .int .i64 an, kv] 36)).alloc (.cells zD 29) = W0 := ⟨_, rfl⟩
  have HWE := Lib.hid hW0
  have HB0 : Hid (Sb w.heap.size st (.slice A n c) #[.int .i64 5, nmV nm, nmV to, pv, .int .i64 an, kv] W0) := by show Sb _ _ _ _ _; rw [← hW0]; exact Sb.new w st _ _
  have HD0 : Hid (Below w.heap.size w W0) := by show Below _ _ _; rw [← hW0]; exact Me.below_alloc (Me.below_alloc (Me.below_alloc (Below.refl _ _)))
  have HN0 : Hid (W0.heap.size = w.heap.size + 3) := by show _ = _; rw [← hW0]; simp
  have HF0 : Hid (Fv (fun k => ¬ G k ∧ k < w.heap.size) W0 (.slice A n c) st.files) := h.out.fv0 HD0.out
  obtain ⟨y0, y1, y2, y3⟩ := row_cells4 HB0.out.x
  have a0 := HB0.out.act 0
  have a1 := HB0.out.act 1
  rw [← hW0] at y0 y1 y2 y3 a0 a1
  have HRD := Lib.hid (Read_any W0 D mb st (h.out.dq.below HD0.out) h.out.ok nm)
  have HRR := Lib.hid (fun (W : World) (hW : Below w.heap.size w W) => RRead_any W st (.slice A n c) (h.out.fv0 hW) h.out.ok nm)
  have HLB : Hid (∀ z ∈ readP st nm, z < 256) := fun z hz => by
    unfold readP at hz
    split at hz
    · exact (h.out.ok.fileOf nm).2.2 z hz
    · cases hz
  unfold ReadP at HRD
  obtain ⟨l, hl⟩ : ∃ l, readP st nm = l := ⟨_, rfl⟩
  obtain ⟨cc, hcc⟩ : ∃ cc : Nat, findE st nm = cc := ⟨_, rfl⟩
  have hl20 : l.length ≤ 1048576 := by
    rw [← hl]; unfold readP
    split
    · exact Nat.le_trans (h.out.ok.fileOf nm).2.1 h.out.ok.use
    · exact Nat.zero_le _
  rw [hl, hcc] at HRD HRR
  rw [hl] at HLB
  obtain ⟨ln, hln⟩ : ∃ ln, l.length = ln := ⟨_, rfl⟩
  have HLN := Lib.hid hln
  rw [hln] at HRD hl20
  obtain ⟨SL, hSL⟩ : ∃ S, Me.strOf l = S := ⟨_, rfl⟩
  have HSL := Lib.hid hSL
  rw [hSL] at HRR
  show Calls Try.prog 15 #[.pointer (some ⟨D, 0, none⟩), .agg #[.int .i64 (st.limit : Int), .slice A n c, .int .i64 (leftI st), .bool st.down], .agg #[.int .i64 5, nmV nm, nmV to, pv, .int .i64 an, kv]] w _
  unfold rcs zD at HWE y0 y1 y2 y3 a0 a1
  clear hW0 hl hcc hln hSL
  go_enter Try.func15, Try.ntmps15
  go_wp2_with (first
    | (go_at_call 20; rw [HWE.out]; refine HRD.out.mono ?_; rintro e w1 ⟨A1, rfl, hr1, hn1, hg1, hb1⟩; have HB1 := Lib.hid (HB0.out.grow hb1.out); have HD1 : Hid (Below w.heap.size w w1) := HD0.out.trans (hb1.out.mono HD0.out.size); clear y0 y1 y2 y3 a0 a1; obtain ⟨y0, y1, y2, y3⟩ := row_cells4 HB1.out.x; have a1 := HB1.out.act 1)
    | (go_at_call 42; refine (HRR.out w1 HD1.out).mono ?_; rintro e w2 ⟨rfl, hb2⟩; have HB2 := Lib.hid (HB1.out.grow hb2.out); have HD2 : Hid (Below w.heap.size w w2) := HD1.out.trans (hb2.out.mono HD1.out.size); clear y0 y1 y2 y3 a1))
  have HG2 : Hid (∀ a, A1 = some a → a = ⟨a.block, 0, none⟩ ∧ Me.Row w2 a.block l ∧ W0.heap.size ≤ a.block ∧ a.block < w1.heap.size) := fun a e => by
    obtain ⟨q1, q2, q3⟩ := hg1.out a e
    exact ⟨q1, q2.below hb2.out q2.lt, q3, q2.lt⟩
  have HN1 := hn1
  clear hg1 hr1 hn1
  go_loopw [22] (fun i wr => ∃ j : Nat, j ≤ ln ∧ i = .int .i64 j ∧ Hid (∀ a, A1 = some a → Me.Row wr a.block l) ∧ Hid (Below W0.heap.size w2 wr)) (fun i _ => ln - (intOf i).toNat)
  case atStart => exact ⟨0, Nat.zero_le _, rfl, fun a e => (HG2.out a e).2.1, Below.refl _ _⟩
  case round =>
    obtain ⟨j, hj, rfl, hrow, hbt⟩ := hrel
    have hsz : W0.heap.size ≤ w2.heap.size := Nat.le_trans (by have := HB1.out.lt; have h2 := HN0.out; omega) hb2.out.size
    have HBR : Hid (Sb w.heap.size st (.slice A n c) #[.int .i64 5, nmV nm, nmV to, pv, .int .i64 an, kv] wr) := HB2.out.but (S := fun k => W0.heap.size ≤ k) ⟨hbt.out.os, hbt.out.tape, hbt.out.output, hbt.out.size, fun k _ hk => hbt.out.block k (by omega)⟩ fun k _ hk hk2 => by have h2 := HN0.out; omega
    have HDR : Hid (Below w.heap.size w wr) := HD2.out.trans (hbt.out.mono (by have h2 := HN0.out; omega))
    have HCV : Hid ((convert 33 9 (.slice A1 ln ln)).run Try.prog wr = .ok (.string SL) wr) := by
      have hrd : Me.Rd wr wr.heap.size A1 l := by
        cases hA1 : A1 with
        | none => exact ⟨HLB.out, fun hp => by have := HN1.out hA1; rw [HLN.out] at hp; omega⟩
        | some a =>
          have e1 := (HG2.out a hA1).1
          have q1 := hrow.out a hA1
          rw [e1]
          exact q1.rd q1.lt HLB.out
      have := conv_rd wr _ A1 l ln hrd (fun e => by have := HN1.out e; rw [HLN.out]; omega)
      rw [HLN.out, HSL.out] at this
      exact this
    have hcv := HCV.out
    by_cases hlt : j < ln
    · obtain ⟨a, rfl⟩ : ∃ a, A1 = some a := by
        cases hA1 : A1 with
        | none => have := HN1.out hA1; omega
        | some a => exact ⟨a, rfl⟩
      obtain ⟨e1, _, hg3, _⟩ := HG2.out a rfl
      obtain ⟨g, hg⟩ : ∃ g, a.block = g := ⟨_, rfl⟩
      rw [hg] at e1 hg3
      subst e1
      have hr1 : Me.Row wr g l := hrow.out _ rfl
      have HR1 := Lib.hid hr1
      have hjl : j < l.length := by rw [HLN.out]; exact hlt
      have k1 := hr1.cell hjl
      have k2 := hr1.frozen j
      have hy255 : by_ l j < 256 := by rw [by_get hjl]; exact HLB.out _ (List.getElem_mem hjl)
      obtain ⟨y, hy⟩ : ∃ y, by_ l j = y := ⟨_, rfl⟩
      rw [hy] at k1 hy255
      have HT : Hid (Me.Row ((wr.setCell ⟨g, j, none⟩ (.int .u8 ((255 - y : Nat) : Int))).setCell ⟨g, j, none⟩ (.int .u8 (y : Int))) g l) := turn_twice hr1 hjl y hy
      have HB3 : Hid (∀ u1 u2, Below W0.heap.size w2 ((wr.setCell ⟨g, j, none⟩ u1).setCell ⟨g, j, none⟩ u2)) := fun u1 u2 => (hbt.out.setCell (p := ⟨g, j, none⟩) hg3 u1).setCell (p := ⟨g, j, none⟩) hg3 u2
      have hw1 : (255 : Int) - (y : Int) = ((255 - y : Nat) : Int) := by omega
      have hw2 : (255 : Int) - ((255 - y : Nat) : Int) = (y : Int) := by omega
      have hw3 : IntKind.u8.wrap ((255 - y : Nat) : Int) = ((255 - y : Nat) : Int) := wrap8 (by unfold U8; omega)
      have hw4 : IntKind.u8.wrap (y : Int) = (y : Int) := wrap8 (by unfold U8; omega)
      have q1 : (j : Int) < (ln : Int) := by omega
      have q0 : (0 : Int) ≤ (j : Int) := by omega
      obtain ⟨y', hy'⟩ : ∃ y', 255 - y = y' := ⟨_, rfl⟩
      rw [hy'] at hw1 hw2 hw3 HT
      clear hr1 hjl hy hy255 hg hg3 hrow hcv hy'
      have hcv := HCV.out
      go_wp2
      go_roundw
      case rel => exact ⟨j + 1, by omega, by go_num, (fun a e => by cases e; exact HT.out), HB3.out _ _⟩
      case measure => simp [intOf]; omega
    · obtain rfl : j = ln := by omega
      have q1 : ¬ (j : Int) < (j : Int) := by omega
      have hzz := HBR.out.z
      obtain ⟨y0, y1, y2, y3⟩ := row_cells4 HBR.out.x
      obtain ⟨p1, p3⟩ := step_same h.out HDR.out (rcs st (.slice A n c))
      have HP1 := Lib.hid p1
      have HP3 := Lib.hid p3
      clear hj hlt p1 p3 hzz
      go_wp2_with (refine wpList_store_row rfl 29 (.tmp 6) (.tmp 167) rfl (w.heap.size + 1 + 1) (rcs st (.slice A n c)) rfl rfl 29 _ HBR.out.z (by kernel_rfl) rfl (rcs_one _ _ _ _) ?_)
      refine ret_cell rfl rfl (setRow_heap _ _ _ _ _ _ HBR.out.z) rfl Try.underlying29 (by kernel_rfl) rfl ?_
      exact ⟨st, A, n, c, G, by first | rfl | (simp only [beq_self_eq_true]; rfl), HP1, fun _ _ => id, HP3⟩
end
end Go.Proofs.Ytdjgkoklkoahbaa.Dk
