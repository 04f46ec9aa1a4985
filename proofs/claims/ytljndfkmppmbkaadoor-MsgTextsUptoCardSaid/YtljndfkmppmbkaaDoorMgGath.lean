/- What gather makes of what read tells: for the closures of GetId and Parse. -/
import Derived.Test.YtljndfkmppmbkaaDoorMgPut
import Derived.Test.YtljndfkmppmbkaaDoorMemB
import Derived.Handy
namespace Go.Proofs.YtljndfkmppmbkaaDoor.Mg
open Go.RowKit
open Go.Proofs.YtljndfkmppmbkaaDoor.Me Go.Proofs.YtljndfkmppmbkaaDoor.Ba Go.Proofs.YtljndfkmppmbkaaDoor.Ma Go.Proofs.YtljndfkmppmbkaaDoor.Bt Go.Proofs.YtljndfkmppmbkaaDoor.Hd
set_option linter.unusedVariables false
set_option linter.unusedSimpArgs false

def fmB (k : Nat) : ByteArray := ⟨if k = 0 then #[] else if k = 1 then #[62] else if k = 2 then #[58] else #[46]⟩
/-- How number k stands. -/
def fmV (k : Nat) : Value := .agg #[.string (fmB k), .int .i64 (szk k : Int)]
/-- The first k numbers, then noughts. -/
def arrK (x : Nat → Int) (k : Nat) : Array Value := #[.int .i64 (if 0 < k then x 0 else 0), .int .i64 (if 1 < k then x 1 else 0), .int .i64 (if 2 < k then x 2 else 0), .int .i64 (if 3 < k then x 3 else 0)]
theorem ret_box {fn : Func} {R : Ending → World → Prop} {a : Act} {w : World} {g : Nat} {cs : Array Value} {p : Tmp} {ty t : TypeId} {fr : Nat × Nat} {d : TypeDesc} (hres : fn.results = #[.cell p ty]) (hp : a.tmps.getD p undef = .pointer (some ⟨g, 0, none⟩)) (hg : w.heap[g]? = some (.cells cs t fr))
    (hd : d.isRow = true) (hu : Tryd.prog.underlying ty = some d) (hi : (Tryd.prog.info? ty).map (·.size) = some cs.size) (hdef : a.defers = [])
    (hR : R (.returned (.agg cs)) w) : bodyPost Tryd.prog fn R .ret a w :=
  bodyPost_ret (v := .agg cs) (results_cell_row hres a.tmps w g t cs fr d hp hg hu (by cases d <;> first | rfl | cases hd) hi) hdef hR
theorem below_set_new (w4 : World) (B i : Nat) {b : Nat} (v : Value) (h : B ≤ b := by omega) : Below B w4 (w4.setCell ⟨b, i, none⟩ v) := ⟨rfl, rfl, rfl, by simp, fun c hc => Below.heap_setCell _ _ _ _ (by show c ≠ b; omega)⟩
/-- A closure that reads: from k on to k + 1, it answers number k; blocks from B on that are there stay as they are. -/
def Reads (f : FuncId) (P Q : Value) (B : Nat) (x : Nat → Int) (J : Nat → World → Prop) : Prop :=
  ∀ k, k < 4 → ∀ W, J k W → B ≤ W.heap.size → Calls Tryd.prog f #[fmV k, P, Q] W fun e w' => e = .returned (.int .i64 (x k)) ∧ J (k + 1) w' ∧ Hid (W.heap.size ≤ w'.heap.size ∧ ∀ b, B ≤ b → b < W.heap.size → w'.heap[b]? = W.heap[b]?)
def Reads1 (f : FuncId) (P : Value) (B : Nat) (x : Nat → Int) (J : Nat → World → Prop) : Prop :=
  ∀ k, k < 4 → ∀ W, J k W → B ≤ W.heap.size → Calls Tryd.prog f #[fmV k, P] W fun e w' => e = .returned (.int .i64 (x k)) ∧ J (k + 1) w' ∧ Hid (W.heap.size ≤ w'.heap.size ∧ ∀ b, B ≤ b → b < W.heap.size → w'.heap[b]? = W.heap[b]?)
set_option maxRecDepth 100000 in
set_option maxHeartbeats 8000000 in
theorem gath2 (P Q : Nat) (x : Nat → Int) (J : Nat → World → Prop) (w : World) (h0 : Hid (J 0 w)) (hJ : Hid (∀ k W W', J k W → Below w.heap.size W W' → J k W')) (hc : Hid (Reads 41 (.pointer (some ⟨P, 0, none⟩)) (.pointer (some ⟨Q, 0, none⟩)) w.heap.size x J)) :
    Calls Tryd.prog 40 #[.func (.func 41) #[] #[.pointer (some ⟨P, 0, none⟩), .pointer (some ⟨Q, 0, none⟩)]] w fun e w' => e = .returned (.agg #[.int .i64 (x 0), .int .i64 (x 1), .int .i64 (x 2), .int .i64 (x 3)]) ∧ J 4 w' ∧ w.heap.size ≤ w'.heap.size := by
  have HF := Lib.hid (fun W => forms_any W)
  obtain ⟨W2, hW2⟩ : ∃ W, (w.alloc (.cells #[.int .i64 0, .int .i64 0, .int .i64 0, .int .i64 0] 23)).alloc (.cells #[.int .i64 0, .int .i64 0, .int .i64 0, .int .i64 0] 49) = W := ⟨_, rfl⟩
  have hb2 : Below w.heap.size w W2 := by rw [← hW2]; exact Me.below_alloc (Me.below_alloc (Below.refl _ _))
  have hs2 : W2.heap.size = w.heap.size + 1 + 1 := by rw [← hW2]; simp
  have hr2 : W2.heap[w.heap.size]? = some (.cells #[.int .i64 0, .int .i64 0, .int .i64 0, .int .i64 0] 23 (0, 0)) := by
    rw [← hW2]
    exact (Below.heap_alloc _ _ _ (by simp)).trans (heap_alloc_new w _)
  have hg2 : W2.heap[w.heap.size + 1]? = some (.cells (arrK x 0) 49 (0, 0)) := by
    rw [← hW2]
    have := heap_alloc_new (w.alloc (.cells #[.int .i64 0, .int .i64 0, .int .i64 0, .int .i64 0] 23)) (.cells #[.int .i64 0, .int .i64 0, .int .i64 0, .int .i64 0] 49)
    rw [World.size_alloc] at this
    exact this
  have HB2 := Lib.hid hb2; have HS2 := Lib.hid hs2; have HR2 := Lib.hid hr2; have HG2 := Lib.hid hg2
  clear hb2 hs2 hr2 hg2
  go_enter Tryd.func40, Tryd.ntmps40
  go_wp2_with (first
    | (rw [hW2])
    | (go_at_call 37; refine (HF.out _).mono ?_; rintro e w3 ⟨rfl, b3⟩))
  try rw [hW2] at b3
  clear hW2
  have HJ3 : Hid (J 0 w3) := hJ.out _ _ _ (hJ.out _ _ _ h0.out HB2.out) (b3.out.mono HB2.out.size)
  have HR3 : Hid (w3.heap[w.heap.size]? = some (.cells #[.int .i64 0, .int .i64 0, .int .i64 0, .int .i64 0] 23 (0, 0))) := (b3.out.block _ (by have := HS2.out; omega)).trans HR2.out
  have HG3 : Hid (w3.heap[w.heap.size + 1]? = some (.cells (arrK x 0) 49 (0, 0))) := (b3.out.block _ (by have := HS2.out; omega)).trans HG2.out
  clear h0 HB2 HS2 HR2 HG2 b3 HF
  go_loopw [7] (fun v wr => ∃ k : Nat, k ≤ 4 ∧ v = .int .i64 k ∧ Hid (J k wr) ∧ Hid (wr.heap[w.heap.size]? = some (.cells #[.int .i64 0, .int .i64 0, .int .i64 0, .int .i64 0] 23 (0, 0))) ∧ Hid (wr.heap[w.heap.size + 1]? = some (.cells (arrK x k) 49 (0, 0)))) (fun v _ => 4 - (intOf v).toNat)
  case atStart => exact ⟨0, by omega, rfl, HJ3.out, HR3.out, HG3.out⟩
  case round =>
    obtain ⟨k, hk, rfl, HJk, HRk, HGk⟩ := hrel
    have hszk : w.heap.size + 1 < wr.heap.size := (Array.getElem?_eq_some_iff.1 HGk.out).1
    have HSk := Lib.hid hszk
    clear HJ3 HR3 HG3 hszk
    by_cases hlt : k < 4
    · have HCk := Lib.hid (hc.out k hlt)
      obtain rfl | rfl | rfl | rfl : k = 0 ∨ k = 1 ∨ k = 2 ∨ k = 3 := by omega
      · simp only [show ((0 : Nat) : Int) = 0 from rfl]
        obtain ⟨W1, hW1⟩ : ∃ W1, wr.alloc (.cells #[.string ⟨#[]⟩, .int .i64 1] 56) = W1 := ⟨_, rfl⟩
        have HW1 := Lib.hid hW1
        have hf : Below wr.heap.size wr W1 := by rw [← hW1]; exact Me.below_alloc (Below.refl _ _)
        have HC : Hid (Calls Tryd.prog 41 #[.agg #[.string ⟨#[]⟩, .int .i64 1], .pointer (some ⟨P, 0, none⟩), .pointer (some ⟨Q, 0, none⟩)] W1 fun e w' => e = .returned (.int .i64 (x 0)) ∧ J (0 + 1) w' ∧ Hid (W1.heap.size ≤ w'.heap.size ∧ ∀ b, w.heap.size ≤ b → b < W1.heap.size → w'.heap[b]? = W1.heap[b]?)) := HCk.out W1 (hJ.out _ _ _ HJk.out (hf.mono (by have := HSk.out; omega))) (by have := hf.size; have := HSk.out; omega)
        have HF1 := Lib.hid hf
        clear hf hW1
        go_wp2_with (first
          | (rw [ixf0])
          | (go_at_call 41; try rw [HW1.out]; refine HC.out.mono ?_; rintro e w4 ⟨rfl, hJ4, hK4⟩; have HJ4 := Lib.hid hJ4; have hG4 := (hK4.out.2 (w.heap.size + 1) (by omega) (by have := HSk.out; have := HF1.out.size; omega)).trans ((HF1.out.block _ HSk.out).trans HGk.out); have hc4 := cell_of_row w4 (w.heap.size + 1) 0 _ _ (0, 0) hG4; have hfr4 := frozen_of_row w4 (w.heap.size + 1) 0 _ _ hG4; simp only [arrK, Nat.lt_irrefl, if_false] at hc4; have HG4 := Lib.hid hG4; have HR4 := Lib.hid ((hK4.out.2 w.heap.size (Nat.le_refl _) (by have := HSk.out; have := HF1.out.size; omega)).trans ((HF1.out.block _ (by have := HSk.out; omega)).trans HRk.out)); clear hG4 hJ4))
        go_roundw
        case rel => exact ⟨1, by omega, by go_num, hJ.out _ _ _ HJ4.out (below_set_new w4 _ _ _), (Below.heap_setCell _ _ _ _ (by simp)).trans HR4.out, by
          show _ = _
          rw [heap_setCell_same w4 (w.heap.size + 1) 0 _ _ _ HG4.out]
          rfl⟩
        case measure => simp [intOf]
      · simp only [show ((1 : Nat) : Int) = 1 from rfl]
        obtain ⟨W1, hW1⟩ : ∃ W1, wr.alloc (.cells #[.string ⟨#[62]⟩, .int .i64 1] 56) = W1 := ⟨_, rfl⟩
        have HW1 := Lib.hid hW1
        have hf : Below wr.heap.size wr W1 := by rw [← hW1]; exact Me.below_alloc (Below.refl _ _)
        have HC : Hid (Calls Tryd.prog 41 #[.agg #[.string ⟨#[62]⟩, .int .i64 1], .pointer (some ⟨P, 0, none⟩), .pointer (some ⟨Q, 0, none⟩)] W1 fun e w' => e = .returned (.int .i64 (x 1)) ∧ J (1 + 1) w' ∧ Hid (W1.heap.size ≤ w'.heap.size ∧ ∀ b, w.heap.size ≤ b → b < W1.heap.size → w'.heap[b]? = W1.heap[b]?)) := HCk.out W1 (hJ.out _ _ _ HJk.out (hf.mono (by have := HSk.out; omega))) (by have := hf.size; have := HSk.out; omega)
        have HF1 := Lib.hid hf
        clear hf hW1
        go_wp2_with (first
          | (rw [ixf1])
          | (go_at_call 41; try rw [HW1.out]; refine HC.out.mono ?_; rintro e w4 ⟨rfl, hJ4, hK4⟩; have HJ4 := Lib.hid hJ4; have hG4 := (hK4.out.2 (w.heap.size + 1) (by omega) (by have := HSk.out; have := HF1.out.size; omega)).trans ((HF1.out.block _ HSk.out).trans HGk.out); have hc4 := cell_of_row w4 (w.heap.size + 1) 1 _ _ (0, 0) hG4; have hfr4 := frozen_of_row w4 (w.heap.size + 1) 1 _ _ hG4; simp only [arrK, Nat.lt_irrefl, if_false] at hc4; have HG4 := Lib.hid hG4; have HR4 := Lib.hid ((hK4.out.2 w.heap.size (Nat.le_refl _) (by have := HSk.out; have := HF1.out.size; omega)).trans ((HF1.out.block _ (by have := HSk.out; omega)).trans HRk.out)); clear hG4 hJ4))
        go_roundw
        case rel => exact ⟨2, by omega, by go_num, hJ.out _ _ _ HJ4.out (below_set_new w4 _ _ _), (Below.heap_setCell _ _ _ _ (by simp)).trans HR4.out, by
          show _ = _
          rw [heap_setCell_same w4 (w.heap.size + 1) 1 _ _ _ HG4.out]
          rfl⟩
        case measure => simp [intOf]
      · simp only [show ((2 : Nat) : Int) = 2 from rfl]
        obtain ⟨W1, hW1⟩ : ∃ W1, wr.alloc (.cells #[.string ⟨#[58]⟩, .int .i64 2] 56) = W1 := ⟨_, rfl⟩
        have HW1 := Lib.hid hW1
        have hf : Below wr.heap.size wr W1 := by rw [← hW1]; exact Me.below_alloc (Below.refl _ _)
        have HC : Hid (Calls Tryd.prog 41 #[.agg #[.string ⟨#[58]⟩, .int .i64 2], .pointer (some ⟨P, 0, none⟩), .pointer (some ⟨Q, 0, none⟩)] W1 fun e w' => e = .returned (.int .i64 (x 2)) ∧ J (2 + 1) w' ∧ Hid (W1.heap.size ≤ w'.heap.size ∧ ∀ b, w.heap.size ≤ b → b < W1.heap.size → w'.heap[b]? = W1.heap[b]?)) := HCk.out W1 (hJ.out _ _ _ HJk.out (hf.mono (by have := HSk.out; omega))) (by have := hf.size; have := HSk.out; omega)
        have HF1 := Lib.hid hf
        clear hf hW1
        go_wp2_with (first
          | (rw [ixf2])
          | (go_at_call 41; try rw [HW1.out]; refine HC.out.mono ?_; rintro e w4 ⟨rfl, hJ4, hK4⟩; have HJ4 := Lib.hid hJ4; have hG4 := (hK4.out.2 (w.heap.size + 1) (by omega) (by have := HSk.out; have := HF1.out.size; omega)).trans ((HF1.out.block _ HSk.out).trans HGk.out); have hc4 := cell_of_row w4 (w.heap.size + 1) 2 _ _ (0, 0) hG4; have hfr4 := frozen_of_row w4 (w.heap.size + 1) 2 _ _ hG4; simp only [arrK, Nat.lt_irrefl, if_false] at hc4; have HG4 := Lib.hid hG4; have HR4 := Lib.hid ((hK4.out.2 w.heap.size (Nat.le_refl _) (by have := HSk.out; have := HF1.out.size; omega)).trans ((HF1.out.block _ (by have := HSk.out; omega)).trans HRk.out)); clear hG4 hJ4))
        go_roundw
        case rel => exact ⟨3, by omega, by go_num, hJ.out _ _ _ HJ4.out (below_set_new w4 _ _ _), (Below.heap_setCell _ _ _ _ (by simp)).trans HR4.out, by
          show _ = _
          rw [heap_setCell_same w4 (w.heap.size + 1) 2 _ _ _ HG4.out]
          rfl⟩
        case measure => simp [intOf]
      · simp only [show ((3 : Nat) : Int) = 3 from rfl]
        obtain ⟨W1, hW1⟩ : ∃ W1, wr.alloc (.cells #[.string ⟨#[46]⟩, .int .i64 2] 56) = W1 := ⟨_, rfl⟩
        have HW1 := Lib.hid hW1
        have hf : Below wr.heap.size wr W1 := by rw [← hW1]; exact Me.below_alloc (Below.refl _ _)
        have HC : Hid (Calls Tryd.prog 41 #[.agg #[.string ⟨#[46]⟩, .int .i64 2], .pointer (some ⟨P, 0, none⟩), .pointer (some ⟨Q, 0, none⟩)] W1 fun e w' => e = .returned (.int .i64 (x 3)) ∧ J (3 + 1) w' ∧ Hid (W1.heap.size ≤ w'.heap.size ∧ ∀ b, w.heap.size ≤ b → b < W1.heap.size → w'.heap[b]? = W1.heap[b]?)) := HCk.out W1 (hJ.out _ _ _ HJk.out (hf.mono (by have := HSk.out; omega))) (by have := hf.size; have := HSk.out; omega)
        have HF1 := Lib.hid hf
        clear hf hW1
        go_wp2_with (first
          | (rw [ixf3])
          | (go_at_call 41; try rw [HW1.out]; refine HC.out.mono ?_; rintro e w4 ⟨rfl, hJ4, hK4⟩; have HJ4 := Lib.hid hJ4; have hG4 := (hK4.out.2 (w.heap.size + 1) (by omega) (by have := HSk.out; have := HF1.out.size; omega)).trans ((HF1.out.block _ HSk.out).trans HGk.out); have hc4 := cell_of_row w4 (w.heap.size + 1) 3 _ _ (0, 0) hG4; have hfr4 := frozen_of_row w4 (w.heap.size + 1) 3 _ _ hG4; simp only [arrK, Nat.lt_irrefl, if_false] at hc4; have HG4 := Lib.hid hG4; have HR4 := Lib.hid ((hK4.out.2 w.heap.size (Nat.le_refl _) (by have := HSk.out; have := HF1.out.size; omega)).trans ((HF1.out.block _ (by have := HSk.out; omega)).trans HRk.out)); clear hG4 hJ4))
        go_roundw
        case rel => exact ⟨4, by omega, by go_num, hJ.out _ _ _ HJ4.out (below_set_new w4 _ _ _), (Below.heap_setCell _ _ _ _ (by simp)).trans HR4.out, by
          show _ = _
          rw [heap_setCell_same w4 (w.heap.size + 1) 3 _ _ _ HG4.out]
          rfl⟩
        case measure => simp [intOf]
    · obtain rfl : k = 4 := by omega
      have hcs := fun j => cell_of_row wr (w.heap.size + 1) j _ _ (0, 0) HGk.out
      have c0 : wr.cell? ⟨w.heap.size + 1, 0, none⟩ = some (.int .i64 (x 0)) := hcs 0
      have c1 : wr.cell? ⟨w.heap.size + 1, 1, none⟩ = some (.int .i64 (x 1)) := hcs 1
      have c2 : wr.cell? ⟨w.heap.size + 1, 2, none⟩ = some (.int .i64 (x 2)) := hcs 2
      have c3 : wr.cell? ⟨w.heap.size + 1, 3, none⟩ = some (.int .i64 (x 3)) := hcs 3
      clear hcs
      have HSV := Lib.hid (setRow_heap wr w.heap.size _ #[.int .i64 (x 0), .int .i64 (x 1), .int .i64 (x 2), .int .i64 (x 3)] _ _ HRk.out)
      go_wp2_with (refine wpList_store_row rfl 23 (.tmp 2) (.tmp 25) rfl w.heap.size #[.int .i64 (x 0), .int .i64 (x 1), .int .i64 (x 2), .int .i64 (x 3)] rfl rfl 23 _ HRk.out (by kernel_rfl) rfl (by simp [Value.oneCell']) ?_)
      obtain ⟨W9, hW9⟩ : ∃ W, wr.setRow w.heap.size #[.int .i64 (x 0), .int .i64 (x 1), .int .i64 (x 2), .int .i64 (x 3)] = W := ⟨_, rfl⟩
      have hJ9 : J 4 W9 := by
        rw [← hW9]
        exact hJ.out _ _ _ HJk.out ⟨rfl, rfl, rfl, by simp, fun b hb => setRow_other _ _ b _ (by omega)⟩
      have hS9 : w.heap.size ≤ W9.heap.size := by rw [← hW9]; simp; have := HSk.out; omega
      have h9 := HSV.out
      rw [hW9] at h9 ⊢
      have e0 : W9.cell? ⟨w.heap.size, 0, none⟩ = some (.int .i64 (x 0)) := cell_of_row W9 w.heap.size 0 _ _ (0, 0) h9
      have e1 : W9.cell? ⟨w.heap.size, 1, none⟩ = some (.int .i64 (x 1)) := cell_of_row W9 w.heap.size 1 _ _ (0, 0) h9
      have e2 : W9.cell? ⟨w.heap.size, 2, none⟩ = some (.int .i64 (x 2)) := cell_of_row W9 w.heap.size 2 _ _ (0, 0) h9
      have e3 : W9.cell? ⟨w.heap.size, 3, none⟩ = some (.int .i64 (x 3)) := cell_of_row W9 w.heap.size 3 _ _ (0, 0) h9
      exact ret_box (g := w.heap.size) rfl (by rfl) h9 rfl Tryd.underlying23 (by kernel_rfl) rfl ⟨rfl, hJ9, hS9⟩
set_option maxRecDepth 100000 in
set_option maxHeartbeats 8000000 in
theorem gath1 (P : Nat) (x : Nat → Int) (J : Nat → World → Prop) (w : World) (h0 : Hid (J 0 w)) (hJ : Hid (∀ k W W', J k W → Below w.heap.size W W' → J k W')) (hc : Hid (Reads1 46 (.pointer (some ⟨P, 0, none⟩)) w.heap.size x J)) :
    Calls Tryd.prog 40 #[.func (.func 46) #[] #[.pointer (some ⟨P, 0, none⟩)]] w fun e w' => e = .returned (.agg #[.int .i64 (x 0), .int .i64 (x 1), .int .i64 (x 2), .int .i64 (x 3)]) ∧ J 4 w' ∧ w.heap.size ≤ w'.heap.size := by
  have HF := Lib.hid (fun W => forms_any W)
  obtain ⟨W2, hW2⟩ : ∃ W, (w.alloc (.cells #[.int .i64 0, .int .i64 0, .int .i64 0, .int .i64 0] 23)).alloc (.cells #[.int .i64 0, .int .i64 0, .int .i64 0, .int .i64 0] 49) = W := ⟨_, rfl⟩
  have hb2 : Below w.heap.size w W2 := by rw [← hW2]; exact Me.below_alloc (Me.below_alloc (Below.refl _ _))
  have hs2 : W2.heap.size = w.heap.size + 1 + 1 := by rw [← hW2]; simp
  have hr2 : W2.heap[w.heap.size]? = some (.cells #[.int .i64 0, .int .i64 0, .int .i64 0, .int .i64 0] 23 (0, 0)) := by
    rw [← hW2]
    exact (Below.heap_alloc _ _ _ (by simp)).trans (heap_alloc_new w _)
  have hg2 : W2.heap[w.heap.size + 1]? = some (.cells (arrK x 0) 49 (0, 0)) := by
    rw [← hW2]
    have := heap_alloc_new (w.alloc (.cells #[.int .i64 0, .int .i64 0, .int .i64 0, .int .i64 0] 23)) (.cells #[.int .i64 0, .int .i64 0, .int .i64 0, .int .i64 0] 49)
    rw [World.size_alloc] at this
    exact this
  have HB2 := Lib.hid hb2; have HS2 := Lib.hid hs2; have HR2 := Lib.hid hr2; have HG2 := Lib.hid hg2
  clear hb2 hs2 hr2 hg2
  go_enter Tryd.func40, Tryd.ntmps40
  go_wp2_with (first
    | (rw [hW2])
    | (go_at_call 37; refine (HF.out _).mono ?_; rintro e w3 ⟨rfl, b3⟩))
  try rw [hW2] at b3
  clear hW2
  have HJ3 : Hid (J 0 w3) := hJ.out _ _ _ (hJ.out _ _ _ h0.out HB2.out) (b3.out.mono HB2.out.size)
  have HR3 : Hid (w3.heap[w.heap.size]? = some (.cells #[.int .i64 0, .int .i64 0, .int .i64 0, .int .i64 0] 23 (0, 0))) := (b3.out.block _ (by have := HS2.out; omega)).trans HR2.out
  have HG3 : Hid (w3.heap[w.heap.size + 1]? = some (.cells (arrK x 0) 49 (0, 0))) := (b3.out.block _ (by have := HS2.out; omega)).trans HG2.out
  clear h0 HB2 HS2 HR2 HG2 b3 HF
  go_loopw [7] (fun v wr => ∃ k : Nat, k ≤ 4 ∧ v = .int .i64 k ∧ Hid (J k wr) ∧ Hid (wr.heap[w.heap.size]? = some (.cells #[.int .i64 0, .int .i64 0, .int .i64 0, .int .i64 0] 23 (0, 0))) ∧ Hid (wr.heap[w.heap.size + 1]? = some (.cells (arrK x k) 49 (0, 0)))) (fun v _ => 4 - (intOf v).toNat)
  case atStart => exact ⟨0, by omega, rfl, HJ3.out, HR3.out, HG3.out⟩
  case round =>
    obtain ⟨k, hk, rfl, HJk, HRk, HGk⟩ := hrel
    have hszk : w.heap.size + 1 < wr.heap.size := (Array.getElem?_eq_some_iff.1 HGk.out).1
    have HSk := Lib.hid hszk
    clear HJ3 HR3 HG3 hszk
    by_cases hlt : k < 4
    · have HCk := Lib.hid (hc.out k hlt)
      obtain rfl | rfl | rfl | rfl : k = 0 ∨ k = 1 ∨ k = 2 ∨ k = 3 := by omega
      · simp only [show ((0 : Nat) : Int) = 0 from rfl]
        obtain ⟨W1, hW1⟩ : ∃ W1, wr.alloc (.cells #[.string ⟨#[]⟩, .int .i64 1] 56) = W1 := ⟨_, rfl⟩
        have HW1 := Lib.hid hW1
        have hf : Below wr.heap.size wr W1 := by rw [← hW1]; exact Me.below_alloc (Below.refl _ _)
        have HC : Hid (Calls Tryd.prog 46 #[.agg #[.string ⟨#[]⟩, .int .i64 1], .pointer (some ⟨P, 0, none⟩)] W1 fun e w' => e = .returned (.int .i64 (x 0)) ∧ J (0 + 1) w' ∧ Hid (W1.heap.size ≤ w'.heap.size ∧ ∀ b, w.heap.size ≤ b → b < W1.heap.size → w'.heap[b]? = W1.heap[b]?)) := HCk.out W1 (hJ.out _ _ _ HJk.out (hf.mono (by have := HSk.out; omega))) (by have := hf.size; have := HSk.out; omega)
        have HF1 := Lib.hid hf
        clear hf hW1
        go_wp2_with (first
          | (rw [ixf0])
          | (go_at_call 46; try rw [HW1.out]; refine HC.out.mono ?_; rintro e w4 ⟨rfl, hJ4, hK4⟩; have HJ4 := Lib.hid hJ4; have hG4 := (hK4.out.2 (w.heap.size + 1) (by omega) (by have := HSk.out; have := HF1.out.size; omega)).trans ((HF1.out.block _ HSk.out).trans HGk.out); have hc4 := cell_of_row w4 (w.heap.size + 1) 0 _ _ (0, 0) hG4; have hfr4 := frozen_of_row w4 (w.heap.size + 1) 0 _ _ hG4; simp only [arrK, Nat.lt_irrefl, if_false] at hc4; have HG4 := Lib.hid hG4; have HR4 := Lib.hid ((hK4.out.2 w.heap.size (Nat.le_refl _) (by have := HSk.out; have := HF1.out.size; omega)).trans ((HF1.out.block _ (by have := HSk.out; omega)).trans HRk.out)); clear hG4 hJ4))
        go_roundw
        case rel => exact ⟨1, by omega, by go_num, hJ.out _ _ _ HJ4.out (below_set_new w4 _ _ _), (Below.heap_setCell _ _ _ _ (by simp)).trans HR4.out, by
          show _ = _
          rw [heap_setCell_same w4 (w.heap.size + 1) 0 _ _ _ HG4.out]
          rfl⟩
        case measure => simp [intOf]
      · simp only [show ((1 : Nat) : Int) = 1 from rfl]
        obtain ⟨W1, hW1⟩ : ∃ W1, wr.alloc (.cells #[.string ⟨#[62]⟩, .int .i64 1] 56) = W1 := ⟨_, rfl⟩
        have HW1 := Lib.hid hW1
        have hf : Below wr.heap.size wr W1 := by rw [← hW1]; exact Me.below_alloc (Below.refl _ _)
        have HC : Hid (Calls Tryd.prog 46 #[.agg #[.string ⟨#[62]⟩, .int .i64 1], .pointer (some ⟨P, 0, none⟩)] W1 fun e w' => e = .returned (.int .i64 (x 1)) ∧ J (1 + 1) w' ∧ Hid (W1.heap.size ≤ w'.heap.size ∧ ∀ b, w.heap.size ≤ b → b < W1.heap.size → w'.heap[b]? = W1.heap[b]?)) := HCk.out W1 (hJ.out _ _ _ HJk.out (hf.mono (by have := HSk.out; omega))) (by have := hf.size; have := HSk.out; omega)
        have HF1 := Lib.hid hf
        clear hf hW1
        go_wp2_with (first
          | (rw [ixf1])
          | (go_at_call 46; try rw [HW1.out]; refine HC.out.mono ?_; rintro e w4 ⟨rfl, hJ4, hK4⟩; have HJ4 := Lib.hid hJ4; have hG4 := (hK4.out.2 (w.heap.size + 1) (by omega) (by have := HSk.out; have := HF1.out.size; omega)).trans ((HF1.out.block _ HSk.out).trans HGk.out); have hc4 := cell_of_row w4 (w.heap.size + 1) 1 _ _ (0, 0) hG4; have hfr4 := frozen_of_row w4 (w.heap.size + 1) 1 _ _ hG4; simp only [arrK, Nat.lt_irrefl, if_false] at hc4; have HG4 := Lib.hid hG4; have HR4 := Lib.hid ((hK4.out.2 w.heap.size (Nat.le_refl _) (by have := HSk.out; have := HF1.out.size; omega)).trans ((HF1.out.block _ (by have := HSk.out; omega)).trans HRk.out)); clear hG4 hJ4))
        go_roundw
        case rel => exact ⟨2, by omega, by go_num, hJ.out _ _ _ HJ4.out (below_set_new w4 _ _ _), (Below.heap_setCell _ _ _ _ (by simp)).trans HR4.out, by
          show _ = _
          rw [heap_setCell_same w4 (w.heap.size + 1) 1 _ _ _ HG4.out]
          rfl⟩
        case measure => simp [intOf]
      · simp only [show ((2 : Nat) : Int) = 2 from rfl]
        obtain ⟨W1, hW1⟩ : ∃ W1, wr.alloc (.cells #[.string ⟨#[58]⟩, .int .i64 2] 56) = W1 := ⟨_, rfl⟩
        have HW1 := Lib.hid hW1
        have hf : Below wr.heap.size wr W1 := by rw [← hW1]; exact Me.below_alloc (Below.refl _ _)
        have HC : Hid (Calls Tryd.prog 46 #[.agg #[.string ⟨#[58]⟩, .int .i64 2], .pointer (some ⟨P, 0, none⟩)] W1 fun e w' => e = .returned (.int .i64 (x 2)) ∧ J (2 + 1) w' ∧ Hid (W1.heap.size ≤ w'.heap.size ∧ ∀ b, w.heap.size ≤ b → b < W1.heap.size → w'.heap[b]? = W1.heap[b]?)) := HCk.out W1 (hJ.out _ _ _ HJk.out (hf.mono (by have := HSk.out; omega))) (by have := hf.size; have := HSk.out; omega)
        have HF1 := Lib.hid hf
        clear hf hW1
        go_wp2_with (first
          | (rw [ixf2])
          | (go_at_call 46; try rw [HW1.out]; refine HC.out.mono ?_; rintro e w4 ⟨rfl, hJ4, hK4⟩; have HJ4 := Lib.hid hJ4; have hG4 := (hK4.out.2 (w.heap.size + 1) (by omega) (by have := HSk.out; have := HF1.out.size; omega)).trans ((HF1.out.block _ HSk.out).trans HGk.out); have hc4 := cell_of_row w4 (w.heap.size + 1) 2 _ _ (0, 0) hG4; have hfr4 := frozen_of_row w4 (w.heap.size + 1) 2 _ _ hG4; simp only [arrK, Nat.lt_irrefl, if_false] at hc4; have HG4 := Lib.hid hG4; have HR4 := Lib.hid ((hK4.out.2 w.heap.size (Nat.le_refl _) (by have := HSk.out; have := HF1.out.size; omega)).trans ((HF1.out.block _ (by have := HSk.out; omega)).trans HRk.out)); clear hG4 hJ4))
        go_roundw
        case rel => exact ⟨3, by omega, by go_num, hJ.out _ _ _ HJ4.out (below_set_new w4 _ _ _), (Below.heap_setCell _ _ _ _ (by simp)).trans HR4.out, by
          show _ = _
          rw [heap_setCell_same w4 (w.heap.size + 1) 2 _ _ _ HG4.out]
          rfl⟩
        case measure => simp [intOf]
      · simp only [show ((3 : Nat) : Int) = 3 from rfl]
        obtain ⟨W1, hW1⟩ : ∃ W1, wr.alloc (.cells #[.string ⟨#[46]⟩, .int .i64 2] 56) = W1 := ⟨_, rfl⟩
        have HW1 := Lib.hid hW1
        have hf : Below wr.heap.size wr W1 := by rw [← hW1]; exact Me.below_alloc (Below.refl _ _)
        have HC : Hid (Calls Tryd.prog 46 #[.agg #[.string ⟨#[46]⟩, .int .i64 2], .pointer (some ⟨P, 0, none⟩)] W1 fun e w' => e = .returned (.int .i64 (x 3)) ∧ J (3 + 1) w' ∧ Hid (W1.heap.size ≤ w'.heap.size ∧ ∀ b, w.heap.size ≤ b → b < W1.heap.size → w'.heap[b]? = W1.heap[b]?)) := HCk.out W1 (hJ.out _ _ _ HJk.out (hf.mono (by have := HSk.out; omega))) (by have := hf.size; have := HSk.out; omega)
        have HF1 := Lib.hid hf
        clear hf hW1
        go_wp2_with (first
          | (rw [ixf3])
          | (go_at_call 46; try rw [HW1.out]; refine HC.out.mono ?_; rintro e w4 ⟨rfl, hJ4, hK4⟩; have HJ4 := Lib.hid hJ4; have hG4 := (hK4.out.2 (w.heap.size + 1) (by omega) (by have := HSk.out; have := HF1.out.size; omega)).trans ((HF1.out.block _ HSk.out).trans HGk.out); have hc4 := cell_of_row w4 (w.heap.size + 1) 3 _ _ (0, 0) hG4; have hfr4 := frozen_of_row w4 (w.heap.size + 1) 3 _ _ hG4; simp only [arrK, Nat.lt_irrefl, if_false] at hc4; have HG4 := Lib.hid hG4; have HR4 := Lib.hid ((hK4.out.2 w.heap.size (Nat.le_refl _) (by have := HSk.out; have := HF1.out.size; omega)).trans ((HF1.out.block _ (by have := HSk.out; omega)).trans HRk.out)); clear hG4 hJ4))
        go_roundw
        case rel => exact ⟨4, by omega, by go_num, hJ.out _ _ _ HJ4.out (below_set_new w4 _ _ _), (Below.heap_setCell _ _ _ _ (by simp)).trans HR4.out, by
          show _ = _
          rw [heap_setCell_same w4 (w.heap.size + 1) 3 _ _ _ HG4.out]
          rfl⟩
        case measure => simp [intOf]
    · obtain rfl : k = 4 := by omega
      have hcs := fun j => cell_of_row wr (w.heap.size + 1) j _ _ (0, 0) HGk.out
      have c0 : wr.cell? ⟨w.heap.size + 1, 0, none⟩ = some (.int .i64 (x 0)) := hcs 0
      have c1 : wr.cell? ⟨w.heap.size + 1, 1, none⟩ = some (.int .i64 (x 1)) := hcs 1
      have c2 : wr.cell? ⟨w.heap.size + 1, 2, none⟩ = some (.int .i64 (x 2)) := hcs 2
      have c3 : wr.cell? ⟨w.heap.size + 1, 3, none⟩ = some (.int .i64 (x 3)) := hcs 3
      clear hcs
      have HSV := Lib.hid (setRow_heap wr w.heap.size _ #[.int .i64 (x 0), .int .i64 (x 1), .int .i64 (x 2), .int .i64 (x 3)] _ _ HRk.out)
      go_wp2_with (refine wpList_store_row rfl 23 (.tmp 2) (.tmp 25) rfl w.heap.size #[.int .i64 (x 0), .int .i64 (x 1), .int .i64 (x 2), .int .i64 (x 3)] rfl rfl 23 _ HRk.out (by kernel_rfl) rfl (by simp [Value.oneCell']) ?_)
      obtain ⟨W9, hW9⟩ : ∃ W, wr.setRow w.heap.size #[.int .i64 (x 0), .int .i64 (x 1), .int .i64 (x 2), .int .i64 (x 3)] = W := ⟨_, rfl⟩
      have hJ9 : J 4 W9 := by
        rw [← hW9]
        exact hJ.out _ _ _ HJk.out ⟨rfl, rfl, rfl, by simp, fun b hb => setRow_other _ _ b _ (by omega)⟩
      have hS9 : w.heap.size ≤ W9.heap.size := by rw [← hW9]; simp; have := HSk.out; omega
      have h9 := HSV.out
      rw [hW9] at h9 ⊢
      have e0 : W9.cell? ⟨w.heap.size, 0, none⟩ = some (.int .i64 (x 0)) := cell_of_row W9 w.heap.size 0 _ _ (0, 0) h9
      have e1 : W9.cell? ⟨w.heap.size, 1, none⟩ = some (.int .i64 (x 1)) := cell_of_row W9 w.heap.size 1 _ _ (0, 0) h9
      have e2 : W9.cell? ⟨w.heap.size, 2, none⟩ = some (.int .i64 (x 2)) := cell_of_row W9 w.heap.size 2 _ _ (0, 0) h9
      have e3 : W9.cell? ⟨w.heap.size, 3, none⟩ = some (.int .i64 (x 3)) := cell_of_row W9 w.heap.size 3 _ _ (0, 0) h9
      exact ret_box (g := w.heap.size) rfl (by rfl) h9 rfl Tryd.underlying23 (by kernel_rfl) rfl ⟨rfl, hJ9, hS9⟩
end Go.Proofs.YtljndfkmppmbkaaDoor.Mg
