/- What gather makes of what read tells: for the closures of GetId and Parse. -/
import Derived.Test.YtohfoieibgmmdaaZ6
import Derived.Test.YtohfoieibgmmdaaZ8
import Derived.Test.YtohfoieibgmmdaaZ5
import Derived.Test.YtohfoieibgmmdaaZ7
import Derived.Handy
namespace Go.Proofs.Ytohfoieibgmmdaa.Mg
open Go.RowKit
open Go.Proofs.Ytohfoieibgmmdaa.Me Go.Proofs.Ytohfoieibgmmdaa.Ba Go.Proofs.Ytohfoieibgmmdaa.Ma Go.Proofs.Ytohfoieibgmmdaa.Bt Go.Proofs.Ytohfoieibgmmdaa.Hd
set_option linter.unusedVariables false
set_option linter.unusedSimpArgs false

def fmB (k : Nat) : ByteArray := ⟨if k = 0 then #[] else if k = 1 then #[62] else if k = 2 then #[58] else #[46]⟩
/-- How number k stands. -/
def fmV (k : Nat) : Value := .agg #[.string (fmB k), .int .i64 (szk k : Int)]
/-- The first k numbers, then noughts. -/
def arrK (x : Nat → Int) (k : Nat) : Array Value := #[.int .i64 (if 0 < k then x 0 else 0), .int .i64 (if 1 < k then x 1 else 0), .int .i64 (if 2 < k then x 2 else 0), .int .i64 (if 3 < k then x 3 else 0)]
theorem ret_box {fn : Func} {R : Ending → World → Prop} {a : Act} {w : World} {g : Nat} {cs : Array Value} {p : Tmp} {ty t : TypeId} {fr : Nat × Nat} {d : TypeDesc} (hres : fn.results = #[.cell p ty]) (hp : a.tmps.getD p undef = .pointer (some ⟨g, 0, none⟩)) (hg : w.heap[g]? = some (.cells cs t fr))
    (hd : d.isRow = true) (hu : Try.prog.underlying ty = some d) (hi : (Try.prog.info? ty).map (·.size) = some cs.size) (hdef : a.defers = [])
    (hR : R (.returned (.agg cs)) w) : bodyPost Try.prog fn R .ret a w :=
  bodyPost_ret (v := .agg cs) (results_cell_row hres a.tmps w g t cs fr d hp hg hu (by cases d <;> first | rfl | cases hd) hi) hdef hR
theorem below_set_new (w4 : World) (B i : Nat) {b : Nat} (v : Value) (h : B ≤ b := by omega) : Below B w4 (w4.setCell ⟨b, i, none⟩ v) := ⟨rfl, rfl, rfl, by simp, fun c hc => Below.heap_setCell _ _ _ _ (by show c ≠ b; omega)⟩
/-- A closure that reads: from k on to k + 1, it answers number k; blocks from B on that are there stay as they are. -/
def Reads (f : FuncId) (P Q : Value) (B : Nat) (x : Nat → Int) (J : Nat → World → Prop) : Prop :=
  ∀ k, k < 4 → ∀ W, J k W → B ≤ W.heap.size → Calls Try.prog f #[fmV k, P, Q] W fun e w' => e = .returned (.int .i64 (x k)) ∧ J (k + 1) w' ∧ Hid (W.heap.size ≤ w'.heap.size ∧ ∀ b, B ≤ b → b < W.heap.size → w'.heap[b]? = W.heap[b]?)
def Reads1 (f : FuncId) (P : Value) (B : Nat) (x : Nat → Int) (J : Nat → World → Prop) : Prop :=
  ∀ k, k < 4 → ∀ W, J k W → B ≤ W.heap.size → Calls Try.prog f #[fmV k, P] W fun e w' => e = .returned (.int .i64 (x k)) ∧ J (k + 1) w' ∧ Hid (W.heap.size ≤ w'.heap.size ∧ ∀ b, B ≤ b → b < W.heap.size → w'.heap[b]? = W.heap[b]?)
set_option maxRecDepth 100000 in
set_option maxHeartbeats 8000000 in
theorem gath2 (P Q : Nat) (x : Nat → Int) (J : Nat → World → Prop) (w : World) (h0 : Hid (J 0 w)) (hJ : Hid (∀ k W W', J k W → Below w.heap.size W W' → J k W')) (hc : Hid (Reads 94 (.pointer (some ⟨P, 0, none⟩)) (.pointer (some ⟨Q, 0, none⟩)) w.heap.size x J)) :
    Calls Try.prog 93 #[.func (.func 94) #[] #[.pointer (some ⟨P, 0, none⟩), .pointer (some ⟨Q, 0, none⟩)]] w fun e w' => e = .returned (.agg #[.int .i64 (x 0), .int .i64 (x 1), .int .i64 (x 2), .int .i64 (x 3)]) ∧ J 4 w' ∧ w.heap.size ≤ w'.heap.size := by
  have HF := Lib.hid (fun W => forms_any W)
  obtain ⟨W2, hW2⟩ : ∃ W, (w.alloc (.cells #[.int .i64 0, .int .i64 0, .int .i64 0, .int .i64 0] 23)).alloc (.cells #[.int .i64 0, .int .i64 0, .int .i64 0, .int .i64 0] 109) = W := ⟨_, rfl⟩
  have hb2 : Below w.heap.size w W2 := by rw [← hW2]; exact Me.below_alloc (Me.below_alloc (Below.refl _ _))
  have hs2 : W2.heap.size = w.heap.size + 1 + 1 := by rw [← hW2]; simp
  have hr2 : W2.heap[w.heap.size]? = some (.cells #[.int .i64 0, .int .i64 0, .int .i64 0, .int .i64 0] 23 (0, 0)) := by
    rw [← hW2]
    exact (Below.heap_alloc _ _ _ (by simp)).trans (heap_alloc_new w _)
  have hg2 : W2.heap[w.heap.size + 1]? = some (.cells (arrK x 0) 109 (0, 0)) := by
    rw [← hW2]
    have := heap_alloc_new (w.alloc (.cells #[.int .i64 0, .int .i64 0, .int .i64 0, .int .i64 0] 23)) (.cells #[.int .i64 0, .int .i64 0, .int .i64 0, .int .i64 0] 109)
    rw [World.size_alloc] at this
    exact this
  have HB2 := Lib.hid hb2; have HS2 := Lib.hid hs2; have HR2 := Lib.hid hr2; have HG2 := Lib.hid hg2
  clear hb2 hs2 hr2 hg2
  go_enter Try.func93, Try.ntmps93
  go_wp2_with (first
    | (rw [hW2])
    | (go_at_call 70; refine (HF.out _).mono ?_; rintro e w3 ⟨rfl, b3⟩))
  try rw [hW2] at b3
  clear hW2
  have HJ3 : Hid (J 0 w3) := hJ.out _ _ _ (hJ.out _ _ _ h0.out HB2.out) (b3.out.mono HB2.out.size)
  have HR3 : Hid (w3.heap[w.heap.size]? = some (.cells #[.int .i64 0, .int .i64 0, .int .i64 0, .int .i64 0] 23 (0, 0))) := (b3.out.block _ (by have := HS2.out; omega)).trans HR2.out
  have HG3 : Hid (w3.heap[w.heap.size + 1]? = some (.cells (arrK x 0) 109 (0, 0))) := (b3.out.block _ (by have := HS2.out; omega)).trans HG2.out
  clear h0 HB2 HS2 HR2 HG2 b3 HF
  go_loopw [7] (fun v wr => ∃ k : Nat, k ≤ 4 ∧ v = .int .i64 k ∧ Hid (J k wr) ∧ Hid (wr.heap[w.heap.size]? = some (.cells #[.int .i64 0, .int .i64 0, .int .i64 0, .int .i64 0] 23 (0, 0))) ∧ Hid (wr.heap[w.heap.size + 1]? = some (.cells (arrK x k) 109 (0, 0)))) (fun v _ => 4 - (intOf v).toNat)
  case atStart => exact ⟨0, by omega, rfl, HJ3.out, HR3.out, HG3.out⟩
  case round =>
    obtain ⟨k, hk, rfl, HJk, HRk, HGk⟩ := hrel
    have hszk : w.heap.size + 1 < wr.heap.size := (Array.getElem?_eq_some_iff.1 HGk.out).1
    have HSk := Lib.hid hszk
    clear HJ3 HR3 HG3 hszk
    by_cases hlt : k < 4
    · have HCk := Lib.hid (hc.out k hlt)
      obtain rfl | rfl | rfl | rfl : k = 0 ∨ k = 1 ∨ k = 2 ∨ k = 3 := by omega
      · simp only [show ((0 : Nat) : Int) = 0 from rfl]
        obtain ⟨W1, hW1⟩ : ∃ W1, wr.alloc (.cells #[.string ⟨#[]⟩, .int .i64 1] 112) = W1 := ⟨_, rfl⟩
        have HW1 := Lib.hid hW1
        have hf : Below wr.heap.size wr W1 := by rw [← hW1]; exact Me.below_alloc (Below.refl _ _)
        have HC : Hid (Calls Try.prog 94 #[.agg #[.string ⟨#[]⟩, .int .i64 1], .pointer (some ⟨P, 0, none⟩), .pointer (some ⟨Q, 0, none⟩)] W1 fun e w' => e = .returned (.int .i64 (x 0)) ∧ J (0 + 1) w' ∧ Hid (W1.heap.size ≤ w'.heap.size ∧ ∀ b, w.heap.size ≤ b → b < W1.heap.size → w'.heap[b]? = W1.heap[b]?)) := HCk.out W1 (hJ.out _ _ _ HJk.out (hf.mono (by have := HSk.out; omega))) (by have := hf.size; have := HSk.out; omega)
        have HF1 := Lib.hid hf
        clear hf hW1
        go_wp2_with (first
          | (rw [ixf0])
          | (go_at_call 94; try rw [HW1.out]; refine HC.out.mono ?_; rintro e w4 ⟨rfl, hJ4, hK4⟩; have HJ4 := Lib.hid hJ4; have hG4 := (hK4.out.2 (w.heap.size + 1) (by omega) (by have := HSk.out; have := HF1.out.size; omega)).trans ((HF1.out.block _ HSk.out).trans HGk.out); have hc4 := cell_of_row w4 (w.heap.size + 1) 0 _ _ (0, 0) hG4; have hfr4 := frozen_of_row w4 (w.heap.size + 1) 0 _ _ hG4; simp only [arrK, Nat.lt_irrefl, if_false] at hc4; have HG4 := Lib.hid hG4; have HR4 := Lib.hid ((hK4.out.2 w.heap.size (Nat.le_refl _) (by have := HSk.out; have := HF1.out.size; omega)).trans ((HF1.out.block _ (by have := HSk.out; omega)).trans HRk.out)); clear hG4 hJ4))
        go_roundw
        case rel => exact ⟨1, by omega, by go_num, hJ.out _ _ _ HJ4.out (below_set_new w4 _ _ _), (Below.heap_setCell _ _ _ _ (by simp)).trans HR4.out, by
          show _ = _
          rw [heap_setCell_same w4 (w.heap.size + 1) 0 _ _ _ HG4.out]
          rfl⟩
        case measure => simp [intOf]
      · simp only [show ((1 : Nat) : Int) = 1 from rfl]
        obtain ⟨W1, hW1⟩ : ∃ W1, wr.alloc (.cells #[.string ⟨#[62]⟩, .int .i64 1] 112) = W1 := ⟨_, rfl⟩
        have HW1 := Lib.hid hW1
        have hf : Below wr.heap.size wr W1 := by rw [← hW1]; exact Me.below_alloc (Below.refl _ _)
        have HC : Hid (Calls Try.prog 94 #[.agg #[.string ⟨#[62]⟩, .int .i64 1], .pointer (some ⟨P, 0, none⟩), .pointer (some ⟨Q, 0, none⟩)] W1 fun e w' => e = .returned (.int .i64 (x 1)) ∧ J (1 + 1) w' ∧ Hid (W1.heap.size ≤ w'.heap.size ∧ ∀ b, w.heap.size ≤ b → b < W1.heap.size → w'.heap[b]? = W1.heap[b]?)) := HCk.out W1 (hJ.out _ _ _ HJk.out (hf.mono (by have := HSk.out; omega))) (by have := hf.size; have := HSk.out; omega)
        have HF1 := Lib.hid hf
        clear hf hW1
        go_wp2_with (first
          | (rw [ixf1])
          | (go_at_call 94; try rw [HW1.out]; refine HC.out.mono ?_; rintro e w4 ⟨rfl, hJ4, hK4⟩; have HJ4 := Lib.hid hJ4; have hG4 := (hK4.out.2 (w.heap.size + 1) (by omega) (by have := HSk.out; have := HF1.out.size; omega)).trans ((HF1.out.block _ HSk.out).trans HGk.out); have hc4 := cell_of_row w4 (w.heap.size + 1) 1 _ _ (0, 0) hG4; have hfr4 := frozen_of_row w4 (w.heap.size + 1) 1 _ _ hG4; simp only [arrK, Nat.lt_irrefl, if_false] at hc4; have HG4 := Lib.hid hG4; have HR4 := Lib.hid ((hK4.out.2 w.heap.size (Nat.le_refl _) (by have := HSk.out; have := HF1.out.size; omega)).trans ((HF1.out.block _ (by have := HSk.out; omega)).trans HRk.out)); clear hG4 hJ4))
        go_roundw
        case rel => exact ⟨2, by omega, by go_num, hJ.out _ _ _ HJ4.out (below_set_new w4 _ _ _), (Below.heap_setCell _ _ _ _ (by simp)).trans HR4.out, by
          show _ = _
          rw [heap_setCell_same w4 (w.heap.size + 1) 1 _ _ _ HG4.out]
          rfl⟩
        case measure => simp [intOf]
      · simp only [show ((2 : Nat) : Int) = 2 from rfl]
        obtain ⟨W1, hW1⟩ : ∃ W1, wr.alloc (.cells #[.string ⟨#[58]⟩, .int .i64 2] 112) = W1 := ⟨_, rfl⟩
        have HW1 := Lib.hid hW1
        have hf : Below wr.heap.size wr W1 := by rw [← hW1]; exact Me.below_alloc (Below.refl _ _)
        have HC : Hid (Calls Try.prog 94 #[.agg #[.string ⟨#[58]⟩, .int .i64 2], .pointer (some ⟨P, 0, none⟩), .pointer (some ⟨Q, 0, none⟩)] W1 fun e w' => e = .returned (.int .i64 (x 2)) ∧ J (2 + 1) w' ∧ Hid (W1.heap.size ≤ w'.heap.size ∧ ∀ b, w.heap.size ≤ b → b < W1.heap.size → w'.heap[b]? = W1.heap[b]?)) := HCk.out W1 (hJ.out _ _ _ HJk.out (hf.mono (by have := HSk.out; omega))) (by have := hf.size; have := HSk.out; omega)
        have HF1 := Lib.hid hf
        clear hf hW1
        go_wp2_with (first
          | (rw [ixf2])
          | (go_at_call 94; try rw [HW1.out]; refine HC.out.mono ?_; rintro e w4 ⟨rfl, hJ4, hK4⟩; have HJ4 := Lib.hid hJ4; have hG4 := (hK4.out.2 (w.heap.size + 1) (by omega) (by have := HSk.out; have := HF1.out.size; omega)).trans ((HF1.out.block _ HSk.out).trans HGk.out); have hc4 := cell_of_row w4 (w.heap.size + 1) 2 _ _ (0, 0) hG4; have hfr4 := frozen_of_row w4 (w.heap.size + 1) 2 _ _ hG4; simp only [arrK, Nat.lt_irrefl, if_false] at hc4; have HG4 := Lib.hid hG4; have HR4 := Lib.hid ((hK4.out.2 w.heap.size (Nat.le_refl _) (by have := HSk.out; have := HF1.out.size; omega)).trans ((HF1.out.block _ (by have := HSk.out; omega)).trans HRk.out)); clear hG4 hJ4))
        go_roundw
        case rel => exact ⟨3, by omega, by go_num, hJ.out _ _ _ HJ4.out (below_set_new w4 _ _ _), (Below.heap_setCell _ _ _ _ (by simp)).trans HR4.out, by
          show _ = _
          rw [heap_setCell_same w4 (w.heap.size + 1) 2 _ _ _ HG4.out]
          rfl⟩
        case measure => simp [intOf]
      · simp only [show ((3 : Nat) : Int) = 3 from rfl]
        obtain ⟨W1, hW1⟩ : ∃ W1, wr.alloc (.cells #[.string ⟨#[46]⟩, .int .i64 2] 112) = W1 := ⟨_, rfl⟩
        have HW1 := Lib.hid hW1
        have hf : Below wr.heap.size wr W1 := by rw [← hW1]; exact Me.below_alloc (Below.refl _ _)
        have HC : Hid (Calls Try.prog 94 #[.agg #[.string ⟨#[46]⟩, .int .i64 2], .pointer (some ⟨P, 0, none⟩), .pointer (some ⟨Q, 0, none⟩)] W1 fun e w' => e = .returned (.int .i64 (x 3)) ∧ J (3 + 1) w' ∧ Hid (W1.heap.size ≤ w'.heap.size ∧ ∀ b, w.heap.size ≤ b → b < W1.heap.size → w'.heap[b]? = W1.heap[b]?)) := HCk.out W1 (hJ.out _ _ _ HJk.out (hf.mono (by have := HSk.out; omega))) (by have := hf.size; have := HSk.out; omega)
        have HF1 := Lib.hid hf
        clear hf hW1
        go_wp2_with (first
          | (rw [ixf3])
          | (go_at_call 94; try rw [HW1.out]; refine HC.out.mono ?_; rintro e w4 ⟨rfl, hJ4, hK4⟩; have HJ4 := Lib.hid hJ4; have hG4 := (hK4.out.2 (w.heap.size + 1) (by omega) (by have := HSk.out; have := HF1.out.size; omega)).trans ((HF1.out.block _ HSk.out).trans HGk.out); have hc4 := cell_of_row w4 (w.heap.size + 1) 3 _ _ (0, 0) hG4; have hfr4 := frozen_of_row w4 (w.heap.size + 1) 3 _ _ hG4; simp only [arrK, Nat.lt_irrefl, if_false] at hc4; have HG4 := Lib.hid hG4; have HR4 := Lib.hid ((hK4.out.2 w.heap.size (Nat.le_refl _) (by have := HSk.out; have := HF1.out.size; omega)).trans ((HF1.out.block _ (by have := HSk.out; omega)).trans HRk.out)); clear hG4 hJ4))
        go_roundw
        case rel => exact ⟨4, by omega, by go_num, hJ.out _ _ _ HJ4.out (below_set_new w4 _ _ _), (Below.heap_setCell _ _ _ _ (by simp)).trans HR4.out, by
          show _ = _
          rw [heap_setCell_same w4 (w.heap.size + 1) 3 _ _ _ HG4.out]
          rfl⟩
        case measure => simp [intOf]
    · obtain rfl : k = 4 := by omega
      have hcs := fun j => cell_of_row wr (w.heap.size + 1) j _ _ (0, 0) HGk.out
      have c0 : wr.cell? ⟨w.heap.size + 1, 0, none⟩ = some (.int .i64 (x 0)) := hcs 0
      have c1 : wr.cell? ⟨w.heap.size + 1, 1, none⟩ = some (.int .i64 (x 1)) := hcs 1
      have c2 : wr.cell? ⟨w.heap.size + 1, 2, none⟩ = some (.int .i64 (x 2)) := hcs 2
      have c3 : wr.cell? ⟨w.heap.size + 1, 3, none⟩ = some (.int .i64 (x 3)) := hcs 3
      clear hcs
      have HSV := Lib.hid (setRow_heap wr w.heap.size _ #[.int .i64 (x 0), .int .i64 (x 1), .int .i64 (x 2), .int .i64 (x 3)] _ _ HRk.out)
      go_wp2_with (refine wpList_store_row rfl 23 (.tmp 2) (.tmp 25) rfl w.heap.size #[.int .i64 (x 0), .int .i64 (x 1), .int .i64 (x 2), .int .i64 (x 3)] rfl rfl 23 _ HRk.out (by kernel_rfl) rfl (by simp [Value.oneCell']) ?_)
      obtain ⟨W9, hW9⟩ : ∃ W, wr.setRow w.heap.size #[.int .i64 (x 0), .int .i64 (x 1), .int .i64 (x 2), .int .i64 (x 3)] = W := ⟨_, rfl⟩
      have hJ9 : J 4 W9 := by
        rw [← hW9]
        exact hJ.out _ _ _ HJk.out ⟨rfl, rfl, rfl, by simp, fun b hb => setRow_other _ _ b _ (by omega)⟩
      have hS9 : w.heap.size ≤ W9.heap.size := by rw [← hW9]; simp; have := HSk.out; omega
      have h9 := HSV.out
      rw [hW9] at h9 ⊢
      have e0 : W9.cell? ⟨w.heap.size, 0, none⟩ = some (.int .i64 (x 0)) := cell_of_row W9 w.heap.size 0 _ _ (0, 0) h9
      have e1 : W9.cell? ⟨w.heap.size, 1, none⟩ = some (.int .i64 (x 1)) := cell_of_row W9 w.heap.size 1 _ _ (0, 0) h9
      have e2 : W9.cell? ⟨w.heap.size, 2, none⟩ = some (.int .i64 (x 2)) := cell_of_row W9 w.heap.size 2 _ _ (0, 0) h9
      have e3 : W9.cell? ⟨w.heap.size, 3, none⟩ = some (.int .i64 (x 3)) := cell_of_row W9 w.heap.size 3 _ _ (0, 0) h9
      exact ret_box (g := w.heap.size) rfl (by rfl) h9 rfl Try.underlying23 (by kernel_rfl) rfl ⟨rfl, hJ9, hS9⟩
end Go.Proofs.Ytohfoieibgmmdaa.Mg
/- The id of bytes: the closure that reads, GetId. -/
namespace Go.Proofs.Ytohfoieibgmmdaa.Mg
open Go.RowKit
open Go.Proofs.Ytohfoieibgmmdaa.Me Go.Proofs.Ytohfoieibgmmdaa.Ba Go.Proofs.Ytohfoieibgmmdaa.Ma Go.Proofs.Ytohfoieibgmmdaa.Bt Go.Proofs.Ytohfoieibgmmdaa.Hd
set_option linter.unusedVariables false
set_option linter.unusedSimpArgs false

set_option maxRecDepth 100000 in
set_option maxHeartbeats 4000000 in
theorem getc (fb : ByteArray) (s a : Nat) (A : Option Addr) (cap : Nat) (l : List Nat) (P Q : Nat) (W : World) (hs : sizeB 8 s = true) (ha : a + s ≤ l.length) (hl : l.length ≤ 100) (hlc : l.length ≤ cap) (hcm : cap ≤ 9223372036854775807)
    (hP : Hid (W.heap[P]? = some (.cells #[.slice A l.length cap] 24 (0, 0)))) (hQ : Hid (W.heap[Q]? = some (.cells #[.int .i64 (a : Int)] 3 (0, 0)))) (hr : Hid (Rd W W.heap.size A l)) (hPQ : P ≠ Q) (hs2 : s ≤ 2) :
    Calls Try.prog 94 #[.agg #[.string fb, .int .i64 (s : Int)], .pointer (some ⟨P, 0, none⟩), .pointer (some ⟨Q, 0, none⟩)] W fun e w' => e = .returned (.int .i64 (numP l a s : Int)) ∧ Hid (w'.heap[Q]? = some (.cells #[.int .i64 ((a + s : Nat) : Int)] 3 (0, 0))) ∧ Hid (But (fun b => b = Q) W w') := by
  have hPl := (Array.getElem?_eq_some_iff.1 hP.out).1
  have hQl := (Array.getElem?_eq_some_iff.1 hQ.out).1
  obtain ⟨W1, hW1⟩ : ∃ W1, W.alloc (.cells #[.string fb, .int .i64 (s : Int)] 112) = W1 := ⟨_, rfl⟩
  have hb : Below W.heap.size W W1 := by rw [← hW1]; exact Me.below_alloc (Below.refl _ _)
  have hs1 : W1.heap.size = W.heap.size + 1 := by rw [← hW1]; simp
  have hP1 : W1.cell? ⟨P, 0, none⟩ = some (.slice A l.length cap) := cell_of_row W1 P 0 _ _ (0, 0) ((hb.block P hPl).trans hP.out)
  have hQ1h := (hb.block Q hQl).trans hQ.out
  have hQ1 : W1.cell? ⟨Q, 0, none⟩ = some (.int .i64 (a : Int)) := cell_of_row W1 Q 0 _ _ (0, 0) hQ1h
  have hQf : W1.frozen? ⟨Q, 0, none⟩ = false := frozen_of_row W1 Q 0 _ _ hQ1h
  have hF1 : W1.cell? ⟨W.heap.size, 1, none⟩ = some (.int .i64 (s : Int)) := by
    rw [← hW1, cell_of_row _ _ _ _ _ (0, 0) (heap_alloc_new W _)]
    rfl
  have hsb : 1 ≤ s ∧ s ≤ 8 := by have := of_decide_eq_true hs; omega
  have HG : Hid (Calls Try.prog 72 #[.slice A l.length cap, .int .i64 (a : Int), .int .i64 (s : Int)] W1 fun e w' => e = .returned (.tuple #[.int .u64 (numP l a s : Int), .int .i64 0]) ∧ W1 = w') := by
    have := Get_any l a s A cap W1.heap.size hlc hcm W1 ((hr.out.below hb).more hb.size) (by omega)
    rw [getE_ok hs (by omega)] at this
    exact this
  have HN : Hid (numP l a s < U) := numP_lt hr.out.1 a hsb.2
  have HQ9 : Hid ((W1.setCell ⟨Q, 0, none⟩ (.int .i64 ((a + s : Nat) : Int))).heap[Q]? = some (.cells #[.int .i64 ((a + s : Nat) : Int)] 3 (0, 0))) := by
    show _ = _
    rw [heap_setCell_same W1 Q 0 _ _ _ hQ1h]
    rfl
  have HB9 : Hid (But (fun b => b = Q) W (W1.setCell ⟨Q, 0, none⟩ (.int .i64 ((a + s : Nat) : Int)))) := But.set (S := fun b => b = Q) (X := W1) (But.of_below hb) (p := ⟨Q, 0, none⟩) (.inl rfl) _
  have hw : wrap64 ((a : Int) + (s : Int)) = ((a + s : Nat) : Int) := (Mi.fits (Mi.small (by omega) (by omega))).trans (by omega)
  have hn : numP l a s < 65536 := by
    refine Nat.lt_of_lt_of_le (num_part_lt hr.out.1 a s) ?_
    obtain rfl | rfl : s = 1 ∨ s = 2 := by omega
    · decide
    · decide
  obtain ⟨N, hN⟩ : ∃ N, numP l a s = N := ⟨_, rfl⟩
  rw [hN] at HG hn ⊢
  have hw2 : wrap64 (N : Int) = N := Mi.fits (Mi.small (by omega) (by omega))
  obtain ⟨z, hz⟩ : ∃ z : Nat, a + s = z := ⟨_, rfl⟩
  rw [hz] at hw HQ9 HB9 ⊢
  clear hP hQ hr hb hs1 hQ1h hPl hQl HN hN hz ha hl hlc hcm hs hs2 hsb hPQ
  go_enter Try.func94, Try.ntmps94
  go_wp2_with (first
    | (rw [hW1])
    | (go_at_call 72; refine HG.out.mono ?_; rintro e w' ⟨rfl, rfl⟩))
  go_ret
  exact ⟨rfl, HQ9.out, HB9.out⟩
/-- The id that bytes tell, and what is answered beside it. -/
def idOf (l : List Nat) : Id4 := ⟨numP l 0 1, numP l 1 1, numP l 2 2, numP l 4 2⟩
def getI (l : List Nat) : Id4 := if l.length = 6 ∧ chkN (idOf l) = 0 then idOf l else ⟨0, 0, 0, 0⟩
def getZ (l : List Nat) : Nat := if l.length = 6 ∧ chkN (idOf l) = 0 then 0 else 2
end Go.Proofs.Ytohfoieibgmmdaa.Mg
/- The id of bytes: GetId. -/
namespace Go.Proofs.Ytohfoieibgmmdaa.Mg
open Go.RowKit
open Go.Proofs.Ytohfoieibgmmdaa.Me Go.Proofs.Ytohfoieibgmmdaa.Ba Go.Proofs.Ytohfoieibgmmdaa.Ma Go.Proofs.Ytohfoieibgmmdaa.Bt Go.Proofs.Ytohfoieibgmmdaa.Hd
set_option linter.unusedVariables false
set_option linter.unusedSimpArgs false

/-- A return of a struct that lies in a block, and of a temporary. -/
theorem ret_box2 {fn : Func} {R : Ending → World → Prop} {a : Act} {w : World} {g : Nat} {cs : Array Value} {p u : Tmp} {ty t : TypeId} {fr : Nat × Nat} {d : TypeDesc} (hres : fn.results = #[.cell p ty, .tmp u]) (hp : a.tmps.getD p undef = .pointer (some ⟨g, 0, none⟩)) (hg : w.heap[g]? = some (.cells cs t fr))
    (hd : d.isRow = true) (hu : Try.prog.underlying ty = some d) (hi : (Try.prog.info? ty).map (·.size) = some cs.size) (hdef : a.defers = [])
    (hR : R (.returned (.tuple #[.agg cs, a.tmps.getD u undef])) w) : bodyPost Try.prog fn R .ret a w :=
  bodyPost_ret (v := .tuple #[.agg cs, a.tmps.getD u undef]) (by rw [results_cell_tmp hres, hp]; simp only [asAddr, Sem.run_pure, Result.andThen_ok, run_loadVar_row w g t ty cs fr d hg hu (by cases d <;> first | rfl | cases hd) hi]) hdef hR
/-- Where the reading stands. -/
def JG (A : Option Addr) (cap : Nat) (l : List Nat) (P Q : Nat) (W3 : World) (k : Nat) (W : World) : Prop :=
  W.heap[P]? = some (.cells #[.slice A l.length cap] 24 (0, 0)) ∧ W.heap[Q]? = some (.cells #[.int .i64 (lnK k : Int)] 3 (0, 0)) ∧ But (fun b => b = Q) W3 W
theorem jg_below {A : Option Addr} {cap : Nat} {l : List Nat} {P Q : Nat} {W3 : World} (hP : P < W3.heap.size) (hQ : Q < W3.heap.size) : ∀ k W W', JG A cap l P Q W3 k W → Below W3.heap.size W W' → JG A cap l P Q W3 k W' :=
  fun k W W' ⟨a, b, h⟩ hb => ⟨(hb.block P hP).trans a, (hb.block Q hQ).trans b, ⟨hb.os.trans h.os, hb.tape.trans h.tape, hb.output.trans h.output, Nat.le_trans h.size hb.size, fun c hc hn => (hb.block c hc).trans (h.same c hc hn)⟩⟩
theorem jg_reads {A : Option Addr} {cap : Nat} {l : List Nat} {P Q : Nat} {W3 : World} (hP : P < W3.heap.size) (hQ : Q < W3.heap.size) (hPQ : P ≠ Q) (hl : l.length = 6) (hlc : l.length ≤ cap) (hcm : cap ≤ 9223372036854775807) (hr : Rd W3 W3.heap.size A l) (hA : ∀ a, A = some a → ¬ a.block = Q) :
    Reads 94 (.pointer (some ⟨P, 0, none⟩)) (.pointer (some ⟨Q, 0, none⟩)) W3.heap.size (fun k => (numP l (lnK k) (szk k) : Int)) (JG A cap l P Q W3) := by
  intro k hk W ⟨ha, hb, h⟩ hB
  have hs : sizeB 8 (szk k) = true ∧ lnK k + szk k ≤ 6 ∧ szk k ≤ 2 ∧ lnK (k + 1) = lnK k + szk k := by
    obtain rfl | rfl | rfl | rfl : k = 0 ∨ k = 1 ∨ k = 2 ∨ k = 3 := by omega
    all_goals decide
  refine (getc (fmB k) (szk k) (lnK k) A cap l P Q W hs.1 (by omega) (by omega) hlc hcm ha hb (h.rd hr hA) hPQ hs.2.2.1).mono fun e w' ⟨he, hq, hbt⟩ => ?_
  refine ⟨he, ⟨(hbt.out.same P (Array.getElem?_eq_some_iff.1 ha).1 hPQ).trans ha, by rw [hs.2.2.2]; exact hq.out, h.trans hbt.out fun b _ e => e⟩, hbt.out.size, fun b hb1 hb2 => hbt.out.same b hb2 (by omega)⟩
end Go.Proofs.Ytohfoieibgmmdaa.Mg
/- GetId of any bytes. -/
namespace Go.Proofs.Ytohfoieibgmmdaa.Mg
open Go.RowKit
open Go.Proofs.Ytohfoieibgmmdaa.Me Go.Proofs.Ytohfoieibgmmdaa.Ba Go.Proofs.Ytohfoieibgmmdaa.Ma Go.Proofs.Ytohfoieibgmmdaa.Bt Go.Proofs.Ytohfoieibgmmdaa.Hd
set_option linter.unusedVariables false
set_option linter.unusedSimpArgs false

theorem id_one (a b c d : Int) : (#[.int .i64 a, .int .i64 b, .int .i64 c, .int .i64 d] : Array Value).all (·.oneCell') = true := by simp [Value.oneCell']
set_option maxRecDepth 100000 in
set_option maxHeartbeats 8000000 in
theorem GetId_any (A : Option Addr) (n cap : Nat) (l : List Nat) (w : World) (hi : Hid (BySlice w A n cap l)) :
    Calls Try.prog 74 #[.slice A n cap] w fun e w' => e = .returned (.tuple #[.agg (idC (getI l)), .int .i64 (getZ l : Int)]) ∧ Hid (Below w.heap.size w w') := by
  obtain rfl : n = l.length := hi.out.1
  obtain ⟨W1, hW1⟩ : ∃ W, w.alloc (.cells #[.slice A l.length cap] 24) = W := ⟨_, rfl⟩
  obtain ⟨W2, hW2⟩ : ∃ W, W1.alloc (.cells #[.int .i64 0, .int .i64 0, .int .i64 0, .int .i64 0] 23) = W := ⟨_, rfl⟩
  have b1 : Below w.heap.size w W1 := by rw [← hW1]; exact Me.below_alloc (Below.refl _ _)
  have z1 : W1.heap.size = w.heap.size + 1 := by rw [← hW1]; simp
  have b2 : Below W1.heap.size W1 W2 := by rw [← hW2]; exact Me.below_alloc (Below.refl _ _)
  have z2 : W2.heap.size = w.heap.size + 1 + 1 := by rw [← hW2, World.size_alloc, z1]
  have p2 : W2.heap[w.heap.size]? = some (.cells #[.slice A l.length cap] 24 (0, 0)) := (b2.block _ (by omega)).trans (by rw [← hW1]; exact heap_alloc_new w _)
  have r2 : W2.heap[w.heap.size + 1]? = some (.cells #[.int .i64 0, .int .i64 0, .int .i64 0, .int .i64 0] 23 (0, 0)) := by
    rw [← hW2, ← z1]
    exact heap_alloc_new W1 _
  have b12 : Below w.heap.size w W2 := b1.trans (b2.mono b1.size)
  have c2 : W2.cell? ⟨w.heap.size, 0, none⟩ = some (.slice A l.length cap) := cell_of_row W2 w.heap.size 0 _ _ (0, 0) p2
  have hW : (w.alloc (.cells #[.slice A l.length cap] 24)).alloc (.cells #[.int .i64 0, .int .i64 0, .int .i64 0, .int .i64 0] 23) = W2 := by rw [hW1, hW2]
  have HW := Lib.hid hW
  have P2 := Lib.hid p2; have R2 := Lib.hid r2; have B12 := Lib.hid b12; have Z2 := Lib.hid z2
  clear hW1 hW2 b1 z1 b2 z2 p2 r2 b12 hW c2
  by_cases h6 : l.length = 6
  · have hlen : ((l.length : Int) == 6) = true := by simp [h6]
    obtain ⟨W3, hW3⟩ : ∃ W, W2.alloc (.cells #[.int .i64 0] 3) = W := ⟨_, rfl⟩
    have b3 : Below W2.heap.size W2 W3 := by rw [← hW3]; exact Me.below_alloc (Below.refl _ _)
    have z3 : W3.heap.size = w.heap.size + 1 + 1 + 1 := by rw [← hW3, World.size_alloc, Z2.out]
    have q3 : W3.heap[w.heap.size + 1 + 1]? = some (.cells #[.int .i64 ((lnK 0 : Nat) : Int)] 3 (0, 0)) := by
      rw [← hW3, ← Z2.out]
      exact heap_alloc_new W2 _
    have b13 : Below w.heap.size w W3 := B12.out.trans (b3.mono B12.out.size)
    have hr3 : Rd W3 W3.heap.size A l := (by_below hi.out b13).2.2.2.1
    have hA : ∀ a, A = some a → ¬ a.block = w.heap.size + 1 + 1 := by
      intro a ha e
      obtain ⟨b, off, e2, hb, _⟩ := hi.out.2.2.2.1.2 (by omega)
      rw [ha] at e2
      cases e2
      simp only at e
      omega
    have hG := gath2 w.heap.size (w.heap.size + 1 + 1) (fun k => (numP l (lnK k) (szk k) : Int)) (JG A cap l w.heap.size (w.heap.size + 1 + 1) W3) W3 ⟨(b3.block _ (by have := Z2.out; omega)).trans P2.out, q3, But.refl _ _⟩ (jg_below (by omega) (by omega)) (jg_reads (by omega) (by omega) (by omega) h6 hi.out.2.1 hi.out.2.2.1 hr3 hA)
    have HG : Hid (Calls Try.prog 93 #[.func (.func 94) #[] #[.pointer (some ⟨w.heap.size, 0, none⟩), .pointer (some ⟨w.heap.size + 1 + 1, 0, none⟩)]] W3 fun e w' => e = .returned (.agg (idC (idOf l))) ∧ But (fun b => b = w.heap.size + 1 + 1) W3 w') := hG.mono fun e w' ⟨he, hj, _⟩ => ⟨he, hj.2.2⟩
    have HR3 : Hid (W3.heap[w.heap.size + 1]? = some (.cells #[.int .i64 0, .int .i64 0, .int .i64 0, .int .i64 0] 23 (0, 0))) := (b3.block _ (by have := Z2.out; omega)).trans R2.out
    have HB3 := Lib.hid b13; have HZ3 := Lib.hid z3; have HW3 := Lib.hid hW3
    have HK := Lib.hid (fun W => Check_any (idOf l) W)
    have HBW : Hid (∀ w4 w5 cs x, But (fun b => b = w.heap.size + 1 + 1) W3 w4 → Below (w4.alloc x).heap.size (w4.alloc x) w5 → Below w.heap.size w (w5.setRow (w.heap.size + 1) cs)) := fun w4 w5 cs x h1 h2 => by
      have e1 := b13.trans (h1.below b13.size fun k e => by omega)
      have e2 := (Me.below_alloc (o := x) e1)
      have e3 := e2.trans (h2.mono e2.size)
      exact ⟨e3.os, e3.tape, e3.output, by simpa using e3.size, fun b hb => (setRow_other _ _ b _ (by omega)).trans (e3.block b hb)⟩
    have HRR : Hid (∀ w4 w5 x, But (fun b => b = w.heap.size + 1 + 1) W3 w4 → Below (w4.alloc x).heap.size (w4.alloc x) w5 → w5.heap[w.heap.size + 1]? = some (.cells #[.int .i64 0, .int .i64 0, .int .i64 0, .int .i64 0] 23 (0, 0))) := fun w4 w5 x h1 h2 => by
      have hlt : w.heap.size + 1 < w4.heap.size := by have := h1.size; omega
      exact (h2.block _ (by simp; omega)).trans ((Below.heap_alloc _ _ _ hlt).trans ((h1.same _ (by omega) (by omega)).trans HR3.out))
    obtain ⟨j, hj⟩ : ∃ j, idOf l = j := ⟨_, rfl⟩
    by_cases hk : chkN (idOf l) = 0
    · have hI : getI l = idOf l := by unfold getI; rw [if_pos ⟨h6, hk⟩]
      have hZ : getZ l = 0 := by unfold getZ; rw [if_pos ⟨h6, hk⟩]
      rw [hI, hZ]
      rw [hk] at HK
      rw [show ((0 : Nat) : Int) = 0 from rfl] at HK
      rw [hj] at HG HK ⊢
      clear hI hZ hk hG hA hr3 b3 z3 q3 b13 hW3 h6 P2 R2 hi hj
      obtain ⟨o, d, ee, c⟩ := j
      simp only [idC] at HG HK ⊢
      go_enter Try.func74, Try.ntmps74
      go_wp2_with (first
        | (go_at_call 93; rw [HW.out, HW3.out]; with_reducible refine HG.out.mono ?_; rintro e w4 ⟨rfl, hb4⟩; have HB4 := Lib.hid hb4)
        | (go_at_call 65; refine (HK.out _).mono ?_; rintro e w5 ⟨rfl, hb5⟩; obtain ⟨e0, e1, e2, e3⟩ := box4 o d ee c w4 w5 hb5.out; have HR5 := Lib.hid (HRR.out w4 w5 _ HB4.out hb5.out))
        | (refine wpList_store_row rfl 23 (.tmp 2) (.tmp 16) rfl (w.heap.size + 1) #[.int .i64 o, .int .i64 d, .int .i64 ee, .int .i64 c] rfl rfl 23 _ HR5.out (by kernel_rfl) rfl (id_one _ _ _ _) ?_))
      exact ret_box2 (g := w.heap.size + 1) rfl (by rfl) (setRow_heap _ _ _ _ _ _ HR5.out) rfl Try.underlying23 (by kernel_rfl) rfl ⟨rfl, HBW.out _ _ _ _ HB4.out hb5.out⟩
    · have hI : getI l = ⟨0, 0, 0, 0⟩ := by unfold getI; rw [if_neg (by simp [hk])]
      have hZ : getZ l = 2 := by unfold getZ; rw [if_neg (by simp [hk])]
      rw [hI, hZ]
      obtain ⟨x, hx⟩ : ∃ x, chkN (idOf l) = x := ⟨_, rfl⟩
      rw [hx] at HK hk
      have hne := nz hk
      rw [hj] at HG HK
      clear hI hZ hk hG hA hr3 b3 z3 q3 b13 hW3 h6 P2 R2 hi hj hx
      obtain ⟨o, d, ee, c⟩ := j
      simp only [idC] at HG HK ⊢
      go_enter Try.func74, Try.ntmps74
      go_wp2_with (first
        | (go_at_call 93; rw [HW.out, HW3.out]; with_reducible refine HG.out.mono ?_; rintro e w4 ⟨rfl, hb4⟩; have HB4 := Lib.hid hb4)
        | (go_at_call 65; refine (HK.out _).mono ?_; rintro e w5 ⟨rfl, hb5⟩; obtain ⟨e0, e1, e2, e3⟩ := box4 o d ee c w4 w5 hb5.out; have HR5 := Lib.hid (HRR.out w4 w5 _ HB4.out hb5.out))
        | (refine wpList_store_row rfl 23 (.tmp 2) (.tmp 15) rfl (w.heap.size + 1) #[.int .i64 0, .int .i64 0, .int .i64 0, .int .i64 0] rfl rfl 23 _ HR5.out (by kernel_rfl) rfl (id_one _ _ _ _) ?_))
      exact ret_box2 (g := w.heap.size + 1) rfl (by rfl) (setRow_heap _ _ _ _ _ _ HR5.out) rfl Try.underlying23 (by kernel_rfl) rfl ⟨rfl, HBW.out _ _ _ _ HB4.out hb5.out⟩
  · have hlen : ((l.length : Int) == 6) = false := by
      have : ¬ (l.length : Int) = 6 := by omega
      simpa using this
    have hI : getI l = ⟨0, 0, 0, 0⟩ := by unfold getI; rw [if_neg (by simp [h6])]
    have hZ : getZ l = 2 := by unfold getZ; rw [if_neg (by simp [h6])]
    rw [hI, hZ]
    simp only [idC]
    have HBE : Hid (Below w.heap.size w (W2.setRow (w.heap.size + 1) #[.int .i64 0, .int .i64 0, .int .i64 0, .int .i64 0])) := ⟨B12.out.os, B12.out.tape, B12.out.output, by simpa using B12.out.size, fun b hb => (setRow_other _ _ b _ (by omega)).trans (B12.out.block b hb)⟩
    have HRE := Lib.hid (setRow_heap W2 (w.heap.size + 1) _ #[.int .i64 0, .int .i64 0, .int .i64 0, .int .i64 0] _ _ R2.out)
    clear hI hZ h6 hi P2
    go_enter Try.func74, Try.ntmps74
    go_wp2_with (refine wpList_store_row rfl 23 (.tmp 2) (.tmp 9) rfl (w.heap.size + 1) #[.int .i64 0, .int .i64 0, .int .i64 0, .int .i64 0] rfl rfl 23 _ (by rw [HW.out]; exact R2.out) (by kernel_rfl) rfl (id_one _ _ _ _) ?_)
    first
      | (rw [HW.out]; exact ret_box2 (g := w.heap.size + 1) rfl (by rfl) HRE.out rfl Try.underlying23 (by kernel_rfl) rfl ⟨rfl, HBE.out⟩)
      | (rw [HW.out]; exact ret_box2 (g := w.heap.size + 1) rfl (by rfl) R2.out rfl Try.underlying23 (by kernel_rfl) rfl ⟨rfl, B12.out⟩)
end Go.Proofs.Ytohfoieibgmmdaa.Mg
