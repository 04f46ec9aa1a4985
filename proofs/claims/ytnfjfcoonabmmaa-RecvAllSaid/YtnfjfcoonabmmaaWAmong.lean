/- The numbers that are among others, as an array of truths. -/
import Derived.Test.YtnfjfcoonabmmaaWList
import Derived.Laws.Tables
import Derived.Laws.Rows
namespace Go.Proofs.Ytnfjfcoonabmmaa.Wn
open Go.RowKit
open Go.Proofs.Ytnfjfcoonabmmaa.Mi
set_option linter.unusedVariables false
set_option linter.unusedSimpArgs false

/-- Of each number: is it one of l's, reduced? -/
def row (l : List Int) : Array Value := ((List.range 128).map fun i => Value.bool (has l (i : Nat))).toArray
theorem row_size (l : List Int) : (row l).size = 128 := by simp [row]
theorem row_at (l : List Int) {j : Nat} (h : j < 128) : (row l)[j]? = some (.bool (has l (j : Nat))) := by simp [row, h]
theorem row_one (l : List Int) : (row l).all (·.oneCell') = true := by
  simp only [row, List.all_toArray, List.all_map]
  exact List.all_eq_true.mpr fun _ _ => rfl
theorem row_snoc (l : List Int) {x : Int} {j : Nat} (h : x % 128 = j) : row (l ++ [x]) = (row l).setIfInBounds j (.bool true) := by
  apply Array.ext_getElem?
  intro i
  by_cases hi : i < 128
  · rw [row_at _ hi, Array.getElem?_setIfInBounds, has_snoc]
    by_cases hj : j = i
    · subst hj
      rw [if_pos rfl, if_pos (by rw [row_size]; exact hi)]
      simp [h]
    · rw [if_neg hj, row_at _ hi]
      have : decide (x % 128 = (i : Int)) = false := decide_eq_false (by omega)
      rw [this, Bool.or_false]
  · rw [Array.getElem?_eq_none (by rw [row_size]; omega), Array.getElem?_eq_none (by simp [row_size]; omega)]
theorem size128 (l : List Int) : (Try.prog.info? 55).map (·.size) = some (row l).size := by rw [row_size]; kernel_rfl
theorem alloc_row (ρ : Operand → Value) (o : Oper) (ho : o.op = .alloc 55) (w : World) : (execOp ρ o).run Try.prog w = .ok (.value (.pointer (some ⟨w.heap.size, 0, none⟩))) (w.alloc (.cells (row []) 55 (0, 0))) := by
  unfold execOp
  rw [ho]
  kernel_rfl
/-- Block g holds the truths of l. -/
def Tr (w : World) (g : Nat) (l : List Int) : Prop := w.heap[g]? = some (.cells (row l) 55 (0, 0))
theorem Tr.lt {w : World} {g : Nat} {l : List Int} (h : Tr w g l) : g < w.heap.size := (Array.getElem?_eq_some_iff.1 h).1
theorem Tr.cell {w : World} {g : Nat} {l : List Int} (h : Tr w g l) {j : Nat} (hj : j < 128) : w.cell? ⟨g, j, none⟩ = some (.bool (has l (j : Nat))) := by
  rw [cell_of_row w g j _ _ (0, 0) h, row_at l hj]
theorem Tr.frozen {w : World} {g : Nat} {l : List Int} (h : Tr w g l) (j : Nat) : w.frozen? ⟨g, j, none⟩ = false := frozen_of_row w g j _ _ h
theorem Tr.below {w w' : World} {g B : Nat} {l : List Int} (h : Tr w g l) (hb : Below B w w') (hg : g < B) : Tr w' g l := (hb.block g hg).trans h
theorem Tr.put {w : World} {g j : Nat} {l : List Int} {x : Int} (h : Tr w g l) (hx : x % 128 = j) : Tr (w.setCell ⟨g, j, none⟩ (.bool true)) g (l ++ [x]) := by
  unfold Tr
  rw [heap_setCell_same w g j _ _ _ h, row_snoc l hx]
theorem Tr.other {w : World} {g g' j : Nat} {l : List Int} {v : Value} (h : Tr w g l) (hg : g ≠ g') : Tr (w.setCell ⟨g', j, none⟩ v) g l := (Below.heap_setCell w _ v g hg).trans h
set_option maxHeartbeats 1000000 in
theorem among_any (A : Option Addr) (c B : Nat) (l : List Int) (w : World) (hr : Hid (Rd w B A l)) (hB : B ≤ w.heap.size) (hc : l.length ≤ 9223372036854775807) : Calls Try.prog 44 #[.slice A l.length c] w fun e w' => e = .returned (.agg (row l)) ∧ Hid (Below w.heap.size w w') := by
  have hN := Lib.hid Reduce_any
  have ht1 : Hid (Tr ((w.alloc (.cells (row []) 55)).alloc (.cells (row []) 55)) w.heap.size []) := (Below.heap_alloc _ _ _ (by simp)).trans (heap_alloc_new w _)
  have ht2 : Hid (Tr ((w.alloc (.cells (row []) 55)).alloc (.cells (row []) 55)) (w.heap.size + 1) []) := by
    have := heap_alloc_new (w.alloc (.cells (row []) 55)) (.cells (row []) 55)
    rwa [World.size_alloc] at this
  have hb0 : Hid (Below w.heap.size w ((w.alloc (.cells (row []) 55)).alloc (.cells (row []) 55))) := below_alloc (below_alloc (Below.refl _ _))
  go_enter Try.func44, Try.ntmps44
  go_wp2_with (refine allocTo rfl (.pointer (some ⟨_, 0, none⟩)) (.cells (row []) 55 (0, 0)) (alloc_row _ _ rfl _) ?_)
  go_loopw [8] (fun k wr => ∃ i : Nat, i ≤ l.length ∧ k = .int .i64 i ∧ Tr wr w.heap.size [] ∧ Tr wr (w.heap.size + 1) (l.take i) ∧ Below w.heap.size w wr) (fun k _ => l.length - (intOf k).toNat)
  case atStart => exact ⟨0, Nat.zero_le _, rfl, ht1.out, ht2.out, hb0.out⟩
  case round =>
    obtain ⟨i, hi, rfl, h1, h2, hb⟩ := hrel
    have H1 := Lib.hid h1
    have H2 := Lib.hid h2
    have HB := Lib.hid hb
    clear ht1 ht2 hb0
    by_cases hlt : i < l.length
    · obtain ⟨b, off, rfl, hbB, hcs⟩ := hr.out (by omega)
      have hcell := (hb.cell (p := ⟨b, off + i, none⟩) (Nat.lt_of_lt_of_le hbB hB)).trans (hcs i hlt)
      have ht : l.take (i + 1) = l.take i ++ [at_ l i] := by rw [at_get hlt]; exact (List.take_append_getElem hlt).symm
      obtain ⟨y, hy⟩ : ∃ y, at_ l i = y := ⟨_, rfl⟩
      rw [hy] at hcell ht
      obtain ⟨j, hj⟩ : ∃ j : Nat, y % 128 = (j : Int) := ⟨(y % 128).toNat, by omega⟩
      have hj2 : j < 128 := by omega
      have hY := Lib.hid (hN.out y)
      rw [hj] at hY
      have c2 := h2.cell hj2
      have f2 := h2.frozen j
      have HP : Hid (Tr (wr.setCell ⟨w.heap.size + 1, j, none⟩ (.bool true)) (w.heap.size + 1) (l.take (i + 1))) := by rw [ht]; exact h2.put hj
      clear hcs h1 h2 hb ht hy hj
      go_wp2_with (go_at_call 45; refine (hY.out _).mono ?_; rintro e w' ⟨rfl, rfl⟩)
      go_roundw
      case rel => exact ⟨i + 1, by omega, by go_num, H1.out.other (by omega), HP.out, HB.out.setCell (p := ⟨w.heap.size + 1, j, none⟩) (by show _ ≤ w.heap.size + 1; omega) _⟩
      case measure => simp [intOf]; omega
    · obtain rfl : i = l.length := by omega
      rw [List.take_length] at H2
      clear h1 h2 hb
      go_wp2_with (first
        | (refine wpList_load_row rfl 55 (.tmp 3) rfl (w.heap.size + 1) rfl 55 _ (0, 0) _ H2.out Try.underlying55 rfl (size128 l) ?_)
        | (refine wpList_store_row rfl 55 (.tmp 2) (.tmp 16) rfl w.heap.size (row l) rfl rfl 55 _ H1.out (size128 l) (by rw [row_size, row_size]) (row_one l) ?_))
      refine bodyPost_ret (v := .agg (row l)) (results_cell_row rfl _ _ w.heap.size 55 (row l) (0, 0) _ rfl (setRow_heap _ _ _ _ _ _ H1.out) Try.underlying55 rfl (size128 l)) rfl ⟨rfl, ?_⟩
      exact HB.out.trans ⟨rfl, rfl, rfl, by simp [World.setRow], fun k hk => setRow_other wr _ k _ (by omega)⟩
end Go.Proofs.Ytnfjfcoonabmmaa.Wn
