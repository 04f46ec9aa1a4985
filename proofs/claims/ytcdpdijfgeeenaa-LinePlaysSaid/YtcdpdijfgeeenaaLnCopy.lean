/- A list's elements in new memory. -/
import Derived.Test.YtcdpdijfgeeenaaLnDef
import Derived.Laws.CopyOwn
namespace Go.Proofs.Ytcdpdijfgeeenaa.Li
open Go.RowKit
open Go.Proofs.Ytcdpdijfgeeenaa.Sb
set_option linter.unusedVariables false
set_option linter.unusedSimpArgs false

theorem copiedI (l : List Int) : splice ((List.replicate l.length 0).map Mi.iV) 0 (l.map Mi.iV) = l.map Mi.iV := by
  simp only [splice, List.take_zero, List.nil_append, List.map_replicate, List.length_map, Nat.zero_add, List.drop_replicate, Nat.sub_self, List.replicate_zero, List.append_nil]
theorem copiedB (l : List Nat) : splice ((List.replicate l.length 0).map Me.byV) 0 (l.map Me.byV) = l.map Me.byV := by
  simp only [splice, List.take_zero, List.nil_append, List.map_replicate, List.length_map, Nat.zero_add, List.drop_replicate, Nat.sub_self, List.replicate_zero, List.append_nil]
theorem madeI (n : Nat) : (madeCells (Value.int .i64 0).cells (n * 1)).toList = (List.replicate n 0).map Mi.iV := by
  rw [show (Value.int .i64 0).cells = #[.int .i64 0] from rfl, Nat.mul_one, toList_madeCells_one, List.map_replicate]; rfl
theorem row_of_own {w : World} {base g n : Nat} {T : TypeId} {xs : List Value} (h : w.ownsRow base T 1 (.slice (some ⟨g, 0, none⟩) n n) n xs) : w.heap[g]? = some (.cells xs.toArray T (0, 0)) := by
  rcases h.2 with ⟨h1, _⟩ | ⟨g', cap, cur, h1, _, hg, _, _, hs, ht⟩
  · cases h1
  · injection h1 with h1 h2 h3
    injection h1 with h1
    injection h1 with h1
    subst h1 h3
    have : cur.toList.take (n * 1) = cur.toList := List.take_of_length_le (by rw [Array.length_toList, hs]; exact Nat.le_refl _)
    rw [this] at ht
    rw [hg, ← ht]
theorem made_rowI {w w1 : World} {n : Nat} (h : w1.ownsRow w.heap.size 3 1 (.slice (some ⟨w.heap.size, 0, none⟩) n n) n (madeCells (Value.int .i64 0).cells (n * 1)).toList) (hg : w.grownBy w1 none) :
    Hid (w1.heap[w.heap.size]? = some (.cells ((List.replicate n 0).map Mi.iV).toArray 3 (0, 0))) ∧ Below w.heap.size w w1 := by
  rw [madeI] at h
  exact ⟨row_of_own h, (Below.refl _ _).grown hg (Nat.le_refl _) (by simp)⟩
theorem own_row {w : World} {B g n : Nat} {T : TypeId} {xs : List Value} (h : w.heap[g]? = some (.cells xs.toArray T (0, 0))) (hB : B ≤ g) (hn : xs.length = n) (hm : n ≤ 1000000) : w.ownsRow B T 1 (.slice (some ⟨g, 0, none⟩) n n) n xs :=
  ⟨by omega, .inr ⟨g, n, xs.toArray, rfl, hB, h, Nat.le_refl _, by unfold maxLen; omega, by simp [hn], by rw [Nat.mul_one]; exact List.take_of_length_le (by simp [hn])⟩⟩
theorem cellsI (l : List Int) (A : Option Addr) (B : Nat) (w w1 : World) (hr : Mi.Rd w B A l) (hb : Below B w w1) :
    0 < (l.map Mi.iV).length → ∃ ad, A = some ad ∧ ∀ j v, (l.map Mi.iV)[j]? = some v → w1.cell? (ad.add j) = some v := by
  intro hl
  obtain ⟨b, off, e, _⟩ := (hr.below hb) (by simpa using hl)
  subst e
  exact ⟨_, rfl, Mi.rd_cells (hr.below hb)⟩
theorem sizeI : (Try.prog.info? 3).map (·.size) = some 1 := by kernel_rfl
theorem minB (l : List Nat) : (l.map Me.byV).length = Nat.min l.length l.length := by rw [List.length_map]; exact (Nat.min_self _).symm
theorem minI (l : List Int) : (l.map Mi.iV).length = Nat.min l.length l.length := by rw [List.length_map]; exact (Nat.min_self _).symm
theorem fitB (l : List Nat) : 0 + (l.map Me.byV).length ≤ ((List.replicate l.length 0).map Me.byV).length := by simp
theorem fitI (l : List Int) : 0 + (l.map Mi.iV).length ≤ ((List.replicate l.length 0).map Mi.iV).length := by simp
theorem Copied_b (A : Option Addr) (cap B : Nat) (l : List Nat) (w : World) (hr : Hid (Me.Rd w B A l)) (hB : Hid (B ≤ w.heap.size)) (hl : l.length ≤ 1000000) :
    Calls Try.prog 26 #[.slice A l.length cap] w fun e w' => e = .returned (.slice (some ⟨w.heap.size, 0, none⟩) l.length l.length) ∧ Hid (Me.Own w' w.heap.size (.slice (some ⟨w.heap.size, 0, none⟩) l.length l.length) l) ∧ Hid (Below w.heap.size w w') := by
  obtain ⟨i0, hi, hz0, hz1, hz2⟩ := info_parts Me.info8
  go_enter Try.func26, Try.ntmps26
  go_wp2_with (first
    | (at_make; refine wpList_make_full _ rfl (.tmp 5) (.tmp 5) 33 rfl w.heap.size 5 i0 (.int .u8 0) 1 Try.underlying33 hi hz0 hz1 .i64 .i64 _ _ l.length rfl rfl (by omega) (by omega) (by rw [hz2]; omega) (by unfold maxLen; omega) (Nat.le_refl _) ?_; intro w1 hown1 hg1; obtain ⟨HR1, hb1⟩ := Me.made_row hown1 hg1; clear hown1 hg1)
    | (with_reducible refine wpList_copy_splice rfl (.tmp 7) (.tmp 8) 33 33 rfl 5 Try.underlying33 Me.size8 _ _ _ _ _ _ rfl rfl w.heap.size 0 _ 5 HR1.out (l.map Me.byV) (minB l) (fun h => ⟨rfl, Me.cells_of l A B w w1 hr.out (hb1.mono hB.out) h⟩) (fitB l) (Me.one_cells l) w.heap.size w hb1 (Nat.le_refl _) ?_; intro w2 HR2 hb2; rw [copiedB] at HR2))
  go_ret
  exact ⟨rfl, own_row HR2.out (Nat.le_refl _) (by simp) hl, hb2⟩
theorem Copied_i (A : Option Addr) (cap B : Nat) (l : List Int) (w : World) (hr : Hid (Mi.Rd w B A l)) (hB : Hid (B ≤ w.heap.size)) (hl : l.length ≤ 1000000) :
    Calls Try.prog 28 #[.slice A l.length cap] w fun e w' => e = .returned (.slice (some ⟨w.heap.size, 0, none⟩) l.length l.length) ∧ Hid (Mi.Own w' w.heap.size (.slice (some ⟨w.heap.size, 0, none⟩) l.length l.length) l) ∧ Hid (Below w.heap.size w w') := by
  obtain ⟨i0, hi, hz0, hz1, hz2⟩ := info_parts Mi.infoI
  go_enter Try.func28, Try.ntmps28
  go_wp2_with (first
    | (at_make; refine wpList_make_full _ rfl (.tmp 5) (.tmp 5) 43 rfl w.heap.size 3 i0 (.int .i64 0) 1 Try.underlying43 hi hz0 hz1 .i64 .i64 _ _ l.length rfl rfl (by omega) (by omega) (by rw [hz2]; omega) (by unfold maxLen; omega) (Nat.le_refl _) ?_; intro w1 hown1 hg1; obtain ⟨HR1, hb1⟩ := made_rowI hown1 hg1; clear hown1 hg1)
    | (with_reducible refine wpList_copy_splice rfl (.tmp 7) (.tmp 8) 43 43 rfl 3 Try.underlying43 sizeI _ _ _ _ _ _ rfl rfl w.heap.size 0 _ 3 HR1.out (l.map Mi.iV) (minI l) (fun h => ⟨rfl, cellsI l A B w w1 hr.out (hb1.mono hB.out) h⟩) (fitI l) (Mi.one_cells l) w.heap.size w hb1 (Nat.le_refl _) ?_; intro w2 HR2 hb2; rw [copiedI] at HR2))
  go_ret
  exact ⟨rfl, own_row HR2.out (Nat.le_refl _) (by simp) hl, hb2⟩
end Go.Proofs.Ytcdpdijfgeeenaa.Li
