/- An id's numbers, as an array; how they stand in bytes and texts. -/
import Derived.Test.YtohfoieibgmmdaaZ1
import Derived.Deep.RegionHeld
namespace Go.Proofs.Ytohfoieibgmmdaa.Mg
open Go.RowKit
open Go.Proofs.Ytohfoieibgmmdaa.Me
set_option linter.unusedVariables false
set_option linter.unusedSimpArgs false

theorem numbers_any (i : Id4) (w : World) : Calls Try.prog 69 #[.agg (idC i)] w fun e w' => e = .returned (.agg (idC i)) ∧ Hid (Below w.heap.size w w') := by
  obtain ⟨o, d, ee, c⟩ := i
  simp only [idC]
  go_enter Try.func69, Try.ntmps69
  go_wp2
  go_returns
  exact ⟨rfl, by show Below _ _ _; repeat (first | exact Below.refl _ _ | apply Me.below_alloc)⟩
def formsV : Value := .agg #[.string ⟨#[]⟩, .int .i64 1, .string ⟨#[62]⟩, .int .i64 1, .string ⟨#[58]⟩, .int .i64 2, .string ⟨#[46]⟩, .int .i64 2]
theorem forms_any (w : World) : Calls Try.prog 70 #[] w fun e w' => e = .returned formsV ∧ Hid (Below w.heap.size w w') := by
  unfold formsV
  go_enter Try.func70, Try.ntmps70
  go_wp2
  go_returns
  exact ⟨rfl, by show Below _ _ _; repeat (first | exact Below.refl _ _ | apply Me.below_alloc)⟩
theorem Numbers_any (i : Id4) (w : World) : Calls Try.prog 117 #[.agg (idC i)] w fun e w' => ∃ g, e = .returned (.slice (some ⟨g, 0, none⟩) 4 4) ∧ w.heap.size ≤ g ∧ Hid (g < w'.heap.size ∧ w'.cell? ⟨g, 0, none⟩ = some (.int .i64 i.o) ∧ w'.cell? ⟨g, 1, none⟩ = some (.int .i64 i.d) ∧ w'.cell? ⟨g, 2, none⟩ = some (.int .i64 i.e) ∧ w'.cell? ⟨g, 3, none⟩ = some (.int .i64 i.c)) ∧ Hid (Below w.heap.size w w') := by
  obtain ⟨o, d, ee, c⟩ := i
  simp only [idC]
  go_enter Try.func117, Try.ntmps117
  go_wp2
  go_ret
  refine ⟨_, rfl, by simp, ?_, ?_⟩
  · refine ⟨by simp, ?_, ?_, ?_, ?_⟩
    all_goals
      have h := heap_alloc_new (w.alloc (.cells #[.int .i64 o, .int .i64 d, .int .i64 ee, .int .i64 c] 23)) (.cells #[.int .i64 o, .int .i64 d, .int .i64 ee, .int .i64 c] 3)
      rw [World.size_alloc] at h
      rw [cell_of_row _ _ _ _ _ (0, 0) h]
      rfl
  · show Below _ _ _
    repeat (first | exact Below.refl _ _ | apply Me.below_alloc)
end Go.Proofs.Ytohfoieibgmmdaa.Mg
/- slices.Compare of two ids' numbers; arrays of four numbers in memory. -/
namespace Go.Proofs.Ytohfoieibgmmdaa.Mg
open Go.RowKit
open Go.Proofs.Ytohfoieibgmmdaa.Me
set_option linter.unusedVariables false
set_option linter.unusedSimpArgs false

/-- Cells of a block. -/
def Four (W : World) (g : Nat) (i : Id4) : Prop := W.cell? ⟨g, 0, none⟩ = some (.int .i64 i.o) ∧ W.cell? ⟨g, 1, none⟩ = some (.int .i64 i.d) ∧ W.cell? ⟨g, 2, none⟩ = some (.int .i64 i.e) ∧ W.cell? ⟨g, 3, none⟩ = some (.int .i64 i.c)
theorem four_new (W : World) (i : Id4) (T : TypeId) : Four (W.alloc (.cells (idC i) T (0, 0))) W.heap.size i := by
  have h := heap_alloc_new W (.cells (idC i) T (0, 0))
  refine ⟨?_, ?_, ?_, ?_⟩
  all_goals
    rw [cell_of_row _ _ _ _ _ (0, 0) h]
    rfl
theorem Four.below {W W' : World} {g : Nat} {i : Id4} (h : Four W g i) (hl : g < W.heap.size) (hb : Below W.heap.size W W') : Four W' g i := by
  obtain ⟨a, b, c, d⟩ := h
  refine ⟨?_, ?_, ?_, ?_⟩
  all_goals
    rw [hb.cell hl]
    assumption
/-- Block g is an array of four numbers that were laid. -/
def Ar (W : World) (g : Nat) (i : Id4) : Prop := W.heap[g]? = some (.cells (idC i) 109 (0, 0))
abbrev Ar0 (W : World) (g : Nat) : Prop := W.heap[g]? = some (.cells #[.int .i64 0, .int .i64 0, .int .i64 0, .int .i64 0] 109 (0, 0))
theorem Ar0.lt {W : World} {g : Nat} (h : Ar0 W g) : g < W.heap.size := (Array.getElem?_eq_some_iff.1 h).1
theorem Ar0.below {W W' : World} {g : Nat} (h : Ar0 W g) (hb : Below W.heap.size W W') : Ar0 W' g := (hb.block g h.lt).trans h
theorem Ar.cell {W : World} {g : Nat} {i : Id4} (h : Ar W g i) {k : Nat} (hk : k < 4) : W.cell? ⟨g, k, none⟩ = some (.int .i64 (ix i k)) := by
  rw [cell_of_row W g k _ _ (0, 0) h]
  obtain rfl | rfl | rfl | rfl : k = 0 ∨ k = 1 ∨ k = 2 ∨ k = 3 := by omega
  all_goals rfl
theorem Ar.lt {W : World} {g : Nat} {i : Id4} (h : Ar W g i) : g < W.heap.size := (Array.getElem?_eq_some_iff.1 h).1
theorem Ar.below {W W' : World} {g : Nat} {i : Id4} (h : Ar W g i) (hb : Below W.heap.size W W') : Ar W' g i := (hb.block g h.lt).trans h
theorem cmp_any (x y : Int) (w : World) : Calls Try.prog 115 #[.int .i64 x, .int .i64 y] w fun e w' => e = .returned (.int .i64 (cmp1 x y)) ∧ Hid (Below w.heap.size w w') := by
  unfold cmp1
  by_cases h1 : x < y
  · rw [if_pos h1]
    go_enter Try.func115, Try.ntmps115
    go_wp2
    go_ret
    exact ⟨rfl, Below.refl _ _⟩
  · rw [if_neg h1]
    by_cases h2 : y < x
    · rw [if_pos h2]
      go_enter Try.func115, Try.ntmps115
      go_wp2
      go_ret
      exact ⟨rfl, Below.refl _ _⟩
    · rw [if_neg h2]
      go_enter Try.func115, Try.ntmps115
      go_wp2
      go_ret
      exact ⟨rfl, Below.refl _ _⟩
set_option maxHeartbeats 2000000 in
theorem Compare_any (a b : Id4) (g1 g2 : Nat) (w : World) (h1 : Hid (Ar w g1 a)) (h2 : Hid (Ar w g2 b)) : Calls Try.prog 87 #[.slice (some ⟨g1, 0, none⟩) 4 4, .slice (some ⟨g2, 0, none⟩) 4 4] w fun e w' => e = .returned (.int .i64 (cmpN a b)) ∧ Hid (Below w.heap.size w w') := by
  obtain ⟨Z, hZ⟩ : ∃ Z, cmpN a b = Z := ⟨_, rfl⟩
  have HZ := Lib.hid hZ
  rw [hZ]
  clear hZ
  go_enter Try.func87, Try.ntmps87
  go_wp2
  go_loopw [11] (fun v wr => ∃ k : Nat, k ≤ 4 ∧ v = .int .i64 k ∧ Hid (∀ j, j < k → ix a j = ix b j) ∧ Hid (Below w.heap.size w wr)) (fun v _ => 4 - (intOf v).toNat)
  case atStart => exact ⟨0, by omega, rfl, fun j hj => absurd hj (by omega), Below.refl _ _⟩
  case round =>
    obtain ⟨k, hk, rfl, HEq, HB⟩ := hrel
    by_cases hlt : k < 4
    · have c1 := (h1.out.below HB.out).cell hlt
      have c2 := (h2.out.below HB.out).cell hlt
      have q1 : (k : Int) < 4 := by omega
      have HC := Lib.hid (fun W => cmp_any (ix a k) (ix b k) W)
      by_cases he : ix a k = ix b k
      · have HE := Lib.hid he
        rw [he, cmp1_self] at HC
        obtain ⟨x, hx⟩ : ∃ x, ix a k = x := ⟨_, rfl⟩
        obtain ⟨y, hy⟩ : ∃ y, ix b k = y := ⟨_, rfl⟩
        rw [hx] at c1
        rw [hy] at c2 HC
        have exy : x = y := by rw [← hx, ← hy]; exact he
        subst exy
        clear he hx hy
        go_wp2_with (go_at_call 115; refine (HC.out _).mono ?_; rintro e w1 ⟨rfl, b1⟩)
        go_roundw
        case rel => exact ⟨k + 1, by omega, by go_num, (fun j hj => by
          by_cases e : j = k
          · subst e; exact HE.out
          · exact HEq.out j (by omega)), HB.out.trans (b1.out.mono HB.out.size)⟩
        case measure => simp [intOf]; omega
      · have hR : Z = cmp1 (ix a k) (ix b k) := HZ.out.symm.trans (cmpN_at hlt HEq.out he)
        have hnz := cmp1_ne he
        obtain ⟨z, hz⟩ : ∃ z, cmp1 (ix a k) (ix b k) = z := ⟨_, rfl⟩
        rw [hz] at HC hnz hR
        have HR := Lib.hid hR
        have hz0 : (z == 0) = false := by simpa using hnz
        obtain ⟨x, hx⟩ : ∃ x, ix a k = x := ⟨_, rfl⟩
        obtain ⟨y, hy⟩ : ∃ y, ix b k = y := ⟨_, rfl⟩
        rw [hx] at c1 HC
        rw [hy] at c2 HC
        clear he hx hy hz hnz hR
        go_wp2_with (go_at_call 115; refine (HC.out _).mono ?_; rintro e w1 ⟨rfl, b1⟩)
        go_ret
        exact ⟨congrArg (fun x => Ending.returned (Value.int .i64 x)) HR.out.symm, HB.out.trans (b1.out.mono HB.out.size)⟩
    · obtain rfl : k = 4 := by omega
      have HR : Hid (Z = 0) := HZ.out.symm.trans (cmpN_eq HEq.out)
      go_wp2
      go_ret
      exact ⟨congrArg (fun x => Ending.returned (Value.int .i64 x)) HR.out.symm, HB.out⟩
theorem ar_alloc (cur W2 : World) (hS : Below W2.heap.size W2 cur) (v : World) (hv : v = cur.alloc (.cells #[.int .i64 0, .int .i64 0, .int .i64 0, .int .i64 0] 109)) : Ar0 v cur.heap.size ∧ Hid (Below W2.heap.size W2 v) ∧ Below cur.heap.size cur v := by
  subst hv
  exact ⟨heap_alloc_new cur _, Me.below_alloc hS, Me.below_alloc (Below.refl _ _)⟩
theorem ar_store {W2 W : World} {g k : Nat} {old : Array Value} {cs : Array Value} {i : Id4} (h : W.heap[g]? = some (.cells old 109 (0, 0))) (h2 : W.heap[k]? = some (.cells cs 109 (0, 0))) (hne : k ≠ g) (hg : W2.heap.size ≤ g) (hS : Below W2.heap.size W2 W) :
    Ar (W.setRow g (idC i)) g i ∧ (W.setRow g (idC i)).heap[k]? = some (.cells cs 109 (0, 0)) ∧ Below W2.heap.size W2 (W.setRow g (idC i)) :=
  ⟨setRow_heap W g _ _ _ _ h, (setRow_other W g k _ hne).trans h2, hS.os, hS.tape, hS.output, by simpa using hS.size, fun b hb => (setRow_other W g b _ (by omega)).trans (hS.block b hb)⟩
end Go.Proofs.Ytohfoieibgmmdaa.Mg
