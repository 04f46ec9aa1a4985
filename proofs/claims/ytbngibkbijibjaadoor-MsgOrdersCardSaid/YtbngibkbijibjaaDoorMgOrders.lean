/- The law of orders and sameness: both sides answer alike. -/
import Derived.Test.YtbngibkbijibjaaDoorMgSame
import Derived.Test.YtbngibkbijibjaaDoorMgRLess
namespace Go.Proofs.YtbngibkbijibjaaDoor.Mg
open Go.RowKit
open Go.Proofs.YtbngibkbijibjaaDoor.Me
set_option linter.unusedVariables false
set_option linter.unusedSimpArgs false

theorem heldM {f : FuncId} {args : Array Value} {E : Ending} {W1 : World} {S : World → Prop} (hX : ∀ W, Below W1.heap.size W1 W → S W) (hS : ∀ W, S W → Below W1.heap.size W1 W) (h : ∀ W, Below W1.heap.size W1 W → Calls Tryd.prog f args W fun e w' => e = E ∧ Hid (Below W.heap.size W w')) :
    Hid (∀ W, S W → Calls Tryd.prog f args W fun e w' => e = E ∧ S w') := fun W hW =>
  (h W (hS W hW)).mono fun _ _ ⟨he, hb⟩ => ⟨he, hX _ ((hS W hW).trans (hb.out.mono (hS W hW).size))⟩
set_option maxRecDepth 100000 in
set_option maxHeartbeats 16000000 in
theorem orders (i : Id4) (A : Option Addr) (n c : Nat) (l : List Nat) (j : Id4) (B : Option Addr) (m d : Nat) (r : List Nat) (w : World) (h1 : MsIn w A n c l) (h2 : MsIn w B m d r) : Calls Tryd.prog 4 #[.agg (msgC i A n c), .agg (msgC j B m d)] w fun e w' => e = .returned (.bool true) ∧ Below w.heap.size w w' := by
  obtain ⟨W1, hW1⟩ : ∃ W1, w.alloc (.cells (msgC i A n c) 26 (0, 0)) = W1 := ⟨_, rfl⟩
  obtain ⟨hb1, hz1, hx1⟩ := bx_new i A n c w W1 hW1
  obtain ⟨W2, hW2⟩ : ∃ W2, W1.alloc (.cells (msgC j B m d) 26 (0, 0)) = W2 := ⟨_, rfl⟩
  obtain ⟨hb2, hz2, hx2⟩ := bx_new j B m d W1 W2 hW2
  rw [hz1] at hx2
  have hbb : Below w.heap.size w W2 := hb1.trans (hb2.mono hb1.size)
  have hX : ∀ W, Below W2.heap.size W2 W → Bx i A n c w.heap.size W ∧ Bx j B m d (w.heap.size + 1) W ∧ Below W2.heap.size W2 W := fun W h => ⟨hx1 W (hb2.trans (h.mono hb2.size)), hx2 W h, h⟩
  have HF : Hid (∀ W, Below W2.heap.size W2 W → Below w.heap.size w W) := fun W h => hbb.trans (h.mono hbb.size)
  have H1 := held hX (fun W h => h.2.2) (fun W => Less_any i j W)
  have H2 := held hX (fun W h => h.2.2) (fun W => RLess_any i j W)
  have H3 := heldM hX (fun W h => h.2.2) (fun W hW => Same_any i j A B n m c d l r W (h1.below (HF.out W hW)) (h2.below (HF.out W hW)))
  have H4 := heldM hX (fun W h => h.2.2) (fun W hW => RSame_any i j A B n m c d l r W (h1.below (HF.out W hW)) (h2.below (HF.out W hW)))
  have H5 := heldM hX (fun W h => h.2.2) (fun W hW => Same_any i i A A n n c c l l W (h1.below (HF.out W hW)) (h1.below (HF.out W hW)))
  have H6 := held hX (fun W h => h.2.2) (fun W => awake_any W)
  have S0 := hX W2.drew (Below.refl _ W2).drew
  rw [sm_self] at H5
  obtain ⟨x, hx⟩ : ∃ x, ltB i j = x := ⟨_, rfl⟩
  obtain ⟨y, hy⟩ : ∃ y, sm i j l r = y := ⟨_, rfl⟩
  rw [hx] at H1 H2
  rw [hy] at H3 H4
  clear hx hy hb1 hz1 hx1 hb2 hz2 hx2 hbb hX h1 h2
  have HW : (w.alloc (.cells (msgC i A n c) 26 (0, 0))).alloc (.cells (msgC j B m d) 26 (0, 0)) = W2 := by rw [hW1, hW2]
  clear hW1 hW2
  obtain ⟨o, dd, ee, cc⟩ := i
  obtain ⟨p, q, s, t⟩ := j
  simp only [Bx, idC, msgC, and_assoc] at H1 H2 H3 H4 H5 H6 S0 HW ⊢
  go_enter Tryd.func4, Tryd.ntmps4
  go_wp2
  try rw [HW]
  clear HW
  go_region_held (fun W => W.cell? ⟨w.heap.size, 0, none⟩ = some (.int .i64 o) ∧ W.cell? ⟨w.heap.size, 1, none⟩ = some (.int .i64 dd) ∧ W.cell? ⟨w.heap.size, 2, none⟩ = some (.int .i64 ee) ∧ W.cell? ⟨w.heap.size, 3, none⟩ = some (.int .i64 cc) ∧ W.cell? ⟨w.heap.size, 4, none⟩ = some (.slice A n c) ∧ W.cell? ⟨w.heap.size + 1, 0, none⟩ = some (.int .i64 p) ∧ W.cell? ⟨w.heap.size + 1, 1, none⟩ = some (.int .i64 q) ∧ W.cell? ⟨w.heap.size + 1, 2, none⟩ = some (.int .i64 s) ∧ W.cell? ⟨w.heap.size + 1, 3, none⟩ = some (.int .i64 t) ∧ W.cell? ⟨w.heap.size + 1, 4, none⟩ = some (.slice B m d) ∧ Below W2.heap.size W2 W) (first | assumption | exact S0)
    (first
      | (go_at_call 15; (refine (H1.out _ ?_).mono ?_); (exact (by assumption)); rintro e w1 ⟨rfl, hS1⟩)
      | (go_at_call 16; (refine (H2.out _ ?_).mono ?_); (exact (by assumption)); rintro e w2 ⟨rfl, hS2⟩)
      | (go_at_call 17; (with_reducible refine (H3.out _ ?_).mono ?_); (exact (by assumption)); rintro e w3 ⟨rfl, hS3⟩)
      | (go_at_call 17; (with_reducible refine (H5.out _ ?_).mono ?_); (exact (by assumption)); rintro e w5 ⟨rfl, hS5⟩)
      | (go_at_call 18; (refine (H4.out _ ?_).mono ?_); (exact (by assumption)); rintro e w4 ⟨rfl, hS4⟩)
      | (go_at_call 14; (refine (H6.out _ ?_).mono ?_); (exact (by assumption)); rintro e w6 ⟨rfl, hS6⟩))
  all_goals
    rename_i hfin
    have HB := HF.out _ hfin.2.2.2.2.2.2.2.2.2.2
    clear hfin
    go_wp2
    go_ret
    exact ⟨rfl, HB⟩
end Go.Proofs.YtbngibkbijibjaaDoor.Mg
