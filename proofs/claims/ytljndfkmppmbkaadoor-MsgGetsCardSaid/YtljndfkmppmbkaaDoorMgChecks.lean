/- The law of ids and messages that may be: both sides answer alike. -/
import Derived.Test.YtljndfkmppmbkaaDoorMgWoke
import Derived.Test.YtljndfkmppmbkaaDoorMgIn
namespace Go.Proofs.YtljndfkmppmbkaaDoor.Mg
open Go.RowKit
open Go.Proofs.YtljndfkmppmbkaaDoor.Me
set_option linter.unusedVariables false
set_option linter.unusedSimpArgs false

/-- A call's contract, over what a drawn region holds. -/
theorem held {f : FuncId} {args : Array Value} {E : Ending} {W1 : World} {S : World → Prop} (hX : ∀ W, Below W1.heap.size W1 W → S W) (hS : ∀ W, S W → Below W1.heap.size W1 W) (h : ∀ W, Calls Tryd.prog f args W fun e w' => e = E ∧ Hid (Below W.heap.size W w')) :
    Hid (∀ W, S W → Calls Tryd.prog f args W fun e w' => e = E ∧ S w') := fun W hW =>
  (h W).mono fun _ _ ⟨he, hb⟩ => ⟨he, hX _ ((hS W hW).trans (hb.out.mono (hS W hW).size))⟩
/-- The cells of a message's box. -/
def Bx (i : Id4) (A : Option Addr) (n c b : Nat) (W : World) : Prop := W.cell? ⟨b, 0, none⟩ = some (.int .i64 i.o) ∧ W.cell? ⟨b, 1, none⟩ = some (.int .i64 i.d) ∧ W.cell? ⟨b, 2, none⟩ = some (.int .i64 i.e) ∧ W.cell? ⟨b, 3, none⟩ = some (.int .i64 i.c) ∧ W.cell? ⟨b, 4, none⟩ = some (.slice A n c)
theorem bx_new (i : Id4) (A : Option Addr) (n c : Nat) (w W1 : World) (h : w.alloc (.cells (msgC i A n c) 26 (0, 0)) = W1) : Below w.heap.size w W1 ∧ W1.heap.size = w.heap.size + 1 ∧ ∀ W, Below W1.heap.size W1 W → Bx i A n c w.heap.size W := by
  subst h
  exact ⟨Me.below_alloc (Below.refl _ _), by simp, fun W hW => by
    obtain ⟨x0, x1, x2, x3, x4, _⟩ := box5 i A n c w W hW
    exact ⟨x0, x1, x2, x3, x4⟩⟩
set_option maxRecDepth 100000 in
set_option maxHeartbeats 8000000 in
theorem checks (i : Id4) (A : Option Addr) (n c : Nat) (l : List Nat) (w : World) (hi : MsIn w A n c l) : Calls Tryd.prog 3 #[.agg (msgC i A n c)] w fun e w' => e = .returned (.bool true) ∧ Below w.heap.size w w' := by
  obtain ⟨W1, hW1⟩ : ∃ W1, w.alloc (.cells (msgC i A n c) 26 (0, 0)) = W1 := ⟨_, rfl⟩
  obtain ⟨hb1, hz1, hx1⟩ := bx_new i A n c w W1 hW1
  have hX : ∀ W, Below W1.heap.size W1 W → Bx i A n c w.heap.size W ∧ Below W1.heap.size W1 W := fun W h => ⟨hx1 W h, h⟩
  have H1 := held hX (fun W h => h.2) (fun W => Check_any i W)
  have H2 := held hX (fun W h => h.2) (fun W => RCheck_any i W)
  have H3 := held hX (fun W h => h.2) (fun W => CheckMsg_any i A n c W)
  have H4 := held hX (fun W h => h.2) (fun W => RCheckMsg_any i A n c W)
  have H5 := held hX (fun W h => h.2) (fun W => awake_any W)
  have S0 := hX W1.drew (Below.refl _ W1).drew
  have HF : Hid (∀ W, Below W1.heap.size W1 W → Below w.heap.size w W) := fun W h => hb1.trans (h.mono hb1.size)
  obtain ⟨x, hx⟩ : ∃ x, chkN i = x := ⟨_, rfl⟩
  obtain ⟨y, hy⟩ : ∃ y, msgN i n = y := ⟨_, rfl⟩
  rw [hx] at H1 H2
  rw [hy] at H3 H4
  clear hx hy hb1 hz1 hx1 hX
  obtain ⟨o, d, ee, cc⟩ := i
  simp only [Bx, idC, msgC, and_assoc] at H1 H2 H3 H4 H5 S0 hW1 ⊢
  go_enter Tryd.func3, Tryd.ntmps3
  go_wp2
  try rw [hW1]
  clear hW1
  go_region_held (fun W => W.cell? ⟨w.heap.size, 0, none⟩ = some (.int .i64 o) ∧ W.cell? ⟨w.heap.size, 1, none⟩ = some (.int .i64 d) ∧ W.cell? ⟨w.heap.size, 2, none⟩ = some (.int .i64 ee) ∧ W.cell? ⟨w.heap.size, 3, none⟩ = some (.int .i64 cc) ∧ W.cell? ⟨w.heap.size, 4, none⟩ = some (.slice A n c) ∧ Below W1.heap.size W1 W) (first | assumption | exact S0)
    (first
      | (go_at_call 10; (refine (H1.out _ ?_).mono ?_); (exact (by assumption)); rintro e w1 ⟨rfl, hS1⟩)
      | (go_at_call 11; (refine (H2.out _ ?_).mono ?_); (exact (by assumption)); rintro e w2 ⟨rfl, hS2⟩)
      | (go_at_call 12; (refine (H3.out _ ?_).mono ?_); (exact (by assumption)); rintro e w3 ⟨rfl, hS3⟩)
      | (go_at_call 13; (refine (H4.out _ ?_).mono ?_); (exact (by assumption)); rintro e w4 ⟨rfl, hS4⟩)
      | (go_at_call 14; (refine (H5.out _ ?_).mono ?_); (exact (by assumption)); rintro e w5 ⟨rfl, hS5⟩))
  all_goals
    rename_i hfin
    have HB := HF.out _ hfin.2.2.2.2.2
    clear hfin
    go_wp2
    go_ret
    exact ⟨rfl, HB⟩
end Go.Proofs.YtljndfkmppmbkaaDoor.Mg
