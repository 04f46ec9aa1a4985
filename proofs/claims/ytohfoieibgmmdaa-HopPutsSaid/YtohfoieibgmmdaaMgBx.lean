/- A message in its box; a contract over what a drawn region holds. -/
import Derived.Test.YtohfoieibgmmdaaMgIn
namespace Go.Proofs.Ytohfoieibgmmdaa.Mg
open Go.RowKit
open Go.Proofs.Ytohfoieibgmmdaa.Me
set_option linter.unusedVariables false
set_option linter.unusedSimpArgs false
/-- A call's contract, over what a drawn region holds. -/
theorem held {f : FuncId} {args : Array Value} {E : Ending} {W1 : World} {S : World → Prop} (hX : ∀ W, Below W1.heap.size W1 W → S W) (hS : ∀ W, S W → Below W1.heap.size W1 W) (h : ∀ W, Calls Try.prog f args W fun e w' => e = E ∧ Hid (Below W.heap.size W w')) :
    Hid (∀ W, S W → Calls Try.prog f args W fun e w' => e = E ∧ S w') := fun W hW =>
  (h W).mono fun _ _ ⟨he, hb⟩ => ⟨he, hX _ ((hS W hW).trans (hb.out.mono (hS W hW).size))⟩
/-- The cells of a message's box. -/
def Bx (i : Id4) (A : Option Addr) (n c b : Nat) (W : World) : Prop := W.cell? ⟨b, 0, none⟩ = some (.int .i64 i.o) ∧ W.cell? ⟨b, 1, none⟩ = some (.int .i64 i.d) ∧ W.cell? ⟨b, 2, none⟩ = some (.int .i64 i.e) ∧ W.cell? ⟨b, 3, none⟩ = some (.int .i64 i.c) ∧ W.cell? ⟨b, 4, none⟩ = some (.slice A n c)
theorem bx_new (i : Id4) (A : Option Addr) (n c : Nat) (w W1 : World) (h : w.alloc (.cells (msgC i A n c) 26 (0, 0)) = W1) : Below w.heap.size w W1 ∧ W1.heap.size = w.heap.size + 1 ∧ ∀ W, Below W1.heap.size W1 W → Bx i A n c w.heap.size W := by
  subst h
  exact ⟨Me.below_alloc (Below.refl _ _), by simp, fun W hW => by
    obtain ⟨x0, x1, x2, x3, x4, _⟩ := box5 i A n c w W hW
    exact ⟨x0, x1, x2, x3, x4⟩⟩
end Go.Proofs.Ytohfoieibgmmdaa.Mg
