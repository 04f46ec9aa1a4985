/- Are two messages the same? Both sides. -/
import Derived.Test.YtohfoieibgmmdabMgBx
namespace Go.Proofs.Ytohfoieibgmmdab.Mg
open Go.RowKit
open Go.Proofs.Ytohfoieibgmmdab.Me
set_option linter.unusedVariables false
set_option linter.unusedSimpArgs false

def eqS (l r : List Nat) : Bool := (strOf l).toList == (strOf r).toList
theorem eqS_self (l : List Nat) : eqS l l = true := by simp [eqS]
theorem MsIn.below {w W : World} {A : Option Addr} {n c : Nat} {l : List Nat} (h : MsIn w A n c l) (hb : Below w.heap.size w W) : MsIn W A n c l := ⟨⟨h.1.1, h.1.2.1, h.1.2.2.1, (h.1.2.2.2.1.below hb).more hb.size, h.1.2.2.2.2⟩, h.2⟩
def eqI (i j : Id4) : Bool := decide (i.o = j.o) && (decide (i.d = j.d) && (decide (i.e = j.e) && decide (i.c = j.c)))
def sm (i j : Id4) (l r : List Nat) : Bool := eqI i j && eqS l r
theorem eqI_self (i : Id4) : eqI i i = true := by simp [eqI]
theorem eqI_eq {i j : Id4} (h : eqI i j = true) : i = j := by
  obtain ⟨o, d, e, c⟩ := i
  obtain ⟨p, q, r, s⟩ := j
  simp only [eqI, Bool.and_eq_true, decide_eq_true_eq] at h
  obtain ⟨rfl, rfl, rfl, rfl⟩ := h
  rfl
theorem sm_self (i : Id4) (l : List Nat) : sm i i l l = true := by unfold sm; rw [eqI_self, eqS_self]; rfl
theorem two_boxes (w : World) (x y : Array Value) : Below w.heap.size w ((w.alloc (.cells x 45 (0, 0))).alloc (.cells y 45 (0, 0))) := Me.below_alloc (Me.below_alloc (Below.refl _ _))
end Go.Proofs.Ytohfoieibgmmdab.Mg
