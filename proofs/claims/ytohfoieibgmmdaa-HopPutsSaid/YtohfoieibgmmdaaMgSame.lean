/- Are two messages the same? Both sides. -/
import Derived.Test.YtohfoieibgmmdaaMgBx
namespace Go.Proofs.Ytohfoieibgmmdaa.Mg
open Go.RowKit
open Go.Proofs.Ytohfoieibgmmdaa.Me
set_option linter.unusedVariables false
set_option linter.unusedSimpArgs false

def eqS (l r : List Nat) : Bool := (strOf l).toList == (strOf r).toList
theorem eqS_self (l : List Nat) : eqS l l = true := by simp [eqS]
theorem MsIn.below {w W : World} {A : Option Addr} {n c : Nat} {l : List Nat} (h : MsIn w A n c l) (hb : Below w.heap.size w W) : MsIn W A n c l := ⟨⟨h.1.1, h.1.2.1, h.1.2.2.1, (h.1.2.2.2.1.below hb).more hb.size, h.1.2.2.2.2⟩, h.2⟩
def eqI (i j : Id4) : Bool := decide (i.o = j.o) && (decide (i.d = j.d) && (decide (i.e = j.e) && decide (i.c = j.c)))
def sm (i j : Id4) (l r : List Nat) : Bool := eqI i j && eqS l r
theorem eqI_self (i : Id4) : eqI i i = true := by simp [eqI]
theorem eqI_eq {i j : Id4} (h : eqI i j = true) : i = j := by
  obtain ⟨o, d, e, c⟩ := i
  obtain ⟨p, q, r, s⟩ := j
  simp only [eqI, Bool.and_eq_true, decide_eq_true_eq] at h
  obtain ⟨rfl, rfl, rfl, rfl⟩ := h
  rfl
theorem sm_self (i : Id4) (l : List Nat) : sm i i l l = true := by unfold sm; rw [eqI_self, eqS_self]; rfl
theorem two_boxes (w : World) (x y : Array Value) : Below w.heap.size w ((w.alloc (.cells x 26 (0, 0))).alloc (.cells y 26 (0, 0))) := Me.below_alloc (Me.below_alloc (Below.refl _ _))
set_option maxRecDepth 100000 in
theorem RSame_any (i j : Id4) (A B : Option Addr) (n m c d : Nat) (l r : List Nat) (w : World) (h1 : Hid (MsIn w A n c l)) (h2 : Hid (MsIn w B m d r)) : Calls Try.prog 47 #[.agg (msgC i A n c), .agg (msgC j B m d)] w fun e w' => e = .returned (.bool (sm i j l r)) ∧ Hid (Below w.heap.size w w') := by
  obtain ⟨b, hb⟩ : ∃ b, sm i j l r = b := ⟨_, rfl⟩
  have HB := Lib.hid hb
  rw [hb]
  clear hb
  by_cases hE : eqI i j = true
  · have hij := eqI_eq hE
    subst hij
    have hb2 : eqS l r = b := by
      have := HB.out
      unfold sm at this
      rw [hE, Bool.true_and] at this
      exact this
    have HT := Lib.hid (two_boxes w)
    have k1 := fun W (hW : Below w.heap.size w W) => conv_rd W _ A l c (h1.out.below hW).1.2.2.2.1 (h1.out.below hW).1.2.2.2.2
    have k2 := fun W (hW : Below w.heap.size w W) => conv_rd W _ B r d (h2.out.below hW).1.2.2.2.1 (h2.out.below hW).1.2.2.2.2
    rw [← h1.out.1.1] at k1
    rw [← h2.out.1.1] at k2
    unfold eqS at hb2
    obtain ⟨s, hs⟩ : ∃ s, strOf l = s := ⟨_, rfl⟩
    obtain ⟨t, ht⟩ : ∃ t, strOf r = t := ⟨_, rfl⟩
    rw [hs] at k1 hb2
    rw [ht] at k2 hb2
    obtain ⟨o, dd, ee, cc⟩ := i
    simp only [msgC]
    have q1 := k1 _ (HT.out #[.int .i64 o, .int .i64 dd, .int .i64 ee, .int .i64 cc, .slice A n c] #[.int .i64 o, .int .i64 dd, .int .i64 ee, .int .i64 cc, .slice B m d])
    have q2 := k2 _ (HT.out #[.int .i64 o, .int .i64 dd, .int .i64 ee, .int .i64 cc, .slice A n c] #[.int .i64 o, .int .i64 dd, .int .i64 ee, .int .i64 cc, .slice B m d])
    clear HB hE k1 k2 hs ht h1 h2
    go_enter Try.func47, Try.ntmps47
    go_wp2
    go_ret
    exact ⟨by first | rfl | rw [hb2], HT.out _ _⟩
  · have hb2 : b = false := by
      have := HB.out
      unfold sm at this
      rw [Bool.eq_false_iff.2 hE, Bool.false_and] at this
      exact this.symm
    subst hb2
    have HT := Lib.hid (two_boxes w)
    obtain ⟨o, dd, ee, cc⟩ := i
    obtain ⟨p, q, s, t⟩ := j
    have HN : Hid (¬ (o = p ∧ dd = q ∧ ee = s ∧ cc = t)) := fun h => hE (by simp [eqI, h])
    clear hE HB h1 h2
    simp only [msgC]
    go_enter Try.func47, Try.ntmps47
    go_wp2
    all_goals first
      | (exfalso; apply HN.out; refine ⟨?_, ?_, ?_, ?_⟩ <;> assumption)
      | (go_ret
         exact ⟨rfl, HT.out _ _⟩)
end Go.Proofs.Ytohfoieibgmmdaa.Mg
