/- The law of the order: of two unlike ids just one is ahead, through a third one, and bytes are in the same order. -/
import Derived.Test.YtbngibkbijibjaaDoorMgWoke
import Derived.Test.YtbngibkbijibjaaDoorMgSame
import Derived.Test.YtbngibkbijibjaaDoorMgLex
namespace Go.Proofs.YtbngibkbijibjaaDoor.Mg
open Go.RowKit
open Go.Proofs.YtbngibkbijibjaaDoor.Me
set_option linter.unusedVariables false
set_option linter.unusedSimpArgs false

/-- The cells of an id's box. -/
theorem ib_new (i : Id4) (w W1 : World) (h : w.alloc (.cells (idC i) 23 (0, 0)) = W1) : Below w.heap.size w W1 ∧ W1.heap.size = w.heap.size + 1 ∧ ∀ W, Below W1.heap.size W1 W → Four W w.heap.size i := by
  subst h
  exact ⟨Me.below_alloc (Below.refl _ _), by simp, fun W hW => (four_new w i 23).below (by simp) hW⟩
/-- What PutId answers of any id. -/
def PutP (i : Id4) (S : World → Prop) (k : Bool) (W : World) (e : Ending) (w' : World) : Prop :=
  if k = true then ∃ g, e = .returned (.tuple #[.slice (some ⟨g, 0, none⟩) 6 6, .int .i64 0]) ∧ Hid (Row w' g (idL i)) ∧ S w' ∧ Below W.heap.size W w' else ∃ z, e = .returned (.tuple #[.slice none 0 0, .int .i64 z]) ∧ (z == 0) = false ∧ S w' ∧ Below W.heap.size W w'
theorem put_any (i : Id4) {W1 : World} {S : World → Prop} (hX : ∀ W, Below W1.heap.size W1 W → S W) (hS : ∀ W, S W → Below W1.heap.size W1 W) : Hid (∀ W, S W → Calls Tryd.prog 21 #[.agg (idC i)] W (PutP i S (decide (chkN i = 0)) W)) := by
  intro W hW
  by_cases h : chkN i = 0
  · refine (PutId_ok i (right_iff.1 h) W).mono fun e w' ⟨g, he, _, hr, hb⟩ => ?_
    unfold PutP
    rw [if_pos (by simp [h])]
    exact ⟨g, he, hr, hX _ ((hS W hW).trans (hb.out.mono (hS W hW).size)), hb.out⟩
  · refine (PutId_no i h W).mono fun e w' ⟨he, hb⟩ => ?_
    unfold PutP
    rw [if_neg (by simp [h])]
    exact ⟨_, he, nz h, hX _ ((hS W hW).trans (hb.out.mono (hS W hW).size)), hb.out⟩
/-- Which of two ids is ahead: three ways. -/
theorem three (a b : Id4) : (ltB a b = true ∧ ltB b a = false ∧ eqI a b = false) ∨ (ltB a b = false ∧ ltB b a = true ∧ eqI a b = false) ∨ (ltB a b = false ∧ ltB b a = false ∧ eqI a b = true) := by
  by_cases h : ltB a b = true
  · refine .inl ⟨h, ltB_asymm h, ?_⟩
    rw [Bool.eq_false_iff]
    intro he
    rw [eqI_eq he, ltB_irrefl] at h
    cases h
  · have h := Bool.eq_false_iff.2 h
    by_cases h2 : ltB b a = true
    · refine .inr (.inl ⟨h, h2, ?_⟩)
      rw [Bool.eq_false_iff]
      intro he
      rw [eqI_eq he, ltB_irrefl] at h2
      cases h2
    · have h2 := Bool.eq_false_iff.2 h2
      refine .inr (.inr ⟨h, h2, ?_⟩)
      rw [ltB_total h h2, eqI_self]
/-- What the law needs of the library below, over worlds that hold S: three boxes from b on. -/
structure Has (a b c : Id4) (w : World) (S : World → Prop) : Prop where
  hc : ∀ W, S W → Four W w.heap.size a ∧ Four W (w.heap.size + 1) b ∧ Four W (w.heap.size + 1 + 1) c
  ab : ∀ W, S W → Calls Tryd.prog 15 #[.agg (idC a), .agg (idC b)] W fun e w' => e = .returned (.bool (ltB a b)) ∧ S w' ∧ Below W.heap.size W w'
  ba : ∀ W, S W → Calls Tryd.prog 15 #[.agg (idC b), .agg (idC a)] W fun e w' => e = .returned (.bool (ltB b a)) ∧ S w'
  bc : ∀ W, S W → Calls Tryd.prog 15 #[.agg (idC b), .agg (idC c)] W fun e w' => e = .returned (.bool (ltB b c)) ∧ S w'
  ac : ∀ W, S W → Calls Tryd.prog 15 #[.agg (idC a), .agg (idC c)] W fun e w' => e = .returned (.bool (ltB a c)) ∧ S w'
  pa : ∀ W, S W → Calls Tryd.prog 21 #[.agg (idC a)] W (PutP a S (decide (chkN a = 0)) W)
  pb : ∀ W, S W → Calls Tryd.prog 21 #[.agg (idC b)] W (PutP b S (decide (chkN b = 0)) W)
  aw : ∀ W, S W → Calls Tryd.prog 14 #[] W fun e w' => e = .returned (.bool true) ∧ S w'
  fin : ∀ W, S W → Below w.heap.size w W
  grow : ∀ W W', S W → Below W.heap.size W W' → S W'
theorem has (a b c : Id4) (w : World) : ∃ (W3 : World) (S : World → Prop), ((w.alloc (.cells (idC a) 23 (0, 0))).alloc (.cells (idC b) 23 (0, 0))).alloc (.cells (idC c) 23 (0, 0)) = W3 ∧ S W3.drew ∧ Has a b c w S := by
  obtain ⟨W1, hW1⟩ : ∃ W1, w.alloc (.cells (idC a) 23 (0, 0)) = W1 := ⟨_, rfl⟩
  obtain ⟨hb1, hz1, hx1⟩ := ib_new a w W1 hW1
  obtain ⟨W2, hW2⟩ : ∃ W2, W1.alloc (.cells (idC b) 23 (0, 0)) = W2 := ⟨_, rfl⟩
  obtain ⟨hb2, hz2, hx2⟩ := ib_new b W1 W2 hW2
  obtain ⟨W3, hW3⟩ : ∃ W3, W2.alloc (.cells (idC c) 23 (0, 0)) = W3 := ⟨_, rfl⟩
  obtain ⟨hb3, hz3, hx3⟩ := ib_new c W2 W3 hW3
  rw [hz1] at hx2
  rw [hz2, hz1] at hx3
  have hb23 : Below W1.heap.size W1 W3 := hb2.trans (hb3.mono hb2.size)
  have hbb : Below w.heap.size w W3 := hb1.trans (hb23.mono hb1.size)
  have hX : ∀ W, Below W3.heap.size W3 W → Below W3.heap.size W3 W := fun _ h => h
  refine ⟨W3, fun W => Below W3.heap.size W3 W, by rw [hW1, hW2, hW3], (Below.refl _ W3).drew, fun W h => ⟨hx1 W (hb23.trans (h.mono hb23.size)), hx2 W (hb3.trans (h.mono hb3.size)), hx3 W h⟩, fun W hW => (Less_any a b W).mono fun e w' h => ⟨h.1, hW.trans (h.2.out.mono hW.size), h.2.out⟩, held hX hX (fun W => Less_any b a W), held hX hX (fun W => Less_any b c W), held hX hX (fun W => Less_any a c W), put_any a hX hX, put_any b hX hX, held hX hX (fun W => awake_any W), fun W h => hbb.trans (h.mono hbb.size), fun W W' h h2 => h.trans (h2.mono h.size)⟩
end Go.Proofs.YtbngibkbijibjaaDoor.Mg
