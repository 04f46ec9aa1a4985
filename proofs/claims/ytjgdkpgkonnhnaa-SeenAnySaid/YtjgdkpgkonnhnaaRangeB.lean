/- Ranges over functions in a block of their own. -/
import Derived.Test.YtjgdkpgkonnhnaaRange
namespace Go.Proofs.Ytjgdkpgkonnhnaa.It
open Go.RowKit
set_option linter.unusedVariables false

/-- The statement in its own block, whose rounds may break: what stands behind is one thing, however it was left. -/
theorem range_block {g : Operand} {p : Tmp} {assign body : Code} {id : Nat} {K' : Act → World → Prop} {Q' : Exit → Act → World → Prop} {a : Act} {w : World} {gf : Nat} {lb : Array Value}
    (hg : a.eval g = .func (.func gf) #[] lb) (eg : ∀ args w, (callFunc gf args).run Try.prog w = .ok (.enter gf args) w)
    {K N : Nat} {R : World → Prop} {cut : Nat → Prop} {V : Nat → Nat → Value → World → Prop} (hit : Iter gf lb K N R cut V)
    (I : Nat → World → Prop) (Bx F : World → Prop) (hI : ∀ k, Abid w.heap.size (2 + K) (I k)) (hBx : Abid w.heap.size (2 + K) Bx)
    (hIR : ∀ k X, I k X → R X) (hskip : ∀ k X, k < N → ¬ cut k → I k X → I (k + 1) X)
    (hV : ∀ B k v X Y r, V B k v X → X.grownBy Y (some r) → r < B → V B k v Y) (hVm : ∀ B B' k v X, V B k v X → B' ≤ B → V B' k v X) (h0 : I 0 w)
    (hdone : ∀ X, I N X → F X) (hstop : ∀ X, Bx X → F X)
    (hround : ∀ (l k : Nat) (v : Value) (W : World), k < N → cut k → I k W → V (w.heap.size + 2 + K) k v W →
      assign.wpIn (Wd.inRound l) 0 Try.prog (Exit.then (fun a₁ w₁ => w₁ = W ∧ ∀ W2, I k W2 → V (w.heap.size + 2 + K) k v W2 → w.heap.size + 2 + K ≤ W2.heap.size →
        body.wpIn (Wd.inRound l) 0 Try.prog (outs w.heap.size (2 + K) I (fun c X => c = .exit id ∧ Bx X) k W2) a₁ W2) (fun _ _ _ => False)) { tmps := a.tmps.setIfInBounds p v, defers := [] } W)
    (hrest : ∀ X, F X → X.heap[w.heap.size]? = some (.deferred (some [])) → K' { a with defers := { target := .collected w.heap.size, args := #[] } :: a.defers } X) :
    (Code.rangeFunc g #[p] assign body).wp Try.prog (Exit.inBlock id (Exit.then K' Q')) a w := by
  refine (wpIn_wide (n := 0)).1 ?_
  refine range_law2 hg eg hit I (fun c X => c = .exit id ∧ Bx X) hI (fun c X Y row h hg hr => ⟨h.1, hBx X Y row h.2 hg hr⟩) hIR hskip hV hVm h0 hround ?_ ?_
  · exact fun X hi hd => hrest X (hdone X hi) hd
  · rintro c X ⟨rfl, hb⟩ hd
    refine wpIn_wide.2 ?_
    refine wp_exit ?_
    have := hrest X (hstop X hb) hd
    simpa [Exit.inBlock, Exit.then] using this
/-- The same, where a round is told that its value is newer than all that the invariant speaks of. -/
theorem range_block3 {g : Operand} {p : Tmp} {assign body : Code} {id : Nat} {K' : Act → World → Prop} {Q' : Exit → Act → World → Prop} {a : Act} {w : World} {gf : Nat} {lb : Array Value}
    (hg : a.eval g = .func (.func gf) #[] lb) (eg : ∀ args w, (callFunc gf args).run Try.prog w = .ok (.enter gf args) w)
    {K N : Nat} {R : World → Prop} {cut : Nat → Prop} {V : Nat → Nat → Value → World → Prop} (hit : Iter gf lb K N R cut V)
    (I : Nat → World → Prop) (Bx F : World → Prop) (hI : ∀ k, Abid w.heap.size (2 + K) (I k)) (hBx : Abid w.heap.size (2 + K) Bx)
    (hIR : ∀ k X, I k X → R X) (hskip : ∀ k X, k < N → ¬ cut k → I k X → I (k + 1) X)
    (hV : ∀ B k v X Y r, V B k v X → X.grownBy Y (some r) → r < B → V B k v Y) (h0 : I 0 w)
    (hdone : ∀ X, I N X → F X) (hstop : ∀ X, Bx X → F X)
    (hround : ∀ (l k : Nat) (v : Value) (X0 W : World), k < N → cut k → I k X0 → Below X0.heap.size X0 W → V X0.heap.size k v W → w.heap.size + 2 + K ≤ X0.heap.size →
      assign.wpIn (Wd.inRound l) 0 Try.prog (Exit.then (fun a₁ w₁ => w₁ = W ∧ ∀ W2, X0.grownBy W2 (some (w.heap.size + 1)) → V X0.heap.size k v W2 →
        body.wpIn (Wd.inRound l) 0 Try.prog (outs w.heap.size (2 + K) I (fun c X => c = .exit id ∧ Bx X) k W2) a₁ W2) (fun _ _ _ => False)) { tmps := a.tmps.setIfInBounds p v, defers := [] } W)
    (hrest : ∀ X, F X → X.heap[w.heap.size]? = some (.deferred (some [])) → K' { a with defers := { target := .collected w.heap.size, args := #[] } :: a.defers } X) :
    (Code.rangeFunc g #[p] assign body).wp Try.prog (Exit.inBlock id (Exit.then K' Q')) a w := by
  refine (wpIn_wide (n := 0)).1 ?_
  refine range_law3 hg eg hit I (fun c X => c = .exit id ∧ Bx X) hI (fun c X Y row h hg hr => ⟨h.1, hBx X Y row h.2 hg hr⟩) hIR hskip hV h0 hround ?_ ?_
  · exact fun X hi hd => hrest X (hdone X hi) hd
  · rintro c X ⟨rfl, hb⟩ hd
    refine wpIn_wide.2 ?_
    refine wp_exit ?_
    have := hrest X (hstop X hb) hd
    simpa [Exit.inBlock, Exit.then] using this
end Go.Proofs.Ytjgdkpgkonnhnaa.It
