/- Ranges over functions that keep blocks of their own: what an iterator promises, and the statement over it. -/
import Derived.Test.YtfnlhfelpdkieaaGreatRows
import Derived.RangeFuncNested
import Derived.RangeFuncBound
import Derived.RangeFuncCalls
import Derived.RangeFuncLeaves
import Derived.Shelf.Abstract
import Derived.Shelf.RegionOpen
import Derived.OwnWalkIn
import Derived.TacticsInMore
import Derived.LoopNIn
import Derived.LoopIn
import Derived.WalkKit
import Derived.ProofKit
import Derived.Below
import Derived.Lib.Hide
namespace Go.Proofs.YtfnlhfelpdkieaaGreat.It
open Go.RowKit
set_option linter.unusedVariables false

/-- No fence. -/
abbrev Wd : Fence := Fence.wide
/-- The M blocks from B on lie as they lay. -/
structure KeepR (B M : Nat) (X Y : World) : Prop where
  size : X.heap.size ≤ Y.heap.size
  same : ∀ r, B ≤ r → r < B + M → r < X.heap.size → Y.heap[r]? = X.heap[r]?
theorem KeepR.refl (B M : Nat) (X : World) : KeepR B M X X := ⟨Nat.le_refl _, fun _ _ _ _ => rfl⟩
theorem KeepR.trans {B M : Nat} {X Y Z : World} (h : KeepR B M X Y) (k : KeepR B M Y Z) : KeepR B M X Z :=
  ⟨Nat.le_trans h.size k.size, fun r h1 h2 h3 => (k.same r h1 h2 (Nat.lt_of_lt_of_le h3 h.size)).trans (h.same r h1 h2 h3)⟩
theorem KeepR.part {B M B' M' : Nat} {X Y : World} (h : KeepR B M X Y) (h1 : B ≤ B') (h2 : B' + M' ≤ B + M) : KeepR B' M' X Y :=
  ⟨h.size, fun r a b c => h.same r (by omega) (by omega) c⟩
theorem KeepR.of_below {B M : Nat} {X Y : World} (h : Below X.heap.size X Y) : KeepR B M X Y := ⟨h.size, fun r _ _ h3 => h.block r h3⟩
theorem KeepR.of_grown {B M : Nat} {X Y : World} {row : Option Nat} (h : X.grownBy Y row) (hr : ∀ r, row = some r → r < B ∨ B + M ≤ r) : KeepR B M X Y :=
  ⟨h.size, fun r h1 h2 h3 => h.block r h3 (fun e => by have := hr r e.symm; omega)⟩
theorem KeepR.at_ {B M r : Nat} {X Y : World} {o : Obj} (h : KeepR B M X Y) (h1 : B ≤ r) (h2 : r < B + M) (h3 : X.heap[r]? = some o) : Y.heap[r]? = some o :=
  (h.same r h1 h2 (Array.getElem?_eq_some_iff.1 h3).1).trans h3
/-- What is said of memory minds no new block, and no turn of the M blocks from B on. -/
def Abid (B M : Nat) (I : World → Prop) : Prop := ∀ (X Y : World) (row : Option Nat), I X → X.grownBy Y row → (∀ r, row = some r → B ≤ r ∧ r < B + M) → I Y
theorem Abid.part {B M B' M' : Nat} {I : World → Prop} (h : Abid B M I) (h1 : B ≤ B') (h2 : B' + M' ≤ B + M) : Abid B' M' I :=
  fun X Y row hi hg hr => h X Y row hi hg fun r e => by have := hr r e; omega
theorem Abid.putObj {B M l : Nat} {I : World → Prop} (h : Abid B M I) {X : World} (hi : I X) (h1 : B ≤ l) (h2 : l < B + M) (o : Obj) : I (X.putObj l o) :=
  h X _ (some l) hi (grownBy_putObj' X l o) fun r e => by cases e; exact ⟨h1, h2⟩
theorem grown_of_below {X Y : World} (h : Below X.heap.size X Y) : X.grownBy Y none := ⟨h.os, h.tape, h.output, h.size, fun k hk _ => h.block k hk⟩
theorem Abid.below {B M : Nat} {I : World → Prop} (h : Abid B M I) {X Y : World} (hi : I X) (hb : Below X.heap.size X Y) : I Y := h X Y none hi (grown_of_below hb) (fun r e => by cases e)
theorem Abid.and {B M : Nat} {I I' : World → Prop} (h : Abid B M I) (h' : Abid B M I') : Abid B M fun X => I X ∧ I' X := fun X Y row hi hg hr => ⟨h X Y row hi.1 hg hr, h' X Y row hi.2 hg hr⟩
theorem Abid.boxed {B M b : Nat} {t : TypeId} {v : Value} (hb : b < B ∨ B + M ≤ b) : Abid B M fun X => Boxed X b t v :=
  fun X Y row hi hg hr => hi.kept hg (fun e => by have := hr b e.symm; omega)
/-- What an iterator promises: at each place k below N that is a cut it hands on a value that V lets, in blocks behind all that J speaks of; J holds between places; K blocks from the first free one on are its own. -/
def Iter (g : Nat) (lb : Array Value) (K N : Nat) (R : World → Prop) (cut : Nat → Prop) (V : Nat → Nat → Value → World → Prop) : Prop :=
  ∀ (l : Nat) (W : World) (J : Nat → World → Prop) (Jx : World → Prop),
    (∀ k, Abid W.heap.size K (J k)) → Abid W.heap.size K Jx → (∀ k X, J k X → R X) → (∀ k X, k < N → ¬ cut k → J k X → J (k + 1) X) →
    (∀ k v X0 X, k < N → cut k → J k X0 → Below X0.heap.size X0 X → V X0.heap.size k v X → W.heap.size + K ≤ X0.heap.size → YieldAt Wd 0 Tryz.prog l #[v] X fun e Y =>
      ∃ b : Bool, e = .returned (.bool b) ∧ KeepR W.heap.size K X Y ∧ (b = true → J (k + 1) Y) ∧ (b = false → Jx Y)) →
    J 0 W →
    CallsIn Wd 0 Tryz.prog g (#[.func (.yield l) #[] #[]] ++ lb) W fun e W' => (∃ v, e = .returned v) ∧ (J N W' ∨ Jx W')
/-- How the body of a round may be left. -/
def outs (B M : Nat) (I : Nat → World → Prop) (Ix : Code → World → Prop) (k : Nat) (W : World) : Exit → Act → World → Prop
  | .normal, _, W' => KeepR B M W W' ∧ I (k + 1) W'
  | .ret, _, W' => KeepR B M W W' ∧ Ix .ret W'
  | .exit id, _, W' => KeepR B M W W' ∧ Ix (.exit id) W'
  | .goto t, _, W' => KeepR B M W W' ∧ Ix (.goto t) W'
  | .panic _, _, _ => False
  | .outgrown, _, _ => False
/-- The statement 'for x := range f' over such an iterator, outside of other rounds. -/
theorem range_law3 {g : Operand} {p : Tmp} {assign body : Code} {Q : Exit → Act → World → Prop} {a : Act} {w : World} {gf : Nat} {lb : Array Value}
    (hg : a.eval g = .func (.func gf) #[] lb) (eg : ∀ args w, (callFunc gf args).run Tryz.prog w = .ok (.enter gf args) w)
    {K N : Nat} {R : World → Prop} {cut : Nat → Prop} {V : Nat → Nat → Value → World → Prop} (hit : Iter gf lb K N R cut V)
    (I : Nat → World → Prop) (Ix : Code → World → Prop) (hI : ∀ k, Abid w.heap.size (2 + K) (I k)) (hIx : ∀ c, Abid w.heap.size (2 + K) (Ix c))
    (hIR : ∀ k X, I k X → R X) (hskip : ∀ k X, k < N → ¬ cut k → I k X → I (k + 1) X)
    (hV : ∀ B k v X Y r, V B k v X → X.grownBy Y (some r) → r < B → V B k v Y) (h0 : I 0 w)
    (hround : ∀ (l k : Nat) (v : Value) (X0 W : World), k < N → cut k → I k X0 → Below X0.heap.size X0 W → V X0.heap.size k v W → w.heap.size + 2 + K ≤ X0.heap.size →
      assign.wpIn (Wd.inRound l) 0 Tryz.prog (Exit.then (fun a₁ w₁ => w₁ = W ∧ ∀ W2, X0.grownBy W2 (some (w.heap.size + 1)) → V X0.heap.size k v W2 →
        body.wpIn (Wd.inRound l) 0 Tryz.prog (outs w.heap.size (2 + K) I Ix k W2) a₁ W2) (fun _ _ _ => False)) { tmps := a.tmps.setIfInBounds p v, defers := [] } W)
    (hdone : ∀ W, I N W → W.heap[w.heap.size]? = some (.deferred (some [])) → Q .normal { a with defers := { target := .collected w.heap.size, args := #[] } :: a.defers } W)
    (hstop : ∀ (c : Code) (W : World), Ix c W → W.heap[w.heap.size]? = some (.deferred (some [])) → c.wpIn Wd 0 Tryz.prog Q { a with defers := { target := .collected w.heap.size, args := #[] } :: a.defers } W) :
    (Code.rangeFunc g #[p] assign body).wpIn Wd 0 Tryz.prog Q a w := by
  refine wpIn_rangeFunc fun fn hfn => ?_
  obtain ⟨rec, hrec⟩ : ∃ rec : LoopState → Option Code → Loop, rec = fun st pe => { state := st, pending := pe, fn, tmps := a.tmps, params := #[p], assign, body, defers := w.heap.size } := ⟨_, rfl⟩
  obtain ⟨W1, hW1⟩ : ∃ W1, (w.alloc (.deferred (some []))).alloc (.loop (rec .ready none)) = W1 := ⟨_, rfl⟩
  have hL1 : W1.heap[w.heap.size + 1]? = some (.loop (rec .ready none)) := by
    rw [← hW1]
    have := World.alloc_heap_new (w.alloc (.deferred (some []))) (.loop (rec .ready none))
    rwa [World.size_alloc] at this
  have hK1 : W1.heap[w.heap.size]? = some (.deferred (some [])) := by
    rw [← hW1]; exact (Below.heap_alloc _ _ _ (by simp)).trans (World.alloc_heap_new w _)
  have hsz : W1.heap.size = w.heap.size + 2 := by rw [← hW1]; simp
  have hb1 : Below w.heap.size w W1 := by
    rw [← hW1]; exact ((Below.refl _ w).alloc (Nat.le_refl _) _).alloc (by simp) _
  have hI1 : I 0 W1 := (hI 0).below h0 hb1
  refine ⟨w.heap.size + 1, [{ target := .collected w.heap.size, args := #[] }], W1, { target := .fn (.func gf) lb, args := #[.func (.yield (w.heap.size + 1)) #[] #[]] }, W1, gf,
    #[.func (.yield (w.heap.size + 1)) #[] #[]] ++ lb, W1, ?_, ?_, ?_, ?_, (fun h => by cases h), ?_⟩
  · rw [← hW1, hrec]; exact run_enterLoop_outer _ _ _ _ _
  · simp only [resolve, hg]
    simp [go_sem]
  · intro f' _; trivial
  · simp [invoke, go_sem, eg]
  have hit' := hit (w.heap.size + 1) W1
    (fun k X => I k X ∧ X.heap[w.heap.size + 1]? = some (.loop (rec .ready none)) ∧ X.heap[w.heap.size]? = some (.deferred (some [])))
    (fun X => ∃ c, Ix c X ∧ X.heap[w.heap.size + 1]? = some (.loop (rec .done (some c))) ∧ X.heap[w.heap.size]? = some (.deferred (some [])))
  rw [hsz] at hit'
  have other : ∀ {X Y : World} {row : Option Nat} {b : Nat} {o : Obj}, X.grownBy Y row → (∀ r, row = some r → w.heap.size + 2 ≤ r ∧ r < w.heap.size + 2 + K) → b < w.heap.size + 2 → X.heap[b]? = some o → Y.heap[b]? = some o :=
    fun hg hr hb ho => (hg.block _ (Array.getElem?_eq_some_iff.1 ho).1 (fun e => by have := hr _ e.symm; omega)).trans ho
  refine (hit' ?_ ?_ ?_ ?_ ?_ ⟨hI1, hL1, hK1⟩).mono ?_
  · exact fun k X Y row hi hg' hr => ⟨(hI k).part (by omega) (by omega) X Y row hi.1 hg' hr, other hg' hr (by omega) hi.2.1, other hg' hr (by omega) hi.2.2⟩
  · rintro X Y row ⟨c, hi, h1, h2⟩ hg' hr
    exact ⟨c, (hIx c).part (by omega) (by omega) X Y row hi hg' hr, other hg' hr (by omega) h1, other hg' hr (by omega) h2⟩
  · exact fun k X hi => hIR k X hi.1
  · exact fun k X hk hc hi => ⟨hskip k X hk hc hi.1, hi.2⟩
  · rintro k v X0 X hk hcut ⟨hi0, hl0, hd0⟩ hbX hv hX0
    have hl := (hbX.block _ (Array.getElem?_eq_some_iff.1 hl0).1).trans hl0
    have hd := (hbX.block _ (Array.getElem?_eq_some_iff.1 hd0).1).trans hd0
    have hy := run_yield (P := Tryz.prog) (args := #[v]) hl (by rw [hrec]; rfl)
    rw [hrec] at hy
    dsimp only at hy
    rw [show (#[p].zip #[v]) = #[(p, v)] by simp] at hy
    simp only [List.foldl_toArray, List.foldl_cons, List.foldl_nil] at hy
    refine ⟨fn, _, assign, body, hy, roundIn_of_wpIn hfn ?_⟩
    refine wpIn_mono (hround _ k v X0 X hk hcut hi0 hbX hv hX0) ?_
    intro e1 a1 w1 hq1
    have hq2 : e1 = .normal ∧ w1 = X ∧ ∀ W2, X0.grownBy W2 (some (w.heap.size + 1)) → V X0.heap.size k v W2 → body.wpIn (Wd.inRound (w.heap.size + 1)) 0 Tryz.prog (outs w.heap.size (2 + K) I Ix k W2) a1 W2 := by
      cases e1 with
      | normal => exact ⟨rfl, hq1⟩
      | _ => exact hq1.elim
    obtain ⟨he1, hw1, hbody⟩ := hq2
    rw [he1, hw1]
    refine ⟨_, run_beginRound hl (by rw [hrec]), ?_⟩
    have hlt : w.heap.size + 1 < X.heap.size := (Array.getElem?_eq_some_iff.1 hl).1
    obtain ⟨X2, hX2⟩ : ∃ X2, X.putObj (w.heap.size + 1) (.loop { rec .ready none with state := .busy }) = X2 := ⟨_, rfl⟩
    have hl2 : X2.heap[w.heap.size + 1]? = some (.loop { rec .ready none with state := .busy }) := by rw [← hX2]; exact World.putObj_heap_same hlt
    have hd2 : X2.heap[w.heap.size]? = some (.deferred (some [])) := by rw [← hX2]; exact (World.putObj_heap_other (by omega)).trans hd
    have hg2 : X0.grownBy X2 (some (w.heap.size + 1)) := by
      have h1 := grown_of_below hbX
      have h2 := grownBy_putObj' X (w.heap.size + 1) (.loop { rec .ready none with state := .busy })
      rw [hX2] at h2
      exact ⟨h2.os.trans h1.os, h2.tape.trans h1.tape, h2.output.trans h1.output, Nat.le_trans h1.size h2.size, fun b hb hne => (h2.block b (Nat.lt_of_lt_of_le hb h1.size) hne).trans (h1.block b hb (by simp))⟩
    have hv2 : V X0.heap.size k v X2 := by rw [← hX2]; exact hV _ _ _ _ _ _ hv (grownBy_putObj' _ _ _) (by omega)
    have hk2 : KeepR (w.heap.size + 2) K X X2 := by rw [← hX2]; exact KeepR.of_grown (grownBy_putObj' _ _ _) fun r e => by cases e; omega
    show body.wpIn _ _ _ _ _ (X.putObj (w.heap.size + 1) (.loop { rec .ready none with state := .busy }))
    rw [hX2]
    refine wpIn_mono (hbody X2 hg2 hv2) ?_
    have fin : ∀ (jump : Option Code) (X3 : World), KeepR w.heap.size (2 + K) X2 X3 →
        ∃ X4, (Instr.endRound (w.heap.size + 1) jump).run Tryz.prog X3 = .ok (.bool jump.isNone) X4 ∧ X4 = X3.putObj (w.heap.size + 1) (.loop (rec (if jump.isNone then .ready else .done) jump)) ∧
          X4.heap[w.heap.size + 1]? = some (.loop (rec (if jump.isNone then .ready else .done) jump)) ∧ X4.heap[w.heap.size]? = some (.deferred (some [])) ∧ KeepR (w.heap.size + 2) K X X4 := fun jump X3 hk3 => by
      have hl3 := hk3.at_ (by omega) (by omega) hl2
      have hd3 := hk3.at_ (by omega) (by omega) hd2
      have hr := run_endRound (P := Tryz.prog) jump hl3
      rw [hrec] at hr ⊢
      refine ⟨_, hr, rfl, World.putObj_heap_same (Array.getElem?_eq_some_iff.1 hl3).1, (World.putObj_heap_other (by omega)).trans hd3, ?_⟩
      exact (hk2.trans (hk3.part (by omega) (by omega))).trans (KeepR.of_grown (grownBy_putObj' _ _ _) fun r e => by cases e; omega)
    rintro e a3 X3 hp
    cases e with
    | normal =>
      obtain ⟨hk3, hi3⟩ := hp
      obtain ⟨X4, hr, e4, hl4, hd4, hk4⟩ := fin none X3 hk3
      exact ⟨_, _, hr, true, rfl, hk4, fun _ => ⟨by rw [e4]; exact (hI _).putObj hi3 (by omega) (by omega) _, hl4, hd4⟩, fun h => by cases h⟩
    | ret =>
      obtain ⟨hk3, hi3⟩ := hp
      obtain ⟨X4, hr, e4, hl4, hd4, hk4⟩ := fin (some .ret) X3 hk3
      exact ⟨_, _, hr, false, rfl, hk4, (fun h => by cases h), fun _ => ⟨.ret, by rw [e4]; exact (hIx _).putObj hi3 (by omega) (by omega) _, hl4, hd4⟩⟩
    | exit id =>
      obtain ⟨hk3, hi3⟩ := hp
      obtain ⟨X4, hr, e4, hl4, hd4, hk4⟩ := fin (some (.exit id)) X3 hk3
      exact ⟨_, _, hr, false, rfl, hk4, (fun h => by cases h), fun _ => ⟨.exit id, by rw [e4]; exact (hIx _).putObj hi3 (by omega) (by omega) _, hl4, hd4⟩⟩
    | goto t =>
      obtain ⟨hk3, hi3⟩ := hp
      obtain ⟨X4, hr, e4, hl4, hd4, hk4⟩ := fin (some (.goto t)) X3 hk3
      exact ⟨_, _, hr, false, rfl, hk4, (fun h => by cases h), fun _ => ⟨.goto t, by rw [e4]; exact (hIx _).putObj hi3 (by omega) (by omega) _, hl4, hd4⟩⟩
    | panic ch => exact hp.elim
    | outgrown => exact hp.elim
  · rintro e W2 ⟨⟨v, rfl⟩, (⟨hi, hl, hd⟩ | ⟨c, hi, hl, hd⟩)⟩
    · exact ⟨none, _, by have := run_endLoop (P := Tryz.prog) hl (by rw [hrec]; simp); rw [hrec] at this; exact this, hdone _ ((hI _).putObj hi (by omega) (by omega) _) ((World.putObj_heap_other (by omega)).trans hd)⟩
    · exact ⟨some c, _, by have := run_endLoop (P := Tryz.prog) hl (by rw [hrec]; simp); rw [hrec] at this; exact this, hstop c _ ((hIx c).putObj hi (by omega) (by omega) _) ((World.putObj_heap_other (by omega)).trans hd)⟩
/-- The same, where a round asks no more than where its value's blocks begin. -/
theorem range_law2 {g : Operand} {p : Tmp} {assign body : Code} {Q : Exit → Act → World → Prop} {a : Act} {w : World} {gf : Nat} {lb : Array Value}
    (hg : a.eval g = .func (.func gf) #[] lb) (eg : ∀ args w, (callFunc gf args).run Tryz.prog w = .ok (.enter gf args) w)
    {K N : Nat} {R : World → Prop} {cut : Nat → Prop} {V : Nat → Nat → Value → World → Prop} (hit : Iter gf lb K N R cut V)
    (I : Nat → World → Prop) (Ix : Code → World → Prop) (hI : ∀ k, Abid w.heap.size (2 + K) (I k)) (hIx : ∀ c, Abid w.heap.size (2 + K) (Ix c))
    (hIR : ∀ k X, I k X → R X) (hskip : ∀ k X, k < N → ¬ cut k → I k X → I (k + 1) X)
    (hV : ∀ B k v X Y r, V B k v X → X.grownBy Y (some r) → r < B → V B k v Y) (hVm : ∀ B B' k v X, V B k v X → B' ≤ B → V B' k v X) (h0 : I 0 w)
    (hround : ∀ (l k : Nat) (v : Value) (W : World), k < N → cut k → I k W → V (w.heap.size + 2 + K) k v W →
      assign.wpIn (Wd.inRound l) 0 Tryz.prog (Exit.then (fun a₁ w₁ => w₁ = W ∧ ∀ W2, I k W2 → V (w.heap.size + 2 + K) k v W2 → w.heap.size + 2 + K ≤ W2.heap.size →
        body.wpIn (Wd.inRound l) 0 Tryz.prog (outs w.heap.size (2 + K) I Ix k W2) a₁ W2) (fun _ _ _ => False)) { tmps := a.tmps.setIfInBounds p v, defers := [] } W)
    (hdone : ∀ W, I N W → W.heap[w.heap.size]? = some (.deferred (some [])) → Q .normal { a with defers := { target := .collected w.heap.size, args := #[] } :: a.defers } W)
    (hstop : ∀ (c : Code) (W : World), Ix c W → W.heap[w.heap.size]? = some (.deferred (some [])) → c.wpIn Wd 0 Tryz.prog Q { a with defers := { target := .collected w.heap.size, args := #[] } :: a.defers } W) :
    (Code.rangeFunc g #[p] assign body).wpIn Wd 0 Tryz.prog Q a w :=
  range_law3 hg eg hit I Ix hI hIx hIR hskip hV h0 (fun l k v X0 W hk hc hi hb hv hs =>
    wpIn_mono (hround l k v W hk hc ((hI k).below hi hb) (hVm _ _ _ _ _ hv hs)) fun e a₁ w₁ hq => by
      cases e with
      | normal => exact ⟨hq.1, fun W2 hg2 hv2 => hq.2 W2 ((hI k) _ _ _ hi hg2 (fun r e => by cases e; omega)) (hVm _ _ _ _ _ hv2 hs) (Nat.le_trans hs hg2.size)⟩
      | _ => exact hq.elim) hdone hstop
/-- The same, the assignment's outcome given. -/
theorem range_law {g : Operand} {p : Tmp} {assign body : Code} {Q : Exit → Act → World → Prop} {a : Act} {w : World} {gf : Nat} {lb : Array Value}
    (hg : a.eval g = .func (.func gf) #[] lb) (eg : ∀ args w, (callFunc gf args).run Tryz.prog w = .ok (.enter gf args) w)
    {K N : Nat} {R : World → Prop} {cut : Nat → Prop} {V : Nat → Nat → Value → World → Prop} (hit : Iter gf lb K N R cut V)
    (I : Nat → World → Prop) (Ix : Code → World → Prop) (hI : ∀ k, Abid w.heap.size (2 + K) (I k)) (hIx : ∀ c, Abid w.heap.size (2 + K) (Ix c))
    (hIR : ∀ k X, I k X → R X) (hskip : ∀ k X, k < N → ¬ cut k → I k X → I (k + 1) X)
    (hV : ∀ B k v X Y r, V B k v X → X.grownBy Y (some r) → r < B → V B k v Y) (hVm : ∀ B B' k v X, V B k v X → B' ≤ B → V B' k v X) (h0 : I 0 w) (a₁ : Value → Act)
    (hassign : ∀ (l : Nat) (v : Value) (W : World) (K' : Act → World → Prop), K' (a₁ v) W →
      assign.wpIn (Wd.inRound l) 0 Tryz.prog (Exit.then K' (fun _ _ _ => False)) { tmps := a.tmps.setIfInBounds p v, defers := [] } W)
    (hbody : ∀ (l k : Nat) (v : Value) (W : World), k < N → cut k → I k W → V (w.heap.size + 2 + K) k v W → w.heap.size + 2 + K ≤ W.heap.size →
      body.wpIn (Wd.inRound l) 0 Tryz.prog (outs w.heap.size (2 + K) I Ix k W) (a₁ v) W)
    (hdone : ∀ W, I N W → W.heap[w.heap.size]? = some (.deferred (some [])) → Q .normal { a with defers := { target := .collected w.heap.size, args := #[] } :: a.defers } W)
    (hstop : ∀ (c : Code) (W : World), Ix c W → W.heap[w.heap.size]? = some (.deferred (some [])) → c.wpIn Wd 0 Tryz.prog Q { a with defers := { target := .collected w.heap.size, args := #[] } :: a.defers } W) :
    (Code.rangeFunc g #[p] assign body).wpIn Wd 0 Tryz.prog Q a w :=
  range_law2 hg eg hit I Ix hI hIx hIR hskip hV hVm h0 (fun l k v W hk hc hi hv => hassign l v W _ ⟨rfl, fun W2 h2 hv2 hs => hbody l k v W2 hk hc h2 hv2 hs⟩) hdone hstop
end Go.Proofs.YtfnlhfelpdkieaaGreat.It
/- Ranges over functions in a block of their own. -/
namespace Go.Proofs.YtfnlhfelpdkieaaGreat.It
open Go.RowKit
set_option linter.unusedVariables false

/-- The statement in its own block, whose rounds may break: what stands behind is one thing, however it was left. -/
theorem range_block {g : Operand} {p : Tmp} {assign body : Code} {id : Nat} {K' : Act → World → Prop} {Q' : Exit → Act → World → Prop} {a : Act} {w : World} {gf : Nat} {lb : Array Value}
    (hg : a.eval g = .func (.func gf) #[] lb) (eg : ∀ args w, (callFunc gf args).run Tryz.prog w = .ok (.enter gf args) w)
    {K N : Nat} {R : World → Prop} {cut : Nat → Prop} {V : Nat → Nat → Value → World → Prop} (hit : Iter gf lb K N R cut V)
    (I : Nat → World → Prop) (Bx F : World → Prop) (hI : ∀ k, Abid w.heap.size (2 + K) (I k)) (hBx : Abid w.heap.size (2 + K) Bx)
    (hIR : ∀ k X, I k X → R X) (hskip : ∀ k X, k < N → ¬ cut k → I k X → I (k + 1) X)
    (hV : ∀ B k v X Y r, V B k v X → X.grownBy Y (some r) → r < B → V B k v Y) (hVm : ∀ B B' k v X, V B k v X → B' ≤ B → V B' k v X) (h0 : I 0 w)
    (hdone : ∀ X, I N X → F X) (hstop : ∀ X, Bx X → F X)
    (hround : ∀ (l k : Nat) (v : Value) (W : World), k < N → cut k → I k W → V (w.heap.size + 2 + K) k v W →
      assign.wpIn (Wd.inRound l) 0 Tryz.prog (Exit.then (fun a₁ w₁ => w₁ = W ∧ ∀ W2, I k W2 → V (w.heap.size + 2 + K) k v W2 → w.heap.size + 2 + K ≤ W2.heap.size →
        body.wpIn (Wd.inRound l) 0 Tryz.prog (outs w.heap.size (2 + K) I (fun c X => c = .exit id ∧ Bx X) k W2) a₁ W2) (fun _ _ _ => False)) { tmps := a.tmps.setIfInBounds p v, defers := [] } W)
    (hrest : ∀ X, F X → X.heap[w.heap.size]? = some (.deferred (some [])) → K' { a with defers := { target := .collected w.heap.size, args := #[] } :: a.defers } X) :
    (Code.rangeFunc g #[p] assign body).wp Tryz.prog (Exit.inBlock id (Exit.then K' Q')) a w := by
  refine (wpIn_wide (n := 0)).1 ?_
  refine range_law2 hg eg hit I (fun c X => c = .exit id ∧ Bx X) hI (fun c X Y row h hg hr => ⟨h.1, hBx X Y row h.2 hg hr⟩) hIR hskip hV hVm h0 hround ?_ ?_
  · exact fun X hi hd => hrest X (hdone X hi) hd
  · rintro c X ⟨rfl, hb⟩ hd
    refine wpIn_wide.2 ?_
    refine wp_exit ?_
    have := hrest X (hstop X hb) hd
    simpa [Exit.inBlock, Exit.then] using this
/-- The same, where a round is told that its value is newer than all that the invariant speaks of. -/
theorem range_block3 {g : Operand} {p : Tmp} {assign body : Code} {id : Nat} {K' : Act → World → Prop} {Q' : Exit → Act → World → Prop} {a : Act} {w : World} {gf : Nat} {lb : Array Value}
    (hg : a.eval g = .func (.func gf) #[] lb) (eg : ∀ args w, (callFunc gf args).run Tryz.prog w = .ok (.enter gf args) w)
    {K N : Nat} {R : World → Prop} {cut : Nat → Prop} {V : Nat → Nat → Value → World → Prop} (hit : Iter gf lb K N R cut V)
    (I : Nat → World → Prop) (Bx F : World → Prop) (hI : ∀ k, Abid w.heap.size (2 + K) (I k)) (hBx : Abid w.heap.size (2 + K) Bx)
    (hIR : ∀ k X, I k X → R X) (hskip : ∀ k X, k < N → ¬ cut k → I k X → I (k + 1) X)
    (hV : ∀ B k v X Y r, V B k v X → X.grownBy Y (some r) → r < B → V B k v Y) (h0 : I 0 w)
    (hdone : ∀ X, I N X → F X) (hstop : ∀ X, Bx X → F X)
    (hround : ∀ (l k : Nat) (v : Value) (X0 W : World), k < N → cut k → I k X0 → Below X0.heap.size X0 W → V X0.heap.size k v W → w.heap.size + 2 + K ≤ X0.heap.size →
      assign.wpIn (Wd.inRound l) 0 Tryz.prog (Exit.then (fun a₁ w₁ => w₁ = W ∧ ∀ W2, X0.grownBy W2 (some (w.heap.size + 1)) → V X0.heap.size k v W2 →
        body.wpIn (Wd.inRound l) 0 Tryz.prog (outs w.heap.size (2 + K) I (fun c X => c = .exit id ∧ Bx X) k W2) a₁ W2) (fun _ _ _ => False)) { tmps := a.tmps.setIfInBounds p v, defers := [] } W)
    (hrest : ∀ X, F X → X.heap[w.heap.size]? = some (.deferred (some [])) → K' { a with defers := { target := .collected w.heap.size, args := #[] } :: a.defers } X) :
    (Code.rangeFunc g #[p] assign body).wp Tryz.prog (Exit.inBlock id (Exit.then K' Q')) a w := by
  refine (wpIn_wide (n := 0)).1 ?_
  refine range_law3 hg eg hit I (fun c X => c = .exit id ∧ Bx X) hI (fun c X Y row h hg hr => ⟨h.1, hBx X Y row h.2 hg hr⟩) hIR hskip hV h0 hround ?_ ?_
  · exact fun X hi hd => hrest X (hdone X hi) hd
  · rintro c X ⟨rfl, hb⟩ hd
    refine wpIn_wide.2 ?_
    refine wp_exit ?_
    have := hrest X (hstop X hb) hd
    simpa [Exit.inBlock, Exit.then] using this
end Go.Proofs.YtfnlhfelpdkieaaGreat.It
/- Ranges over functions whose values hang on what has been handed out (a map's keys): what such an iterator promises, and the statement over it. -/
namespace Go.Proofs.YtfnlhfelpdkieaaGreat.It
open Go.RowKit
set_option linter.unusedVariables false

/-- What an iterator with a state promises: in state s it hands on a value v by which it comes to s', as 'stp' says; J holds between; it ends in a state of 'fin'; K blocks from the first free one on are its own. -/
def IterS {σ : Type} (g : Nat) (lb : Array Value) (K : Nat) (R : World → Prop) (s0 : σ) (stp : σ → Value → σ → Prop) (fin : σ → Prop) : Prop :=
  ∀ (l : Nat) (W : World) (J : σ → World → Prop) (Jx : World → Prop),
    (∀ k, Abid W.heap.size K (J k)) → Abid W.heap.size K Jx → (∀ k X, J k X → R X) →
    (∀ k v k' X, stp k v k' → J k X → W.heap.size + K ≤ X.heap.size → YieldAt Wd 0 Tryz.prog l #[v] X fun e Y =>
      ∃ b : Bool, e = .returned (.bool b) ∧ KeepR W.heap.size K X Y ∧ (b = true → J k' Y) ∧ (b = false → Jx Y)) →
    J s0 W →
    CallsIn Wd 0 Tryz.prog g (#[.func (.yield l) #[] #[]] ++ lb) W fun e W' => (∃ v, e = .returned v) ∧ ((∃ k, fin k ∧ J k W') ∨ Jx W')
/-- The statement 'for x := range f' over such an iterator, outside of other rounds. -/
theorem range_lawS {σ : Type} {g : Operand} {p : Tmp} {assign body : Code} {Q : Exit → Act → World → Prop} {a : Act} {w : World} {gf : Nat} {lb : Array Value}
    (hg : a.eval g = .func (.func gf) #[] lb) (eg : ∀ args w, (callFunc gf args).run Tryz.prog w = .ok (.enter gf args) w)
    {K : Nat} {R : World → Prop} {s0 : σ} {stp : σ → Value → σ → Prop} {fin : σ → Prop} (hit : IterS gf lb K R s0 stp fin)
    (I : σ → World → Prop) (Ix : Code → World → Prop) (hI : ∀ k, Abid w.heap.size (2 + K) (I k)) (hIx : ∀ c, Abid w.heap.size (2 + K) (Ix c))
    (hIR : ∀ k X, I k X → R X) (h0 : I s0 w)
    (hround : ∀ (l : Nat) (k : σ) (v : Value) (k' : σ) (W : World), stp k v k' → I k W → w.heap.size + 2 + K ≤ W.heap.size →
      assign.wpIn (Wd.inRound l) 0 Tryz.prog (Exit.then (fun a₁ w₁ => w₁ = W ∧ ∀ W2, I k W2 → w.heap.size + 2 + K ≤ W2.heap.size →
        body.wpIn (Wd.inRound l) 0 Tryz.prog (outs w.heap.size (2 + K) (fun _ => I k') Ix 0 W2) a₁ W2) (fun _ _ _ => False)) { tmps := a.tmps.setIfInBounds p v, defers := [] } W)
    (hdone : ∀ k W, fin k → I k W → W.heap[w.heap.size]? = some (.deferred (some [])) → Q .normal { a with defers := { target := .collected w.heap.size, args := #[] } :: a.defers } W)
    (hstop : ∀ (c : Code) (W : World), Ix c W → W.heap[w.heap.size]? = some (.deferred (some [])) → c.wpIn Wd 0 Tryz.prog Q { a with defers := { target := .collected w.heap.size, args := #[] } :: a.defers } W) :
    (Code.rangeFunc g #[p] assign body).wpIn Wd 0 Tryz.prog Q a w := by
  refine wpIn_rangeFunc fun fn hfn => ?_
  obtain ⟨rec, hrec⟩ : ∃ rec : LoopState → Option Code → Loop, rec = fun st pe => { state := st, pending := pe, fn, tmps := a.tmps, params := #[p], assign, body, defers := w.heap.size } := ⟨_, rfl⟩
  obtain ⟨W1, hW1⟩ : ∃ W1, (w.alloc (.deferred (some []))).alloc (.loop (rec .ready none)) = W1 := ⟨_, rfl⟩
  have hL1 : W1.heap[w.heap.size + 1]? = some (.loop (rec .ready none)) := by
    rw [← hW1]
    have := World.alloc_heap_new (w.alloc (.deferred (some []))) (.loop (rec .ready none))
    rwa [World.size_alloc] at this
  have hK1 : W1.heap[w.heap.size]? = some (.deferred (some [])) := by
    rw [← hW1]; exact (Below.heap_alloc _ _ _ (by simp)).trans (World.alloc_heap_new w _)
  have hsz : W1.heap.size = w.heap.size + 2 := by rw [← hW1]; simp
  have hb1 : Below w.heap.size w W1 := by
    rw [← hW1]; exact ((Below.refl _ w).alloc (Nat.le_refl _) _).alloc (by simp) _
  have hI1 : I s0 W1 := (hI s0).below h0 hb1
  refine ⟨w.heap.size + 1, [{ target := .collected w.heap.size, args := #[] }], W1, { target := .fn (.func gf) lb, args := #[.func (.yield (w.heap.size + 1)) #[] #[]] }, W1, gf,
    #[.func (.yield (w.heap.size + 1)) #[] #[]] ++ lb, W1, ?_, ?_, ?_, ?_, (fun h => by cases h), ?_⟩
  · rw [← hW1, hrec]; exact run_enterLoop_outer _ _ _ _ _
  · simp only [resolve, hg]
    simp [go_sem]
  · intro f' _; trivial
  · simp [invoke, go_sem, eg]
  have hit' := hit (w.heap.size + 1) W1
    (fun k X => I k X ∧ X.heap[w.heap.size + 1]? = some (.loop (rec .ready none)) ∧ X.heap[w.heap.size]? = some (.deferred (some [])))
    (fun X => ∃ c, Ix c X ∧ X.heap[w.heap.size + 1]? = some (.loop (rec .done (some c))) ∧ X.heap[w.heap.size]? = some (.deferred (some [])))
  rw [hsz] at hit'
  have other : ∀ {X Y : World} {row : Option Nat} {b : Nat} {o : Obj}, X.grownBy Y row → (∀ r, row = some r → w.heap.size + 2 ≤ r ∧ r < w.heap.size + 2 + K) → b < w.heap.size + 2 → X.heap[b]? = some o → Y.heap[b]? = some o :=
    fun hg hr hb ho => (hg.block _ (Array.getElem?_eq_some_iff.1 ho).1 (fun e => by have := hr _ e.symm; omega)).trans ho
  refine (hit' ?_ ?_ ?_ ?_ ⟨hI1, hL1, hK1⟩).mono ?_
  · exact fun k X Y row hi hg' hr => ⟨(hI k).part (by omega) (by omega) X Y row hi.1 hg' hr, other hg' hr (by omega) hi.2.1, other hg' hr (by omega) hi.2.2⟩
  · rintro X Y row ⟨c, hi, h1, h2⟩ hg' hr
    exact ⟨c, (hIx c).part (by omega) (by omega) X Y row hi hg' hr, other hg' hr (by omega) h1, other hg' hr (by omega) h2⟩
  · exact fun k X hi => hIR k X hi.1
  · rintro k v k' X hstp ⟨hi0, hl, hd⟩ hX0
    have hy := run_yield (P := Tryz.prog) (args := #[v]) hl (by rw [hrec]; rfl)
    rw [hrec] at hy
    dsimp only at hy
    rw [show (#[p].zip #[v]) = #[(p, v)] by simp] at hy
    simp only [List.foldl_toArray, List.foldl_cons, List.foldl_nil] at hy
    refine ⟨fn, _, assign, body, hy, roundIn_of_wpIn hfn ?_⟩
    refine wpIn_mono (hround _ k v k' X hstp hi0 hX0) ?_
    intro e1 a1 w1 hq1
    have hq2 : e1 = .normal ∧ w1 = X ∧ ∀ W2, I k W2 → w.heap.size + 2 + K ≤ W2.heap.size → body.wpIn (Wd.inRound (w.heap.size + 1)) 0 Tryz.prog (outs w.heap.size (2 + K) (fun _ => I k') Ix 0 W2) a1 W2 := by
      cases e1 with
      | normal => exact ⟨rfl, hq1⟩
      | _ => exact hq1.elim
    obtain ⟨he1, hw1, hbody⟩ := hq2
    rw [he1, hw1]
    refine ⟨_, run_beginRound hl (by rw [hrec]), ?_⟩
    have hlt : w.heap.size + 1 < X.heap.size := (Array.getElem?_eq_some_iff.1 hl).1
    obtain ⟨X2, hX2⟩ : ∃ X2, X.putObj (w.heap.size + 1) (.loop { rec .ready none with state := .busy }) = X2 := ⟨_, rfl⟩
    have hl2 : X2.heap[w.heap.size + 1]? = some (.loop { rec .ready none with state := .busy }) := by rw [← hX2]; exact World.putObj_heap_same hlt
    have hd2 : X2.heap[w.heap.size]? = some (.deferred (some [])) := by rw [← hX2]; exact (World.putObj_heap_other (by omega)).trans hd
    have hi2 : I k X2 := by rw [← hX2]; exact (hI k).putObj hi0 (by omega) (by omega) _
    have hs2 : w.heap.size + 2 + K ≤ X2.heap.size := by rw [← hX2]; exact Nat.le_trans hX0 (grownBy_putObj' X (w.heap.size + 1) _).size
    have hk2 : KeepR (w.heap.size + 2) K X X2 := by rw [← hX2]; exact KeepR.of_grown (grownBy_putObj' _ _ _) fun r e => by cases e; omega
    show body.wpIn _ _ _ _ _ (X.putObj (w.heap.size + 1) (.loop { rec .ready none with state := .busy }))
    rw [hX2]
    refine wpIn_mono (hbody X2 hi2 hs2) ?_
    have fin : ∀ (jump : Option Code) (X3 : World), KeepR w.heap.size (2 + K) X2 X3 →
        ∃ X4, (Instr.endRound (w.heap.size + 1) jump).run Tryz.prog X3 = .ok (.bool jump.isNone) X4 ∧ X4 = X3.putObj (w.heap.size + 1) (.loop (rec (if jump.isNone then .ready else .done) jump)) ∧
          X4.heap[w.heap.size + 1]? = some (.loop (rec (if jump.isNone then .ready else .done) jump)) ∧ X4.heap[w.heap.size]? = some (.deferred (some [])) ∧ KeepR (w.heap.size + 2) K X X4 := fun jump X3 hk3 => by
      have hl3 := hk3.at_ (by omega) (by omega) hl2
      have hd3 := hk3.at_ (by omega) (by omega) hd2
      have hr := run_endRound (P := Tryz.prog) jump hl3
      rw [hrec] at hr ⊢
      refine ⟨_, hr, rfl, World.putObj_heap_same (Array.getElem?_eq_some_iff.1 hl3).1, (World.putObj_heap_other (by omega)).trans hd3, ?_⟩
      exact (hk2.trans (hk3.part (by omega) (by omega))).trans (KeepR.of_grown (grownBy_putObj' _ _ _) fun r e => by cases e; omega)
    rintro e a3 X3 hp
    cases e with
    | normal =>
      obtain ⟨hk3, hi3⟩ := hp
      obtain ⟨X4, hr, e4, hl4, hd4, hk4⟩ := fin none X3 hk3
      exact ⟨_, _, hr, true, rfl, hk4, fun _ => ⟨by rw [e4]; exact (hI _).putObj hi3 (by omega) (by omega) _, hl4, hd4⟩, fun h => by cases h⟩
    | ret =>
      obtain ⟨hk3, hi3⟩ := hp
      obtain ⟨X4, hr, e4, hl4, hd4, hk4⟩ := fin (some .ret) X3 hk3
      exact ⟨_, _, hr, false, rfl, hk4, (fun h => by cases h), fun _ => ⟨.ret, by rw [e4]; exact (hIx _).putObj hi3 (by omega) (by omega) _, hl4, hd4⟩⟩
    | exit id =>
      obtain ⟨hk3, hi3⟩ := hp
      obtain ⟨X4, hr, e4, hl4, hd4, hk4⟩ := fin (some (.exit id)) X3 hk3
      exact ⟨_, _, hr, false, rfl, hk4, (fun h => by cases h), fun _ => ⟨.exit id, by rw [e4]; exact (hIx _).putObj hi3 (by omega) (by omega) _, hl4, hd4⟩⟩
    | goto t =>
      obtain ⟨hk3, hi3⟩ := hp
      obtain ⟨X4, hr, e4, hl4, hd4, hk4⟩ := fin (some (.goto t)) X3 hk3
      exact ⟨_, _, hr, false, rfl, hk4, (fun h => by cases h), fun _ => ⟨.goto t, by rw [e4]; exact (hIx _).putObj hi3 (by omega) (by omega) _, hl4, hd4⟩⟩
    | panic ch => exact hp.elim
    | outgrown => exact hp.elim
  · rintro e W2 ⟨⟨v, rfl⟩, (⟨k, hfin, hi, hl, hd⟩ | ⟨c, hi, hl, hd⟩)⟩
    · exact ⟨none, _, by have := run_endLoop (P := Tryz.prog) hl (by rw [hrec]; simp); rw [hrec] at this; exact this, hdone k _ hfin ((hI _).putObj hi (by omega) (by omega) _) ((World.putObj_heap_other (by omega)).trans hd)⟩
    · exact ⟨some c, _, by have := run_endLoop (P := Tryz.prog) hl (by rw [hrec]; simp); rw [hrec] at this; exact this, hstop c _ ((hIx c).putObj hi (by omega) (by omega) _) ((World.putObj_heap_other (by omega)).trans hd)⟩
/-- The statement in its own block, whose rounds may break: what stands behind is one thing, however it was left. -/
theorem range_blockS {σ : Type} {g : Operand} {p : Tmp} {assign body : Code} {id : Nat} {K' : Act → World → Prop} {Q' : Exit → Act → World → Prop} {a : Act} {w : World} {gf : Nat} {lb : Array Value}
    (hg : a.eval g = .func (.func gf) #[] lb) (eg : ∀ args w, (callFunc gf args).run Tryz.prog w = .ok (.enter gf args) w)
    {K : Nat} {R : World → Prop} {s0 : σ} {stp : σ → Value → σ → Prop} {fin : σ → Prop} (hit : IterS gf lb K R s0 stp fin)
    (I : σ → World → Prop) (Bx F : World → Prop) (hI : ∀ k, Abid w.heap.size (2 + K) (I k)) (hBx : Abid w.heap.size (2 + K) Bx)
    (hIR : ∀ k X, I k X → R X) (h0 : I s0 w)
    (hdone : ∀ k X, fin k → I k X → F X) (hstop : ∀ X, Bx X → F X)
    (hround : ∀ (l : Nat) (k : σ) (v : Value) (k' : σ) (W : World), stp k v k' → I k W → w.heap.size + 2 + K ≤ W.heap.size →
      assign.wpIn (Wd.inRound l) 0 Tryz.prog (Exit.then (fun a₁ w₁ => w₁ = W ∧ ∀ W2, I k W2 → w.heap.size + 2 + K ≤ W2.heap.size →
        body.wpIn (Wd.inRound l) 0 Tryz.prog (outs w.heap.size (2 + K) (fun _ => I k') (fun c X => c = .exit id ∧ Bx X) 0 W2) a₁ W2) (fun _ _ _ => False)) { tmps := a.tmps.setIfInBounds p v, defers := [] } W)
    (hrest : ∀ X, F X → X.heap[w.heap.size]? = some (.deferred (some [])) → K' { a with defers := { target := .collected w.heap.size, args := #[] } :: a.defers } X) :
    (Code.rangeFunc g #[p] assign body).wp Tryz.prog (Exit.inBlock id (Exit.then K' Q')) a w := by
  refine (wpIn_wide (n := 0)).1 ?_
  refine range_lawS hg eg hit I (fun c X => c = .exit id ∧ Bx X) hI (fun c X Y row h hg hr => ⟨h.1, hBx X Y row h.2 hg hr⟩) hIR h0 hround ?_ ?_
  · exact fun k X hf hi hd => hrest X (hdone k X hf hi) hd
  · rintro c X ⟨rfl, hb⟩ hd
    refine wpIn_wide.2 ?_
    refine wp_exit ?_
    have := hrest X (hstop X hb) hd
    simpa [Exit.inBlock, Exit.then] using this
end Go.Proofs.YtfnlhfelpdkieaaGreat.It
/- As RangeS, where the loop's variable has a box of its own in each round (an array, a struct): the assignment makes memory. -/
namespace Go.Proofs.YtfnlhfelpdkieaaGreat.It
open Go.RowKit
set_option linter.unusedVariables false

/-- The statement 'for x := range f' over such an iterator, outside of other rounds. -/
theorem range_lawSB {σ : Type} {g : Operand} {p : Tmp} {assign body : Code} {Q : Exit → Act → World → Prop} {a : Act} {w : World} {gf : Nat} {lb : Array Value}
    (hg : a.eval g = .func (.func gf) #[] lb) (eg : ∀ args w, (callFunc gf args).run Tryz.prog w = .ok (.enter gf args) w)
    {K : Nat} {R : World → Prop} {s0 : σ} {stp : σ → Value → σ → Prop} {fin : σ → Prop} (hit : IterS gf lb K R s0 stp fin)
    (I : σ → World → Prop) (Ix : Code → World → Prop) (hI : ∀ k, Abid w.heap.size (2 + K) (I k)) (hIx : ∀ c, Abid w.heap.size (2 + K) (Ix c))
    (hIR : ∀ k X, I k X → R X) (h0 : I s0 w)
    (hround : ∀ (l : Nat) (k : σ) (v : Value) (k' : σ) (W : World), stp k v k' → I k W → w.heap.size + 2 + K ≤ W.heap.size →
      assign.wpIn (Wd.inRound l) 0 Tryz.prog (Exit.then (fun a₁ w₁ => Below W.heap.size W w₁ ∧ ∀ W2, I k W2 → w.heap.size + 2 + K ≤ W2.heap.size → (∀ b, w.heap.size + 2 ≤ b → W2.heap[b]? = w₁.heap[b]?) →
        body.wpIn (Wd.inRound l) 0 Tryz.prog (outs w.heap.size (2 + K) (fun _ => I k') Ix 0 W2) a₁ W2) (fun _ _ _ => False)) { tmps := a.tmps.setIfInBounds p v, defers := [] } W)
    (hdone : ∀ k W, fin k → I k W → W.heap[w.heap.size]? = some (.deferred (some [])) → Q .normal { a with defers := { target := .collected w.heap.size, args := #[] } :: a.defers } W)
    (hstop : ∀ (c : Code) (W : World), Ix c W → W.heap[w.heap.size]? = some (.deferred (some [])) → c.wpIn Wd 0 Tryz.prog Q { a with defers := { target := .collected w.heap.size, args := #[] } :: a.defers } W) :
    (Code.rangeFunc g #[p] assign body).wpIn Wd 0 Tryz.prog Q a w := by
  refine wpIn_rangeFunc fun fn hfn => ?_
  obtain ⟨rec, hrec⟩ : ∃ rec : LoopState → Option Code → Loop, rec = fun st pe => { state := st, pending := pe, fn, tmps := a.tmps, params := #[p], assign, body, defers := w.heap.size } := ⟨_, rfl⟩
  obtain ⟨W1, hW1⟩ : ∃ W1, (w.alloc (.deferred (some []))).alloc (.loop (rec .ready none)) = W1 := ⟨_, rfl⟩
  have hL1 : W1.heap[w.heap.size + 1]? = some (.loop (rec .ready none)) := by
    rw [← hW1]
    have := World.alloc_heap_new (w.alloc (.deferred (some []))) (.loop (rec .ready none))
    rwa [World.size_alloc] at this
  have hK1 : W1.heap[w.heap.size]? = some (.deferred (some [])) := by
    rw [← hW1]; exact (Below.heap_alloc _ _ _ (by simp)).trans (World.alloc_heap_new w _)
  have hsz : W1.heap.size = w.heap.size + 2 := by rw [← hW1]; simp
  have hb1 : Below w.heap.size w W1 := by
    rw [← hW1]; exact ((Below.refl _ w).alloc (Nat.le_refl _) _).alloc (by simp) _
  have hI1 : I s0 W1 := (hI s0).below h0 hb1
  refine ⟨w.heap.size + 1, [{ target := .collected w.heap.size, args := #[] }], W1, { target := .fn (.func gf) lb, args := #[.func (.yield (w.heap.size + 1)) #[] #[]] }, W1, gf,
    #[.func (.yield (w.heap.size + 1)) #[] #[]] ++ lb, W1, ?_, ?_, ?_, ?_, (fun h => by cases h), ?_⟩
  · rw [← hW1, hrec]; exact run_enterLoop_outer _ _ _ _ _
  · simp only [resolve, hg]
    simp [go_sem]
  · intro f' _; trivial
  · simp [invoke, go_sem, eg]
  have hit' := hit (w.heap.size + 1) W1
    (fun k X => I k X ∧ X.heap[w.heap.size + 1]? = some (.loop (rec .ready none)) ∧ X.heap[w.heap.size]? = some (.deferred (some [])))
    (fun X => ∃ c, Ix c X ∧ X.heap[w.heap.size + 1]? = some (.loop (rec .done (some c))) ∧ X.heap[w.heap.size]? = some (.deferred (some [])))
  rw [hsz] at hit'
  have other : ∀ {X Y : World} {row : Option Nat} {b : Nat} {o : Obj}, X.grownBy Y row → (∀ r, row = some r → w.heap.size + 2 ≤ r ∧ r < w.heap.size + 2 + K) → b < w.heap.size + 2 → X.heap[b]? = some o → Y.heap[b]? = some o :=
    fun hg hr hb ho => (hg.block _ (Array.getElem?_eq_some_iff.1 ho).1 (fun e => by have := hr _ e.symm; omega)).trans ho
  refine (hit' ?_ ?_ ?_ ?_ ⟨hI1, hL1, hK1⟩).mono ?_
  · exact fun k X Y row hi hg' hr => ⟨(hI k).part (by omega) (by omega) X Y row hi.1 hg' hr, other hg' hr (by omega) hi.2.1, other hg' hr (by omega) hi.2.2⟩
  · rintro X Y row ⟨c, hi, h1, h2⟩ hg' hr
    exact ⟨c, (hIx c).part (by omega) (by omega) X Y row hi hg' hr, other hg' hr (by omega) h1, other hg' hr (by omega) h2⟩
  · exact fun k X hi => hIR k X hi.1
  · rintro k v k' X hstp ⟨hi0, hl, hd⟩ hX0
    have hy := run_yield (P := Tryz.prog) (args := #[v]) hl (by rw [hrec]; rfl)
    rw [hrec] at hy
    dsimp only at hy
    rw [show (#[p].zip #[v]) = #[(p, v)] by simp] at hy
    simp only [List.foldl_toArray, List.foldl_cons, List.foldl_nil] at hy
    refine ⟨fn, _, assign, body, hy, roundIn_of_wpIn hfn ?_⟩
    refine wpIn_mono (hround _ k v k' X hstp hi0 hX0) ?_
    intro e1 a1 w1 hq1
    have hq2 : e1 = .normal ∧ Below X.heap.size X w1 ∧ ∀ W2, I k W2 → w.heap.size + 2 + K ≤ W2.heap.size → (∀ b, w.heap.size + 2 ≤ b → W2.heap[b]? = w1.heap[b]?) → body.wpIn (Wd.inRound (w.heap.size + 1)) 0 Tryz.prog (outs w.heap.size (2 + K) (fun _ => I k') Ix 0 W2) a1 W2 := by
      cases e1 with
      | normal => exact ⟨rfl, hq1⟩
      | _ => exact hq1.elim
    obtain ⟨he1, hw1, hbody⟩ := hq2
    rw [he1]
    have hk1 : KeepR (w.heap.size + 2) K X w1 := KeepR.of_grown (grown_of_below hw1) fun r e => by cases e
    have hlt0 : w.heap.size + 1 < X.heap.size := (Array.getElem?_eq_some_iff.1 hl).1
    have hl : w1.heap[w.heap.size + 1]? = some (.loop (rec .ready none)) := (hw1.block _ hlt0).trans hl
    have hd : w1.heap[w.heap.size]? = some (.deferred (some [])) := (hw1.block _ (by omega)).trans hd
    have hi0 : I k w1 := (hI k).below hi0 hw1
    have hX0 : w.heap.size + 2 + K ≤ w1.heap.size := Nat.le_trans hX0 hw1.size
    refine ⟨_, run_beginRound hl (by rw [hrec]), ?_⟩
    have hlt : w.heap.size + 1 < w1.heap.size := (Array.getElem?_eq_some_iff.1 hl).1
    obtain ⟨X2, hX2⟩ : ∃ X2, w1.putObj (w.heap.size + 1) (.loop { rec .ready none with state := .busy }) = X2 := ⟨_, rfl⟩
    have hl2 : X2.heap[w.heap.size + 1]? = some (.loop { rec .ready none with state := .busy }) := by rw [← hX2]; exact World.putObj_heap_same hlt
    have hd2 : X2.heap[w.heap.size]? = some (.deferred (some [])) := by rw [← hX2]; exact (World.putObj_heap_other (by omega)).trans hd
    have hi2 : I k X2 := by rw [← hX2]; exact (hI k).putObj hi0 (by omega) (by omega) _
    have hs2 : w.heap.size + 2 + K ≤ X2.heap.size := by rw [← hX2]; exact Nat.le_trans hX0 (grownBy_putObj' w1 (w.heap.size + 1) _).size
    have hk2 : KeepR (w.heap.size + 2) K X X2 := by rw [← hX2]; exact hk1.trans (KeepR.of_grown (grownBy_putObj' _ _ _) fun r e => by cases e; omega)
    show body.wpIn _ _ _ _ _ (w1.putObj (w.heap.size + 1) (.loop { rec .ready none with state := .busy }))
    rw [hX2]
    have hb2 : ∀ b, w.heap.size + 2 ≤ b → X2.heap[b]? = w1.heap[b]? := fun b hb => by rw [← hX2]; exact World.putObj_heap_other (by omega)
    refine wpIn_mono (hbody X2 hi2 hs2 hb2) ?_
    have fin : ∀ (jump : Option Code) (X3 : World), KeepR w.heap.size (2 + K) X2 X3 →
        ∃ X4, (Instr.endRound (w.heap.size + 1) jump).run Tryz.prog X3 = .ok (.bool jump.isNone) X4 ∧ X4 = X3.putObj (w.heap.size + 1) (.loop (rec (if jump.isNone then .ready else .done) jump)) ∧
          X4.heap[w.heap.size + 1]? = some (.loop (rec (if jump.isNone then .ready else .done) jump)) ∧ X4.heap[w.heap.size]? = some (.deferred (some [])) ∧ KeepR (w.heap.size + 2) K X X4 := fun jump X3 hk3 => by
      have hl3 := hk3.at_ (by omega) (by omega) hl2
      have hd3 := hk3.at_ (by omega) (by omega) hd2
      have hr := run_endRound (P := Tryz.prog) jump hl3
      rw [hrec] at hr ⊢
      refine ⟨_, hr, rfl, World.putObj_heap_same (Array.getElem?_eq_some_iff.1 hl3).1, (World.putObj_heap_other (by omega)).trans hd3, ?_⟩
      exact (hk2.trans (hk3.part (by omega) (by omega))).trans (KeepR.of_grown (grownBy_putObj' _ _ _) fun r e => by cases e; omega)
    rintro e a3 X3 hp
    cases e with
    | normal =>
      obtain ⟨hk3, hi3⟩ := hp
      obtain ⟨X4, hr, e4, hl4, hd4, hk4⟩ := fin none X3 hk3
      exact ⟨_, _, hr, true, rfl, hk4, fun _ => ⟨by rw [e4]; exact (hI _).putObj hi3 (by omega) (by omega) _, hl4, hd4⟩, fun h => by cases h⟩
    | ret =>
      obtain ⟨hk3, hi3⟩ := hp
      obtain ⟨X4, hr, e4, hl4, hd4, hk4⟩ := fin (some .ret) X3 hk3
      exact ⟨_, _, hr, false, rfl, hk4, (fun h => by cases h), fun _ => ⟨.ret, by rw [e4]; exact (hIx _).putObj hi3 (by omega) (by omega) _, hl4, hd4⟩⟩
    | exit id =>
      obtain ⟨hk3, hi3⟩ := hp
      obtain ⟨X4, hr, e4, hl4, hd4, hk4⟩ := fin (some (.exit id)) X3 hk3
      exact ⟨_, _, hr, false, rfl, hk4, (fun h => by cases h), fun _ => ⟨.exit id, by rw [e4]; exact (hIx _).putObj hi3 (by omega) (by omega) _, hl4, hd4⟩⟩
    | goto t =>
      obtain ⟨hk3, hi3⟩ := hp
      obtain ⟨X4, hr, e4, hl4, hd4, hk4⟩ := fin (some (.goto t)) X3 hk3
      exact ⟨_, _, hr, false, rfl, hk4, (fun h => by cases h), fun _ => ⟨.goto t, by rw [e4]; exact (hIx _).putObj hi3 (by omega) (by omega) _, hl4, hd4⟩⟩
    | panic ch => exact hp.elim
    | outgrown => exact hp.elim
  · rintro e W2 ⟨⟨v, rfl⟩, (⟨k, hfin, hi, hl, hd⟩ | ⟨c, hi, hl, hd⟩)⟩
    · exact ⟨none, _, by have := run_endLoop (P := Tryz.prog) hl (by rw [hrec]; simp); rw [hrec] at this; exact this, hdone k _ hfin ((hI _).putObj hi (by omega) (by omega) _) ((World.putObj_heap_other (by omega)).trans hd)⟩
    · exact ⟨some c, _, by have := run_endLoop (P := Tryz.prog) hl (by rw [hrec]; simp); rw [hrec] at this; exact this, hstop c _ ((hIx c).putObj hi (by omega) (by omega) _) ((World.putObj_heap_other (by omega)).trans hd)⟩
/-- The statement in its own block, whose rounds may break: what stands behind is one thing, however it was left. -/
theorem range_blockSB {σ : Type} {g : Operand} {p : Tmp} {assign body : Code} {id : Nat} {K' : Act → World → Prop} {Q' : Exit → Act → World → Prop} {a : Act} {w : World} {gf : Nat} {lb : Array Value}
    (hg : a.eval g = .func (.func gf) #[] lb) (eg : ∀ args w, (callFunc gf args).run Tryz.prog w = .ok (.enter gf args) w)
    {K : Nat} {R : World → Prop} {s0 : σ} {stp : σ → Value → σ → Prop} {fin : σ → Prop} (hit : IterS gf lb K R s0 stp fin)
    (I : σ → World → Prop) (Bx F : World → Prop) (hI : ∀ k, Abid w.heap.size (2 + K) (I k)) (hBx : Abid w.heap.size (2 + K) Bx)
    (hIR : ∀ k X, I k X → R X) (h0 : I s0 w)
    (hdone : ∀ k X, fin k → I k X → F X) (hstop : ∀ X, Bx X → F X)
    (hround : ∀ (l : Nat) (k : σ) (v : Value) (k' : σ) (W : World), stp k v k' → I k W → w.heap.size + 2 + K ≤ W.heap.size →
      assign.wpIn (Wd.inRound l) 0 Tryz.prog (Exit.then (fun a₁ w₁ => Below W.heap.size W w₁ ∧ ∀ W2, I k W2 → w.heap.size + 2 + K ≤ W2.heap.size → (∀ b, w.heap.size + 2 ≤ b → W2.heap[b]? = w₁.heap[b]?) →
        body.wpIn (Wd.inRound l) 0 Tryz.prog (outs w.heap.size (2 + K) (fun _ => I k') (fun c X => c = .exit id ∧ Bx X) 0 W2) a₁ W2) (fun _ _ _ => False)) { tmps := a.tmps.setIfInBounds p v, defers := [] } W)
    (hrest : ∀ X, F X → X.heap[w.heap.size]? = some (.deferred (some [])) → K' { a with defers := { target := .collected w.heap.size, args := #[] } :: a.defers } X) :
    (Code.rangeFunc g #[p] assign body).wp Tryz.prog (Exit.inBlock id (Exit.then K' Q')) a w := by
  refine (wpIn_wide (n := 0)).1 ?_
  refine range_lawSB hg eg hit I (fun c X => c = .exit id ∧ Bx X) hI (fun c X Y row h hg hr => ⟨h.1, hBx X Y row h.2 hg hr⟩) hIR h0 hround ?_ ?_
  · exact fun k X hf hi hd => hrest X (hdone k X hf hi) hd
  · rintro c X ⟨rfl, hb⟩ hd
    refine wpIn_wide.2 ?_
    refine wp_exit ?_
    have := hrest X (hstop X hb) hd
    simpa [Exit.inBlock, Exit.then] using this
end Go.Proofs.YtfnlhfelpdkieaaGreat.It
