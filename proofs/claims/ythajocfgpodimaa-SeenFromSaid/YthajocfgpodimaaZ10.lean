/- As RangeS, where the loop's variable has a box of its own in each round (an array, a struct): the assignment makes memory. -/
import Derived.Test.YthajocfgpodimaaZ9
import Derived.Test.YthajocfgpodimaaZ4
import Derived.Test.YthajocfgpodimaaZ2
import Derived.WalkLawsBesides
import Derived.Maps.OwnIn
import Derived.Shelf.SlSortCmp.InsertionK
namespace Go.Proofs.Ythajocfgpodimaa.It
open Go.RowKit
set_option linter.unusedVariables false

/-- The statement 'for x := range f' over such an iterator, outside of other rounds. -/
theorem range_lawSB {σ : Type} {g : Operand} {p : Tmp} {assign body : Code} {Q : Exit → Act → World → Prop} {a : Act} {w : World} {gf : Nat} {lb : Array Value}
    (hg : a.eval g = .func (.func gf) #[] lb) (eg : ∀ args w, (callFunc gf args).run Try.prog w = .ok (.enter gf args) w)
    {K : Nat} {R : World → Prop} {s0 : σ} {stp : σ → Value → σ → Prop} {fin : σ → Prop} (hit : IterS gf lb K R s0 stp fin)
    (I : σ → World → Prop) (Ix : Code → World → Prop) (hI : ∀ k, Abid w.heap.size (2 + K) (I k)) (hIx : ∀ c, Abid w.heap.size (2 + K) (Ix c))
    (hIR : ∀ k X, I k X → R X) (h0 : I s0 w)
    (hround : ∀ (l : Nat) (k : σ) (v : Value) (k' : σ) (W : World), stp k v k' → I k W → w.heap.size + 2 + K ≤ W.heap.size →
      assign.wpIn (Wd.inRound l) 0 Try.prog (Exit.then (fun a₁ w₁ => Below W.heap.size W w₁ ∧ ∀ W2, I k W2 → w.heap.size + 2 + K ≤ W2.heap.size → (∀ b, w.heap.size + 2 ≤ b → W2.heap[b]? = w₁.heap[b]?) →
        body.wpIn (Wd.inRound l) 0 Try.prog (outs w.heap.size (2 + K) (fun _ => I k') Ix 0 W2) a₁ W2) (fun _ _ _ => False)) { tmps := a.tmps.setIfInBounds p v, defers := [] } W)
    (hdone : ∀ k W, fin k → I k W → W.heap[w.heap.size]? = some (.deferred (some [])) → Q .normal { a with defers := { target := .collected w.heap.size, args := #[] } :: a.defers } W)
    (hstop : ∀ (c : Code) (W : World), Ix c W → W.heap[w.heap.size]? = some (.deferred (some [])) → c.wpIn Wd 0 Try.prog Q { a with defers := { target := .collected w.heap.size, args := #[] } :: a.defers } W) :
    (Code.rangeFunc g #[p] assign body).wpIn Wd 0 Try.prog Q a w := by
  refine wpIn_rangeFunc fun fn hfn => ?_
  obtain ⟨rec, hrec⟩ : ∃ rec : LoopState → Option Code → Loop, rec = fun st pe => { state := st, pending := pe, fn, tmps := a.tmps, params := #[p], assign, body, defers := w.heap.size } := ⟨_, rfl⟩
  obtain ⟨W1, hW1⟩ : ∃ W1, (w.alloc (.deferred (some []))).alloc (.loop (rec .ready none)) = W1 := ⟨_, rfl⟩
  have hL1 : W1.heap[w.heap.size + 1]? = some (.loop (rec .ready none)) := by
    rw [← hW1]
    have := World.alloc_heap_new (w.alloc (.deferred (some []))) (.loop (rec .ready none))
    rwa [World.size_alloc] at this
  have hK1 : W1.heap[w.heap.size]? = some (.deferred (some [])) := by
    rw [← hW1]; exact (Below.heap_alloc _ _ _ (by simp)).trans (World.alloc_heap_new w _)
  have hsz : W1.heap.size = w.heap.size + 2 := by rw [← hW1]; simp
  have hb1 : Below w.heap.size w W1 := by
    rw [← hW1]; exact ((Below.refl _ w).alloc (Nat.le_refl _) _).alloc (by simp) _
  have hI1 : I s0 W1 := (hI s0).below h0 hb1
  refine ⟨w.heap.size + 1, [{ target := .collected w.heap.size, args := #[] }], W1, { target := .fn (.func gf) lb, args := #[.func (.yield (w.heap.size + 1)) #[] #[]] }, W1, gf,
    #[.func (.yield (w.heap.size + 1)) #[] #[]] ++ lb, W1, ?_, ?_, ?_, ?_, (fun h => by cases h), ?_⟩
  · rw [← hW1, hrec]; exact run_enterLoop_outer _ _ _ _ _
  · simp only [resolve, hg]
    simp [go_sem]
  · intro f' _; trivial
  · simp [invoke, go_sem, eg]
  have hit' := hit (w.heap.size + 1) W1
    (fun k X => I k X ∧ X.heap[w.heap.size + 1]? = some (.loop (rec .ready none)) ∧ X.heap[w.heap.size]? = some (.deferred (some [])))
    (fun X => ∃ c, Ix c X ∧ X.heap[w.heap.size + 1]? = some (.loop (rec .done (some c))) ∧ X.heap[w.heap.size]? = some (.deferred (some [])))
  rw [hsz] at hit'
  have other : ∀ {X Y : World} {row : Option Nat} {b : Nat} {o : Obj}, X.grownBy Y row → (∀ r, row = some r → w.heap.size + 2 ≤ r ∧ r < w.heap.size + 2 + K) → b < w.heap.size + 2 → X.heap[b]? = some o → Y.heap[b]? = some o :=
    fun hg hr hb ho => (hg.block _ (Array.getElem?_eq_some_iff.1 ho).1 (fun e => by have := hr _ e.symm; omega)).trans ho
  refine (hit' ?_ ?_ ?_ ?_ ⟨hI1, hL1, hK1⟩).mono ?_
  · exact fun k X Y row hi hg' hr => ⟨(hI k).part (by omega) (by omega) X Y row hi.1 hg' hr, other hg' hr (by omega) hi.2.1, other hg' hr (by omega) hi.2.2⟩
  · rintro X Y row ⟨c, hi, h1, h2⟩ hg' hr
    exact ⟨c, (hIx c).part (by omega) (by omega) X Y row hi hg' hr, other hg' hr (by omega) h1, other hg' hr (by omega) h2⟩
  · exact fun k X hi => hIR k X hi.1
  · rintro k v k' X hstp ⟨hi0, hl, hd⟩ hX0
    have hy := run_yield (P := Try.prog) (args := #[v]) hl (by rw [hrec]; rfl)
    rw [hrec] at hy
    dsimp only at hy
    rw [show (#[p].zip #[v]) = #[(p, v)] by simp] at hy
    simp only [List.foldl_toArray, List.foldl_cons, List.foldl_nil] at hy
    refine ⟨fn, _, assign, body, hy, roundIn_of_wpIn hfn ?_⟩
    refine wpIn_mono (hround _ k v k' X hstp hi0 hX0) ?_
    intro e1 a1 w1 hq1
    have hq2 : e1 = .normal ∧ Below X.heap.size X w1 ∧ ∀ W2, I k W2 → w.heap.size + 2 + K ≤ W2.heap.size → (∀ b, w.heap.size + 2 ≤ b → W2.heap[b]? = w1.heap[b]?) → body.wpIn (Wd.inRound (w.heap.size + 1)) 0 Try.prog (outs w.heap.size (2 + K) (fun _ => I k') Ix 0 W2) a1 W2 := by
      cases e1 with
      | normal => exact ⟨rfl, hq1⟩
      | _ => exact hq1.elim
    obtain ⟨he1, hw1, hbody⟩ := hq2
    rw [he1]
    have hk1 : KeepR (w.heap.size + 2) K X w1 := KeepR.of_grown (grown_of_below hw1) fun r e => by cases e
    have hlt0 : w.heap.size + 1 < X.heap.size := (Array.getElem?_eq_some_iff.1 hl).1
    have hl : w1.heap[w.heap.size + 1]? = some (.loop (rec .ready none)) := (hw1.block _ hlt0).trans hl
    have hd : w1.heap[w.heap.size]? = some (.deferred (some [])) := (hw1.block _ (by omega)).trans hd
    have hi0 : I k w1 := (hI k).below hi0 hw1
    have hX0 : w.heap.size + 2 + K ≤ w1.heap.size := Nat.le_trans hX0 hw1.size
    refine ⟨_, run_beginRound hl (by rw [hrec]), ?_⟩
    have hlt : w.heap.size + 1 < w1.heap.size := (Array.getElem?_eq_some_iff.1 hl).1
    obtain ⟨X2, hX2⟩ : ∃ X2, w1.putObj (w.heap.size + 1) (.loop { rec .ready none with state := .busy }) = X2 := ⟨_, rfl⟩
    have hl2 : X2.heap[w.heap.size + 1]? = some (.loop { rec .ready none with state := .busy }) := by rw [← hX2]; exact World.putObj_heap_same hlt
    have hd2 : X2.heap[w.heap.size]? = some (.deferred (some [])) := by rw [← hX2]; exact (World.putObj_heap_other (by omega)).trans hd
    have hi2 : I k X2 := by rw [← hX2]; exact (hI k).putObj hi0 (by omega) (by omega) _
    have hs2 : w.heap.size + 2 + K ≤ X2.heap.size := by rw [← hX2]; exact Nat.le_trans hX0 (grownBy_putObj' w1 (w.heap.size + 1) _).size
    have hk2 : KeepR (w.heap.size + 2) K X X2 := by rw [← hX2]; exact hk1.trans (KeepR.of_grown (grownBy_putObj' _ _ _) fun r e => by cases e; omega)
    show body.wpIn _ _ _ _ _ (w1.putObj (w.heap.size + 1) (.loop { rec .ready none with state := .busy }))
    rw [hX2]
    have hb2 : ∀ b, w.heap.size + 2 ≤ b → X2.heap[b]? = w1.heap[b]? := fun b hb => by rw [← hX2]; exact World.putObj_heap_other (by omega)
    refine wpIn_mono (hbody X2 hi2 hs2 hb2) ?_
    have fin : ∀ (jump : Option Code) (X3 : World), KeepR w.heap.size (2 + K) X2 X3 →
        ∃ X4, (Instr.endRound (w.heap.size + 1) jump).run Try.prog X3 = .ok (.bool jump.isNone) X4 ∧ X4 = X3.putObj (w.heap.size + 1) (.loop (rec (if jump.isNone then .ready else .done) jump)) ∧
          X4.heap[w.heap.size + 1]? = some (.loop (rec (if jump.isNone then .ready else .done) jump)) ∧ X4.heap[w.heap.size]? = some (.deferred (some [])) ∧ KeepR (w.heap.size + 2) K X X4 := fun jump X3 hk3 => by
      have hl3 := hk3.at_ (by omega) (by omega) hl2
      have hd3 := hk3.at_ (by omega) (by omega) hd2
      have hr := run_endRound (P := Try.prog) jump hl3
      rw [hrec] at hr ⊢
      refine ⟨_, hr, rfl, World.putObj_heap_same (Array.getElem?_eq_some_iff.1 hl3).1, (World.putObj_heap_other (by omega)).trans hd3, ?_⟩
      exact (hk2.trans (hk3.part (by omega) (by omega))).trans (KeepR.of_grown (grownBy_putObj' _ _ _) fun r e => by cases e; omega)
    rintro e a3 X3 hp
    cases e with
    | normal =>
      obtain ⟨hk3, hi3⟩ := hp
      obtain ⟨X4, hr, e4, hl4, hd4, hk4⟩ := fin none X3 hk3
      exact ⟨_, _, hr, true, rfl, hk4, fun _ => ⟨by rw [e4]; exact (hI _).putObj hi3 (by omega) (by omega) _, hl4, hd4⟩, fun h => by cases h⟩
    | ret =>
      obtain ⟨hk3, hi3⟩ := hp
      obtain ⟨X4, hr, e4, hl4, hd4, hk4⟩ := fin (some .ret) X3 hk3
      exact ⟨_, _, hr, false, rfl, hk4, (fun h => by cases h), fun _ => ⟨.ret, by rw [e4]; exact (hIx _).putObj hi3 (by omega) (by omega) _, hl4, hd4⟩⟩
    | exit id =>
      obtain ⟨hk3, hi3⟩ := hp
      obtain ⟨X4, hr, e4, hl4, hd4, hk4⟩ := fin (some (.exit id)) X3 hk3
      exact ⟨_, _, hr, false, rfl, hk4, (fun h => by cases h), fun _ => ⟨.exit id, by rw [e4]; exact (hIx _).putObj hi3 (by omega) (by omega) _, hl4, hd4⟩⟩
    | goto t =>
      obtain ⟨hk3, hi3⟩ := hp
      obtain ⟨X4, hr, e4, hl4, hd4, hk4⟩ := fin (some (.goto t)) X3 hk3
      exact ⟨_, _, hr, false, rfl, hk4, (fun h => by cases h), fun _ => ⟨.goto t, by rw [e4]; exact (hIx _).putObj hi3 (by omega) (by omega) _, hl4, hd4⟩⟩
    | panic ch => exact hp.elim
    | outgrown => exact hp.elim
  · rintro e W2 ⟨⟨v, rfl⟩, (⟨k, hfin, hi, hl, hd⟩ | ⟨c, hi, hl, hd⟩)⟩
    · exact ⟨none, _, by have := run_endLoop (P := Try.prog) hl (by rw [hrec]; simp); rw [hrec] at this; exact this, hdone k _ hfin ((hI _).putObj hi (by omega) (by omega) _) ((World.putObj_heap_other (by omega)).trans hd)⟩
    · exact ⟨some c, _, by have := run_endLoop (P := Try.prog) hl (by rw [hrec]; simp); rw [hrec] at this; exact this, hstop c _ ((hIx c).putObj hi (by omega) (by omega) _) ((World.putObj_heap_other (by omega)).trans hd)⟩
/-- The statement in its own block, whose rounds may break: what stands behind is one thing, however it was left. -/
theorem range_blockSB {σ : Type} {g : Operand} {p : Tmp} {assign body : Code} {id : Nat} {K' : Act → World → Prop} {Q' : Exit → Act → World → Prop} {a : Act} {w : World} {gf : Nat} {lb : Array Value}
    (hg : a.eval g = .func (.func gf) #[] lb) (eg : ∀ args w, (callFunc gf args).run Try.prog w = .ok (.enter gf args) w)
    {K : Nat} {R : World → Prop} {s0 : σ} {stp : σ → Value → σ → Prop} {fin : σ → Prop} (hit : IterS gf lb K R s0 stp fin)
    (I : σ → World → Prop) (Bx F : World → Prop) (hI : ∀ k, Abid w.heap.size (2 + K) (I k)) (hBx : Abid w.heap.size (2 + K) Bx)
    (hIR : ∀ k X, I k X → R X) (h0 : I s0 w)
    (hdone : ∀ k X, fin k → I k X → F X) (hstop : ∀ X, Bx X → F X)
    (hround : ∀ (l : Nat) (k : σ) (v : Value) (k' : σ) (W : World), stp k v k' → I k W → w.heap.size + 2 + K ≤ W.heap.size →
      assign.wpIn (Wd.inRound l) 0 Try.prog (Exit.then (fun a₁ w₁ => Below W.heap.size W w₁ ∧ ∀ W2, I k W2 → w.heap.size + 2 + K ≤ W2.heap.size → (∀ b, w.heap.size + 2 ≤ b → W2.heap[b]? = w₁.heap[b]?) →
        body.wpIn (Wd.inRound l) 0 Try.prog (outs w.heap.size (2 + K) (fun _ => I k') (fun c X => c = .exit id ∧ Bx X) 0 W2) a₁ W2) (fun _ _ _ => False)) { tmps := a.tmps.setIfInBounds p v, defers := [] } W)
    (hrest : ∀ X, F X → X.heap[w.heap.size]? = some (.deferred (some [])) → K' { a with defers := { target := .collected w.heap.size, args := #[] } :: a.defers } X) :
    (Code.rangeFunc g #[p] assign body).wp Try.prog (Exit.inBlock id (Exit.then K' Q')) a w := by
  refine (wpIn_wide (n := 0)).1 ?_
  refine range_lawSB hg eg hit I (fun c X => c = .exit id ∧ Bx X) hI (fun c X Y row h hg hr => ⟨h.1, hBx X Y row h.2 hg hr⟩) hIR h0 hround ?_ ?_
  · exact fun k X hf hi hd => hrest X (hdone k X hf hi) hd
  · rintro c X ⟨rfl, hb⟩ hd
    refine wpIn_wide.2 ?_
    refine wp_exit ?_
    have := hrest X (hstop X hb) hd
    simpa [Exit.inBlock, Exit.then] using this
end Go.Proofs.Ythajocfgpodimaa.It
/- maps.Keys over a set's map: its iterator. -/
namespace Go.Proofs.Ythajocfgpodimaa.Se
open Go.RowKit Go.Maps
open Go.Proofs.Ythajocfgpodimaa.Me Go.Proofs.Ythajocfgpodimaa.Sb Go.Proofs.Ythajocfgpodimaa.It
set_option linter.unusedVariables false
set_option linter.unusedSimpArgs false
attribute [local go_sem] Oper.semAt_some

/-- An origin and an epoch as a value. -/
def plV (p : Int × Int) : Value := .agg #[.int .i64 p.1, .int .i64 p.2]
section
variable {P : Program} {k e : TypeId} {q : IntKind}
theorem lits_int (he : P.underlying e = some (.int q)) {d : Nat} {c : Value} {ls : List Lit} (h : Program.keyLits P (d + 1) e [c] = some ls) : ∃ n : Int, c = .int q n ∧ (Lit.int q n).wf = true ∧ ls = [.int q n] := by
  unfold Program.keyLits at h
  simp only [he] at h
  cases c <;> simp at h
  obtain ⟨⟨rfl, h1⟩, h2⟩ := h
  exact ⟨_, rfl, h1, h2.symm⟩
theorem keyOf_inv2 (A : WideMaps.ArrKey P k e 2) (he : P.underlying e = some (.int q)) (hsz : ∃ m, P.types.size = m + 1) {v : Value} {l : Lit} (h : keyOf P k v = some l) : ∃ a b : Int, v = .agg #[.int q a, .int q b] ∧ (Lit.int q a).wf = true ∧ (Lit.int q b).wf = true ∧ l = .string (keyBytes [.int q a, .int q b]) := by
  unfold keyOf at h
  simp only [A.hu] at h
  split at h
  · rename_i hc
    rw [Bool.and_eq_true] at hc
    have hf := hc.2
    cases v with
    | agg cs =>
      simp only [Value.formed, A.hu, A.size, beq_iff_eq] at hf
      obtain ⟨l'⟩ := cs
      match l', hf with
      | [c0, c1], _ =>
        obtain ⟨m, hm⟩ := hsz
        rw [hm] at h
        unfold Program.keyLits at h
        simp only [A.hu, Value.cells] at h
        rw [if_pos (by rw [A.size]; rfl), show List.range 2 = [0, 1] from rfl, List.mapM_cons, List.mapM_cons, List.mapM_nil] at h
        simp only [bind, Option.bind_eq_some_iff, pure, Option.some.injEq, Option.map_eq_some_iff, A.one] at h
        obtain ⟨_, ⟨_, ⟨y0, h0, _, ⟨y1, h1, _, rfl, rfl⟩, rfl⟩, rfl⟩, rfl⟩ := h
        obtain ⟨a, ea, wa, rfl⟩ := lits_int he h0
        obtain ⟨b, eb, wb, rfl⟩ := lits_int he h1
        subst ea; subst eb
        exact ⟨a, b, rfl, wa, wb, rfl⟩
    | _ => simp [Value.formed, A.hu] at hf
  · cases h
end
theorem keyOf_inv {v : Value} {l : Lit} (h : keyOf Try.prog 63 v = some l) : ∃ a b : Int, v = .agg #[.int .i64 a, .int .i64 b] ∧ (Lit.int .i64 a).wf = true ∧ (Lit.int .i64 b).wf = true ∧ l = kl a b := keyOf_inv2 arr Try.underlying3 types_pos h
/-- What reads as the key of a place is that place. -/
theorem keyOf_place {v : Value} {o e : Int} (hp : Pp o e) (h : keyOf Try.prog 63 v = some (kl o e)) : v = plV (o, e) := by
  obtain ⟨a, b, rfl, wa, wb, hl⟩ := keyOf_inv h
  have := _root_.Go.keyBytes_inj (l := [.int .i64 o, .int .i64 e]) (l' := [.int .i64 a, .int .i64 b]) ⟨rfl, rfl, trivial⟩ (by
    intro x hx
    simp only [List.mem_cons, List.not_mem_nil, or_false] at hx
    rcases hx with rfl | rfl
    · exact hp.wf.1
    · exact hp.wf.2) (by
    intro x hx
    simp only [List.mem_cons, List.not_mem_nil, or_false] at hx
    rcases hx with rfl | rfl
    · exact wa
    · exact wb) (by injection hl)
  simp at this
  obtain ⟨rfl, rfl⟩ := this
  rfl
theorem ranges_same {X Y : World} {b r n : Nat} {D : DataW Value} {left : Lit → Bool} {cnt : Nat} (h : X.ranges Try.prog 63 RV b r n D left cnt) (hb : Y.heap[b]? = X.heap[b]?) (hr : Y.heap[r]? = X.heap[r]?) : Y.ranges Try.prog 63 RV b r n D left cnt := by
  obtain ⟨es, clock, since, seen, c0, q1, F, q2, q3, q4, rest⟩ := h
  exact ⟨es, clock, since, seen, c0, hb.trans q1, F, q2, q3, hr.trans q4, rest⟩
/-- The places L were handed out; the next one is handed out. -/
def stepK (kept : Int → Int → Option Mk) (n : Nat) (L : List (Int × Int)) (v : Value) (L' : List (Int × Int)) : Prop := ∃ p : Int × Int, Pp p.1 p.2 ∧ kept p.1 p.2 ≠ none ∧ v = plV p ∧ p ∉ L ∧ L' = L ++ [p] ∧ L.length < n
def finK (kept : Int → Int → Option Mk) (L : List (Int × Int)) : Prop := ∀ p : Int × Int, Pp p.1 p.2 → kept p.1 p.2 ≠ none → p ∈ L
/-- Which places are still to come. -/
def Lft (kept : Int → Int → Option Mk) (L : List (Int × Int)) (left : Lit → Bool) : Prop := ∀ p : Int × Int, Pp p.1 p.2 → (left (kl p.1 p.2) = true ↔ (kept p.1 p.2 ≠ none ∧ p ∉ L))
theorem Lft.next {kept : Int → Int → Option Mk} {L : List (Int × Int)} {left : Lit → Bool} {p : Int × Int} (h : Lft kept L left) (hp : Pp p.1 p.2) : Lft kept (L ++ [p]) (fun z => left z && !z.sameKey (kl p.1 p.2)) := by
  intro q hq
  by_cases e : q = p
  · subst e
    simp [WideAt.sameKey_self (key_lit q.1 q.2)]
  · have h1 : kl q.1 q.2 ≠ kl p.1 p.2 := fun hk => e (by obtain ⟨a, b⟩ := kl_inj hq hp hk; exact Prod.ext a b)
    simp only [sameKey_ne h1, Bool.not_false, Bool.and_true, List.mem_append, List.mem_singleton, e, or_false]
    exact h q hq
theorem Lft.start {w : World} {t : Bool} {D : DataW Value} {kept : Int → Int → Option Mk} (h : Vw w t D kept) : Lft kept [] (Maps.has D) := by
  intro p hp
  cases hk : kept p.1 p.2 with
  | none => simp [h.no _ _ hp hk]
  | some m => simp [(h.yes _ _ m hp hk).1]
set_option maxHeartbeats 1000000 in
theorem Keys_iter {t : Bool} (kb mb n : Nat) (w0 : World) (kept : Int → Int → Option Mk) (hM : Mp w0 t mb n kept) :
    IterS 50 #[.pointer (some ⟨kb, 0, none⟩)] 1 (fun X => X.cell? ⟨kb, 0, none⟩ = some (.map (some mb)) ∧ X.heap[mb]? = w0.heap[mb]?) ([] : List (Int × Int)) (stepK kept n) (finK kept) := by
  intro l W J Jx hJ hJx hR hY h0
  obtain ⟨D, how, hv⟩ := hM
  have hb0 := hR _ _ h0
  have hbox := hb0.1
  have how0 : W.ownsMap Try.prog 63 RV mb n D := by
    obtain ⟨es, clock, hb, r⟩ := how
    exact ⟨es, clock, hb0.2.trans hb, r⟩
  have HR := Lib.hid hR
  have HY := Lib.hid hY
  have HJ := Lib.hid hJ
  have HV := Lib.hid hv
  have HO := Lib.hid how0
  have HSZ := Lib.hid how0.size_le
  have hmW := how0.lt
  clear hR hY hJ hJx hv how0 hb0 how
  refine callsIn_of_wp Try.func50 rfl trivial ?_ rfl
  simp only [Try.ntmps50, List.size_toArray, List.length_cons, List.length_nil, Nat.reduceAdd, Nat.reduceSub, Array.replicate_succ, Array.replicate_zero, List.push_toArray, List.append_toArray, List.nil_append, List.cons_append]
  gi_wp2_with (gi_at_range; refine wpListIn_range_own _ rfl _ 59 rfl 63 65 keyed Try.underlying59 RV mb n D rfl HO.out ?_; intro w1 hrg hg hs)
  try go_frame
  gi_loopw [3] (fun v wr => ∃ L left cnt, wr.ranges Try.prog 63 RV mb W.heap.size n D left cnt ∧ J L wr ∧ Lft kept L left ∧ L.length + cnt ≤ n ∧ W.heap.size + 1 ≤ wr.heap.size) (fun v wr => wr.rangeLeft mb W.heap.size)
  case atStart => exact ⟨[], _, _, hrg, HJ.out [] W w1 none h0 hg (fun r e => by cases e), Lft.start HV.out, by have := HSZ.out; simpa using this, by omega⟩
  case round =>
    obtain ⟨L, left, cnt, hrg1, hj, hlf, hcn, hsz⟩ := hrel
    have HRG := Lib.hid hrg1
    have HLF := Lib.hid hlf
    clear hrg hg hs hbox h0
    gi_wp2_with (gi_at_next; refine wpListIn_next_ranges _ rfl _ rfl 63 keyed RV (fun x : Value => x) (fun v : Value => v) (fun key kl hk => ⟨key, rfl⟩) (fun v y h => ⟨v, rfl⟩) mb W.heap.size n D left cnt rfl HRG.out ?_ ?_)
    · intro hc0 hl0
      have hfin : finK kept L := fun p hp hk => by
        apply Classical.byContradiction
        intro hc
        have := (HLF.out p hp).2 ⟨hk, hc⟩
        rw [hl0] at this
        cases this
      gi_wp2
      go_end0
      exact ⟨⟨_, rfl⟩, .inl ⟨L, hfin, hj⟩⟩
    · intro x c kl' y1 y2 w2 cnt' hkey hlk e1 e2 hat hrg2 hlt hg2 hs2 hen
      obtain ⟨o, e, ekl, hp, hne⟩ := HV.out.keys _ (has_true_of_atKey hat)
      subst ekl
      obtain rfl := keyOf_place hp hkey
      have hl := (HLF.out (o, e) hp).1 hlk
      have hst : stepK kept n L (plV (o, e)) (L ++ [(o, e)]) := ⟨(o, e), hp, hl.1, rfl, hl.2, rfl, by omega⟩
      have hj2 : J L w2 := HJ.out L wr w2 _ hj hg2 fun r e => by cases e; omega
      have HJ2 := Lib.hid hj2
      have HST := Lib.hid hst
      have HRG2 := Lib.hid hrg2
      have HLT := Lib.hid hlt
      have HL2 := Lib.hid (HLF.out.next (p := (o, e)) hp)
      have HS2 := Lib.hid hs2
      have HB2 := Lib.hid (HR.out L w2 hj2)
      have HCN : Hid ((L ++ [(o, e)]).length + cnt' ≤ n) := by show _ ≤ _; rw [List.length_append]; simp; omega
      have hsz2 : W.heap.size + 1 ≤ w2.heap.size := by omega
      clear e1 e2 hat hkey hlk hl hst hj hrg2 hlt hs2 hg2 HLF hj2 hcn hne
      have hbl : Below w2.heap.size w2 (w2.alloc (.cells #[.int .i64 o, .int .i64 e] 63)) := Me.below_alloc (Below.refl _ _)
      have hj3 : J L (w2.alloc (.cells #[.int .i64 o, .int .i64 e] 63)) := (HJ.out L).below HJ2.out hbl
      have HB3 : Hid ((w2.alloc (.cells #[.int .i64 o, .int .i64 e] 63)).heap[mb]? = w0.heap[mb]?) := (HR.out L _ hj3).2
      have HB4 : Hid ((w2.alloc (.cells #[.int .i64 o, .int .i64 e] 63)).heap[W.heap.size]? = w2.heap[W.heap.size]?) := hbl.block _ (by omega)
      obtain ⟨fn, tmps, assign, body, hy, hRd⟩ := HY.out L (plV (o, e)) (L ++ [(o, e)]) _ HST.out hj3 (by simp; omega)
      have HRd := Lib.hid hRd
      clear hj3 hbl hRd
      have HSZ2 : Hid (W.heap.size < (w2.alloc (.cells #[.int .i64 o, .int .i64 e] 63)).heap.size ∧ w2.heap.size ≤ (w2.alloc (.cells #[.int .i64 o, .int .i64 e] 63)).heap.size) := ⟨by simp; omega, by simp⟩
      unfold plV at hen hy
      gi_wp2_with (refine ⟨trivial, rfl, ?_⟩)
      refine ⟨rfl, HRd.out.mono ?_⟩
      rintro e' W3 ⟨bb, rfl, hk3, ht, hf⟩
      cases bb with
      | true =>
        have hj3 := ht rfl
        have q1 := (HR.out _ W3 hj3).2.trans HB2.out.2.symm
        have q2 : W3.heap[W.heap.size]? = w2.heap[W.heap.size]? := (hk3.same _ (Nat.le_refl _) (by omega) HSZ2.out.1).trans HB4.out
        have HRG3 := Lib.hid (ranges_same HRG2.out q1 q2)
        have HSZ3 : Hid (W.heap.size + 1 ≤ W3.heap.size) := Nat.le_trans hsz2 (Nat.le_trans HSZ2.out.2 hk3.size)
        clear ht hf q1 q2 hen hy
        gi_wp2
        go_roundw
        case rel => exact ⟨L ++ [(o, e)], _, _, HRG3.out, hj3, HL2.out, HCN.out, HSZ3.out⟩
        case measure => rw [HRG3.out.left_eq, HRG.out.left_eq]; exact HLT.out
      | false =>
        have hj3 := hf rfl
        clear ht hf hen hy
        gi_wp2
        refine bodyPost_ret (results_none rfl _ _ _) rfl ?_
        exact ⟨⟨_, rfl⟩, .inr hj3⟩
end Go.Proofs.Ythajocfgpodimaa.Se
/- slices.Collect of a set's map's keys: all places, each once. -/
namespace Go.Proofs.Ythajocfgpodimaa.Se
open Go.RowKit Go.Maps
open Go.Proofs.Ythajocfgpodimaa.Me Go.Proofs.Ythajocfgpodimaa.Sb Go.Proofs.Ythajocfgpodimaa.It
set_option linter.unusedVariables false
set_option linter.unusedSimpArgs false
attribute [local go_sem] Oper.semAt_some

abbrev Pls := List (Int × Int)
def plc (p : Int × Int) : List Value := [.int .i64 p.1, .int .i64 p.2]
def plsV (L : Pls) : List Value := L.flatMap plc
theorem plsV_snoc (L : Pls) (p : Int × Int) : plsV (L ++ [p]) = plsV L ++ plc p := by unfold plsV; rw [List.flatMap_append]; simp
theorem plsV_len (L : Pls) : (plsV L).length = L.length * 2 := by
  induction L with
  | nil => rfl
  | cons p r ih => unfold plsV at ih ⊢; rw [List.flatMap_cons, List.length_append, ih]; simp [plc]; omega
/-- A slice of places of the call's own. -/
def Kp (w : World) (B : Nat) (v : Value) (L : Pls) : Prop := w.ownsRow B 63 2 v L.length (plsV L)
theorem infoPl : (Try.prog.info? 63).map (fun i => (i.zero, i.size, i.bytes)) = some (some (.agg #[.int .i64 0, .int .i64 0]), 2, 16) := by kernel_rfl
theorem Kp.nil (w : World) (B : Nat) : Kp w B (.slice none 0 0) [] := ⟨rfl, .inl ⟨rfl, rfl⟩⟩
theorem Kp.lt {w : World} {B k : Nat} {v : Value} {L : Pls} (h : Kp w B v L) (hk : v.ownBlock = some k) : B ≤ k ∧ k < w.heap.size := World.ownsRow.lt h k hk
theorem Kp.form {w : World} {B : Nat} {v : Value} {L : Pls} (h : Kp w B v L) : ∃ A c, v = .slice A L.length c ∧ L.length ≤ c ∧ c ≤ 9223372036854775807 := by
  rcases h.2 with ⟨h1, h2⟩ | ⟨g, cap, cur, h1, h2, h3, h4, h5, h6, h7⟩
  · have : L = [] := by simpa using h2
    subst this
    exact ⟨none, 0, h1, Nat.le_refl _, Nat.zero_le _⟩
  · exact ⟨_, cap, h1, h4, by unfold maxLen at h5; omega⟩
theorem pl_new (w : World) (p : Int × Int) (T : TypeId) (fr : Nat × Nat) : ∀ j u, (plc p)[j]? = some u → (w.alloc (.cells #[.int .i64 p.1, .int .i64 p.2] T fr)).cell? ((⟨w.heap.size, 0, none⟩ : Addr).add j) = some u := by
  intro j u hu
  have h := cell_of_row (w.alloc (.cells #[.int .i64 p.1, .int .i64 p.2] T fr)) w.heap.size j #[.int .i64 p.1, .int .i64 p.2] T fr (heap_alloc_new w _)
  rw [add_mk, Nat.zero_add, h]
  simpa [plc] using hu
/-- A place appended in a round. -/
theorem appPlIn {F : Fence} {n : Nat} {w wl : World} {ops : Array Oper} {rest : List Oper} {o : Oper} {a : Act} {Q : Exit → Act → World → Prop} (hgd : o.guard = none) (s x : Operand)
    (ho : o.op = .call { callee := .builtin .append, args := #[s, x], argTypes := #[74, 74] })
    (B : Nat) (v : Value) (L : Pls) (p : Int × Int) (hs : a.eval s = v) (hw : w = wl.alloc (.cells #[.int .i64 p.1, .int .i64 p.2] 63)) (hown : Kp wl B v L) (hB : B ≤ wl.heap.size)
    (g : Nat) (hg : g = wl.heap.size) (hx : a.eval x = .slice (some ⟨g, 0, none⟩) 1 1) (hlen : L.length ≤ 10000000)
    (h : ∀ v' w', Kp w' B v' (L ++ [p]) → wl.grownBy w' v.ownBlock → wpListIn F n Try.prog ops Q rest (a.put o.dst v') w') : wpListIn F n Try.prog ops Q (o :: rest) a w := by
  obtain ⟨i0, hi, hz0, hz1, hz2⟩ := info_parts infoPl
  subst hw hg
  refine wpListIn_append_own_at (wl.alloc (.cells #[.int .i64 p.1, .int .i64 p.2] 63)) hgd s x 74 ho B 63 i0 (.agg #[.int .i64 0, .int .i64 0]) 2 16 Try.underlying74 hi hz0 hz1 hz2 rfl (by decide) v L.length (plsV L) hs (World.ownsRow.alloc hown _) ⟨wl.heap.size, 0, none⟩ 1 1 (plc p) hx rfl (pl_new wl p _ _) (by simp [plc, Value.oneCell']) (by unfold maxLen; omega) (by omega) (by simp; omega) ?_
  intro v' w' h1 h3 _ _
  refine h v' w' ?_ ⟨h3.os, h3.tape, h3.output, Nat.le_trans (by simp) h3.size, fun k hk hne => ?_⟩
  · unfold Kp
    rw [List.length_append, plsV_snoc]; exact h1
  · exact (h3.block k (by simp; omega) hne).trans (Below.heap_alloc wl _ k hk)
/-- The box of a list that grows. -/
def AccP (g B : Nat) (L : Pls) (X : World) : Prop := ∃ v, Boxed X g 74 v ∧ Kp X B v L
theorem AccP.abid {g B M : Nat} {L : Pls} (hg : g < B) : Abid B M (AccP g (B + M) L) := fun X Y row ⟨v, hb, ho⟩ hgr hr => by
  refine ⟨v, hb.kept hgr (fun e => by have := hr g e.symm; omega), World.ownsRow.kept ho hgr ?_⟩
  cases hv : v.ownBlock with
  | none => exact .inl rfl
  | some b => exact .inr (fun e => by have h1 := (ho.lt hv).1; have := hr b e.symm; omega)
theorem low_abid {w : World} {B M : Nat} (hB : w.heap.size ≤ B) : Abid B M fun X => Below w.heap.size w X := fun X Y row h hgr hr => h.grown hgr h.size fun k e => by have := hr k e; omega
theorem step_keepP {B M g : Nat} {X Y : World} {v v' : Value} {L L' : Pls} (hB : g < B) (hbox : Boxed X g 74 v) (ho : Kp X (B + M) v L) (hg : X.grownBy Y v.ownBlock) (ho' : Kp Y (B + M) v' L') :
    Boxed Y g 74 v ∧ KeepR B M X (Y.setCell ⟨g, 0, none⟩ v') ∧ AccP g (B + M) L' (Y.setCell ⟨g, 0, none⟩ v') ∧ ∀ b, b < B → b ≠ g → b < X.heap.size → (Y.setCell ⟨g, 0, none⟩ v').heap[b]? = X.heap[b]? := by
  have hne : ∀ b, b < B + M → some b ≠ v.ownBlock := fun b hb e => by have := (ho.lt e.symm).1; omega
  have hY : Boxed Y g 74 v := hbox.kept hg (fun e => by exact hne g (by omega) e)
  refine ⟨hY, ?_, ⟨v', hY.set v', own_same ho' fun k hk _ => ?_⟩, fun b hb hn hX => ?_⟩
  · refine ⟨Nat.le_trans hg.size (by simp), fun r h1 h2 h3 => ?_⟩
    exact (Below.heap_setCell Y _ _ r (by show r ≠ g; omega)).trans (hg.block r h3 (hne r (by omega)))
  · exact Below.heap_setCell Y _ _ k (by have := (ho'.lt hk).1; show k ≠ g; omega)
  · exact (Below.heap_setCell Y _ _ b hn).trans (hg.block b hX (hne b (by omega)))
/-- Some kept places, each once. -/
structure Good (kept : Int → Int → Option Mk) (n : Nat) (L : Pls) : Prop where
  all : ∀ p ∈ L, Pp p.1 p.2 ∧ kept p.1 p.2 ≠ none
  nd : L.Nodup
  le : L.length ≤ n
theorem Good.nil (kept : Int → Int → Option Mk) (n : Nat) : Good kept n [] := ⟨by simp, by simp, by simp⟩
theorem Good.step {kept : Int → Int → Option Mk} {n : Nat} {L L' : Pls} {v : Value} (h : Good kept n L) (hs : stepK kept n L v L') : Good kept n L' := by
  obtain ⟨p, h1, h2, _, h4, rfl, h5⟩ := hs
  refine ⟨fun x hx => ?_, ?_, by rw [List.length_append]; simp; omega⟩
  · rcases List.mem_append.mp hx with hx | hx
    · exact h.all x hx
    · obtain rfl : x = p := by simpa using hx
      exact ⟨h1, h2⟩
  · rw [List.nodup_append]
    exact ⟨h.nd, by simp, fun a ha b hb e => h4 (by simp at hb; rw [← hb, ← e]; exact ha)⟩
def keysV (kb : Nat) : Value := .func (.func 50) #[] #[.pointer (some ⟨kb, 0, none⟩)]
theorem Keys_any (mb : Nat) (w : World) : Calls Try.prog 37 #[.map (some mb)] w fun e w' => e = .returned (keysV w.heap.size) ∧ w' = w.alloc (.cells #[.map (some mb)] 59) := by
  go_enter Try.func37, Try.ntmps37
  go_wp2
  go_ret
  exact ⟨rfl, rfl⟩
/-- What a call answers that makes a new list of all kept places. -/
def NewP (w : World) (kept : Int → Int → Option Mk) (n : Nat) (e : Ending) (w' : World) : Prop := ∃ v L, e = .returned v ∧ Hid (Kp w' w.heap.size v L) ∧ Hid (Below w.heap.size w w') ∧ Good kept n L ∧ finK kept L
set_option maxHeartbeats 2000000 in
theorem AppendSeq_keys {t : Bool} (kb mb n : Nat) (w0 w : World) (kept : Int → Int → Option Mk) (hM : Mp w0 t mb n kept) (hn9 : n ≤ 5000000) (h1 : Hid (Boxed w kb 59 (.map (some mb)))) (h2 : Hid (w.heap[mb]? = w0.heap[mb]?)) : Calls Try.prog 57 #[.slice none 0 0, keysV kb] w (NewP w kept n) := by
  have hs1 := h1.out.lt
  have hs2 : mb < w.heap.size := by
    obtain ⟨es, c, hm⟩ := hM.isMap
    exact (Array.getElem?_eq_some_iff.1 (h2.out.trans hm)).1
  have hIt := Keys_iter kb mb n w0 kept hM
  unfold keysV
  refine (callsIn_wide (n := 0)).1 (callsIn_of_wp_marks Try.func57 rfl trivial ?_ rfl)
  simp only [Try.ntmps57, List.size_toArray, List.length_cons, List.length_nil, Nat.reduceAdd, Nat.reduceSub, Array.replicate_succ, Array.replicate_zero, List.push_toArray, List.append_toArray, List.nil_append, List.cons_append]
  refine wpIn_wide.2 ?_
  go_wp2
  have q1 := Boxed.new w 74 (.slice none 0 0)
  have q2 := h1.out.alloc (.cells #[.slice none 0 0] 74)
  have qb : Below w.heap.size w (w.alloc (.cells #[.slice none 0 0] 74)) := Me.below_alloc (Below.refl _ _)
  have q3 : (w.alloc (.cells #[.slice none 0 0] 74)).heap[mb]? = w0.heap[mb]? := (qb.block mb hs2).trans h2.out
  obtain ⟨m, hm⟩ : ∃ m, w.heap.size = m := ⟨_, rfl⟩
  have qs : (w.alloc (.cells #[.slice none 0 0] 74)).heap.size = m + 1 := by simp [hm]
  obtain ⟨W0, hW0⟩ : ∃ W0, w.alloc (.cells #[.slice none 0 0] 74) = W0 := ⟨_, rfl⟩
  rw [hm] at q1 hs1 hs2
  rw [hW0] at q1 q2 q3 qb qs ⊢
  have HNN := Lib.hid hm
  have hwn : w.heap.size ≤ m := by omega
  have hwn2 : m ≤ w.heap.size := by omega
  rw [hm] at ⊢
  clear hW0 hm
  refine range_blockSB (gf := 50) (lb := #[.pointer (some ⟨kb, 0, none⟩)]) rfl (enters_of Try.func50 (by kernel_rfl) rfl) hIt
    (fun L X => (Boxed X kb 59 (.map (some mb)) ∧ X.heap[mb]? = w0.heap[mb]?) ∧ Good kept n L ∧ (AccP m (W0.heap.size + 3) L X ∧ Below w.heap.size w X))
    (fun _ => False)
    (fun X => ∃ L, finK kept L ∧ Good kept n L ∧ AccP m (W0.heap.size + 3) L X ∧ Below w.heap.size w X)
    (fun k X Y row h hg hr => ⟨⟨h.1.1.kept hg (fun e => by have := hr _ e.symm; omega), (hg.block mb (by have := h.2.2.2.size; omega) (fun e => by have := hr _ e.symm; omega)).trans h.1.2⟩, h.2.1, AccP.abid (by omega) X Y row h.2.2.1 hg hr, low_abid (by omega) X Y row h.2.2.2 hg hr⟩)
    (fun _ _ _ h _ _ => h)
    (fun k X h => ⟨h.1.1.cell, h.1.2⟩)
    ⟨⟨q2, q3⟩, Good.nil _ _, ⟨_, q1, Kp.nil _ _⟩, qb⟩ (fun L X hf h => ⟨L, hf, h.2⟩) (fun X h => h.elim) ?_ ?_
  · intro l' L v L' X0 hst hI0 hX0
    have hX1 : m + 1 + 3 ≤ X0.heap.size := by omega
    have HX0 := Lib.hid hX0
    have HGD := Lib.hid hI0.2.1
    clear hI0 hX0
    obtain ⟨p, hp1, hp2, rfl, hp3, rfl, hp4⟩ := hst
    have HGE : Hid (Good kept n (L ++ [p])) := HGD.out.step ⟨p, hp1, hp2, rfl, hp3, rfl, hp4⟩
    have hLn : L.length ≤ 10000000 := by omega
    have HLn := Lib.hid hLn
    clear hp1 hp2 hp3 hp4 hLn
    obtain ⟨o, e⟩ := p
    unfold plV
    have HB1 : Hid (Below X0.heap.size X0 (X0.alloc (.cells #[.int .i64 o, .int .i64 e] 63))) := Me.below_alloc (Below.refl _ _)
    have HB2 : Hid ((X0.alloc (.cells #[.int .i64 o, .int .i64 e] 63)).heap[X0.heap.size]? = some (.cells #[.int .i64 o, .int .i64 e] 63 (0, 0))) := heap_alloc_new X0 _
    obtain ⟨gx, hgx⟩ : ∃ gx, X0.heap.size = gx := ⟨_, rfl⟩
    have HGX := Lib.hid hgx
    have HX1 : Hid (m + 1 + 3 ≤ gx) := by show _ ≤ _; omega
    gi_wp2
    refine ⟨HB1.out, ?_⟩
    rintro X ⟨⟨hx3, hx2⟩, _, ⟨v, hbx, hov⟩, hbl⟩ hsX hsame
    have e1 : X.heap[gx]? = some (.cells #[.int .i64 o, .int .i64 e] 63 (0, 0)) := by
      rw [hsame gx (by have := HX1.out; omega), ← HGX.out]
      exact HB2.out
    have e2 : X.cell? ⟨gx, 0, none⟩ = some (.int .i64 o) := cell_of_row X gx 0 _ _ (0, 0) e1
    have e3 : X.cell? ⟨gx, 1, none⟩ = some (.int .i64 e) := cell_of_row X gx 1 _ _ (0, 0) e1
    have c2 := hbx.cell
    have HX3 := Lib.hid hx3
    have HX2 := Lib.hid hx2
    have HBX := Lib.hid hbx
    have HOV := Lib.hid hov
    have HBL := Lib.hid hbl
    have HSX : Hid (W0.heap.size + 3 ≤ X.heap.size) := by show _ ≤ _; omega
    have HMB : Hid (mb < X.heap.size) := by have := hbl.size; show _ < _; omega
    clear hx3 hx2 hbx hov hbl hsX q1 q2 q3 hIt hsame e1 HGX HB1 HB2 hgx HX0 HX1 HGD
    gi_wp2_with (refine appPlIn (wl := X) rfl (.tmp 8) (.tmp 10) rfl (W0.heap.size + 3) v L (o, e) rfl rfl HOV.out HSX.out _ rfl rfl HLn.out ?_; intro v2 Y ho2 hg2; obtain ⟨A2, cc2, rfl, _, _⟩ := Kp.form ho2; obtain ⟨m2, hm2⟩ : ∃ m2, (L ++ [(o, e)]).length = m2 := ⟨_, rfl⟩; rw [hm2] at ho2; obtain ⟨s1, s2, s3, s4⟩ := step_keepP (M := 3) (by omega) HBX.out HOV.out hg2 ho2; have c3 := s1.cell; have f3 := s1.frozen; have S2 := Lib.hid s2; have S3 := Lib.hid s3; have S4 := Lib.hid s4; have HG2 := Lib.hid hg2; clear s1 s2 s3 s4 ho2 hg2)
    refine ⟨S2.out, ⟨⟨(S4.out _ (by omega) (by omega) HX3.out.lt).trans HX3.out, (S4.out mb (by omega) (by omega) HMB.out).trans HX2.out⟩, HGE.out, S3.out, ?_⟩⟩
    exact (HBL.out.grown HG2.out HBL.out.size fun k e => by have := (HOV.out.lt e).1; omega).setCell (p := ⟨m, 0, none⟩) (by show _ ≤ m; omega) _
  · rintro X ⟨L, hfin, hgd, ⟨v, hbx, hov⟩, hbl⟩ hD
    rw [qs] at hD
    have c2 := hbx.cell
    have HOV := Lib.hid hov
    have HBL := Lib.hid hbl
    clear hbx hov hbl q1 q2 q3 hIt
    go_wp2
    refine ⟨by simp, .inl ⟨_, _, rfl, run_takeDeferred hD, ?_⟩⟩
    refine ⟨_, results_tmp rfl _ _ _, _, L, rfl, ?_, ?_, hgd, hfin⟩
    · refine own_base (own_same HOV.out fun k hk _ => ?_) fun k hk => ?_
      · exact World.putObj_heap_other (by have := (HOV.out.lt hk).1; omega)
      · have := (HOV.out.lt hk).1; omega
    · exact HBL.out.grown (grownBy_putObj' _ _ _) HBL.out.size fun k e => by cases e; omega
theorem Collect_keys {t : Bool} (kb mb n : Nat) (w0 w : World) (kept : Int → Int → Option Mk) (hM : Mp w0 t mb n kept) (hn9 : n ≤ 5000000) (h1 : Hid (Boxed w kb 59 (.map (some mb)))) (h2 : Hid (w.heap[mb]? = w0.heap[mb]?)) : Calls Try.prog 48 #[keysV kb] w (NewP w kept n) := by
  have HA := Lib.hid (AppendSeq_keys kb mb n w0 w kept hM hn9 h1 h2)
  unfold keysV at HA ⊢
  go_enter Try.func48, Try.ntmps48
  go_wp2_with (go_at_call 57; refine HA.out.mono ?_; rintro e w' ⟨v, L, rfl, ho, hb, hg, hf⟩; have HGF := Lib.hid (And.intro hg hf); clear hg hf)
  go_ret
  exact ⟨v, L, rfl, ho, hb, HGF.out.1, HGF.out.2⟩
end Go.Proofs.Ythajocfgpodimaa.Se
/- seen.compare: slices.Compare of two places; the order of places. -/
namespace Go.Proofs.Ythajocfgpodimaa.Se
open Go.RowKit Go.Sort Go.Shelf
open Go.Proofs.Ythajocfgpodimaa.Me Go.Proofs.Ythajocfgpodimaa.Sb
set_option linter.unusedVariables false
set_option linter.unusedSimpArgs false

def cmp1 (x y : Int) : Int := if x < y then -1 else if y < x then 1 else 0
theorem cmp1_self (x : Int) : cmp1 x x = 0 := by unfold cmp1; simp
theorem cmp1_ne {x y : Int} (h : x ≠ y) : cmp1 x y ≠ 0 := by
  unfold cmp1
  by_cases h1 : x < y
  · rw [if_pos h1]; decide
  · rw [if_neg h1, if_pos (by omega)]; decide
def cfP (a b : Int × Int) : Int := if a.1 = b.1 then cmp1 a.2 b.2 else cmp1 a.1 b.1
/-- A place is ahead of another. -/
def ltP (a b : Int × Int) : Prop := a.1 < b.1 ∨ (a.1 = b.1 ∧ a.2 < b.2)
theorem cmp1_neg {x y : Int} : cmp1 x y < 0 ↔ x < y := by
  unfold cmp1
  by_cases h1 : x < y
  · rw [if_pos h1]; simp [h1]
  · rw [if_neg h1]
    by_cases h2 : y < x
    · rw [if_pos h2]; omega
    · rw [if_neg h2]; omega
theorem cfP_neg {a b : Int × Int} : cfP a b < 0 ↔ ltP a b := by
  unfold cfP ltP
  by_cases h : a.1 = b.1
  · rw [if_pos h, cmp1_neg]; omega
  · rw [if_neg h, cmp1_neg]; omega
theorem ltOf_cfP {a b : Int × Int} : ltOf cfP a b = true ↔ ltP a b := by unfold ltOf; rw [decide_eq_true_iff]; exact cfP_neg
theorem swoP : SWO (ltOf cfP) where
  irrefl x := by
    cases h : ltOf cfP x x
    · rfl
    · have := ltOf_cfP.1 h
      unfold ltP at this; omega
  trans x y z h1 h2 := by
    rw [ltOf_cfP] at *
    unfold ltP at *; omega
  ntrans x y z h1 h2 := by
    have k1 : ¬ ltP x y := fun h => by rw [ltOf_cfP.2 h] at h1; cases h1
    have k2 : ¬ ltP y z := fun h => by rw [ltOf_cfP.2 h] at h2; cases h2
    cases h : ltOf cfP x z
    · rfl
    · have := ltOf_cfP.1 h
      unfold ltP at *; omega
/-- Number k of a place. -/
def ixP (p : Int × Int) (k : Nat) : Int := if k = 0 then p.1 else p.2
def ArP (W : World) (g : Nat) (p : Int × Int) : Prop := W.heap[g]? = some (.cells #[.int .i64 p.1, .int .i64 p.2] 63 (0, 0))
theorem ArP.cell {W : World} {g : Nat} {p : Int × Int} (h : ArP W g p) {k : Nat} (hk : k < 2) : W.cell? ⟨g, k, none⟩ = some (.int .i64 (ixP p k)) := by
  rw [cell_of_row W g k _ _ (0, 0) h]
  obtain rfl | rfl : k = 0 ∨ k = 1 := by omega
  all_goals rfl
theorem ArP.lt {W : World} {g : Nat} {p : Int × Int} (h : ArP W g p) : g < W.heap.size := (Array.getElem?_eq_some_iff.1 h).1
theorem cfP_at {a b : Int × Int} {k : Nat} (hk : k < 2) (h : ∀ j, j < k → ixP a j = ixP b j) (hn : ixP a k ≠ ixP b k) : cfP a b = cmp1 (ixP a k) (ixP b k) := by
  obtain rfl | rfl : k = 0 ∨ k = 1 := by omega
  · unfold cfP
    rw [if_neg (by simpa [ixP] using hn)]
    rfl
  · unfold cfP
    rw [if_pos (by simpa [ixP] using h 0 (by omega))]
    rfl
theorem cfP_eq {a b : Int × Int} (h : ∀ j, j < 2 → ixP a j = ixP b j) : cfP a b = 0 := by
  have h0 := h 0 (by omega)
  have h1 := h 1 (by omega)
  simp only [ixP] at h0 h1
  unfold cfP
  rw [if_pos (by simpa using h0)]
  have : a.2 = b.2 := by simpa using h1
  rw [this, cmp1_self]
theorem cmp_any (x y : Int) (w : World) : Calls Try.prog 60 #[.int .i64 x, .int .i64 y] w fun e w' => e = .returned (.int .i64 (cmp1 x y)) ∧ w' = w := by
  unfold cmp1
  by_cases h1 : x < y
  · rw [if_pos h1]
    go_enter Try.func60, Try.ntmps60
    go_wp2
    go_ret
    exact ⟨rfl, rfl⟩
  · rw [if_neg h1]
    by_cases h2 : y < x
    · rw [if_pos h2]
      go_enter Try.func60, Try.ntmps60
      go_wp2
      go_ret
      exact ⟨rfl, rfl⟩
    · rw [if_neg h2]
      go_enter Try.func60, Try.ntmps60
      go_wp2
      go_ret
      exact ⟨rfl, rfl⟩
set_option maxHeartbeats 2000000 in
theorem Compare_any (a b : Int × Int) (g1 g2 : Nat) (w : World) (h1 : Hid (ArP w g1 a)) (h2 : Hid (ArP w g2 b)) : Calls Try.prog 51 #[.slice (some ⟨g1, 0, none⟩) 2 2, .slice (some ⟨g2, 0, none⟩) 2 2] w fun e w' => e = .returned (.int .i64 (cfP a b)) ∧ w' = w := by
  obtain ⟨Z, hZ⟩ : ∃ Z, cfP a b = Z := ⟨_, rfl⟩
  have HZ := Lib.hid hZ
  rw [hZ]
  clear hZ
  go_enter Try.func51, Try.ntmps51
  go_wp2
  go_loopw [11] (fun v wr => ∃ k : Nat, k ≤ 2 ∧ v = .int .i64 k ∧ Hid (∀ j, j < k → ixP a j = ixP b j) ∧ Hid (wr = w)) (fun v _ => 2 - (intOf v).toNat)
  case atStart => exact ⟨0, by omega, rfl, fun j hj => absurd hj (by omega), by first | exact rfl | trivial⟩
  case round =>
    obtain ⟨k, hk, rfl, HEq, HB⟩ := hrel
    obtain rfl := HB.out
    by_cases hlt : k < 2
    · have c1 := h1.out.cell hlt
      have c2 := h2.out.cell hlt
      have q1 : (k : Int) < 2 := by omega
      have HC := Lib.hid (fun W => cmp_any (ixP a k) (ixP b k) W)
      by_cases he : ixP a k = ixP b k
      · have HE := Lib.hid he
        rw [he, cmp1_self] at HC
        obtain ⟨x, hx⟩ : ∃ x, ixP a k = x := ⟨_, rfl⟩
        obtain ⟨y, hy⟩ : ∃ y, ixP b k = y := ⟨_, rfl⟩
        rw [hx] at c1
        rw [hy] at c2 HC
        have exy : x = y := by rw [← hx, ← hy]; exact he
        subst exy
        clear he hx hy
        go_wp2_with (go_at_call 60; refine (HC.out _).mono ?_; rintro e w1 ⟨rfl, rfl⟩)
        go_roundw
        case rel => exact ⟨k + 1, by omega, by go_num, (fun j hj => by
          by_cases e : j = k
          · subst e; exact HE.out
          · exact HEq.out j (by omega)), by first | exact rfl | trivial⟩
        case measure => simp [intOf]; omega
      · have hR : Z = cmp1 (ixP a k) (ixP b k) := HZ.out.symm.trans (cfP_at hlt HEq.out he)
        have hnz := cmp1_ne he
        obtain ⟨z, hz⟩ : ∃ z, cmp1 (ixP a k) (ixP b k) = z := ⟨_, rfl⟩
        rw [hz] at HC hnz hR
        have HR := Lib.hid hR
        obtain ⟨x, hx⟩ : ∃ x, ixP a k = x := ⟨_, rfl⟩
        obtain ⟨y, hy⟩ : ∃ y, ixP b k = y := ⟨_, rfl⟩
        rw [hx] at c1 HC
        rw [hy] at c2 HC
        have g1 : (z == 0) = false := by simpa using hnz
        clear he hx hy hz hR
        go_wp2_with (go_at_call 60; refine (HC.out _).mono ?_; rintro e w1 ⟨rfl, rfl⟩)
        go_ret
        exact ⟨congrArg (fun x => Ending.returned (Value.int .i64 x)) HR.out.symm, rfl⟩
    · obtain rfl : k = 2 := by omega
      have HR : Hid (Z = 0) := HZ.out.symm.trans (cfP_eq HEq.out)
      go_wp2
      go_ret
      exact ⟨congrArg (fun x => Ending.returned (Value.int .i64 x)) HR.out.symm, rfl⟩
set_option maxHeartbeats 1000000 in
/-- seen.compare. -/
theorem compare_any (a b : Int × Int) (W : World) : Calls Try.prog 38 #[.agg #[.int .i64 a.1, .int .i64 a.2], .agg #[.int .i64 b.1, .int .i64 b.2]] W fun e w' => e = .returned (.int .i64 (cfP a b)) ∧ ∃ q os', w' = grow (W.drewN q) os' := by
  obtain ⟨W2, hW2⟩ : ∃ W2, (W.alloc (.cells #[.int .i64 a.1, .int .i64 a.2] 63)).alloc (.cells #[.int .i64 b.1, .int .i64 b.2] 63) = W2 := ⟨_, rfl⟩
  have h1 : ArP W2 W.heap.size a := by
    rw [← hW2]
    exact (Below.heap_alloc _ _ _ (by simp)).trans (heap_alloc_new W _)
  have h2 : ArP W2 (W.heap.size + 1) b := by
    rw [← hW2]
    have := heap_alloc_new (W.alloc (.cells #[.int .i64 a.1, .int .i64 a.2] 63)) (.cells #[.int .i64 b.1, .int .i64 b.2] 63)
    rw [World.size_alloc] at this
    exact this
  have H1 : ∀ n, Hid (ArP (W2.drewN n) W.heap.size a) := fun n => ((Me.below_drewN (Below.refl W2.heap.size W2) n).block _ h1.lt).trans h1
  have H2 : ∀ n, Hid (ArP (W2.drewN n) (W.heap.size + 1) b) := fun n => ((Me.below_drewN (Below.refl W2.heap.size W2) n).block _ h2.lt).trans h2
  have HC := Lib.hid (fun n => Compare_any a b W.heap.size (W.heap.size + 1) (W2.drewN n) (H1 n) (H2 n))
  have HW2 := Lib.hid hW2
  obtain ⟨Z, hZ⟩ : ∃ Z, cfP a b = Z := ⟨_, rfl⟩
  rw [hZ] at HC ⊢
  clear h1 h2 H1 H2 hW2 hZ
  go_enter Try.func38, Try.ntmps38
  go_wp2
  rw [HW2.out]
  go_quiet ((go_at_call 51; first | exact (HC.out _).mono fun _ _ h => ⟨h.1, _, h.2⟩ | exact (HC.out _).mono fun _ _ h => ⟨h.1, _, h.2.symm⟩ | exact quiet (HC.out _)))
  go_wp2
  go_ret
  rw [← HW2.out]
  exact ⟨rfl, nq, _, by rw [alloc_eq_grow, alloc_eq_grow, grow_grow]; rfl⟩
end Go.Proofs.Ythajocfgpodimaa.Se
