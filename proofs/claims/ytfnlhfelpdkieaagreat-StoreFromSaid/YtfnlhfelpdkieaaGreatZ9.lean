/- A set in memory: its box, its map of marks, their lists. -/
import Derived.Test.YtfnlhfelpdkieaaGreatZ4
import Derived.Test.YtfnlhfelpdkieaaGreatZ3
import Derived.Test.YtfnlhfelpdkieaaGreatZ10
import Derived.Test.YtfnlhfelpdkieaaGreatZ5
import Derived.WideKeyPair
import Derived.Maps.OwnSet
import Derived.Sort.MapsRangeIn
import Derived.WalkLawsBesides
import Derived.Maps.OwnIn
import Derived.Shelf.SlSortCmp.InsertionK
namespace Go.Proofs.YtfnlhfelpdkieaaGreat.Se
open Go.RowKit Go.Maps Go.WideElems
open Go.Proofs.YtfnlhfelpdkieaaGreat.Me Go.Proofs.YtfnlhfelpdkieaaGreat.Sb
set_option linter.unusedVariables false
set_option linter.unusedSimpArgs false

/-! ### Keys -/
abbrev RV : Value → Option (DataW Value × List MemPlace) := fun v => some (.held v, [])
theorem arr : WideMaps.ArrKey Tryz.prog 128 3 2 := ⟨Tryz.underlying128, by kernel_rfl, by kernel_rfl, by kernel_rfl⟩
theorem keyed : Keyed Tryz.prog 128 := Keyed.of_law arr.law
def kl (o e : Int) : Lit := .string (keyBytes [.int .i64 o, .int .i64 e])
theorem Pp.wf {o e : Int} (h : Pp o e) : (Lit.int .i64 o).wf = true ∧ (Lit.int .i64 e).wf = true := by
  obtain ⟨h1, h2, h3, h4⟩ := h
  exact ⟨WalkArith.wf_i64 (by omega), WalkArith.wf_i64 (by omega)⟩
theorem types_pos : ∃ m, Tryz.prog.types.size = m + 1 := by
  have h : 0 < Tryz.prog.types.size := of_decide_eq_true (by kernel_rfl)
  exact ⟨Tryz.prog.types.size - 1, by omega⟩
theorem key_of {o e : Int} (h : Pp o e) : keyOf Tryz.prog 128 (.agg #[.int .i64 o, .int .i64 e]) = some (kl o e) := WideMaps.keyOf_pair arr Tryz.underlying3 types_pos h.wf.1 h.wf.2
theorem key_lit (o e : Int) : WideAt.IsKeyLit (kl o e) := trivial
theorem kl_inj {o e a b : Int} (h : Pp o e) (k : Pp a b) (hk : kl o e = kl a b) : o = a ∧ e = b := by
  have := _root_.Go.keyBytes_inj (l := [.int .i64 o, .int .i64 e]) (l' := [.int .i64 a, .int .i64 b]) ⟨rfl, rfl, trivial⟩ (by
    intro x hx
    simp only [List.mem_cons, List.not_mem_nil, or_false] at hx
    rcases hx with rfl | rfl
    · exact h.wf.1
    · exact h.wf.2) (by
    intro x hx
    simp only [List.mem_cons, List.not_mem_nil, or_false] at hx
    rcases hx with rfl | rfl
    · exact k.wf.1
    · exact k.wf.2) (by injection hk)
  simpa using this
/-! ### Lists -/
/-- A slice of numbers that lies in a block of such. -/
def Sl (w : World) (A : Option Addr) (c : Nat) (l : List Int) : Prop :=
  l.length ≤ c ∧ c ≤ 9223372036854775807 ∧ (A = none → l = [] ∧ c = 0) ∧ ∀ a, A = some a → ∃ g off, a = ⟨g, off, none⟩ ∧ (∃ cur, w.heap[g]? = some (.cells cur 3 (0, 0))) ∧ ∀ i, i < l.length → w.cell? ⟨g, off + i, none⟩ = some (.int .i64 (l.getD i 0))
/-- What leaves all blocks of numbers alone. -/
def Ints (w w' : World) : Prop := ∀ (k : Nat) (cs : Array Value), w.heap[k]? = some (.cells cs 3 (0, 0)) → w'.heap[k]? = w.heap[k]?
theorem Ints.refl (w : World) : Ints w w := fun _ _ _ => rfl
theorem Ints.trans {w w' w'' : World} (h : Ints w w') (k : Ints w' w'') : Ints w w'' := fun x cs hx => (k x cs ((h x cs hx).trans hx)).trans (h x cs hx)
theorem Ints.below {w w' : World} (h : Below w.heap.size w w') : Ints w w' := fun k cs hk => h.block k (Array.getElem?_eq_some_iff.1 hk).1
theorem Ints.but {S : Nat → Prop} {w w' : World} (h : But S w w') (hS : ∀ (k : Nat) (cs : Array Value), w.heap[k]? = some (.cells cs 3 (0, 0)) → ¬ S k) : Ints w w' := fun k cs hk => h.same k (Array.getElem?_eq_some_iff.1 hk).1 (hS k cs hk)
theorem Sl.keep {w w' : World} {A : Option Addr} {c : Nat} {l : List Int} (h : Sl w A c l) (hi : Ints w w') : Sl w' A c l :=
  ⟨h.1, h.2.1, h.2.2.1, fun a ha => by
    obtain ⟨g, off, e, ⟨cur, hc⟩, hr⟩ := h.2.2.2 a ha
    have hk := hi g cur hc
    exact ⟨g, off, e, ⟨cur, hk.trans hc⟩, fun i hl => (World.cell?_of_block (w := w) (a := ⟨g, off + i, none⟩) hk).trans (hr i hl)⟩⟩
theorem Sl.nil (w : World) : Sl w none 0 [] := ⟨Nat.le_refl _, by omega, fun _ => ⟨rfl, rfl⟩, fun a e => by cases e⟩
/-- A mark as a value; tight: no room behind its list. -/
def El (w : World) (t : Bool) (v : Value) (m : Mk) : Prop := ∃ A c, v = .agg #[.int .i64 m.up, .slice A m.more.length c] ∧ (t = true → c = m.more.length) ∧ Sl w A c m.more
theorem El.keep {w w' : World} {t : Bool} {v : Value} {m : Mk} (h : El w t v m) (hi : Ints w w') : El w' t v m := by
  obtain ⟨A, c, e, h1, h2⟩ := h
  exact ⟨A, c, e, h1, h2.keep hi⟩
theorem El.zero (w : World) (t : Bool) : El w t (.agg #[.int .i64 0, .slice none 0 0]) ⟨0, []⟩ := ⟨none, 0, rfl, fun _ => rfl, Sl.nil w⟩
theorem zeroMk (w : World) : (zeroValue 126).run Tryz.prog w = .ok (.agg #[.int .i64 0, .slice none 0 0]) w := by kernel_rfl
/-! ### The map -/
structure Vw (w : World) (t : Bool) (D : DataW Value) (kept : Int → Int → Option Mk) : Prop where
  keys : ∀ l : Lit, Maps.has D l = true → ∃ o e, l = kl o e ∧ Pp o e ∧ kept o e ≠ none
  no : ∀ o e, Pp o e → kept o e = none → Maps.has D (kl o e) = false
  yes : ∀ o e m, Pp o e → kept o e = some m → Maps.has D (kl o e) = true ∧ ∃ v, (∀ z, D.atKey (kl o e) z = .held v) ∧ El w t v m
def Mp (w : World) (t : Bool) (b n : Nat) (kept : Int → Int → Option Mk) : Prop := ∃ D, w.ownsMap Tryz.prog 128 RV b n D ∧ Vw w t D kept
theorem Vw.keep {w w' : World} {t : Bool} {D : DataW Value} {kept : Int → Int → Option Mk} (h : Vw w t D kept) (hi : Ints w w') : Vw w' t D kept :=
  ⟨h.keys, h.no, fun o e m hp hk => ⟨(h.yes o e m hp hk).1, by obtain ⟨v, h1, h2⟩ := (h.yes o e m hp hk).2; exact ⟨v, h1, h2.keep hi⟩⟩⟩
theorem Mp.lt {w : World} {t : Bool} {b n : Nat} {kept : Int → Int → Option Mk} (h : Mp w t b n kept) : b < w.heap.size := by
  obtain ⟨D, h1, _⟩ := h
  exact h1.lt
theorem Mp.isMap {w : World} {t : Bool} {b n : Nat} {kept : Int → Int → Option Mk} (h : Mp w t b n kept) : ∃ es c, w.heap[b]? = some (.map es c) := by
  obtain ⟨D, ⟨es, clock, hb, _⟩, _⟩ := h
  exact ⟨es, clock, hb⟩
theorem Mp.keep {w w' : World} {t : Bool} {b n : Nat} {kept : Int → Int → Option Mk} (h : Mp w t b n kept) (hb : w'.heap[b]? = w.heap[b]?) (hi : Ints w w') : Mp w' t b n kept := by
  obtain ⟨D, ⟨es, clock, hb', r⟩, hv⟩ := h
  exact ⟨D, ⟨es, clock, hb.trans hb', r⟩, hv.keep hi⟩
theorem Mp.made (w : World) (t : Bool) : Mp (w.alloc (.map #[] 0)) t w.heap.size 0 fun _ _ => none := by
  refine ⟨.map [], World.ownsMap_made w Tryz.prog 128 RV, fun l hl => ?_, fun o e _ _ => rfl, fun o e m _ hk => by cases hk⟩
  simp [Maps.has] at hl
/-- 'm[k]'. -/
theorem Mp.look {w : World} {t : Bool} {b n : Nat} {kept : Int → Int → Option Mk} (h : Mp w t b n kept) {o e : Int} (hp : Pp o e) :
    ∃ v, El w t v (getM kept o e) ∧ ∀ W : World, W.heap[b]? = w.heap[b]? → (Instr.lookup 115 (.map (some b)) (.agg #[.int .i64 o, .int .i64 e]) false).run Tryz.prog W = .ok v W := by
  obtain ⟨D, ⟨es, clock, hb, r⟩, hv⟩ := h
  cases hk : kept o e with
  | none =>
    refine ⟨.agg #[.int .i64 0, .slice none 0 0], by unfold getM; rw [hk]; exact El.zero w t, fun W hW => ?_⟩
    have how : W.ownsMap Tryz.prog 128 RV b n D := ⟨es, clock, hW.trans hb, r⟩
    obtain ⟨v, ps, h1, h2⟩ := how.lookup keyed Tryz.underlying115 (zeroMk W) (zd := .held (.agg #[.int .i64 0, .slice none 0 0])) (zp := []) rfl (key_of hp)
    rw [atKey_of_not_has (hv.no o e hp hk)] at h2
    simp only [Option.some.injEq, Prod.mk.injEq, DataW.held.injEq] at h2
    rw [h2.1] at h1
    exact h1
  | some m =>
    obtain ⟨hh, v, h3, h4⟩ := hv.yes o e m hp hk
    refine ⟨v, by unfold getM; rw [hk]; exact h4, fun W hW => ?_⟩
    have how : W.ownsMap Tryz.prog 128 RV b n D := ⟨es, clock, hW.trans hb, r⟩
    obtain ⟨v', ps, h1, h2⟩ := how.lookup keyed Tryz.underlying115 (zeroMk W) (zd := .held (.agg #[.int .i64 0, .slice none 0 0])) (zp := []) rfl (key_of hp)
    rw [h3] at h2
    simp only [Option.some.injEq, Prod.mk.injEq, DataW.held.injEq] at h2
    rw [h2.1] at h1
    exact h1
theorem but_turned {w w' : World} {b : Nat} (h : w.mapTurned w' b) : But (fun k => k = b) w w' ∧ w'.heap.size = w.heap.size := by
  have hg := h.grown
  refine ⟨⟨hg.os, hg.tape, hg.output, hg.size, fun k hk hn => hg.block k hk fun e => hn (by cases e; rfl)⟩, ?_⟩
  obtain ⟨es, clock, es', clock', hb, rfl⟩ := h
  simp [ChangeMaps.setBlock]
theorem Mp.put {w : World} {t : Bool} {b n : Nat} {kept : Int → Int → Option Mk} (h : Mp w t b n kept) (hn : n ≤ 1000000000) {o e : Int} (hp : Pp o e) {v : Value} {m : Mk} (hv : El w t v m) :
    ∃ w', (Instr.mapUpdate 115 (.map (some b)) (.agg #[.int .i64 o, .int .i64 e]) v).run Tryz.prog w = .ok () w' ∧ Mp w' t b (n + 1) (setM kept o e m) ∧ But (fun k => k = b) w w' ∧ w'.heap.size = w.heap.size := by
  have hm := h.isMap
  obtain ⟨D, how, hvw⟩ := h
  obtain ⟨w', h1, h2, h3⟩ := how.store keyed Tryz.underlying115 (by unfold maxLen; omega) (key_of hp) (val := v) (d := .held v) (ps := []) rfl
  obtain ⟨b1, b2⟩ := but_turned h3
  have hI := how.isMap
  have hi : Ints w w' := Ints.but b1 fun k cs hk e => by
    subst e
    obtain ⟨es, c, hm⟩ := hm
    rw [hm] at hk; cases hk
  have hvw' : Vw w' t (D.put (kl o e) (.held v)) (setM kept o e m) := by
    refine ⟨fun l hl => ?_, fun a b hab hk => ?_, fun a b q hab hk => ?_⟩
    · by_cases he : l = kl o e
      · exact ⟨o, e, he, hp, by simp [setM]⟩
      · rw [has_put_other he] at hl
        obtain ⟨a, b, e1, e2, e3⟩ := hvw.keys l hl
        refine ⟨a, b, e1, e2, ?_⟩
        unfold setM
        split
        · simp
        · exact e3
    · unfold setM at hk
      split at hk
      · cases hk
      · rename_i hne
        rw [has_put_other (fun he => hne (kl_inj hab hp he))]
        exact hvw.no a b hab hk
    · unfold setM at hk
      split at hk
      · rename_i he
        cases hk
        obtain ⟨rfl, rfl⟩ := he
        exact ⟨has_put_same hI (key_lit _ _) _, v, fun z => atKey_put_same hI (key_lit _ _) _ _, hv.keep hi⟩
      · rename_i hne
        have hk' : kl a b ≠ kl o e := fun he => hne (kl_inj hab hp he)
        obtain ⟨y1, u, y2, y3⟩ := hvw.yes a b q hab hk
        exact ⟨by rw [has_put_other hk']; exact y1, u, fun z => by rw [atKey_put_other hk']; exact y2 z, y3.keep hi⟩
  exact ⟨w', h1, ⟨_, h2, hvw'⟩, b1, b2⟩
theorem putW {w : World} {o : Oper} {a : Act} {K : Act → World → Prop} {Q : Exit → Act → World → Prop} (m x v : Operand) (ho : o.op = .mapUpdate 115 m x v)
    (t : Bool) (b n : Nat) (kept : Int → Int → Option Mk) (oo ee : Int) (q : Mk) (u : Value) (hm : a.eval m = .map (some b)) (hx : a.eval x = .agg #[.int .i64 oo, .int .i64 ee]) (hv : a.eval v = u) (hM : Mp w t b n kept) (hn : n ≤ 1000000000) (hp : Pp oo ee) (hE : El w t u q)
    (h : ∀ w', Mp w' t b (n + 1) (setM kept oo ee q) → But (fun k => k = b) w w' → w'.heap.size = w.heap.size → K (a.put o.dst undef) w') : o.wp Tryz.prog a w K Q := by
  obtain ⟨w', hr, h1, h2, h3⟩ := hM.put hn hp hE
  unfold Oper.wp execOp
  simp only [ho, Sem.run_bind, Sem.run_pure, Result.andThen_ok, hm, hx, hv, hr]
  exact h w' h1 h2 h3
/-! ### The set -/
structure Set (w : World) (t : Bool) (D b n : Nat) (s : St) : Prop where
  box : w.heap[D]? = some (.cells #[.int .i64 s.room, .int .i64 s.gaps, .map (some b)] 117 (0, 0))
  map : Mp w t b n s.kept
  ok : Okk s
theorem Set.keep {w w' : World} {t : Bool} {D b n : Nat} {s : St} (h : Set w t D b n s) (hD : w'.heap[D]? = w.heap[D]?) (hb : w'.heap[b]? = w.heap[b]?) (hi : Ints w w') : Set w' t D b n s := ⟨hD.trans h.box, h.map.keep hb hi, h.ok⟩
theorem Set.lt {w : World} {t : Bool} {D b n : Nat} {s : St} (h : Set w t D b n s) : D < w.heap.size ∧ b < w.heap.size := ⟨(Array.getElem?_eq_some_iff.1 h.box).1, h.map.lt⟩
theorem Set.below {w w' : World} {t : Bool} {D b n : Nat} {s : St} (h : Set w t D b n s) (hb : Below w.heap.size w w') : Set w' t D b n s := h.keep (hb.block _ h.lt.1) (hb.block _ h.lt.2) (Ints.below hb)
theorem Set.ne {w : World} {t : Bool} {D b n : Nat} {s : St} (h : Set w t D b n s) : D ≠ b := fun e => by
  obtain ⟨es, c, hm⟩ := h.map.isMap
  have := h.box
  rw [e, hm] at this
  cases this
theorem set_cells {w : World} {D b : Nat} {r g : Int} (h : w.heap[D]? = some (.cells #[.int .i64 r, .int .i64 g, .map (some b)] 117 (0, 0))) : w.cell? ⟨D, 0, none⟩ = some (.int .i64 r) ∧ w.cell? ⟨D, 1, none⟩ = some (.int .i64 g) ∧ w.cell? ⟨D, 2, none⟩ = some (.map (some b)) :=
  ⟨cell_of_row w D 0 _ _ (0, 0) h, cell_of_row w D 1 _ _ (0, 0) h, cell_of_row w D 2 _ _ (0, 0) h⟩
end Go.Proofs.YtfnlhfelpdkieaaGreat.Se
/- maps.Keys over a set's map: its iterator. -/
namespace Go.Proofs.YtfnlhfelpdkieaaGreat.Se
open Go.RowKit Go.Maps
open Go.Proofs.YtfnlhfelpdkieaaGreat.Me Go.Proofs.YtfnlhfelpdkieaaGreat.Sb Go.Proofs.YtfnlhfelpdkieaaGreat.It
set_option linter.unusedVariables false
set_option linter.unusedSimpArgs false
attribute [local go_sem] Oper.semAt_some

/-- An origin and an epoch as a value. -/
def plV (p : Int × Int) : Value := .agg #[.int .i64 p.1, .int .i64 p.2]
section
variable {P : Program} {k e : TypeId} {q : IntKind}
theorem lits_int (he : P.underlying e = some (.int q)) {d : Nat} {c : Value} {ls : List Lit} (h : Program.keyLits P (d + 1) e [c] = some ls) : ∃ n : Int, c = .int q n ∧ (Lit.int q n).wf = true ∧ ls = [.int q n] := by
  unfold Program.keyLits at h
  simp only [he] at h
  cases c <;> simp at h
  obtain ⟨⟨rfl, h1⟩, h2⟩ := h
  exact ⟨_, rfl, h1, h2.symm⟩
theorem keyOf_inv2 (A : WideMaps.ArrKey P k e 2) (he : P.underlying e = some (.int q)) (hsz : ∃ m, P.types.size = m + 1) {v : Value} {l : Lit} (h : keyOf P k v = some l) : ∃ a b : Int, v = .agg #[.int q a, .int q b] ∧ (Lit.int q a).wf = true ∧ (Lit.int q b).wf = true ∧ l = .string (keyBytes [.int q a, .int q b]) := by
  unfold keyOf at h
  simp only [A.hu] at h
  split at h
  · rename_i hc
    rw [Bool.and_eq_true] at hc
    have hf := hc.2
    cases v with
    | agg cs =>
      simp only [Value.formed, A.hu, A.size, beq_iff_eq] at hf
      obtain ⟨l'⟩ := cs
      match l', hf with
      | [c0, c1], _ =>
        obtain ⟨m, hm⟩ := hsz
        rw [hm] at h
        unfold Program.keyLits at h
        simp only [A.hu, Value.cells] at h
        rw [if_pos (by rw [A.size]; rfl), show List.range 2 = [0, 1] from rfl, List.mapM_cons, List.mapM_cons, List.mapM_nil] at h
        simp only [bind, Option.bind_eq_some_iff, pure, Option.some.injEq, Option.map_eq_some_iff, A.one] at h
        obtain ⟨_, ⟨_, ⟨y0, h0, _, ⟨y1, h1, _, rfl, rfl⟩, rfl⟩, rfl⟩, rfl⟩ := h
        obtain ⟨a, ea, wa, rfl⟩ := lits_int he h0
        obtain ⟨b, eb, wb, rfl⟩ := lits_int he h1
        subst ea; subst eb
        exact ⟨a, b, rfl, wa, wb, rfl⟩
    | _ => simp [Value.formed, A.hu] at hf
  · cases h
end
theorem keyOf_inv {v : Value} {l : Lit} (h : keyOf Tryz.prog 128 v = some l) : ∃ a b : Int, v = .agg #[.int .i64 a, .int .i64 b] ∧ (Lit.int .i64 a).wf = true ∧ (Lit.int .i64 b).wf = true ∧ l = kl a b := keyOf_inv2 arr Tryz.underlying3 types_pos h
/-- What reads as the key of a place is that place. -/
theorem keyOf_place {v : Value} {o e : Int} (hp : Pp o e) (h : keyOf Tryz.prog 128 v = some (kl o e)) : v = plV (o, e) := by
  obtain ⟨a, b, rfl, wa, wb, hl⟩ := keyOf_inv h
  have := _root_.Go.keyBytes_inj (l := [.int .i64 o, .int .i64 e]) (l' := [.int .i64 a, .int .i64 b]) ⟨rfl, rfl, trivial⟩ (by
    intro x hx
    simp only [List.mem_cons, List.not_mem_nil, or_false] at hx
    rcases hx with rfl | rfl
    · exact hp.wf.1
    · exact hp.wf.2) (by
    intro x hx
    simp only [List.mem_cons, List.not_mem_nil, or_false] at hx
    rcases hx with rfl | rfl
    · exact wa
    · exact wb) (by injection hl)
  simp at this
  obtain ⟨rfl, rfl⟩ := this
  rfl
theorem ranges_same {X Y : World} {b r n : Nat} {D : DataW Value} {left : Lit → Bool} {cnt : Nat} (h : X.ranges Tryz.prog 128 RV b r n D left cnt) (hb : Y.heap[b]? = X.heap[b]?) (hr : Y.heap[r]? = X.heap[r]?) : Y.ranges Tryz.prog 128 RV b r n D left cnt := by
  obtain ⟨es, clock, since, seen, c0, q1, F, q2, q3, q4, rest⟩ := h
  exact ⟨es, clock, since, seen, c0, hb.trans q1, F, q2, q3, hr.trans q4, rest⟩
/-- The places L were handed out; the next one is handed out. -/
def stepK (kept : Int → Int → Option Mk) (n : Nat) (L : List (Int × Int)) (v : Value) (L' : List (Int × Int)) : Prop := ∃ p : Int × Int, Pp p.1 p.2 ∧ kept p.1 p.2 ≠ none ∧ v = plV p ∧ p ∉ L ∧ L' = L ++ [p] ∧ L.length < n
def finK (kept : Int → Int → Option Mk) (L : List (Int × Int)) : Prop := ∀ p : Int × Int, Pp p.1 p.2 → kept p.1 p.2 ≠ none → p ∈ L
/-- Which places are still to come. -/
def Lft (kept : Int → Int → Option Mk) (L : List (Int × Int)) (left : Lit → Bool) : Prop := ∀ p : Int × Int, Pp p.1 p.2 → (left (kl p.1 p.2) = true ↔ (kept p.1 p.2 ≠ none ∧ p ∉ L))
theorem Lft.next {kept : Int → Int → Option Mk} {L : List (Int × Int)} {left : Lit → Bool} {p : Int × Int} (h : Lft kept L left) (hp : Pp p.1 p.2) : Lft kept (L ++ [p]) (fun z => left z && !z.sameKey (kl p.1 p.2)) := by
  intro q hq
  by_cases e : q = p
  · subst e
    simp [WideAt.sameKey_self (key_lit q.1 q.2)]
  · have h1 : kl q.1 q.2 ≠ kl p.1 p.2 := fun hk => e (by obtain ⟨a, b⟩ := kl_inj hq hp hk; exact Prod.ext a b)
    simp only [sameKey_ne h1, Bool.not_false, Bool.and_true, List.mem_append, List.mem_singleton, e, or_false]
    exact h q hq
theorem Lft.start {w : World} {t : Bool} {D : DataW Value} {kept : Int → Int → Option Mk} (h : Vw w t D kept) : Lft kept [] (Maps.has D) := by
  intro p hp
  cases hk : kept p.1 p.2 with
  | none => simp [h.no _ _ hp hk]
  | some m => simp [(h.yes _ _ m hp hk).1]
set_option maxHeartbeats 1000000 in
theorem Keys_iter {t : Bool} (kb mb n : Nat) (w0 : World) (kept : Int → Int → Option Mk) (hM : Mp w0 t mb n kept) :
    IterS 100 #[.pointer (some ⟨kb, 0, none⟩)] 1 (fun X => X.cell? ⟨kb, 0, none⟩ = some (.map (some mb)) ∧ X.heap[mb]? = w0.heap[mb]?) ([] : List (Int × Int)) (stepK kept n) (finK kept) := by
  intro l W J Jx hJ hJx hR hY h0
  obtain ⟨D, how, hv⟩ := hM
  have hb0 := hR _ _ h0
  have hbox := hb0.1
  have how0 : W.ownsMap Tryz.prog 128 RV mb n D := by
    obtain ⟨es, clock, hb, r⟩ := how
    exact ⟨es, clock, hb0.2.trans hb, r⟩
  have HR := Lib.hid hR
  have HY := Lib.hid hY
  have HJ := Lib.hid hJ
  have HV := Lib.hid hv
  have HO := Lib.hid how0
  have HSZ := Lib.hid how0.size_le
  have hmW := how0.lt
  clear hR hY hJ hJx hv how0 hb0 how
  refine callsIn_of_wp Tryz.func100 rfl trivial ?_ rfl
  simp only [Tryz.ntmps100, List.size_toArray, List.length_cons, List.length_nil, Nat.reduceAdd, Nat.reduceSub, Array.replicate_succ, Array.replicate_zero, List.push_toArray, List.append_toArray, List.nil_append, List.cons_append]
  gi_wp2_with (gi_at_range; refine wpListIn_range_own _ rfl _ 115 rfl 128 126 keyed Tryz.underlying115 RV mb n D rfl HO.out ?_; intro w1 hrg hg hs)
  try go_frame
  gi_loopw [3] (fun v wr => ∃ L left cnt, wr.ranges Tryz.prog 128 RV mb W.heap.size n D left cnt ∧ J L wr ∧ Lft kept L left ∧ L.length + cnt ≤ n ∧ W.heap.size + 1 ≤ wr.heap.size) (fun v wr => wr.rangeLeft mb W.heap.size)
  case atStart => exact ⟨[], _, _, hrg, HJ.out [] W w1 none h0 hg (fun r e => by cases e), Lft.start HV.out, by have := HSZ.out; simpa using this, by omega⟩
  case round =>
    obtain ⟨L, left, cnt, hrg1, hj, hlf, hcn, hsz⟩ := hrel
    have HRG := Lib.hid hrg1
    have HLF := Lib.hid hlf
    clear hrg hg hs hbox h0
    gi_wp2_with (gi_at_next; refine wpListIn_next_ranges _ rfl _ rfl 128 keyed RV (fun x : Value => x) (fun v : Value => v) (fun key kl hk => ⟨key, rfl⟩) (fun v y h => ⟨v, rfl⟩) mb W.heap.size n D left cnt rfl HRG.out ?_ ?_)
    · intro hc0 hl0
      have hfin : finK kept L := fun p hp hk => by
        apply Classical.byContradiction
        intro hc
        have := (HLF.out p hp).2 ⟨hk, hc⟩
        rw [hl0] at this
        cases this
      gi_wp2
      go_end0
      exact ⟨⟨_, rfl⟩, .inl ⟨L, hfin, hj⟩⟩
    · intro x c kl' y1 y2 w2 cnt' hkey hlk e1 e2 hat hrg2 hlt hg2 hs2 hen
      obtain ⟨o, e, ekl, hp, hne⟩ := HV.out.keys _ (has_true_of_atKey hat)
      subst ekl
      obtain rfl := keyOf_place hp hkey
      have hl := (HLF.out (o, e) hp).1 hlk
      have hst : stepK kept n L (plV (o, e)) (L ++ [(o, e)]) := ⟨(o, e), hp, hl.1, rfl, hl.2, rfl, by omega⟩
      have hj2 : J L w2 := HJ.out L wr w2 _ hj hg2 fun r e => by cases e; omega
      have HJ2 := Lib.hid hj2
      have HST := Lib.hid hst
      have HRG2 := Lib.hid hrg2
      have HLT := Lib.hid hlt
      have HL2 := Lib.hid (HLF.out.next (p := (o, e)) hp)
      have HS2 := Lib.hid hs2
      have HB2 := Lib.hid (HR.out L w2 hj2)
      have HCN : Hid ((L ++ [(o, e)]).length + cnt' ≤ n) := by show _ ≤ _; rw [List.length_append]; simp; omega
      have hsz2 : W.heap.size + 1 ≤ w2.heap.size := by omega
      clear e1 e2 hat hkey hlk hl hst hj hrg2 hlt hs2 hg2 HLF hj2 hcn hne
      have hbl : Below w2.heap.size w2 (w2.alloc (.cells #[.int .i64 o, .int .i64 e] 128)) := Me.below_alloc (Below.refl _ _)
      have hj3 : J L (w2.alloc (.cells #[.int .i64 o, .int .i64 e] 128)) := (HJ.out L).below HJ2.out hbl
      have HB3 : Hid ((w2.alloc (.cells #[.int .i64 o, .int .i64 e] 128)).heap[mb]? = w0.heap[mb]?) := (HR.out L _ hj3).2
      have HB4 : Hid ((w2.alloc (.cells #[.int .i64 o, .int .i64 e] 128)).heap[W.heap.size]? = w2.heap[W.heap.size]?) := hbl.block _ (by omega)
      obtain ⟨fn, tmps, assign, body, hy, hRd⟩ := HY.out L (plV (o, e)) (L ++ [(o, e)]) _ HST.out hj3 (by simp; omega)
      have HRd := Lib.hid hRd
      clear hj3 hbl hRd
      have HSZ2 : Hid (W.heap.size < (w2.alloc (.cells #[.int .i64 o, .int .i64 e] 128)).heap.size ∧ w2.heap.size ≤ (w2.alloc (.cells #[.int .i64 o, .int .i64 e] 128)).heap.size) := ⟨by simp; omega, by simp⟩
      unfold plV at hen hy
      gi_wp2_with (refine ⟨trivial, rfl, ?_⟩)
      refine ⟨rfl, HRd.out.mono ?_⟩
      rintro e' W3 ⟨bb, rfl, hk3, ht, hf⟩
      cases bb with
      | true =>
        have hj3 := ht rfl
        have q1 := (HR.out _ W3 hj3).2.trans HB2.out.2.symm
        have q2 : W3.heap[W.heap.size]? = w2.heap[W.heap.size]? := (hk3.same _ (Nat.le_refl _) (by omega) HSZ2.out.1).trans HB4.out
        have HRG3 := Lib.hid (ranges_same HRG2.out q1 q2)
        have HSZ3 : Hid (W.heap.size + 1 ≤ W3.heap.size) := Nat.le_trans hsz2 (Nat.le_trans HSZ2.out.2 hk3.size)
        clear ht hf q1 q2 hen hy
        gi_wp2
        go_roundw
        case rel => exact ⟨L ++ [(o, e)], _, _, HRG3.out, hj3, HL2.out, HCN.out, HSZ3.out⟩
        case measure => rw [HRG3.out.left_eq, HRG.out.left_eq]; exact HLT.out
      | false =>
        have hj3 := hf rfl
        clear ht hf hen hy
        gi_wp2
        refine bodyPost_ret (results_none rfl _ _ _) rfl ?_
        exact ⟨⟨_, rfl⟩, .inr hj3⟩
end Go.Proofs.YtfnlhfelpdkieaaGreat.Se
/- slices.Collect of a set's map's keys: all places, each once. -/
namespace Go.Proofs.YtfnlhfelpdkieaaGreat.Se
open Go.RowKit Go.Maps
open Go.Proofs.YtfnlhfelpdkieaaGreat.Me Go.Proofs.YtfnlhfelpdkieaaGreat.Sb Go.Proofs.YtfnlhfelpdkieaaGreat.It
set_option linter.unusedVariables false
set_option linter.unusedSimpArgs false
attribute [local go_sem] Oper.semAt_some

abbrev Pls := List (Int × Int)
def plc (p : Int × Int) : List Value := [.int .i64 p.1, .int .i64 p.2]
def plsV (L : Pls) : List Value := L.flatMap plc
theorem plsV_snoc (L : Pls) (p : Int × Int) : plsV (L ++ [p]) = plsV L ++ plc p := by unfold plsV; rw [List.flatMap_append]; simp
theorem plsV_len (L : Pls) : (plsV L).length = L.length * 2 := by
  induction L with
  | nil => rfl
  | cons p r ih => unfold plsV at ih ⊢; rw [List.flatMap_cons, List.length_append, ih]; simp [plc]; omega
/-- A slice of places of the call's own. -/
def Kp (w : World) (B : Nat) (v : Value) (L : Pls) : Prop := w.ownsRow B 128 2 v L.length (plsV L)
theorem infoPl : (Tryz.prog.info? 128).map (fun i => (i.zero, i.size, i.bytes)) = some (some (.agg #[.int .i64 0, .int .i64 0]), 2, 16) := by kernel_rfl
theorem Kp.nil (w : World) (B : Nat) : Kp w B (.slice none 0 0) [] := ⟨rfl, .inl ⟨rfl, rfl⟩⟩
theorem Kp.lt {w : World} {B k : Nat} {v : Value} {L : Pls} (h : Kp w B v L) (hk : v.ownBlock = some k) : B ≤ k ∧ k < w.heap.size := World.ownsRow.lt h k hk
theorem Kp.form {w : World} {B : Nat} {v : Value} {L : Pls} (h : Kp w B v L) : ∃ A c, v = .slice A L.length c ∧ L.length ≤ c ∧ c ≤ 9223372036854775807 := by
  rcases h.2 with ⟨h1, h2⟩ | ⟨g, cap, cur, h1, h2, h3, h4, h5, h6, h7⟩
  · have : L = [] := by simpa using h2
    subst this
    exact ⟨none, 0, h1, Nat.le_refl _, Nat.zero_le _⟩
  · exact ⟨_, cap, h1, h4, by unfold maxLen at h5; omega⟩
theorem pl_new (w : World) (p : Int × Int) (T : TypeId) (fr : Nat × Nat) : ∀ j u, (plc p)[j]? = some u → (w.alloc (.cells #[.int .i64 p.1, .int .i64 p.2] T fr)).cell? ((⟨w.heap.size, 0, none⟩ : Addr).add j) = some u := by
  intro j u hu
  have h := cell_of_row (w.alloc (.cells #[.int .i64 p.1, .int .i64 p.2] T fr)) w.heap.size j #[.int .i64 p.1, .int .i64 p.2] T fr (heap_alloc_new w _)
  rw [add_mk, Nat.zero_add, h]
  simpa [plc] using hu
/-- A place appended in a round. -/
theorem appPlIn {F : Fence} {n : Nat} {w wl : World} {ops : Array Oper} {rest : List Oper} {o : Oper} {a : Act} {Q : Exit → Act → World → Prop} (hgd : o.guard = none) (s x : Operand)
    (ho : o.op = .call { callee := .builtin .append, args := #[s, x], argTypes := #[133, 133] })
    (B : Nat) (v : Value) (L : Pls) (p : Int × Int) (hs : a.eval s = v) (hw : w = wl.alloc (.cells #[.int .i64 p.1, .int .i64 p.2] 128)) (hown : Kp wl B v L) (hB : B ≤ wl.heap.size)
    (g : Nat) (hg : g = wl.heap.size) (hx : a.eval x = .slice (some ⟨g, 0, none⟩) 1 1) (hlen : L.length ≤ 10000000)
    (h : ∀ v' w', Kp w' B v' (L ++ [p]) → wl.grownBy w' v.ownBlock → wpListIn F n Tryz.prog ops Q rest (a.put o.dst v') w') : wpListIn F n Tryz.prog ops Q (o :: rest) a w := by
  obtain ⟨i0, hi, hz0, hz1, hz2⟩ := info_parts infoPl
  subst hw hg
  refine wpListIn_append_own_at (wl.alloc (.cells #[.int .i64 p.1, .int .i64 p.2] 128)) hgd s x 133 ho B 128 i0 (.agg #[.int .i64 0, .int .i64 0]) 2 16 Tryz.underlying133 hi hz0 hz1 hz2 rfl (by decide) v L.length (plsV L) hs (World.ownsRow.alloc hown _) ⟨wl.heap.size, 0, none⟩ 1 1 (plc p) hx rfl (pl_new wl p _ _) (by simp [plc, Value.oneCell']) (by unfold maxLen; omega) (by omega) (by simp; omega) ?_
  intro v' w' h1 h3 _ _
  refine h v' w' ?_ ⟨h3.os, h3.tape, h3.output, Nat.le_trans (by simp) h3.size, fun k hk hne => ?_⟩
  · unfold Kp
    rw [List.length_append, plsV_snoc]; exact h1
  · exact (h3.block k (by simp; omega) hne).trans (Below.heap_alloc wl _ k hk)
/-- The box of a list that grows. -/
def AccP (g B : Nat) (L : Pls) (X : World) : Prop := ∃ v, Boxed X g 133 v ∧ Kp X B v L
theorem AccP.abid {g B M : Nat} {L : Pls} (hg : g < B) : Abid B M (AccP g (B + M) L) := fun X Y row ⟨v, hb, ho⟩ hgr hr => by
  refine ⟨v, hb.kept hgr (fun e => by have := hr g e.symm; omega), World.ownsRow.kept ho hgr ?_⟩
  cases hv : v.ownBlock with
  | none => exact .inl rfl
  | some b => exact .inr (fun e => by have h1 := (ho.lt hv).1; have := hr b e.symm; omega)
theorem low_abid {w : World} {B M : Nat} (hB : w.heap.size ≤ B) : Abid B M fun X => Below w.heap.size w X := fun X Y row h hgr hr => h.grown hgr h.size fun k e => by have := hr k e; omega
theorem step_keepP {B M g : Nat} {X Y : World} {v v' : Value} {L L' : Pls} (hB : g < B) (hbox : Boxed X g 133 v) (ho : Kp X (B + M) v L) (hg : X.grownBy Y v.ownBlock) (ho' : Kp Y (B + M) v' L') :
    Boxed Y g 133 v ∧ KeepR B M X (Y.setCell ⟨g, 0, none⟩ v') ∧ AccP g (B + M) L' (Y.setCell ⟨g, 0, none⟩ v') ∧ ∀ b, b < B → b ≠ g → b < X.heap.size → (Y.setCell ⟨g, 0, none⟩ v').heap[b]? = X.heap[b]? := by
  have hne : ∀ b, b < B + M → some b ≠ v.ownBlock := fun b hb e => by have := (ho.lt e.symm).1; omega
  have hY : Boxed Y g 133 v := hbox.kept hg (fun e => by exact hne g (by omega) e)
  refine ⟨hY, ?_, ⟨v', hY.set v', own_same ho' fun k hk _ => ?_⟩, fun b hb hn hX => ?_⟩
  · refine ⟨Nat.le_trans hg.size (by simp), fun r h1 h2 h3 => ?_⟩
    exact (Below.heap_setCell Y _ _ r (by show r ≠ g; omega)).trans (hg.block r h3 (hne r (by omega)))
  · exact Below.heap_setCell Y _ _ k (by have := (ho'.lt hk).1; show k ≠ g; omega)
  · exact (Below.heap_setCell Y _ _ b hn).trans (hg.block b hX (hne b (by omega)))
/-- Some kept places, each once. -/
structure Good (kept : Int → Int → Option Mk) (n : Nat) (L : Pls) : Prop where
  all : ∀ p ∈ L, Pp p.1 p.2 ∧ kept p.1 p.2 ≠ none
  nd : L.Nodup
  le : L.length ≤ n
theorem Good.nil (kept : Int → Int → Option Mk) (n : Nat) : Good kept n [] := ⟨by simp, by simp, by simp⟩
theorem Good.step {kept : Int → Int → Option Mk} {n : Nat} {L L' : Pls} {v : Value} (h : Good kept n L) (hs : stepK kept n L v L') : Good kept n L' := by
  obtain ⟨p, h1, h2, _, h4, rfl, h5⟩ := hs
  refine ⟨fun x hx => ?_, ?_, by rw [List.length_append]; simp; omega⟩
  · rcases List.mem_append.mp hx with hx | hx
    · exact h.all x hx
    · obtain rfl : x = p := by simpa using hx
      exact ⟨h1, h2⟩
  · rw [List.nodup_append]
    exact ⟨h.nd, by simp, fun a ha b hb e => h4 (by simp at hb; rw [← hb, ← e]; exact ha)⟩
def keysV (kb : Nat) : Value := .func (.func 100) #[] #[.pointer (some ⟨kb, 0, none⟩)]
theorem Keys_any (mb : Nat) (w : World) : Calls Tryz.prog 74 #[.map (some mb)] w fun e w' => e = .returned (keysV w.heap.size) ∧ w' = w.alloc (.cells #[.map (some mb)] 115) := by
  go_enter Tryz.func74, Tryz.ntmps74
  go_wp2
  go_ret
  exact ⟨rfl, rfl⟩
/-- What a call answers that makes a new list of all kept places. -/
def NewP (w : World) (kept : Int → Int → Option Mk) (n : Nat) (e : Ending) (w' : World) : Prop := ∃ v L, e = .returned v ∧ Hid (Kp w' w.heap.size v L) ∧ Hid (Below w.heap.size w w') ∧ Good kept n L ∧ finK kept L
set_option maxHeartbeats 2000000 in
theorem AppendSeq_keys {t : Bool} (kb mb n : Nat) (w0 w : World) (kept : Int → Int → Option Mk) (hM : Mp w0 t mb n kept) (hn9 : n ≤ 5000000) (h1 : Hid (Boxed w kb 115 (.map (some mb)))) (h2 : Hid (w.heap[mb]? = w0.heap[mb]?)) : Calls Tryz.prog 111 #[.slice none 0 0, keysV kb] w (NewP w kept n) := by
  have hs1 := h1.out.lt
  have hs2 : mb < w.heap.size := by
    obtain ⟨es, c, hm⟩ := hM.isMap
    exact (Array.getElem?_eq_some_iff.1 (h2.out.trans hm)).1
  have hIt := Keys_iter kb mb n w0 kept hM
  unfold keysV
  refine (callsIn_wide (n := 0)).1 (callsIn_of_wp_marks Tryz.func111 rfl trivial ?_ rfl)
  simp only [Tryz.ntmps111, List.size_toArray, List.length_cons, List.length_nil, Nat.reduceAdd, Nat.reduceSub, Array.replicate_succ, Array.replicate_zero, List.push_toArray, List.append_toArray, List.nil_append, List.cons_append]
  refine wpIn_wide.2 ?_
  go_wp2
  have q1 := Boxed.new w 133 (.slice none 0 0)
  have q2 := h1.out.alloc (.cells #[.slice none 0 0] 133)
  have qb : Below w.heap.size w (w.alloc (.cells #[.slice none 0 0] 133)) := Me.below_alloc (Below.refl _ _)
  have q3 : (w.alloc (.cells #[.slice none 0 0] 133)).heap[mb]? = w0.heap[mb]? := (qb.block mb hs2).trans h2.out
  obtain ⟨m, hm⟩ : ∃ m, w.heap.size = m := ⟨_, rfl⟩
  have qs : (w.alloc (.cells #[.slice none 0 0] 133)).heap.size = m + 1 := by simp [hm]
  obtain ⟨W0, hW0⟩ : ∃ W0, w.alloc (.cells #[.slice none 0 0] 133) = W0 := ⟨_, rfl⟩
  rw [hm] at q1 hs1 hs2
  rw [hW0] at q1 q2 q3 qb qs ⊢
  have HNN := Lib.hid hm
  have hwn : w.heap.size ≤ m := by omega
  have hwn2 : m ≤ w.heap.size := by omega
  rw [hm] at ⊢
  clear hW0 hm
  refine range_blockSB (gf := 100) (lb := #[.pointer (some ⟨kb, 0, none⟩)]) rfl (enters_of Tryz.func100 (by kernel_rfl) rfl) hIt
    (fun L X => (Boxed X kb 115 (.map (some mb)) ∧ X.heap[mb]? = w0.heap[mb]?) ∧ Good kept n L ∧ (AccP m (W0.heap.size + 3) L X ∧ Below w.heap.size w X))
    (fun _ => False)
    (fun X => ∃ L, finK kept L ∧ Good kept n L ∧ AccP m (W0.heap.size + 3) L X ∧ Below w.heap.size w X)
    (fun k X Y row h hg hr => ⟨⟨h.1.1.kept hg (fun e => by have := hr _ e.symm; omega), (hg.block mb (by have := h.2.2.2.size; omega) (fun e => by have := hr _ e.symm; omega)).trans h.1.2⟩, h.2.1, AccP.abid (by omega) X Y row h.2.2.1 hg hr, low_abid (by omega) X Y row h.2.2.2 hg hr⟩)
    (fun _ _ _ h _ _ => h)
    (fun k X h => ⟨h.1.1.cell, h.1.2⟩)
    ⟨⟨q2, q3⟩, Good.nil _ _, ⟨_, q1, Kp.nil _ _⟩, qb⟩ (fun L X hf h => ⟨L, hf, h.2⟩) (fun X h => h.elim) ?_ ?_
  · intro l' L v L' X0 hst hI0 hX0
    have hX1 : m + 1 + 3 ≤ X0.heap.size := by omega
    have HX0 := Lib.hid hX0
    have HGD := Lib.hid hI0.2.1
    clear hI0 hX0
    obtain ⟨p, hp1, hp2, rfl, hp3, rfl, hp4⟩ := hst
    have HGE : Hid (Good kept n (L ++ [p])) := HGD.out.step ⟨p, hp1, hp2, rfl, hp3, rfl, hp4⟩
    have hLn : L.length ≤ 10000000 := by omega
    have HLn := Lib.hid hLn
    clear hp1 hp2 hp3 hp4 hLn
    obtain ⟨o, e⟩ := p
    unfold plV
    have HB1 : Hid (Below X0.heap.size X0 (X0.alloc (.cells #[.int .i64 o, .int .i64 e] 128))) := Me.below_alloc (Below.refl _ _)
    have HB2 : Hid ((X0.alloc (.cells #[.int .i64 o, .int .i64 e] 128)).heap[X0.heap.size]? = some (.cells #[.int .i64 o, .int .i64 e] 128 (0, 0))) := heap_alloc_new X0 _
    obtain ⟨gx, hgx⟩ : ∃ gx, X0.heap.size = gx := ⟨_, rfl⟩
    have HGX := Lib.hid hgx
    have HX1 : Hid (m + 1 + 3 ≤ gx) := by show _ ≤ _; omega
    gi_wp2
    refine ⟨HB1.out, ?_⟩
    rintro X ⟨⟨hx3, hx2⟩, _, ⟨v, hbx, hov⟩, hbl⟩ hsX hsame
    have e1 : X.heap[gx]? = some (.cells #[.int .i64 o, .int .i64 e] 128 (0, 0)) := by
      rw [hsame gx (by have := HX1.out; omega), ← HGX.out]
      exact HB2.out
    have e2 : X.cell? ⟨gx, 0, none⟩ = some (.int .i64 o) := cell_of_row X gx 0 _ _ (0, 0) e1
    have e3 : X.cell? ⟨gx, 1, none⟩ = some (.int .i64 e) := cell_of_row X gx 1 _ _ (0, 0) e1
    have c2 := hbx.cell
    have HX3 := Lib.hid hx3
    have HX2 := Lib.hid hx2
    have HBX := Lib.hid hbx
    have HOV := Lib.hid hov
    have HBL := Lib.hid hbl
    have HSX : Hid (W0.heap.size + 3 ≤ X.heap.size) := by show _ ≤ _; omega
    have HMB : Hid (mb < X.heap.size) := by have := hbl.size; show _ < _; omega
    clear hx3 hx2 hbx hov hbl hsX q1 q2 q3 hIt hsame e1 HGX HB1 HB2 hgx HX0 HX1 HGD
    gi_wp2_with (refine appPlIn (wl := X) rfl (.tmp 8) (.tmp 10) rfl (W0.heap.size + 3) v L (o, e) rfl rfl HOV.out HSX.out _ rfl rfl HLn.out ?_; intro v2 Y ho2 hg2; obtain ⟨A2, cc2, rfl, _, _⟩ := Kp.form ho2; obtain ⟨m2, hm2⟩ : ∃ m2, (L ++ [(o, e)]).length = m2 := ⟨_, rfl⟩; rw [hm2] at ho2; obtain ⟨s1, s2, s3, s4⟩ := step_keepP (M := 3) (by omega) HBX.out HOV.out hg2 ho2; have c3 := s1.cell; have f3 := s1.frozen; have S2 := Lib.hid s2; have S3 := Lib.hid s3; have S4 := Lib.hid s4; have HG2 := Lib.hid hg2; clear s1 s2 s3 s4 ho2 hg2)
    refine ⟨S2.out, ⟨⟨(S4.out _ (by omega) (by omega) HX3.out.lt).trans HX3.out, (S4.out mb (by omega) (by omega) HMB.out).trans HX2.out⟩, HGE.out, S3.out, ?_⟩⟩
    exact (HBL.out.grown HG2.out HBL.out.size fun k e => by have := (HOV.out.lt e).1; omega).setCell (p := ⟨m, 0, none⟩) (by show _ ≤ m; omega) _
  · rintro X ⟨L, hfin, hgd, ⟨v, hbx, hov⟩, hbl⟩ hD
    rw [qs] at hD
    have c2 := hbx.cell
    have HOV := Lib.hid hov
    have HBL := Lib.hid hbl
    clear hbx hov hbl q1 q2 q3 hIt
    go_wp2
    refine ⟨by simp, .inl ⟨_, _, rfl, run_takeDeferred hD, ?_⟩⟩
    refine ⟨_, results_tmp rfl _ _ _, _, L, rfl, ?_, ?_, hgd, hfin⟩
    · refine own_base (own_same HOV.out fun k hk _ => ?_) fun k hk => ?_
      · exact World.putObj_heap_other (by have := (HOV.out.lt hk).1; omega)
      · have := (HOV.out.lt hk).1; omega
    · exact HBL.out.grown (grownBy_putObj' _ _ _) HBL.out.size fun k e => by cases e; omega
theorem Collect_keys {t : Bool} (kb mb n : Nat) (w0 w : World) (kept : Int → Int → Option Mk) (hM : Mp w0 t mb n kept) (hn9 : n ≤ 5000000) (h1 : Hid (Boxed w kb 115 (.map (some mb)))) (h2 : Hid (w.heap[mb]? = w0.heap[mb]?)) : Calls Tryz.prog 98 #[keysV kb] w (NewP w kept n) := by
  have HA := Lib.hid (AppendSeq_keys kb mb n w0 w kept hM hn9 h1 h2)
  unfold keysV at HA ⊢
  go_enter Tryz.func98, Tryz.ntmps98
  go_wp2_with (go_at_call 111; refine HA.out.mono ?_; rintro e w' ⟨v, L, rfl, ho, hb, hg, hf⟩; have HGF := Lib.hid (And.intro hg hf); clear hg hf)
  go_ret
  exact ⟨v, L, rfl, ho, hb, HGF.out.1, HGF.out.2⟩
end Go.Proofs.YtfnlhfelpdkieaaGreat.Se
/- seen.compare: slices.Compare of two places; the order of places. -/
namespace Go.Proofs.YtfnlhfelpdkieaaGreat.Se
open Go.RowKit Go.Sort Go.Shelf
open Go.Proofs.YtfnlhfelpdkieaaGreat.Me Go.Proofs.YtfnlhfelpdkieaaGreat.Sb
set_option linter.unusedVariables false
set_option linter.unusedSimpArgs false

def cmp1 (x y : Int) : Int := if x < y then -1 else if y < x then 1 else 0
theorem cmp1_self (x : Int) : cmp1 x x = 0 := by unfold cmp1; simp
theorem cmp1_ne {x y : Int} (h : x ≠ y) : cmp1 x y ≠ 0 := by
  unfold cmp1
  by_cases h1 : x < y
  · rw [if_pos h1]; decide
  · rw [if_neg h1, if_pos (by omega)]; decide
def cfP (a b : Int × Int) : Int := if a.1 = b.1 then cmp1 a.2 b.2 else cmp1 a.1 b.1
/-- A place is ahead of another. -/
def ltP (a b : Int × Int) : Prop := a.1 < b.1 ∨ (a.1 = b.1 ∧ a.2 < b.2)
theorem cmp1_neg {x y : Int} : cmp1 x y < 0 ↔ x < y := by
  unfold cmp1
  by_cases h1 : x < y
  · rw [if_pos h1]; simp [h1]
  · rw [if_neg h1]
    by_cases h2 : y < x
    · rw [if_pos h2]; omega
    · rw [if_neg h2]; omega
theorem cfP_neg {a b : Int × Int} : cfP a b < 0 ↔ ltP a b := by
  unfold cfP ltP
  by_cases h : a.1 = b.1
  · rw [if_pos h, cmp1_neg]; omega
  · rw [if_neg h, cmp1_neg]; omega
theorem ltOf_cfP {a b : Int × Int} : ltOf cfP a b = true ↔ ltP a b := by unfold ltOf; rw [decide_eq_true_iff]; exact cfP_neg
theorem swoP : SWO (ltOf cfP) where
  irrefl x := by
    cases h : ltOf cfP x x
    · rfl
    · have := ltOf_cfP.1 h
      unfold ltP at this; omega
  trans x y z h1 h2 := by
    rw [ltOf_cfP] at *
    unfold ltP at *; omega
  ntrans x y z h1 h2 := by
    have k1 : ¬ ltP x y := fun h => by rw [ltOf_cfP.2 h] at h1; cases h1
    have k2 : ¬ ltP y z := fun h => by rw [ltOf_cfP.2 h] at h2; cases h2
    cases h : ltOf cfP x z
    · rfl
    · have := ltOf_cfP.1 h
      unfold ltP at *; omega
/-- Number k of a place. -/
def ixP (p : Int × Int) (k : Nat) : Int := if k = 0 then p.1 else p.2
def ArP (W : World) (g : Nat) (p : Int × Int) : Prop := W.heap[g]? = some (.cells #[.int .i64 p.1, .int .i64 p.2] 128 (0, 0))
theorem ArP.cell {W : World} {g : Nat} {p : Int × Int} (h : ArP W g p) {k : Nat} (hk : k < 2) : W.cell? ⟨g, k, none⟩ = some (.int .i64 (ixP p k)) := by
  rw [cell_of_row W g k _ _ (0, 0) h]
  obtain rfl | rfl : k = 0 ∨ k = 1 := by omega
  all_goals rfl
theorem ArP.lt {W : World} {g : Nat} {p : Int × Int} (h : ArP W g p) : g < W.heap.size := (Array.getElem?_eq_some_iff.1 h).1
theorem cfP_at {a b : Int × Int} {k : Nat} (hk : k < 2) (h : ∀ j, j < k → ixP a j = ixP b j) (hn : ixP a k ≠ ixP b k) : cfP a b = cmp1 (ixP a k) (ixP b k) := by
  obtain rfl | rfl : k = 0 ∨ k = 1 := by omega
  · unfold cfP
    rw [if_neg (by simpa [ixP] using hn)]
    rfl
  · unfold cfP
    rw [if_pos (by simpa [ixP] using h 0 (by omega))]
    rfl
theorem cfP_eq {a b : Int × Int} (h : ∀ j, j < 2 → ixP a j = ixP b j) : cfP a b = 0 := by
  have h0 := h 0 (by omega)
  have h1 := h 1 (by omega)
  simp only [ixP] at h0 h1
  unfold cfP
  rw [if_pos (by simpa using h0)]
  have : a.2 = b.2 := by simpa using h1
  rw [this, cmp1_self]
theorem cmp_any (x y : Int) (w : World) : Calls Tryz.prog 114 #[.int .i64 x, .int .i64 y] w fun e w' => e = .returned (.int .i64 (cmp1 x y)) ∧ w' = w := by
  unfold cmp1
  by_cases h1 : x < y
  · rw [if_pos h1]
    go_enter Tryz.func114, Tryz.ntmps114
    go_wp2
    go_ret
    exact ⟨rfl, rfl⟩
  · rw [if_neg h1]
    by_cases h2 : y < x
    · rw [if_pos h2]
      go_enter Tryz.func114, Tryz.ntmps114
      go_wp2
      go_ret
      exact ⟨rfl, rfl⟩
    · rw [if_neg h2]
      go_enter Tryz.func114, Tryz.ntmps114
      go_wp2
      go_ret
      exact ⟨rfl, rfl⟩
set_option maxHeartbeats 2000000 in
theorem Compare_any (a b : Int × Int) (g1 g2 : Nat) (w : World) (h1 : Hid (ArP w g1 a)) (h2 : Hid (ArP w g2 b)) : Calls Tryz.prog 101 #[.slice (some ⟨g1, 0, none⟩) 2 2, .slice (some ⟨g2, 0, none⟩) 2 2] w fun e w' => e = .returned (.int .i64 (cfP a b)) ∧ w' = w := by
  obtain ⟨Z, hZ⟩ : ∃ Z, cfP a b = Z := ⟨_, rfl⟩
  have HZ := Lib.hid hZ
  rw [hZ]
  clear hZ
  go_enter Tryz.func101, Tryz.ntmps101
  go_wp2
  go_loopw [11] (fun v wr => ∃ k : Nat, k ≤ 2 ∧ v = .int .i64 k ∧ Hid (∀ j, j < k → ixP a j = ixP b j) ∧ Hid (wr = w)) (fun v _ => 2 - (intOf v).toNat)
  case atStart => exact ⟨0, by omega, rfl, fun j hj => absurd hj (by omega), by first | exact rfl | trivial⟩
  case round =>
    obtain ⟨k, hk, rfl, HEq, HB⟩ := hrel
    obtain rfl := HB.out
    by_cases hlt : k < 2
    · have c1 := h1.out.cell hlt
      have c2 := h2.out.cell hlt
      have q1 : (k : Int) < 2 := by omega
      have HC := Lib.hid (fun W => cmp_any (ixP a k) (ixP b k) W)
      by_cases he : ixP a k = ixP b k
      · have HE := Lib.hid he
        rw [he, cmp1_self] at HC
        obtain ⟨x, hx⟩ : ∃ x, ixP a k = x := ⟨_, rfl⟩
        obtain ⟨y, hy⟩ : ∃ y, ixP b k = y := ⟨_, rfl⟩
        rw [hx] at c1
        rw [hy] at c2 HC
        have exy : x = y := by rw [← hx, ← hy]; exact he
        subst exy
        clear he hx hy
        go_wp2_with (go_at_call 114; refine (HC.out _).mono ?_; rintro e w1 ⟨rfl, rfl⟩)
        go_roundw
        case rel => exact ⟨k + 1, by omega, by go_num, (fun j hj => by
          by_cases e : j = k
          · subst e; exact HE.out
          · exact HEq.out j (by omega)), by first | exact rfl | trivial⟩
        case measure => simp [intOf]; omega
      · have hR : Z = cmp1 (ixP a k) (ixP b k) := HZ.out.symm.trans (cfP_at hlt HEq.out he)
        have hnz := cmp1_ne he
        obtain ⟨z, hz⟩ : ∃ z, cmp1 (ixP a k) (ixP b k) = z := ⟨_, rfl⟩
        rw [hz] at HC hnz hR
        have HR := Lib.hid hR
        obtain ⟨x, hx⟩ : ∃ x, ixP a k = x := ⟨_, rfl⟩
        obtain ⟨y, hy⟩ : ∃ y, ixP b k = y := ⟨_, rfl⟩
        rw [hx] at c1 HC
        rw [hy] at c2 HC
        have g1 : (z == 0) = false := by simpa using hnz
        clear he hx hy hz hR
        go_wp2_with (go_at_call 114; refine (HC.out _).mono ?_; rintro e w1 ⟨rfl, rfl⟩)
        go_ret
        exact ⟨congrArg (fun x => Ending.returned (Value.int .i64 x)) HR.out.symm, rfl⟩
    · obtain rfl : k = 2 := by omega
      have HR : Hid (Z = 0) := HZ.out.symm.trans (cfP_eq HEq.out)
      go_wp2
      go_ret
      exact ⟨congrArg (fun x => Ending.returned (Value.int .i64 x)) HR.out.symm, rfl⟩
set_option maxHeartbeats 1000000 in
/-- seen.compare. -/
theorem compare_any (a b : Int × Int) (W : World) : Calls Tryz.prog 75 #[.agg #[.int .i64 a.1, .int .i64 a.2], .agg #[.int .i64 b.1, .int .i64 b.2]] W fun e w' => e = .returned (.int .i64 (cfP a b)) ∧ ∃ q os', w' = grow (W.drewN q) os' := by
  obtain ⟨W2, hW2⟩ : ∃ W2, (W.alloc (.cells #[.int .i64 a.1, .int .i64 a.2] 128)).alloc (.cells #[.int .i64 b.1, .int .i64 b.2] 128) = W2 := ⟨_, rfl⟩
  have h1 : ArP W2 W.heap.size a := by
    rw [← hW2]
    exact (Below.heap_alloc _ _ _ (by simp)).trans (heap_alloc_new W _)
  have h2 : ArP W2 (W.heap.size + 1) b := by
    rw [← hW2]
    have := heap_alloc_new (W.alloc (.cells #[.int .i64 a.1, .int .i64 a.2] 128)) (.cells #[.int .i64 b.1, .int .i64 b.2] 128)
    rw [World.size_alloc] at this
    exact this
  have H1 : ∀ n, Hid (ArP (W2.drewN n) W.heap.size a) := fun n => ((Me.below_drewN (Below.refl W2.heap.size W2) n).block _ h1.lt).trans h1
  have H2 : ∀ n, Hid (ArP (W2.drewN n) (W.heap.size + 1) b) := fun n => ((Me.below_drewN (Below.refl W2.heap.size W2) n).block _ h2.lt).trans h2
  have HC := Lib.hid (fun n => Compare_any a b W.heap.size (W.heap.size + 1) (W2.drewN n) (H1 n) (H2 n))
  have HW2 := Lib.hid hW2
  obtain ⟨Z, hZ⟩ : ∃ Z, cfP a b = Z := ⟨_, rfl⟩
  rw [hZ] at HC ⊢
  clear h1 h2 H1 H2 hW2 hZ
  go_enter Tryz.func75, Tryz.ntmps75
  go_wp2
  rw [HW2.out]
  go_quiet ((go_at_call 101; first | exact (HC.out _).mono fun _ _ h => ⟨h.1, _, h.2⟩ | exact (HC.out _).mono fun _ _ h => ⟨h.1, _, h.2.symm⟩ | exact quiet (HC.out _)))
  go_wp2
  go_ret
  rw [← HW2.out]
  exact ⟨rfl, nq, _, by rw [alloc_eq_grow, alloc_eq_grow, grow_grow]; rfl⟩
end Go.Proofs.YtfnlhfelpdkieaaGreat.Se
