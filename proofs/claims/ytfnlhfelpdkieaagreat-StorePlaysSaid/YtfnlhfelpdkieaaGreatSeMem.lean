/- A set in memory: its box, its map of marks, their lists. -/
import Derived.Test.YtfnlhfelpdkieaaGreatZ4
import Derived.Test.YtfnlhfelpdkieaaGreatZ3
import Derived.WideKeyPair
import Derived.Maps.OwnSet
import Derived.Sort.MapsRangeIn
namespace Go.Proofs.YtfnlhfelpdkieaaGreat.Se
open Go.RowKit Go.Maps Go.WideElems
open Go.Proofs.YtfnlhfelpdkieaaGreat.Me Go.Proofs.YtfnlhfelpdkieaaGreat.Sb
set_option linter.unusedVariables false
set_option linter.unusedSimpArgs false

/-! ### Keys -/
abbrev RV : Value → Option (DataW Value × List MemPlace) := fun v => some (.held v, [])
theorem arr : WideMaps.ArrKey Tryz.prog 128 3 2 := ⟨Tryz.underlying128, by kernel_rfl, by kernel_rfl, by kernel_rfl⟩
theorem keyed : Keyed Tryz.prog 128 := Keyed.of_law arr.law
def kl (o e : Int) : Lit := .string (keyBytes [.int .i64 o, .int .i64 e])
theorem Pp.wf {o e : Int} (h : Pp o e) : (Lit.int .i64 o).wf = true ∧ (Lit.int .i64 e).wf = true := by
  obtain ⟨h1, h2, h3, h4⟩ := h
  exact ⟨WalkArith.wf_i64 (by omega), WalkArith.wf_i64 (by omega)⟩
theorem types_pos : ∃ m, Tryz.prog.types.size = m + 1 := by
  have h : 0 < Tryz.prog.types.size := of_decide_eq_true (by kernel_rfl)
  exact ⟨Tryz.prog.types.size - 1, by omega⟩
theorem key_of {o e : Int} (h : Pp o e) : keyOf Tryz.prog 128 (.agg #[.int .i64 o, .int .i64 e]) = some (kl o e) := WideMaps.keyOf_pair arr Tryz.underlying3 types_pos h.wf.1 h.wf.2
theorem key_lit (o e : Int) : WideAt.IsKeyLit (kl o e) := trivial
theorem kl_inj {o e a b : Int} (h : Pp o e) (k : Pp a b) (hk : kl o e = kl a b) : o = a ∧ e = b := by
  have := _root_.Go.keyBytes_inj (l := [.int .i64 o, .int .i64 e]) (l' := [.int .i64 a, .int .i64 b]) ⟨rfl, rfl, trivial⟩ (by
    intro x hx
    simp only [List.mem_cons, List.not_mem_nil, or_false] at hx
    rcases hx with rfl | rfl
    · exact h.wf.1
    · exact h.wf.2) (by
    intro x hx
    simp only [List.mem_cons, List.not_mem_nil, or_false] at hx
    rcases hx with rfl | rfl
    · exact k.wf.1
    · exact k.wf.2) (by injection hk)
  simpa using this
/-! ### Lists -/
/-- A slice of numbers that lies in a block of such. -/
def Sl (w : World) (A : Option Addr) (c : Nat) (l : List Int) : Prop :=
  l.length ≤ c ∧ c ≤ 9223372036854775807 ∧ (A = none → l = [] ∧ c = 0) ∧ ∀ a, A = some a → ∃ g off, a = ⟨g, off, none⟩ ∧ (∃ cur, w.heap[g]? = some (.cells cur 3 (0, 0))) ∧ ∀ i, i < l.length → w.cell? ⟨g, off + i, none⟩ = some (.int .i64 (l.getD i 0))
/-- What leaves all blocks of numbers alone. -/
def Ints (w w' : World) : Prop := ∀ (k : Nat) (cs : Array Value), w.heap[k]? = some (.cells cs 3 (0, 0)) → w'.heap[k]? = w.heap[k]?
theorem Ints.refl (w : World) : Ints w w := fun _ _ _ => rfl
theorem Ints.trans {w w' w'' : World} (h : Ints w w') (k : Ints w' w'') : Ints w w'' := fun x cs hx => (k x cs ((h x cs hx).trans hx)).trans (h x cs hx)
theorem Ints.below {w w' : World} (h : Below w.heap.size w w') : Ints w w' := fun k cs hk => h.block k (Array.getElem?_eq_some_iff.1 hk).1
theorem Ints.but {S : Nat → Prop} {w w' : World} (h : But S w w') (hS : ∀ (k : Nat) (cs : Array Value), w.heap[k]? = some (.cells cs 3 (0, 0)) → ¬ S k) : Ints w w' := fun k cs hk => h.same k (Array.getElem?_eq_some_iff.1 hk).1 (hS k cs hk)
theorem Sl.keep {w w' : World} {A : Option Addr} {c : Nat} {l : List Int} (h : Sl w A c l) (hi : Ints w w') : Sl w' A c l :=
  ⟨h.1, h.2.1, h.2.2.1, fun a ha => by
    obtain ⟨g, off, e, ⟨cur, hc⟩, hr⟩ := h.2.2.2 a ha
    have hk := hi g cur hc
    exact ⟨g, off, e, ⟨cur, hk.trans hc⟩, fun i hl => (World.cell?_of_block (w := w) (a := ⟨g, off + i, none⟩) hk).trans (hr i hl)⟩⟩
theorem Sl.nil (w : World) : Sl w none 0 [] := ⟨Nat.le_refl _, by omega, fun _ => ⟨rfl, rfl⟩, fun a e => by cases e⟩
/-- A mark as a value; tight: no room behind its list. -/
def El (w : World) (t : Bool) (v : Value) (m : Mk) : Prop := ∃ A c, v = .agg #[.int .i64 m.up, .slice A m.more.length c] ∧ (t = true → c = m.more.length) ∧ Sl w A c m.more
theorem El.keep {w w' : World} {t : Bool} {v : Value} {m : Mk} (h : El w t v m) (hi : Ints w w') : El w' t v m := by
  obtain ⟨A, c, e, h1, h2⟩ := h
  exact ⟨A, c, e, h1, h2.keep hi⟩
theorem El.zero (w : World) (t : Bool) : El w t (.agg #[.int .i64 0, .slice none 0 0]) ⟨0, []⟩ := ⟨none, 0, rfl, fun _ => rfl, Sl.nil w⟩
theorem zeroMk (w : World) : (zeroValue 126).run Tryz.prog w = .ok (.agg #[.int .i64 0, .slice none 0 0]) w := by kernel_rfl
/-! ### The map -/
structure Vw (w : World) (t : Bool) (D : DataW Value) (kept : Int → Int → Option Mk) : Prop where
  keys : ∀ l : Lit, Maps.has D l = true → ∃ o e, l = kl o e ∧ Pp o e ∧ kept o e ≠ none
  no : ∀ o e, Pp o e → kept o e = none → Maps.has D (kl o e) = false
  yes : ∀ o e m, Pp o e → kept o e = some m → Maps.has D (kl o e) = true ∧ ∃ v, (∀ z, D.atKey (kl o e) z = .held v) ∧ El w t v m
def Mp (w : World) (t : Bool) (b n : Nat) (kept : Int → Int → Option Mk) : Prop := ∃ D, w.ownsMap Tryz.prog 128 RV b n D ∧ Vw w t D kept
theorem Vw.keep {w w' : World} {t : Bool} {D : DataW Value} {kept : Int → Int → Option Mk} (h : Vw w t D kept) (hi : Ints w w') : Vw w' t D kept :=
  ⟨h.keys, h.no, fun o e m hp hk => ⟨(h.yes o e m hp hk).1, by obtain ⟨v, h1, h2⟩ := (h.yes o e m hp hk).2; exact ⟨v, h1, h2.keep hi⟩⟩⟩
theorem Mp.lt {w : World} {t : Bool} {b n : Nat} {kept : Int → Int → Option Mk} (h : Mp w t b n kept) : b < w.heap.size := by
  obtain ⟨D, h1, _⟩ := h
  exact h1.lt
theorem Mp.isMap {w : World} {t : Bool} {b n : Nat} {kept : Int → Int → Option Mk} (h : Mp w t b n kept) : ∃ es c, w.heap[b]? = some (.map es c) := by
  obtain ⟨D, ⟨es, clock, hb, _⟩, _⟩ := h
  exact ⟨es, clock, hb⟩
theorem Mp.keep {w w' : World} {t : Bool} {b n : Nat} {kept : Int → Int → Option Mk} (h : Mp w t b n kept) (hb : w'.heap[b]? = w.heap[b]?) (hi : Ints w w') : Mp w' t b n kept := by
  obtain ⟨D, ⟨es, clock, hb', r⟩, hv⟩ := h
  exact ⟨D, ⟨es, clock, hb.trans hb', r⟩, hv.keep hi⟩
theorem Mp.made (w : World) (t : Bool) : Mp (w.alloc (.map #[] 0)) t w.heap.size 0 fun _ _ => none := by
  refine ⟨.map [], World.ownsMap_made w Tryz.prog 128 RV, fun l hl => ?_, fun o e _ _ => rfl, fun o e m _ hk => by cases hk⟩
  simp [Maps.has] at hl
/-- 'm[k]'. -/
theorem Mp.look {w : World} {t : Bool} {b n : Nat} {kept : Int → Int → Option Mk} (h : Mp w t b n kept) {o e : Int} (hp : Pp o e) :
    ∃ v, El w t v (getM kept o e) ∧ ∀ W : World, W.heap[b]? = w.heap[b]? → (Instr.lookup 115 (.map (some b)) (.agg #[.int .i64 o, .int .i64 e]) false).run Tryz.prog W = .ok v W := by
  obtain ⟨D, ⟨es, clock, hb, r⟩, hv⟩ := h
  cases hk : kept o e with
  | none =>
    refine ⟨.agg #[.int .i64 0, .slice none 0 0], by unfold getM; rw [hk]; exact El.zero w t, fun W hW => ?_⟩
    have how : W.ownsMap Tryz.prog 128 RV b n D := ⟨es, clock, hW.trans hb, r⟩
    obtain ⟨v, ps, h1, h2⟩ := how.lookup keyed Tryz.underlying115 (zeroMk W) (zd := .held (.agg #[.int .i64 0, .slice none 0 0])) (zp := []) rfl (key_of hp)
    rw [atKey_of_not_has (hv.no o e hp hk)] at h2
    simp only [Option.some.injEq, Prod.mk.injEq, DataW.held.injEq] at h2
    rw [h2.1] at h1
    exact h1
  | some m =>
    obtain ⟨hh, v, h3, h4⟩ := hv.yes o e m hp hk
    refine ⟨v, by unfold getM; rw [hk]; exact h4, fun W hW => ?_⟩
    have how : W.ownsMap Tryz.prog 128 RV b n D := ⟨es, clock, hW.trans hb, r⟩
    obtain ⟨v', ps, h1, h2⟩ := how.lookup keyed Tryz.underlying115 (zeroMk W) (zd := .held (.agg #[.int .i64 0, .slice none 0 0])) (zp := []) rfl (key_of hp)
    rw [h3] at h2
    simp only [Option.some.injEq, Prod.mk.injEq, DataW.held.injEq] at h2
    rw [h2.1] at h1
    exact h1
theorem but_turned {w w' : World} {b : Nat} (h : w.mapTurned w' b) : But (fun k => k = b) w w' ∧ w'.heap.size = w.heap.size := by
  have hg := h.grown
  refine ⟨⟨hg.os, hg.tape, hg.output, hg.size, fun k hk hn => hg.block k hk fun e => hn (by cases e; rfl)⟩, ?_⟩
  obtain ⟨es, clock, es', clock', hb, rfl⟩ := h
  simp [ChangeMaps.setBlock]
theorem Mp.put {w : World} {t : Bool} {b n : Nat} {kept : Int → Int → Option Mk} (h : Mp w t b n kept) (hn : n ≤ 1000000000) {o e : Int} (hp : Pp o e) {v : Value} {m : Mk} (hv : El w t v m) :
    ∃ w', (Instr.mapUpdate 115 (.map (some b)) (.agg #[.int .i64 o, .int .i64 e]) v).run Tryz.prog w = .ok () w' ∧ Mp w' t b (n + 1) (setM kept o e m) ∧ But (fun k => k = b) w w' ∧ w'.heap.size = w.heap.size := by
  have hm := h.isMap
  obtain ⟨D, how, hvw⟩ := h
  obtain ⟨w', h1, h2, h3⟩ := how.store keyed Tryz.underlying115 (by unfold maxLen; omega) (key_of hp) (val := v) (d := .held v) (ps := []) rfl
  obtain ⟨b1, b2⟩ := but_turned h3
  have hI := how.isMap
  have hi : Ints w w' := Ints.but b1 fun k cs hk e => by
    subst e
    obtain ⟨es, c, hm⟩ := hm
    rw [hm] at hk; cases hk
  have hvw' : Vw w' t (D.put (kl o e) (.held v)) (setM kept o e m) := by
    refine ⟨fun l hl => ?_, fun a b hab hk => ?_, fun a b q hab hk => ?_⟩
    · by_cases he : l = kl o e
      · exact ⟨o, e, he, hp, by simp [setM]⟩
      · rw [has_put_other he] at hl
        obtain ⟨a, b, e1, e2, e3⟩ := hvw.keys l hl
        refine ⟨a, b, e1, e2, ?_⟩
        unfold setM
        split
        · simp
        · exact e3
    · unfold setM at hk
      split at hk
      · cases hk
      · rename_i hne
        rw [has_put_other (fun he => hne (kl_inj hab hp he))]
        exact hvw.no a b hab hk
    · unfold setM at hk
      split at hk
      · rename_i he
        cases hk
        obtain ⟨rfl, rfl⟩ := he
        exact ⟨has_put_same hI (key_lit _ _) _, v, fun z => atKey_put_same hI (key_lit _ _) _ _, hv.keep hi⟩
      · rename_i hne
        have hk' : kl a b ≠ kl o e := fun he => hne (kl_inj hab hp he)
        obtain ⟨y1, u, y2, y3⟩ := hvw.yes a b q hab hk
        exact ⟨by rw [has_put_other hk']; exact y1, u, fun z => by rw [atKey_put_other hk']; exact y2 z, y3.keep hi⟩
  exact ⟨w', h1, ⟨_, h2, hvw'⟩, b1, b2⟩
theorem putW {w : World} {o : Oper} {a : Act} {K : Act → World → Prop} {Q : Exit → Act → World → Prop} (m x v : Operand) (ho : o.op = .mapUpdate 115 m x v)
    (t : Bool) (b n : Nat) (kept : Int → Int → Option Mk) (oo ee : Int) (q : Mk) (u : Value) (hm : a.eval m = .map (some b)) (hx : a.eval x = .agg #[.int .i64 oo, .int .i64 ee]) (hv : a.eval v = u) (hM : Mp w t b n kept) (hn : n ≤ 1000000000) (hp : Pp oo ee) (hE : El w t u q)
    (h : ∀ w', Mp w' t b (n + 1) (setM kept oo ee q) → But (fun k => k = b) w w' → w'.heap.size = w.heap.size → K (a.put o.dst undef) w') : o.wp Tryz.prog a w K Q := by
  obtain ⟨w', hr, h1, h2, h3⟩ := hM.put hn hp hE
  unfold Oper.wp execOp
  simp only [ho, Sem.run_bind, Sem.run_pure, Result.andThen_ok, hm, hx, hv, hr]
  exact h w' h1 h2 h3
/-! ### The set -/
structure Set (w : World) (t : Bool) (D b n : Nat) (s : St) : Prop where
  box : w.heap[D]? = some (.cells #[.int .i64 s.room, .int .i64 s.gaps, .map (some b)] 117 (0, 0))
  map : Mp w t b n s.kept
  ok : Okk s
theorem Set.keep {w w' : World} {t : Bool} {D b n : Nat} {s : St} (h : Set w t D b n s) (hD : w'.heap[D]? = w.heap[D]?) (hb : w'.heap[b]? = w.heap[b]?) (hi : Ints w w') : Set w' t D b n s := ⟨hD.trans h.box, h.map.keep hb hi, h.ok⟩
theorem Set.lt {w : World} {t : Bool} {D b n : Nat} {s : St} (h : Set w t D b n s) : D < w.heap.size ∧ b < w.heap.size := ⟨(Array.getElem?_eq_some_iff.1 h.box).1, h.map.lt⟩
theorem Set.below {w w' : World} {t : Bool} {D b n : Nat} {s : St} (h : Set w t D b n s) (hb : Below w.heap.size w w') : Set w' t D b n s := h.keep (hb.block _ h.lt.1) (hb.block _ h.lt.2) (Ints.below hb)
theorem Set.ne {w : World} {t : Bool} {D b n : Nat} {s : St} (h : Set w t D b n s) : D ≠ b := fun e => by
  obtain ⟨es, c, hm⟩ := h.map.isMap
  have := h.box
  rw [e, hm] at this
  cases this
theorem set_cells {w : World} {D b : Nat} {r g : Int} (h : w.heap[D]? = some (.cells #[.int .i64 r, .int .i64 g, .map (some b)] 117 (0, 0))) : w.cell? ⟨D, 0, none⟩ = some (.int .i64 r) ∧ w.cell? ⟨D, 1, none⟩ = some (.int .i64 g) ∧ w.cell? ⟨D, 2, none⟩ = some (.map (some b)) :=
  ⟨cell_of_row w D 0 _ _ (0, 0) h, cell_of_row w D 1 _ _ (0, 0) h, cell_of_row w D 2 _ _ (0, 0) h⟩
end Go.Proofs.YtfnlhfelpdkieaaGreat.Se
