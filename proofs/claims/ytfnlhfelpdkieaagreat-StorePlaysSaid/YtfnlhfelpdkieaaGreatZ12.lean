/- A map from ids to bytes of one's own: what its block holds, what its operations do. -/
import Derived.Test.YtfnlhfelpdkieaaGreatZ3
import Derived.Test.YtfnlhfelpdkieaaGreatZ4
import Derived.Test.YtfnlhfelpdkieaaGreatSeMem
import Derived.WideKeyPair
import Derived.DeepKeys4
import Derived.Maps.OwnSet
import Derived.Sort.MapsRangeIn
import Derived.Deep.MidRow
import Derived.Lib.SliceRun
import Derived.Shelf.Abstract
namespace Go.Proofs.YtfnlhfelpdkieaaGreat.So
open Go.RowKit Go.Maps Go.WideElems
open Go.Proofs.YtfnlhfelpdkieaaGreat.Me Go.Proofs.YtfnlhfelpdkieaaGreat.Sb
set_option linter.unusedVariables false
set_option linter.unusedSimpArgs false

/-! ### Keys -/
abbrev RV : Value → Option (DataW Value × List MemPlace) := fun v => some (.held v, [])
theorem idKey : Tryz.prog.keyTypeAt 2 43 = true := by kernel_rfl
theorem idTiled : Tryz.prog.tiled 2 43 = true := by kernel_rfl
theorem keyed : Keyed Tryz.prog 43 := Keyed.of_law (deep_law (m := 2) (by omega) idKey idTiled (by rw [Tryz.underlying43]))
def kl (i : Mg.Id4) : Lit := .string (keyBytes [.int .i64 i.o, .int .i64 i.d, .int .i64 i.e, .int .i64 i.c])
/-- A number that fits. -/
def Fit (i : Mg.Id4) : Prop := (Lit.int .i64 i.o).wf = true ∧ (Lit.int .i64 i.d).wf = true ∧ (Lit.int .i64 i.e).wf = true ∧ (Lit.int .i64 i.c).wf = true
theorem fit_right {i : Mg.Id4} (h : Mg.Right i) : Fit i := by
  obtain ⟨h1, h2, h3, h4, h5, h6, h7, h8, _⟩ := h
  exact ⟨WalkArith.wf_i64 (by omega), WalkArith.wf_i64 (by omega), WalkArith.wf_i64 (by omega), WalkArith.wf_i64 (by omega)⟩
theorem fit_zero : Fit zeroI := ⟨WalkArith.wf_i64 (by decide), WalkArith.wf_i64 (by decide), WalkArith.wf_i64 (by decide), WalkArith.wf_i64 (by decide)⟩
theorem types_pos : ∃ m, Tryz.prog.types.size = m + 1 := by
  have h : 0 < Tryz.prog.types.size := of_decide_eq_true (by kernel_rfl)
  exact ⟨Tryz.prog.types.size - 1, by omega⟩
theorem keyT : Tryz.prog.keyType 43 = true := by kernel_rfl
theorem formedId (a b c d : Value) : (Value.agg #[a, b, c, d]).formed Tryz.prog 43 = true := by kernel_rfl
theorem key_of {i : Mg.Id4} (h : Fit i) : keyOf Tryz.prog 43 (.agg (Mg.idC i)) = some (kl i) := by
  obtain ⟨o, d, e, c⟩ := i
  obtain ⟨h0, h1, h2, h3⟩ := h
  obtain ⟨m, hm⟩ := types_pos
  show keyOf Tryz.prog 43 (.agg #[.int .i64 o, .int .i64 d, .int .i64 e, .int .i64 c]) = some (.string (keyBytes [.int .i64 o, .int .i64 d, .int .i64 e, .int .i64 c]))
  unfold keyOf
  simp only [Tryz.underlying43]
  rw [if_pos (by rw [keyT, formedId]; rfl), hm]
  unfold Program.keyLits
  simp only [Tryz.underlying43, Value.cells]
  rw [if_pos ⟨by kernel_rfl, by kernel_rfl⟩]
  simp only [List.mapM_cons, List.mapM_nil]
  have e1 : Tryz.prog.cellsOf 3 = 1 := by kernel_rfl
  simp only [e1]
  simp [Program.keyLits, Tryz.underlying3, h0, h1, h2, h3]
theorem key_lit (i : Mg.Id4) : WideAt.IsKeyLit (kl i) := trivial
theorem kl_inj {i j : Mg.Id4} (h : Fit i) (k : Fit j) (hk : kl i = kl j) : i = j := by
  have := _root_.Go.keyBytes_inj (l := [.int .i64 i.o, .int .i64 i.d, .int .i64 i.e, .int .i64 i.c]) (l' := [.int .i64 j.o, .int .i64 j.d, .int .i64 j.e, .int .i64 j.c]) ⟨rfl, rfl, rfl, rfl, trivial⟩ (by
    intro x hx
    simp only [List.mem_cons, List.not_mem_nil, or_false] at hx
    rcases hx with rfl | rfl | rfl | rfl
    · exact h.1
    · exact h.2.1
    · exact h.2.2.1
    · exact h.2.2.2) (by
    intro x hx
    simp only [List.mem_cons, List.not_mem_nil, or_false] at hx
    rcases hx with rfl | rfl | rfl | rfl
    · exact k.1
    · exact k.2.1
    · exact k.2.2.1
    · exact k.2.2.2) (by injection hk)
  obtain ⟨o, d, e, c⟩ := i
  obtain ⟨o', d', e', c'⟩ := j
  simpa using this
/-! ### Bytes of one's own -/
/-- A slice of one's own with these bytes, in a block that bears E. -/
def El (E : Nat → Prop) (w : World) (u : Value) (l : List Nat) : Prop :=
  ∃ A c, u = .slice A l.length c ∧ Me.Own w 0 (.slice A l.length c) l ∧ ∀ a, A = some a → E a.block
theorem own_type {w : World} {B T s n : Nat} {v : Value} {xs : List Value} (h : w.ownsRow B T s v n xs) : ∀ k, v.ownBlock = some k → ∃ cur, w.heap[k]? = some (.cells cur T (0, 0)) := by
  intro k e
  rcases h.2 with ⟨rfl, _⟩ | ⟨g, cap, cur, rfl, _, h3, _⟩
  · cases e
  · simp only [Value.ownBlock, Option.some.injEq] at e
    subst e
    exact ⟨cur, h3⟩
/-- What leaves the blocks of bytes that bear E alone. -/
def U8s (E : Nat → Prop) (w w' : World) : Prop := ∀ (k : Nat) (cs : Array Value), E k → w.heap[k]? = some (.cells cs 5 (0, 0)) → w'.heap[k]? = w.heap[k]?
theorem U8s.below {E : Nat → Prop} {w w' : World} (h : Below w.heap.size w w') : U8s E w w' := fun k cs _ hk => h.block k (Array.getElem?_eq_some_iff.1 hk).1
theorem U8s.trans {E : Nat → Prop} {w w' w'' : World} (h : U8s E w w') (k : U8s E w' w'') : U8s E w w'' := fun x cs hx he => (k x cs hx ((h x cs hx he).trans he)).trans (h x cs hx he)
theorem U8s.but {E S : Nat → Prop} {w w' : World} (h : But S w w') (hS : ∀ (k : Nat) (cs : Array Value), E k → w.heap[k]? = some (.cells cs 5 (0, 0)) → ¬ S k) : U8s E w w' := fun k cs he hk => h.same k (Array.getElem?_eq_some_iff.1 hk).1 (hS k cs he hk)
theorem El.kept {E E' : Nat → Prop} {w w' : World} {u : Value} {l : List Nat} (h : El E w u l) (hk : U8s E w w') (hE : ∀ k, k < w.heap.size → E k → E' k) : El E' w' u l := by
  obtain ⟨A, c, e, ho, hF⟩ := h
  refine ⟨A, c, e, own_same ho fun k ek hk' => ?_, fun a ea => ?_⟩
  · obtain ⟨cs, hc⟩ := own_type ho k ek
    cases A with
    | none => cases ek
    | some a => cases ek; exact hk _ cs (hF a rfl) hc
  · exact hE _ (own_lt ho a.block (by rw [ea]; rfl)) (hF a ea)
theorem zero24 (w : World) : (zeroValue 44).run Tryz.prog w = .ok (.slice none 0 0) w := by kernel_rfl
/-! ### The map -/
structure Vw (E : Nat → Prop) (w : World) (D : DataW Value) (kept : Mg.Id4 → Option (List Nat)) : Prop where
  keys : ∀ l : Lit, Maps.has D l = true → ∃ i, l = kl i ∧ Fit i ∧ kept i ≠ none
  no : ∀ i, Fit i → kept i = none → Maps.has D (kl i) = false
  yes : ∀ i p, Fit i → kept i = some p → Maps.has D (kl i) = true ∧ ∃ v, (∀ z, D.atKey (kl i) z = .held v) ∧ El E w v p
def Mp (E : Nat → Prop) (w : World) (b n : Nat) (kept : Mg.Id4 → Option (List Nat)) : Prop := ∃ D, w.ownsMap Tryz.prog 43 RV b n D ∧ Maps.size D = n ∧ Vw E w D kept
theorem Vw.keep {E E' : Nat → Prop} {w w' : World} {D : DataW Value} {kept : Mg.Id4 → Option (List Nat)} (h : Vw E w D kept) (hk : U8s E w w') (hE : ∀ k, k < w.heap.size → E k → E' k) : Vw E' w' D kept :=
  ⟨h.keys, h.no, fun i p hf hp => ⟨(h.yes i p hf hp).1, by obtain ⟨v, h1, h2⟩ := (h.yes i p hf hp).2; exact ⟨v, h1, h2.kept hk hE⟩⟩⟩
theorem Mp.lt {E : Nat → Prop} {w : World} {b n : Nat} {kept : Mg.Id4 → Option (List Nat)} (h : Mp E w b n kept) : b < w.heap.size := by
  obtain ⟨D, h1, _⟩ := h
  exact h1.lt
theorem Mp.isMap {E : Nat → Prop} {w : World} {b n : Nat} {kept : Mg.Id4 → Option (List Nat)} (h : Mp E w b n kept) : ∃ es c, w.heap[b]? = some (.map es c) := by
  obtain ⟨D, ⟨es, clock, hb, _⟩, _, _⟩ := h
  exact ⟨es, clock, hb⟩
theorem Mp.keep {E E' : Nat → Prop} {w w' : World} {b n : Nat} {kept : Mg.Id4 → Option (List Nat)} (h : Mp E w b n kept) (hb : w'.heap[b]? = w.heap[b]?) (hk : U8s E w w') (hE : ∀ k, k < w.heap.size → E k → E' k) : Mp E' w' b n kept := by
  obtain ⟨D, ⟨es, clock, hb', r⟩, hs, hv⟩ := h
  exact ⟨D, ⟨es, clock, hb.trans hb', r⟩, hs, hv.keep hk hE⟩
theorem Mp.made (E : Nat → Prop) (w : World) : Mp E (w.alloc (.map #[] 0)) w.heap.size 0 fun _ => none := by
  refine ⟨.map [], World.ownsMap_made w Tryz.prog 43 RV, rfl, fun l hl => ?_, fun i _ _ => rfl, fun i p _ hk => by cases hk⟩
  simp [Maps.has] at hl
theorem tight {w : World} {b n c : Nat} {D : DataW Value} (h : w.ownsMap Tryz.prog 43 RV b n D) (hs : Maps.size D = c) : w.ownsMap Tryz.prog 43 RV b c D := by
  obtain ⟨es, clock, hb, F, _, hD⟩ := h
  refine ⟨es, clock, hb, F, ?_, hD⟩
  rw [hD] at hs
  simp [Maps.size, length_sorted] at hs
  omega
/-- 'len(m)'. -/
theorem Mp.len {E : Nat → Prop} {w : World} {b n : Nat} {kept : Mg.Id4 → Option (List Nat)} (h : Mp E w b n kept) (ty : TypeId) (W : World) (hW : W.heap[b]? = w.heap[b]?) : (Builtin.len_ #[74] ty #[.map (some b)]).run Tryz.prog W = .ok (.int .i64 (n : Int)) W := by
  obtain ⟨D, ⟨es, clock, hb, r⟩, hs, hv⟩ := h
  have how : W.ownsMap Tryz.prog 43 RV b n D := ⟨es, clock, hW.trans hb, r⟩
  have := how.len Tryz.underlying74 ty
  rw [hs] at this
  exact this
/-- An id that is not there. -/
theorem Mp.no {E : Nat → Prop} {w : World} {b n : Nat} {kept : Mg.Id4 → Option (List Nat)} (h : Mp E w b n kept) {i : Mg.Id4} (hf : Fit i) (hk : kept i = none) :
    ∀ W : World, W.heap[b]? = w.heap[b]? → (Instr.lookup 74 (.map (some b)) (.agg (Mg.idC i)) true).run Tryz.prog W = .ok (.tuple #[.slice none 0 0, .bool false]) W := by
  intro W hW
  obtain ⟨D, ⟨es, clock, hb, r⟩, _, hv⟩ := h
  have how : W.ownsMap Tryz.prog 43 RV b n D := ⟨es, clock, hW.trans hb, r⟩
  obtain ⟨v, ps, h1, h2⟩ := how.look_ok keyed Tryz.underlying74 (zero24 W) (zd := .held (.slice none 0 0)) (zp := []) rfl (key_of hf)
  have hh := hv.no i hf hk
  rw [hh] at h1
  rw [atKey_of_not_has hh] at h2
  simp only [Option.some.injEq, Prod.mk.injEq, DataW.held.injEq] at h2
  rw [h2.1] at h1
  exact h1
/-- One that is there. -/
theorem Mp.yes {E : Nat → Prop} {w : World} {b n : Nat} {kept : Mg.Id4 → Option (List Nat)} (h : Mp E w b n kept) {i : Mg.Id4} (hf : Fit i) {p : List Nat} (hk : kept i = some p) :
    ∃ v, El E w v p ∧ (∀ W : World, W.heap[b]? = w.heap[b]? → (Instr.lookup 74 (.map (some b)) (.agg (Mg.idC i)) true).run Tryz.prog W = .ok (.tuple #[v, .bool true]) W) ∧ (∀ W : World, W.heap[b]? = w.heap[b]? → (Instr.lookup 74 (.map (some b)) (.agg (Mg.idC i)) false).run Tryz.prog W = .ok v W) := by
  obtain ⟨D, ⟨es, clock, hb, r⟩, _, hv⟩ := h
  obtain ⟨hh, v, h3, h4⟩ := hv.yes i p hf hk
  refine ⟨v, h4, fun W hW => ?_, fun W hW => ?_⟩
  · have how : W.ownsMap Tryz.prog 43 RV b n D := ⟨es, clock, hW.trans hb, r⟩
    obtain ⟨v', ps, h1, h2⟩ := how.look_ok keyed Tryz.underlying74 (zero24 W) (zd := .held (.slice none 0 0)) (zp := []) rfl (key_of hf)
    rw [hh] at h1
    rw [h3] at h2
    simp only [Option.some.injEq, Prod.mk.injEq, DataW.held.injEq] at h2
    rw [h2.1] at h1
    exact h1
  · have how : W.ownsMap Tryz.prog 43 RV b n D := ⟨es, clock, hW.trans hb, r⟩
    obtain ⟨v', ps, h1, h2⟩ := how.lookup keyed Tryz.underlying74 (zero24 W) (zd := .held (.slice none 0 0)) (zp := []) rfl (key_of hf)
    rw [h3] at h2
    simp only [Option.some.injEq, Prod.mk.injEq, DataW.held.injEq] at h2
    rw [h2.1] at h1
    exact h1
theorem but_turned {w w' : World} {b : Nat} (h : w.mapTurned w' b) : But (fun k => k = b) w w' ∧ w'.heap.size = w.heap.size := by
  have hg := h.grown
  refine ⟨⟨hg.os, hg.tape, hg.output, hg.size, fun k hk hn => hg.block k hk fun e => hn (by cases e; rfl)⟩, ?_⟩
  obtain ⟨es, clock, es', clock', hb, rfl⟩ := h
  simp [ChangeMaps.setBlock]
theorem u8_turned {E : Nat → Prop} {w w' : World} {b : Nat} (hm : ∃ es c, w.heap[b]? = some (.map es c)) (hb : But (fun k => k = b) w w') : U8s E w w' := U8s.but hb fun k cs _ hk e => by
  obtain ⟨es, c, hm⟩ := hm
  subst e
  rw [hm] at hk; cases hk
theorem Mp.put {E : Nat → Prop} {w : World} {b n : Nat} {kept : Mg.Id4 → Option (List Nat)} (h : Mp E w b n kept) (hn : n ≤ 1000000000) {i : Mg.Id4} (hf : Fit i) (hno : kept i = none) {v : Value} {p : List Nat} (hv : El E w v p) :
    ∃ w', (Instr.mapUpdate 74 (.map (some b)) (.agg (Mg.idC i)) v).run Tryz.prog w = .ok () w' ∧ Mp E w' b (n + 1) (fun k => if k = i then some p else kept k) ∧ But (fun k => k = b) w w' ∧ w'.heap.size = w.heap.size := by
  have hm := h.isMap
  obtain ⟨D, how, hsz, hvw⟩ := h
  have htd := how.tidy keyed
  have hnh := hvw.no i hf hno
  obtain ⟨w', h1, h2, h3⟩ := how.store keyed Tryz.underlying74 (by unfold maxLen; omega) (key_of hf) (val := v) (d := .held v) (ps := []) rfl
  obtain ⟨b1, b2⟩ := but_turned h3
  have hI := how.isMap
  have hu : U8s E w w' := u8_turned hm b1
  have hvw' : Vw E w' (D.put (kl i) (.held v)) (fun k => if k = i then some p else kept k) := by
    refine ⟨fun l hl => ?_, fun a ha hk => ?_, fun a q ha hk => ?_⟩
    · by_cases he : l = kl i
      · exact ⟨i, he, hf, by simp⟩
      · rw [has_put_other he] at hl
        obtain ⟨a, e1, e2, e3⟩ := hvw.keys l hl
        refine ⟨a, e1, e2, ?_⟩
        split
        · simp
        · exact e3
    · split at hk
      · cases hk
      · rename_i hne
        rw [has_put_other (fun he => hne (kl_inj ha hf he))]
        exact hvw.no a ha hk
    · split at hk
      · rename_i he
        cases hk
        subst he
        exact ⟨has_put_same hI (key_lit _) _, v, fun z => atKey_put_same hI (key_lit _) _ _, hv.kept hu fun _ _ h => h⟩
      · rename_i hne
        have hk' : kl a ≠ kl i := fun he => hne (kl_inj ha hf he)
        obtain ⟨y1, u, y2, y3⟩ := hvw.yes a q ha hk
        exact ⟨by rw [has_put_other hk']; exact y1, u, fun z => by rw [atKey_put_other hk']; exact y2 z, y3.kept hu fun _ _ h => h⟩
  exact ⟨w', h1, ⟨_, h2, by rw [Maps.size_put htd, hnh, hsz]; rfl, hvw'⟩, b1, b2⟩
theorem Mp.del {E : Nat → Prop} {w : World} {b n : Nat} {kept : Mg.Id4 → Option (List Nat)} (h : Mp E w b n kept) {i : Mg.Id4} (hf : Fit i) {p : List Nat} (hyes : kept i = some p) (ty : TypeId) :
    ∃ w', (Builtin.delete_ #[74, 43] ty #[.map (some b), .agg (Mg.idC i)]).run Tryz.prog w = .ok (.tuple #[]) w' ∧ Mp E w' b (n - 1) (fun k => if k = i then none else kept k) ∧ But (fun k => k = b) w w' ∧ w'.heap.size = w.heap.size := by
  have hm := h.isMap
  obtain ⟨D, how, hsz, hvw⟩ := h
  have htd := how.tidy keyed
  have hnh := (hvw.yes i p hf hyes).1
  obtain ⟨w', h1, h2, h3⟩ := how.drop keyed Tryz.underlying74 (key_of hf) ty
  obtain ⟨b1, b2⟩ := but_turned h3
  have hu : U8s E w w' := u8_turned hm b1
  have hvw' : Vw E w' (D.del (kl i)) (fun k => if k = i then none else kept k) := by
    refine ⟨fun l hl => ?_, fun a ha hk => ?_, fun a q ha hk => ?_⟩
    · by_cases he : l = kl i
      · subst he; rw [has_del_same] at hl; cases hl
      · rw [has_del_other he] at hl
        obtain ⟨a, e1, e2, e3⟩ := hvw.keys l hl
        refine ⟨a, e1, e2, ?_⟩
        rw [if_neg (fun e => he (by rw [e1, e]))]
        exact e3
    · split at hk
      · rename_i e
        subst e
        exact has_del_same
      · rename_i hne
        rw [has_del_other (fun he => hne (kl_inj ha hf he))]
        exact hvw.no a ha hk
    · split at hk
      · cases hk
      · rename_i hne
        have hk' : kl a ≠ kl i := fun he => hne (kl_inj ha hf he)
        obtain ⟨y1, u, y2, y3⟩ := hvw.yes a q ha hk
        exact ⟨by rw [has_del_other hk']; exact y1, u, fun z => by rw [atKey_del_other hk']; exact y2 z, y3.kept hu fun _ _ h => h⟩
  have hs2 : Maps.size (D.del (kl i)) = n - 1 := by
    have := Maps.size_del (k := kl i) htd
    rw [hnh, hsz] at this
    simp at this
    omega
  exact ⟨w', h1, ⟨_, tight h2 hs2, hs2, hvw'⟩, b1, b2⟩
theorem putW {w : World} {o : Oper} {a : Act} {K : Act → World → Prop} {Q : Exit → Act → World → Prop} (m x v : Operand) (ho : o.op = .mapUpdate 74 m x v)
    (E : Nat → Prop) (b n : Nat) (kept : Mg.Id4 → Option (List Nat)) (i : Mg.Id4) (p : List Nat) (u : Value) (hm : a.eval m = .map (some b)) (hx : a.eval x = .agg (Mg.idC i)) (hv : a.eval v = u) (hM : Mp E w b n kept) (hn : n ≤ 1000000000) (hf : Fit i) (hno : kept i = none) (hE : El E w u p)
    (h : ∀ w', Mp E w' b (n + 1) (fun k => if k = i then some p else kept k) → But (fun k => k = b) w w' → w'.heap.size = w.heap.size → K (a.put o.dst undef) w') : o.wp Tryz.prog a w K Q := by
  obtain ⟨w', hr, h1, h2, h3⟩ := hM.put hn hf hno hE
  unfold Oper.wp execOp
  simp only [ho, Sem.run_bind, Sem.run_pure, Result.andThen_ok, hm, hx, hv, hr]
  exact h w' h1 h2 h3
theorem delW {w : World} {o : Oper} {a : Act} {K : Act → World → Prop} {Q : Exit → Act → World → Prop} (m x : Operand) (ho : o.op = .call { callee := .builtin .delete, args := #[m, x], argTypes := #[74, 43] })
    (E : Nat → Prop) (b n : Nat) (kept : Mg.Id4 → Option (List Nat)) (i : Mg.Id4) (hm : a.eval m = .map (some b)) (hx : a.eval x = .agg (Mg.idC i)) (hM : Mp E w b n kept) (hf : Fit i) (q : List Nat) (hyes : kept i = some q)
    (h : ∀ w', Mp E w' b (n - 1) (fun k => if k = i then none else kept k) → But (fun k => k = b) w w' → w'.heap.size = w.heap.size → K (a.put o.dst (.tuple #[])) w') : o.wp Tryz.prog a w K Q := by
  obtain ⟨w', hr, h1, h2, h3⟩ := hM.del hf hyes o.type
  unfold Oper.wp execOp
  simp only [ho, resolve, invoke, builtin, Sem.run_bind, Sem.run_pure, Result.andThen_ok, List.map_toArray, List.map_cons, List.map_nil, hm, hx, hr]
  exact h w' h1 h2 h3
end Go.Proofs.YtfnlhfelpdkieaaGreat.So
/- A store in memory: its block of 73 cells, its map, its list of ids, its set. -/
namespace Go.Proofs.YtfnlhfelpdkieaaGreat.So
open Go.RowKit
open Go.Proofs.YtfnlhfelpdkieaaGreat.Me Go.Proofs.YtfnlhfelpdkieaaGreat.Sb
set_option linter.unusedVariables false
set_option linter.unusedSimpArgs false

/-- 73 cells. -/
def row (g : Nat → Value) : Array Value := ((List.range 73).map g).toArray
theorem row_size (g : Nat → Value) : (row g).size = 73 := by simp [row]
theorem row_at (g : Nat → Value) {i : Nat} (h : i < 73) : (row g)[i]? = some (g i) := by simp [row, h]
theorem row_congr {g g' : Nat → Value} (h : ∀ k, k < 73 → g k = g' k) : row g = row g' := by
  unfold row
  congr 1
  exact List.map_congr_left fun k hk => h k (List.mem_range.1 hk)
theorem row_set (g : Nat → Value) (i : Nat) (u : Value) : (row g).setIfInBounds i u = row (fun k => if k = i then u else g k) := by
  apply Array.ext_getElem?
  intro k
  rw [Array.getElem?_setIfInBounds, row_size]
  by_cases hk : k < 73
  · rw [row_at _ hk, row_at _ hk]
    by_cases e : i = k
    · subst e; rw [if_pos rfl, if_pos hk, if_pos rfl]
    · rw [if_neg e, if_neg (fun h => e h.symm)]
  · rw [Array.getElem?_eq_none (by rw [row_size]; omega), Array.getElem?_eq_none (by rw [row_size]; omega)]
    split
    · split
      · omega
      · rfl
    · rfl
/-- The cells of a store: four numbers, the epoch, 64 counters, the map, the list, the bytes, the set. -/
def gc (a b c d e : Int) (f : Nat → Int) (m v : Value) (n : Int) (p : Value) (i : Nat) : Value :=
  if i = 0 then .int .i64 a else if i = 1 then .int .i64 b else if i = 2 then .int .i64 c else if i = 3 then .int .i64 d else if i = 4 then .int .i64 e
  else if i < 69 then .int .i64 (f (i - 5)) else if i = 69 then m else if i = 70 then v else if i = 71 then .int .i64 n else p
theorem gc_last (a b c d e : Int) (f : Nat → Int) (m v : Value) (n : Int) (p : Value) {k : Nat} (h : k < 64) : gc a b c d e f m v n p (5 + k) = .int .i64 (f k) := by
  unfold gc
  rw [if_neg (by omega), if_neg (by omega), if_neg (by omega), if_neg (by omega), if_neg (by omega), if_pos (by omega), show 5 + k - 5 = k by omega]
theorem gc_setE (a b c d e e' : Int) (f : Nat → Int) (m v : Value) (n : Int) (p : Value) : (row (gc a b c d e f m v n p)).setIfInBounds 4 (.int .i64 e') = row (gc a b c d e' f m v n p) := by
  rw [row_set]
  refine row_congr fun k _ => ?_
  unfold gc
  by_cases h : k = 4 <;> simp [h]
theorem gc_setV (a b c d e : Int) (f : Nat → Int) (m v v' : Value) (n : Int) (p : Value) : (row (gc a b c d e f m v n p)).setIfInBounds 70 v' = row (gc a b c d e f m v' n p) := by
  rw [row_set]
  refine row_congr fun k _ => ?_
  unfold gc
  by_cases h : k = 70 <;> simp [h]
theorem gc_setN (a b c d e : Int) (f : Nat → Int) (m v : Value) (n n' : Int) (p : Value) : (row (gc a b c d e f m v n p)).setIfInBounds 71 (.int .i64 n') = row (gc a b c d e f m v n' p) := by
  rw [row_set]
  refine row_congr fun k _ => ?_
  unfold gc
  by_cases h : k = 71 <;> simp [h]
theorem gc_setL (a b c d e : Int) (f : Nat → Int) (m v : Value) (n : Int) (p : Value) {j : Nat} (hj : j < 64) (x : Int) : (row (gc a b c d e f m v n p)).setIfInBounds (5 + j) (.int .i64 x) = row (gc a b c d e (fun k => if k = j then x else f k) m v n p) := by
  rw [row_set]
  refine row_congr fun k _ => ?_
  by_cases h : k = 5 + j
  · subst h
    rw [if_pos rfl, gc_last _ _ _ _ _ _ _ _ _ _ hj, if_pos rfl]
  · rw [if_neg h]
    unfold gc
    repeat' split
    all_goals first
      | rfl
      | (rename_i h2 _; omega)
      | (have : ¬ k - 5 = j := by omega
         simp [this])
/-- A store's block. -/
def scs (s : Sto) (hb sd : Nat) (v : Value) (n : Int) : Array Value := row (gc s.self s.qh s.qb s.qg s.epoch s.last (.map (some hb)) v n (.pointer (some ⟨sd, 0, none⟩)))
def Box (w : World) (D : Nat) (s : Sto) (hb sd : Nat) (v : Value) (n : Int) : Prop := w.heap[D]? = some (.cells (scs s hb sd v n) 79 (0, 0))
section
variable {w w' : World} {D : Nat} {s : Sto} {hb sd : Nat} {v : Value} {n : Int}
theorem Box.cell (h : Box w D s hb sd v n) {i : Nat} (hi : i < 73) : w.cell? ⟨D, i, none⟩ = some (gc s.self s.qh s.qb s.qg s.epoch s.last (.map (some hb)) v n (.pointer (some ⟨sd, 0, none⟩)) i) := by
  rw [cell_of_row w D i _ _ (0, 0) h]
  exact row_at _ hi
theorem Box.self (h : Box w D s hb sd v n) : w.cell? ⟨D, 0, none⟩ = some (.int .i64 s.self) := h.cell (by omega)
theorem Box.qh (h : Box w D s hb sd v n) : w.cell? ⟨D, 1, none⟩ = some (.int .i64 s.qh) := h.cell (by omega)
theorem Box.qb (h : Box w D s hb sd v n) : w.cell? ⟨D, 2, none⟩ = some (.int .i64 s.qb) := h.cell (by omega)
theorem Box.epoch (h : Box w D s hb sd v n) : w.cell? ⟨D, 4, none⟩ = some (.int .i64 s.epoch) := h.cell (by omega)
theorem Box.last (h : Box w D s hb sd v n) {k : Nat} (hk : k < 64) : w.cell? ⟨D, 5 + k, none⟩ = some (.int .i64 (s.last k)) := by rw [h.cell (by omega), gc_last _ _ _ _ _ _ _ _ _ _ hk]
theorem Box.map (h : Box w D s hb sd v n) : w.cell? ⟨D, 69, none⟩ = some (.map (some hb)) := h.cell (by omega)
theorem Box.ord (h : Box w D s hb sd v n) : w.cell? ⟨D, 70, none⟩ = some v := h.cell (by omega)
theorem Box.byt (h : Box w D s hb sd v n) : w.cell? ⟨D, 71, none⟩ = some (.int .i64 n) := h.cell (by omega)
theorem Box.set (h : Box w D s hb sd v n) : w.cell? ⟨D, 72, none⟩ = some (.pointer (some ⟨sd, 0, none⟩)) := h.cell (by omega)
theorem Box.frozen (h : Box w D s hb sd v n) (i : Nat) : w.frozen? ⟨D, i, none⟩ = false := frozen_of_row w D i _ _ h
theorem Box.lt (h : Box w D s hb sd v n) : D < w.heap.size := (Array.getElem?_eq_some_iff.1 h).1
theorem Box.at_ (h : Box w D s hb sd v n) (hD : w'.heap[D]? = w.heap[D]?) : Box w' D s hb sd v n := hD.trans h
theorem Box.below (h : Box w D s hb sd v n) (hb' : Below w.heap.size w w') : Box w' D s hb sd v n := h.at_ (hb'.block _ h.lt)
theorem Box.setV (h : Box w D s hb sd v n) (v' : Value) : Box (w.setCell ⟨D, 70, none⟩ v') D s hb sd v' n := by
  unfold Box
  rw [heap_setCell_same w D 70 _ _ _ h]
  unfold scs
  rw [gc_setV]
theorem Box.setN (h : Box w D s hb sd v n) (n' : Int) : Box (w.setCell ⟨D, 71, none⟩ (.int .i64 n')) D s hb sd v n' := by
  unfold Box
  rw [heap_setCell_same w D 71 _ _ _ h]
  unfold scs
  rw [gc_setN]
theorem Box.setE (h : Box w D s hb sd v n) (e : Int) : Box (w.setCell ⟨D, 4, none⟩ (.int .i64 e)) D ⟨s.self, s.qh, s.qb, s.qg, e, s.last, s.held, s.seen⟩ hb sd v n := by
  unfold Box
  rw [heap_setCell_same w D 4 _ _ _ h]
  unfold scs
  rw [gc_setE]
theorem Box.setL (h : Box w D s hb sd v n) {j : Nat} (hj : j < 64) (x : Int) : Box (w.setCell ⟨D, 5 + j, none⟩ (.int .i64 x)) D ⟨s.self, s.qh, s.qb, s.qg, s.epoch, fun k => if k = j then x else s.last k, s.held, s.seen⟩ hb sd v n := by
  unfold Box
  rw [heap_setCell_same w D (5 + j) _ _ _ h]
  unfold scs
  rw [gc_setL _ _ _ _ _ _ _ _ _ _ hj]
end
/-- The store at D is s: its map's block, its set's two blocks, its list; data in blocks that bear E. -/
structure Sq (E : Nat → Prop) (w : World) (D hb sd sb m : Nat) (v : Value) (s : Sto) : Prop where
  box : Box w D s hb sd v (bytesOf s.held)
  map : Mp E w hb s.held.length (findH s.held)
  ord : Ki w 0 v (s.held.map It.i)
  set : Se.Set w true sd sb m s.seen
  ok : Ok s
  ne : hb ≠ sb
/-- The blocks that a store's calls turn. -/
def Chg (D hb sd sb : Nat) (v : Value) (k : Nat) : Prop := k = D ∨ k = hb ∨ k = sd ∨ k = sb ∨ v.ownBlock = some k
section
variable {E E' : Nat → Prop} {w w' : World} {D hb sd sb m : Nat} {v : Value} {s : Sto}
theorem Sq.lt (h : Sq E w D hb sd sb m v s) : ∀ k, Chg D hb sd sb v k → k < w.heap.size := by
  rintro k (rfl | rfl | rfl | rfl | e)
  · exact h.box.lt
  · exact h.map.lt
  · exact h.set.lt.1
  · exact h.set.lt.2
  · exact (Ki.lt h.ord e).2
theorem ki_at {B : Nat} {l : List Mg.Id4} (h : Ki w B v l) (hk : ∀ k, v.ownBlock = some k → w'.heap[k]? = w.heap[k]?) : Ki w' B v l := own_same h fun k e _ => hk k e
theorem Sq.keep (h : Sq E w D hb sd sb m v s) (hk : ∀ k, Chg D hb sd sb v k → w'.heap[k]? = w.heap[k]?) (hi : Se.Ints w w') (hu : U8s E w w') (hE : ∀ k, k < w.heap.size → E k → E' k) : Sq E' w' D hb sd sb m v s :=
  ⟨h.box.at_ (hk _ (.inl rfl)), h.map.keep (hk _ (.inr (.inl rfl))) hu hE, ki_at h.ord fun k e => hk k (.inr (.inr (.inr (.inr e)))), h.set.keep (hk _ (.inr (.inr (.inl rfl)))) (hk _ (.inr (.inr (.inr (.inl rfl))))) hi, h.ok, h.ne⟩
theorem Sq.below (h : Sq E w D hb sd sb m v s) (hb' : Below w.heap.size w w') : Sq E w' D hb sd sb m v s :=
  h.keep (fun k hk => hb'.block k (h.lt k hk)) (Se.Ints.below hb') (U8s.below hb') fun _ _ h => h
/-- It stays where no block of its own, none of ints and none of its data is turned. -/
theorem Sq.but {S : Nat → Prop} (h : Sq E w D hb sd sb m v s) (hb' : But S w w') (h1 : ∀ k, Chg D hb sd sb v k → ¬ S k) (h2 : ∀ (k : Nat) (cs : Array Value), S k → w.heap[k]? ≠ some (.cells cs 3 (0, 0))) (h3 : ∀ (k : Nat) (cs : Array Value), S k → E k → w.heap[k]? ≠ some (.cells cs 5 (0, 0))) : Sq E w' D hb sd sb m v s :=
  h.keep (fun k hk => hb'.same k (h.lt k hk) (h1 k hk)) (Se.Ints.but hb' fun k cs hk hs => h2 k cs hs hk) (U8s.but hb' fun k cs he hk hs => h3 k cs hs he hk) fun _ _ h => h
/-- The kinds of its blocks. -/
theorem Sq.kind (h : Sq E w D hb sd sb m v s) : (∃ cs, w.heap[D]? = some (.cells cs 79 (0, 0))) ∧ (∃ es c, w.heap[hb]? = some (.map es c)) ∧ (∃ cs, w.heap[sd]? = some (.cells cs 117 (0, 0))) ∧ (∃ es c, w.heap[sb]? = some (.map es c)) ∧ ∀ k, v.ownBlock = some k → ∃ cs, w.heap[k]? = some (.cells cs 43 (0, 0)) :=
  ⟨⟨_, h.box⟩, h.map.isMap, ⟨_, h.set.box⟩, h.set.map.isMap, own_type h.ord⟩
/-- None of them is one of ints or bytes. -/
theorem Sq.no8 (h : Sq E w D hb sd sb m v s) {k : Nat} (hk : Chg D hb sd sb v k) (cs : Array Value) : w.heap[k]? ≠ some (.cells cs 5 (0, 0)) ∧ w.heap[k]? ≠ some (.cells cs 3 (0, 0)) := by
  obtain ⟨⟨c1, h1⟩, ⟨e2, c2, h2⟩, ⟨c3, h3⟩, ⟨e4, c4, h4⟩, h5⟩ := h.kind
  rcases hk with rfl | rfl | rfl | rfl | e
  · rw [h1]; exact ⟨by simp, by simp⟩
  · rw [h2]; exact ⟨by simp, by simp⟩
  · rw [h3]; exact ⟨by simp, by simp⟩
  · rw [h4]; exact ⟨by simp, by simp⟩
  · obtain ⟨c5, h5⟩ := h5 k e
    rw [h5]; exact ⟨by simp, by simp⟩
/-- They are five. -/
theorem Sq.apart (h : Sq E w D hb sd sb m v s) : D ≠ hb ∧ D ≠ sd ∧ D ≠ sb ∧ hb ≠ sd ∧ hb ≠ sb ∧ sd ≠ sb ∧ ∀ k, v.ownBlock = some k → k ≠ D ∧ k ≠ hb ∧ k ≠ sd ∧ k ≠ sb := by
  obtain ⟨⟨c1, h1⟩, ⟨e2, c2, h2⟩, ⟨c3, h3⟩, ⟨e4, c4, h4⟩, h5⟩ := h.kind
  refine ⟨?_, ?_, ?_, ?_, h.ne, ?_, fun k e => ?_⟩
  · rintro rfl; rw [h1] at h2; cases h2
  · rintro rfl; rw [h1] at h3; simp at h3
  · rintro rfl; rw [h1] at h4; cases h4
  · rintro rfl; rw [h2] at h3; cases h3
  · rintro rfl; rw [h3] at h4; cases h4
  · obtain ⟨c5, h5⟩ := h5 k e
    refine ⟨?_, ?_, ?_, ?_⟩
    · rintro rfl; rw [h1] at h5; simp at h5
    · rintro rfl; rw [h2] at h5; cases h5
    · rintro rfl; rw [h3] at h5; simp at h5
    · rintro rfl; rw [h4] at h5; cases h5
end
end Go.Proofs.YtfnlhfelpdkieaaGreat.So
/- An id is taken out of a list: slices.IndexFunc, slices.DeleteFunc with release's closure. -/
namespace Go.Proofs.YtfnlhfelpdkieaaGreat.So
open Go.RowKit
open Go.Proofs.YtfnlhfelpdkieaaGreat.Me Go.Proofs.YtfnlhfelpdkieaaGreat.Sb
set_option linter.unusedVariables false
set_option linter.unusedSimpArgs false

/-! ### Pure -/
/-- The list when k of those behind i were moved up by one. -/
def mv (a : List Mg.Id4) (i : Mg.Id4) (b : List Mg.Id4) (k : Nat) : List Mg.Id4 := a ++ (b.take k ++ (i :: b).drop k)
theorem mv_zero (a : List Mg.Id4) (i : Mg.Id4) (b : List Mg.Id4) : mv a i b 0 = a ++ i :: b := by simp [mv]
theorem mv_len (a : List Mg.Id4) (i : Mg.Id4) (b : List Mg.Id4) {k : Nat} (h : k ≤ b.length) : (mv a i b k).length = a.length + b.length + 1 := by
  unfold mv
  simp
  omega
theorem mv_get (a : List Mg.Id4) (i : Mg.Id4) (b : List Mg.Id4) {k : Nat} (h : k < b.length) : idAt (mv a i b k) (a.length + 1 + k) = idAt b k := by
  unfold idAt mv
  rw [List.getD_eq_getElem?_getD, List.getD_eq_getElem?_getD, List.getElem?_append_right (by omega), List.getElem?_append_right (by simp; omega), List.getElem?_drop]
  simp only [List.length_take]
  rw [show k + (a.length + 1 + k - a.length - min k b.length) = k + 1 by omega, List.getElem?_cons_succ]
theorem mv_set (a : List Mg.Id4) (i : Mg.Id4) (b : List Mg.Id4) {k : Nat} (h : k < b.length) : (mv a i b k).set (a.length + k) (idAt b k) = mv a i b (k + 1) := by
  unfold mv
  rw [List.set_append_right _ _ (by omega), List.set_append_right _ _ (by simp; omega)]
  congr 1
  rw [show a.length + k - a.length - (b.take k).length = 0 by simp; omega]
  have e1 : (i :: b).drop k = (i :: b)[k]'(by simp; omega) :: b.drop k := by
    rw [List.drop_eq_getElem_cons (by simp; omega)]
    rfl
  rw [e1, List.set_cons_zero, List.drop_succ_cons]
  have e2 : b.take (k + 1) = b.take k ++ [idAt b k] := by
    rw [List.take_add_one, List.getElem?_eq_getElem h]
    simp [idAt, h]
  rw [e2, List.append_assoc]
  rfl
theorem mv_end (a : List Mg.Id4) (i : Mg.Id4) (b : List Mg.Id4) : (mv a i b b.length).take (a.length + b.length) = a ++ b := by
  unfold mv
  rw [List.take_length, ← List.append_assoc]
  rw [List.take_append_of_le_length (by simp)]
  rw [List.take_of_length_le (by simp)]
/-! ### In memory -/
theorem heap_setCells (g : Nat) (T : TypeId) : ∀ (vs : List Value) (o : Nat) (w : World) (cur : Array Value), w.heap[g]? = some (.cells cur T (0, 0)) →
    ∃ cur', (w.setCells g o vs).heap[g]? = some (.cells cur' T (0, 0)) ∧ cur'.size = cur.size ∧ (∀ i, i < o ∨ o + vs.length ≤ i → cur'[i]? = cur[i]?) ∧ (∀ j, j < vs.length → o + j < cur.size → cur'[o + j]? = vs[j]?)
  | [], o, w, cur, h => ⟨cur, h, rfl, fun _ _ => rfl, fun j hj => absurd hj (by simp)⟩
  | v :: r, o, w, cur, h => by
    obtain ⟨cur', h1, h2, h3, h4⟩ := heap_setCells g T r (o + 1) (w.setCell ⟨g, o, none⟩ v) _ (heap_setCell_same w g o cur T v h)
    refine ⟨cur', h1, by rw [h2]; simp, fun i hi => ?_, fun j hj hs => ?_⟩
    · rw [h3 i (by simp only [List.length_cons] at hi; omega), Array.getElem?_setIfInBounds_ne (by simp only [List.length_cons] at hi; omega)]
    · cases j with
      | zero =>
        rw [h3 (o + 0) (by omega)]
        simp at hs ⊢
        simp [hs]
      | succ j =>
        have := h4 j (by simpa using hj) (by simp; omega)
        rw [show o + (j + 1) = o + 1 + j by omega, this]
        simp
theorem but_setCells (w : World) (g o : Nat) (vs : List Value) : But (fun k => k = g) w (w.setCells g o vs) ∧ (w.setCells g o vs).heap.size = w.heap.size := by
  have hs : ∀ (vs : List Value) (o : Nat) (w : World), (w.setCells g o vs).heap.size = w.heap.size ∧ (w.setCells g o vs).os = w.os ∧ (w.setCells g o vs).tape = w.tape ∧ (w.setCells g o vs).output = w.output ∧ ∀ k, k ≠ g → (w.setCells g o vs).heap[k]? = w.heap[k]? := by
    intro vs
    induction vs with
    | nil => intro o w; exact ⟨rfl, rfl, rfl, rfl, fun _ _ => rfl⟩
    | cons v r ih =>
      intro o w
      obtain ⟨a1, a2, a3, a4, a5⟩ := ih (o + 1) (w.setCell ⟨g, o, none⟩ v)
      exact ⟨by rw [World.setCells, a1]; simp, a2, a3, a4, fun k hk => (a5 k hk).trans (Below.heap_setCell w ⟨g, o, none⟩ v k hk)⟩
  obtain ⟨a1, a2, a3, a4, a5⟩ := hs vs o w
  exact ⟨⟨a2, a3, a4, by omega, fun k _ hk => a5 k hk⟩, a1⟩
theorem idc_at (i : Mg.Id4) {j : Nat} (h : j < 4) : (idc i)[j]? = some ((idc i)[j]'h) := List.getElem?_eq_getElem h
/-- The cells of a list with one id changed. -/
theorem idsV_set {l : List Mg.Id4} {k : Nat} (hk : k < l.length) (x : Mg.Id4) (p : Nat) (hp : p < l.length * 4) : (idsV (l.set k x))[p]? = if p / 4 = k then (idc x)[p % 4]? else (idsV l)[p]? := by
  have e : p = p / 4 * 4 + p % 4 := by omega
  have h1 : p / 4 < l.length := by omega
  rw [e, idsV_get (by rw [List.length_set]; exact h1) (by omega)]
  rw [show (p / 4 * 4 + p % 4) / 4 = p / 4 by omega, show (p / 4 * 4 + p % 4) % 4 = p % 4 by omega]
  by_cases hq : p / 4 = k
  · rw [if_pos hq]
    congr 2
    unfold idAt
    rw [hq, List.getD_eq_getElem?_getD, List.getElem?_set_self hk]
    rfl
  · rw [if_neg hq, idsV_get h1 (by omega)]
    congr 2
    unfold idAt
    rw [List.getD_eq_getElem?_getD, List.getD_eq_getElem?_getD, List.getElem?_set_ne (fun h => hq h.symm)]
/-- An id is written into a list of one's own. -/
theorem Ki.set {w : World} {g n c : Nat} {l : List Mg.Id4} (h : Ki w 0 (.slice (some ⟨g, 0, none⟩) n c) l) {k : Nat} (hk : k < l.length) (x : Mg.Id4) : Ki (w.setCells g (k * 4) (idc x)) 0 (.slice (some ⟨g, 0, none⟩) n c) (l.set k x) := by
  unfold Ki at h ⊢
  rcases h.2 with ⟨h1, _⟩ | ⟨g', cap, cur, h1, h2, h3, h4, h5, h6, h7⟩
  · cases h1
  · injection h1 with e1 e2 e3
    injection e1 with e1
    injection e1 with e1 _ _
    subst e1 e2 e3
    obtain ⟨cur', q1, q2, q3, q4⟩ := heap_setCells g 43 (idc x) (k * 4) w cur h3
    have hcl : l.length * 4 ≤ cur.size := by
      have := congrArg List.length h7
      rw [idsV_len] at this
      simp at this
      omega
    refine ⟨by rw [List.length_set, idsV_len, List.length_set], .inr ⟨g, c, cur', by rw [List.length_set], h2, q1, by rw [List.length_set]; exact h4, h5, by rw [q2]; exact h6, ?_⟩⟩
    rw [List.length_set]
    apply List.ext_getElem?
    intro p
    rw [List.getElem?_take]
    by_cases hp : p < l.length * 4
    · rw [if_pos hp, idsV_set hk x p hp, Array.getElem?_toList]
      by_cases hq : p / 4 = k
      · rw [if_pos hq]
        have := q4 (p % 4) (by show p % 4 < 4; omega) (by omega)
        rw [show k * 4 + p % 4 = p by omega] at this
        exact this
      · rw [if_neg hq, q3 p (by show p < k * 4 ∨ k * 4 + 4 ≤ p; omega), ← h7, List.getElem?_take, if_pos hp, Array.getElem?_toList]
    · rw [if_neg hp, List.getElem?_eq_none (by rw [idsV_len, List.length_set]; omega)]
/-- Its first n. -/
theorem Ki.first {w : World} {A : Option Addr} {n c : Nat} {l : List Mg.Id4} (h : Ki w 0 (.slice A n c) l) {k : Nat} (hk : k ≤ l.length) : Ki w 0 (.slice A k c) (l.take k) := by
  unfold Ki at h ⊢
  have hl : (l.take k).length = k := by simp; omega
  have ht : idsV (l.take k) = (idsV l).take (k * 4) := by
    apply List.ext_getElem?
    intro p
    rw [List.getElem?_take]
    by_cases hp : p < k * 4
    · rw [if_pos hp, show p = p / 4 * 4 + p % 4 by omega, idsV_get (by rw [hl]; omega) (by omega), idsV_get (by omega) (by omega)]
      congr 2
      unfold idAt
      rw [List.getD_eq_getElem?_getD, List.getD_eq_getElem?_getD, List.getElem?_take, if_pos (by omega)]
    · rw [if_neg hp, List.getElem?_eq_none (by rw [idsV_len, hl]; omega)]
  rw [hl, ht]
  refine ⟨by rw [List.length_take, idsV_len]; omega, ?_⟩
  rcases h.2 with ⟨h1, h2⟩ | ⟨g', cap, cur, h1, h2, h3, h4, h5, h6, h7⟩
  · injection h1 with e1 e2 e3
    subst e1 e3
    obtain rfl : k = 0 := by omega
    exact .inl ⟨rfl, rfl⟩
  · injection h1 with e1 e2 e3
    subst e1 e3
    refine .inr ⟨g', c, cur, rfl, h2, h3, by omega, h5, h6, ?_⟩
    rw [← h7, List.take_take]
    congr 1
    omega
/-- A cell behind its end may be written. -/
theorem Ki.behind {w : World} {g c k o : Nat} {l : List Mg.Id4} {vs : List Value} (h : Ki w 0 (.slice (some ⟨g, 0, none⟩) k c) l) (ho : l.length * 4 ≤ o) : Ki (w.setCells g o vs) 0 (.slice (some ⟨g, 0, none⟩) k c) l := by
  unfold Ki at h ⊢
  rcases h.2 with ⟨h1, _⟩ | ⟨g', cap, cur, h1, h2, h3, h4, h5, h6, h7⟩
  · cases h1
  · injection h1 with e1 e2 e3
    injection e1 with e1
    injection e1 with e1 _ _
    subst e1 e2 e3
    obtain ⟨cur', q1, q2, q3, q4⟩ := heap_setCells g 43 vs o w cur h3
    refine ⟨h.1, .inr ⟨g, c, cur', rfl, h2, q1, h4, h5, by rw [q2]; exact h6, ?_⟩⟩
    rw [← h7]
    apply List.ext_getElem?
    intro p
    rw [List.getElem?_take, List.getElem?_take]
    by_cases hp : p < l.length * 4
    · rw [if_pos hp, if_pos hp, Array.getElem?_toList, Array.getElem?_toList, q3 p (by omega)]
    · rw [if_neg hp, if_neg hp]
theorem Ki.there {w : World} {g n c k : Nat} {l : List Mg.Id4} (h : Ki w 0 (.slice (some ⟨g, 0, none⟩) n c) l) (hk : k < l.length) : w.there g (k * 4) 4 := by
  unfold Ki at h
  rcases h.2 with ⟨h1, _⟩ | ⟨g', cap, cur, h1, h2, h3, h4, h5, h6, h7⟩
  · cases h1
  · injection h1 with e1 e2 e3
    injection e1 with e1
    injection e1 with e1 _ _
    subst e1 e2 e3
    have hcl : l.length * 4 ≤ cur.size := by
      have := congrArg List.length h7
      rw [idsV_len] at this
      simp at this
      omega
    intro j hj
    refine ⟨?_, frozen_of_row w g _ _ _ h3⟩
    rw [cell_of_row w g _ _ _ (0, 0) h3, Array.getElem?_eq_getElem (by omega)]
    rfl
/-- 'clear' of one id. -/
theorem run_clear_one (w : World) (ty : TypeId) (b o c : Nat) (h : w.there b o 4) :
    (Builtin.clear_ #[77] ty #[.slice (some ⟨b, o, none⟩) 1 c]).run Tryz.prog w = .ok (.tuple #[]) (w.setCells b o (idc zeroI)) := by
  have hv : ∀ w, (zeroValue 43).run Tryz.prog w = .ok (.agg #[.int .i64 0, .int .i64 0, .int .i64 0, .int .i64 0]) w := fun w => by kernel_rfl
  have hzc : (Builtin.zeroCells (Value.agg #[.int .i64 0, .int .i64 0, .int .i64 0, .int .i64 0]).cells 1).toList = idc zeroI := by kernel_rfl
  have hst := run_storeCells_cells (P := Tryz.prog) b o (idc zeroI) 0 w (fun j hj => by simpa using (h j hj).1) (fun j hj => by simpa using (h j hj).2) (by
    intro v hv'
    simp only [idc, zeroI, List.mem_cons, List.not_mem_nil, or_false] at hv'
    rcases hv' with rfl | rfl | rfl | rfl <;> rfl)
  simp only [Nat.add_zero] at hst
  have e : (Builtin.zeroCells (Value.agg #[.int .i64 0, .int .i64 0, .int .i64 0, .int .i64 0]).cells 1) = (idc zeroI).toArray := by rw [← hzc]
  simp [Builtin.clear_, run_underlying Tryz.underlying77, hv, e, hst, Result.andThen]
end Go.Proofs.YtfnlhfelpdkieaaGreat.So
/- slices.IndexFunc, slices.DeleteFunc with release's closure. -/
namespace Go.Proofs.YtfnlhfelpdkieaaGreat.So
open Go.RowKit
open Go.Proofs.YtfnlhfelpdkieaaGreat.Me Go.Proofs.YtfnlhfelpdkieaaGreat.Sb
set_option linter.unusedVariables false
set_option linter.unusedSimpArgs false

set_option maxHeartbeats 4000000 in
theorem same_yes (X : Nat) (i : Mg.Id4) (w : World) (hX : Hid (w.heap[X]? = some (.cells (Mg.idC i) 43 (0, 0)))) : Calls Tryz.prog 67 #[.agg (Mg.idC i), .pointer (some ⟨X, 0, none⟩)] w fun e w' => e = .returned (.bool true) ∧ Hid (Below w.heap.size w w') := by
  have HB : Hid (Below w.heap.size w (w.alloc (.cells (Mg.idC i) 43))) := Me.below_alloc (Below.refl _ _)
  have hx := (HB.out.block X (Array.getElem?_eq_some_iff.1 hX.out).1).trans hX.out
  obtain ⟨o, d, ee, c⟩ := i
  simp only [Mg.idC] at HB hx ⊢
  obtain ⟨x0, x1, x2, x3⟩ := id_cells hx
  clear hx hX
  go_enter Tryz.func67, Tryz.ntmps67
  go_wp2
  go_ret
  exact ⟨rfl, HB.out⟩
set_option maxHeartbeats 4000000 in
theorem same_no (X : Nat) (i x : Mg.Id4) (w : World) (hne : x ≠ i) (hX : Hid (w.heap[X]? = some (.cells (Mg.idC i) 43 (0, 0)))) : Calls Tryz.prog 67 #[.agg (Mg.idC x), .pointer (some ⟨X, 0, none⟩)] w fun e w' => e = .returned (.bool false) ∧ Hid (Below w.heap.size w w') := by
  have HB : Hid (Below w.heap.size w (w.alloc (.cells (Mg.idC x) 43))) := Me.below_alloc (Below.refl _ _)
  have hx := (HB.out.block X (Array.getElem?_eq_some_iff.1 hX.out).1).trans hX.out
  obtain ⟨o, d, ee, c⟩ := i
  obtain ⟨o', d', ee', c'⟩ := x
  have hc : ¬ o' = o ∨ (o' = o ∧ ¬ d' = d) ∨ (o' = o ∧ d' = d ∧ ¬ ee' = ee) ∨ (o' = o ∧ d' = d ∧ ee' = ee ∧ ¬ c' = c) := by
    by_cases a0 : o' = o
    · by_cases a1 : d' = d
      · by_cases a2 : ee' = ee
        · exact .inr (.inr (.inr ⟨a0, a1, a2, fun h => hne (by rw [a0, a1, a2, h])⟩))
        · exact .inr (.inr (.inl ⟨a0, a1, a2⟩))
      · exact .inr (.inl ⟨a0, a1⟩)
    · exact .inl a0
  clear hne
  simp only [Mg.idC] at HB hx ⊢
  obtain ⟨x0, x1, x2, x3⟩ := id_cells hx
  clear hx hX
  rcases hc with h | ⟨rfl, h⟩ | ⟨rfl, rfl, h⟩ | ⟨rfl, rfl, rfl, h⟩
  all_goals
    go_enter Tryz.func67, Tryz.ntmps67
    go_wp2
    go_ret
    exact ⟨rfl, HB.out⟩
theorem Ki.cells {w : World} {g n c : Nat} {l : List Mg.Id4} (h : Ki w 0 (.slice (some ⟨g, 0, none⟩) n c) l) {k : Nat} (hk : k < l.length) : w.cell? ⟨g, k * 4, none⟩ = some (.int .i64 (idAt l k).o) ∧ w.cell? ⟨g, k * 4 + 1, none⟩ = some (.int .i64 (idAt l k).d) ∧ w.cell? ⟨g, k * 4 + 2, none⟩ = some (.int .i64 (idAt l k).e) ∧ w.cell? ⟨g, k * 4 + 3, none⟩ = some (.int .i64 (idAt l k).c) := by
  obtain ⟨A, c', e, _, _, hi⟩ := h.form
  injection e with e1 _ _
  obtain ⟨b, off, e2, _, c0, c1, c2, c3⟩ := hi k hk
  rw [← e1] at e2
  injection e2 with e2
  injection e2 with e3 e4 _
  subst e3 e4
  simp only [Nat.zero_add] at c0 c1 c2 c3
  exact ⟨c0, c1, c2, c3⟩
set_option maxRecDepth 100000 in
set_option maxHeartbeats 8000000 in
theorem IndexFunc_any (g c X : Nat) (a : List Mg.Id4) (i : Mg.Id4) (b : List Mg.Id4) (w : World) (N M : Nat) (hN : (a ++ i :: b).length = N) (hM : a.length = M) (hNb : N ≤ 1000) (ha : i ∉ a) (hK : Hid (Ki w 0 (.slice (some ⟨g, 0, none⟩) N c) (a ++ i :: b))) (hX : Hid (w.heap[X]? = some (.cells (Mg.idC i) 43 (0, 0)))) :
    Calls Tryz.prog 93 #[.slice (some ⟨g, 0, none⟩) N c, .func (.func 67) #[] #[.pointer (some ⟨X, 0, none⟩)]] w fun e w' => e = .returned (.int .i64 (M : Int)) ∧ Hid (Below w.heap.size w w') := by
  have eg : ∀ args w, (callFunc 67 args).run Tryz.prog w = .ok (.enter 67 args) w := enters_of Tryz.func67 (by kernel_rfl) rfl
  have hMN : M < N := by rw [← hN, ← hM]; simp
  have HI : Hid (∀ W, Below w.heap.size w W → ∀ k, k < N → W.cell? ⟨g, k * 4, none⟩ = some (.int .i64 (idAt (a ++ i :: b) k).o) ∧ W.cell? ⟨g, k * 4 + 1, none⟩ = some (.int .i64 (idAt (a ++ i :: b) k).d) ∧ W.cell? ⟨g, k * 4 + 2, none⟩ = some (.int .i64 (idAt (a ++ i :: b) k).e) ∧ W.cell? ⟨g, k * 4 + 3, none⟩ = some (.int .i64 (idAt (a ++ i :: b) k).c)) := fun W hW k hk => (ki_at hK.out fun x e => hW.block x (Ki.lt hK.out e).2).cells (by omega)
  have HX : Hid (∀ W, Below w.heap.size w W → Hid (W.heap[X]? = some (.cells (Mg.idC i) 43 (0, 0)))) := fun W hW => (hW.block X (Array.getElem?_eq_some_iff.1 hX.out).1).trans hX.out
  have hat : idAt (a ++ i :: b) M = i := by unfold idAt; rw [List.getD_eq_getElem?_getD, List.getElem?_append_right (by omega)]; simp [hM]
  have hne : ∀ k, k < M → idAt (a ++ i :: b) k ≠ i := fun k hk e => ha (by
    unfold idAt at e
    rw [List.getD_eq_getElem?_getD, List.getElem?_append_left (by omega), List.getElem?_eq_getElem (by omega)] at e
    simp at e
    rw [← e]
    exact List.getElem_mem _)
  have HAt := Lib.hid hat
  have HNe := Lib.hid hne
  obtain ⟨l, hl⟩ : ∃ l, a ++ i :: b = l := ⟨_, rfl⟩
  rw [hl] at HI HAt HNe
  clear hat hne hl hN hM ha hK hX
  go_enter Tryz.func93, Tryz.ntmps93
  go_wp2
  go_loopw [8] (fun v8 wr => ∃ k : Nat, k ≤ M ∧ v8 = .int .i64 (k : Int) ∧ Hid (Below w.heap.size w wr)) (fun v8 _ => N - (intOf v8).toNat)
  case atStart => exact ⟨0, Nat.zero_le _, rfl, Below.refl _ _⟩
  case round =>
    obtain ⟨k, hk, rfl, HB⟩ := hrel
    obtain ⟨e0, e1, e2, e3⟩ := HI.out wr HB.out k (by omega)
    have g1 : (k : Int) < (N : Int) := by omega
    have g2 : ¬ (N : Int) ≤ (k : Int) := by omega
    by_cases hlt : k < M
    · have hn := HNe.out k hlt
      obtain ⟨x, hx⟩ : ∃ x, idAt l k = x := ⟨_, rfl⟩
      rw [hx] at e0 e1 e2 e3 hn
      have HF := Lib.hid (same_no X i x wr hn (HX.out wr HB.out))
      obtain ⟨o', d', ee', c'⟩ := x
      simp only [Mg.idC] at e0 e1 e2 e3 HF
      clear hx hn
      go_wp2_with (go_at_call 67; refine HF.out.mono ?_; rintro e w2 ⟨rfl, hb2⟩)
      go_roundw
      case rel => exact ⟨k + 1, by omega, by go_num, HB.out.trans (hb2.out.mono HB.out.size)⟩
      case measure => simp [intOf]; omega
    · obtain rfl : k = M := by omega
      have HF := Lib.hid (same_yes X i wr (HX.out wr HB.out))
      rw [HAt.out] at e0 e1 e2 e3
      obtain ⟨o', d', ee', c'⟩ := i
      simp only [Mg.idC] at e0 e1 e2 e3 HF
      go_wp2_with (go_at_call 67; refine HF.out.mono ?_; rintro e w2 ⟨rfl, hb2⟩)
      go_ret
      exact ⟨rfl, HB.out.trans (hb2.out.mono HB.out.size)⟩
end Go.Proofs.YtfnlhfelpdkieaaGreat.So
