/- A map from ids to bytes of one's own: what its block holds, what its operations do. -/
import Derived.Test.YtfnlhfelpdkieaaGreatZ3
import Derived.Test.YtfnlhfelpdkieaaGreatZ4
import Derived.WideKeyPair
import Derived.DeepKeys4
import Derived.Maps.OwnSet
import Derived.Sort.MapsRangeIn
namespace Go.Proofs.YtfnlhfelpdkieaaGreat.So
open Go.RowKit Go.Maps Go.WideElems
open Go.Proofs.YtfnlhfelpdkieaaGreat.Me Go.Proofs.YtfnlhfelpdkieaaGreat.Sb
set_option linter.unusedVariables false
set_option linter.unusedSimpArgs false

/-! ### Keys -/
abbrev RV : Value → Option (DataW Value × List MemPlace) := fun v => some (.held v, [])
theorem idKey : Tryz.prog.keyTypeAt 2 43 = true := by kernel_rfl
theorem idTiled : Tryz.prog.tiled 2 43 = true := by kernel_rfl
theorem keyed : Keyed Tryz.prog 43 := Keyed.of_law (deep_law (m := 2) (by omega) idKey idTiled (by rw [Tryz.underlying43]))
def kl (i : Mg.Id4) : Lit := .string (keyBytes [.int .i64 i.o, .int .i64 i.d, .int .i64 i.e, .int .i64 i.c])
/-- A number that fits. -/
def Fit (i : Mg.Id4) : Prop := (Lit.int .i64 i.o).wf = true ∧ (Lit.int .i64 i.d).wf = true ∧ (Lit.int .i64 i.e).wf = true ∧ (Lit.int .i64 i.c).wf = true
theorem fit_right {i : Mg.Id4} (h : Mg.Right i) : Fit i := by
  obtain ⟨h1, h2, h3, h4, h5, h6, h7, h8, _⟩ := h
  exact ⟨WalkArith.wf_i64 (by omega), WalkArith.wf_i64 (by omega), WalkArith.wf_i64 (by omega), WalkArith.wf_i64 (by omega)⟩
theorem fit_zero : Fit zeroI := ⟨WalkArith.wf_i64 (by decide), WalkArith.wf_i64 (by decide), WalkArith.wf_i64 (by decide), WalkArith.wf_i64 (by decide)⟩
theorem types_pos : ∃ m, Tryz.prog.types.size = m + 1 := by
  have h : 0 < Tryz.prog.types.size := of_decide_eq_true (by kernel_rfl)
  exact ⟨Tryz.prog.types.size - 1, by omega⟩
theorem keyT : Tryz.prog.keyType 43 = true := by kernel_rfl
theorem formedId (a b c d : Value) : (Value.agg #[a, b, c, d]).formed Tryz.prog 43 = true := by kernel_rfl
theorem key_of {i : Mg.Id4} (h : Fit i) : keyOf Tryz.prog 43 (.agg (Mg.idC i)) = some (kl i) := by
  obtain ⟨o, d, e, c⟩ := i
  obtain ⟨h0, h1, h2, h3⟩ := h
  obtain ⟨m, hm⟩ := types_pos
  show keyOf Tryz.prog 43 (.agg #[.int .i64 o, .int .i64 d, .int .i64 e, .int .i64 c]) = some (.string (keyBytes [.int .i64 o, .int .i64 d, .int .i64 e, .int .i64 c]))
  unfold keyOf
  simp only [Tryz.underlying43]
  rw [if_pos (by rw [keyT, formedId]; rfl), hm]
  unfold Program.keyLits
  simp only [Tryz.underlying43, Value.cells]
  rw [if_pos ⟨by kernel_rfl, by kernel_rfl⟩]
  simp only [List.mapM_cons, List.mapM_nil]
  have e1 : Tryz.prog.cellsOf 3 = 1 := by kernel_rfl
  simp only [e1]
  simp [Program.keyLits, Tryz.underlying3, h0, h1, h2, h3]
theorem key_lit (i : Mg.Id4) : WideAt.IsKeyLit (kl i) := trivial
theorem kl_inj {i j : Mg.Id4} (h : Fit i) (k : Fit j) (hk : kl i = kl j) : i = j := by
  have := _root_.Go.keyBytes_inj (l := [.int .i64 i.o, .int .i64 i.d, .int .i64 i.e, .int .i64 i.c]) (l' := [.int .i64 j.o, .int .i64 j.d, .int .i64 j.e, .int .i64 j.c]) ⟨rfl, rfl, rfl, rfl, trivial⟩ (by
    intro x hx
    simp only [List.mem_cons, List.not_mem_nil, or_false] at hx
    rcases hx with rfl | rfl | rfl | rfl
    · exact h.1
    · exact h.2.1
    · exact h.2.2.1
    · exact h.2.2.2) (by
    intro x hx
    simp only [List.mem_cons, List.not_mem_nil, or_false] at hx
    rcases hx with rfl | rfl | rfl | rfl
    · exact k.1
    · exact k.2.1
    · exact k.2.2.1
    · exact k.2.2.2) (by injection hk)
  obtain ⟨o, d, e, c⟩ := i
  obtain ⟨o', d', e', c'⟩ := j
  simpa using this
/-! ### Bytes of one's own -/
/-- A slice of one's own with these bytes, in a block that bears E. -/
def El (E : Nat → Prop) (w : World) (u : Value) (l : List Nat) : Prop :=
  ∃ A c, u = .slice A l.length c ∧ Me.Own w 0 (.slice A l.length c) l ∧ ∀ a, A = some a → E a.block
theorem own_type {w : World} {B T s n : Nat} {v : Value} {xs : List Value} (h : w.ownsRow B T s v n xs) : ∀ k, v.ownBlock = some k → ∃ cur, w.heap[k]? = some (.cells cur T (0, 0)) := by
  intro k e
  rcases h.2 with ⟨rfl, _⟩ | ⟨g, cap, cur, rfl, _, h3, _⟩
  · cases e
  · simp only [Value.ownBlock, Option.some.injEq] at e
    subst e
    exact ⟨cur, h3⟩
/-- What leaves the blocks of bytes that bear E alone. -/
def U8s (E : Nat → Prop) (w w' : World) : Prop := ∀ (k : Nat) (cs : Array Value), E k → w.heap[k]? = some (.cells cs 5 (0, 0)) → w'.heap[k]? = w.heap[k]?
theorem U8s.below {E : Nat → Prop} {w w' : World} (h : Below w.heap.size w w') : U8s E w w' := fun k cs _ hk => h.block k (Array.getElem?_eq_some_iff.1 hk).1
theorem U8s.trans {E : Nat → Prop} {w w' w'' : World} (h : U8s E w w') (k : U8s E w' w'') : U8s E w w'' := fun x cs hx he => (k x cs hx ((h x cs hx he).trans he)).trans (h x cs hx he)
theorem U8s.but {E S : Nat → Prop} {w w' : World} (h : But S w w') (hS : ∀ (k : Nat) (cs : Array Value), E k → w.heap[k]? = some (.cells cs 5 (0, 0)) → ¬ S k) : U8s E w w' := fun k cs he hk => h.same k (Array.getElem?_eq_some_iff.1 hk).1 (hS k cs he hk)
theorem El.kept {E E' : Nat → Prop} {w w' : World} {u : Value} {l : List Nat} (h : El E w u l) (hk : U8s E w w') (hE : ∀ k, k < w.heap.size → E k → E' k) : El E' w' u l := by
  obtain ⟨A, c, e, ho, hF⟩ := h
  refine ⟨A, c, e, own_same ho fun k ek hk' => ?_, fun a ea => ?_⟩
  · obtain ⟨cs, hc⟩ := own_type ho k ek
    cases A with
    | none => cases ek
    | some a => cases ek; exact hk _ cs (hF a rfl) hc
  · exact hE _ (own_lt ho a.block (by rw [ea]; rfl)) (hF a ea)
theorem zero24 (w : World) : (zeroValue 44).run Tryz.prog w = .ok (.slice none 0 0) w := by kernel_rfl
/-! ### The map -/
structure Vw (E : Nat → Prop) (w : World) (D : DataW Value) (kept : Mg.Id4 → Option (List Nat)) : Prop where
  keys : ∀ l : Lit, Maps.has D l = true → ∃ i, l = kl i ∧ Fit i ∧ kept i ≠ none
  no : ∀ i, Fit i → kept i = none → Maps.has D (kl i) = false
  yes : ∀ i p, Fit i → kept i = some p → Maps.has D (kl i) = true ∧ ∃ v, (∀ z, D.atKey (kl i) z = .held v) ∧ El E w v p
def Mp (E : Nat → Prop) (w : World) (b n : Nat) (kept : Mg.Id4 → Option (List Nat)) : Prop := ∃ D, w.ownsMap Tryz.prog 43 RV b n D ∧ Maps.size D = n ∧ Vw E w D kept
theorem Vw.keep {E E' : Nat → Prop} {w w' : World} {D : DataW Value} {kept : Mg.Id4 → Option (List Nat)} (h : Vw E w D kept) (hk : U8s E w w') (hE : ∀ k, k < w.heap.size → E k → E' k) : Vw E' w' D kept :=
  ⟨h.keys, h.no, fun i p hf hp => ⟨(h.yes i p hf hp).1, by obtain ⟨v, h1, h2⟩ := (h.yes i p hf hp).2; exact ⟨v, h1, h2.kept hk hE⟩⟩⟩
theorem Mp.lt {E : Nat → Prop} {w : World} {b n : Nat} {kept : Mg.Id4 → Option (List Nat)} (h : Mp E w b n kept) : b < w.heap.size := by
  obtain ⟨D, h1, _⟩ := h
  exact h1.lt
theorem Mp.isMap {E : Nat → Prop} {w : World} {b n : Nat} {kept : Mg.Id4 → Option (List Nat)} (h : Mp E w b n kept) : ∃ es c, w.heap[b]? = some (.map es c) := by
  obtain ⟨D, ⟨es, clock, hb, _⟩, _, _⟩ := h
  exact ⟨es, clock, hb⟩
theorem Mp.keep {E E' : Nat → Prop} {w w' : World} {b n : Nat} {kept : Mg.Id4 → Option (List Nat)} (h : Mp E w b n kept) (hb : w'.heap[b]? = w.heap[b]?) (hk : U8s E w w') (hE : ∀ k, k < w.heap.size → E k → E' k) : Mp E' w' b n kept := by
  obtain ⟨D, ⟨es, clock, hb', r⟩, hs, hv⟩ := h
  exact ⟨D, ⟨es, clock, hb.trans hb', r⟩, hs, hv.keep hk hE⟩
theorem Mp.made (E : Nat → Prop) (w : World) : Mp E (w.alloc (.map #[] 0)) w.heap.size 0 fun _ => none := by
  refine ⟨.map [], World.ownsMap_made w Tryz.prog 43 RV, rfl, fun l hl => ?_, fun i _ _ => rfl, fun i p _ hk => by cases hk⟩
  simp [Maps.has] at hl
theorem tight {w : World} {b n c : Nat} {D : DataW Value} (h : w.ownsMap Tryz.prog 43 RV b n D) (hs : Maps.size D = c) : w.ownsMap Tryz.prog 43 RV b c D := by
  obtain ⟨es, clock, hb, F, _, hD⟩ := h
  refine ⟨es, clock, hb, F, ?_, hD⟩
  rw [hD] at hs
  simp [Maps.size, length_sorted] at hs
  omega
/-- 'len(m)'. -/
theorem Mp.len {E : Nat → Prop} {w : World} {b n : Nat} {kept : Mg.Id4 → Option (List Nat)} (h : Mp E w b n kept) (ty : TypeId) (W : World) (hW : W.heap[b]? = w.heap[b]?) : (Builtin.len_ #[74] ty #[.map (some b)]).run Tryz.prog W = .ok (.int .i64 (n : Int)) W := by
  obtain ⟨D, ⟨es, clock, hb, r⟩, hs, hv⟩ := h
  have how : W.ownsMap Tryz.prog 43 RV b n D := ⟨es, clock, hW.trans hb, r⟩
  have := how.len Tryz.underlying74 ty
  rw [hs] at this
  exact this
/-- An id that is not there. -/
theorem Mp.no {E : Nat → Prop} {w : World} {b n : Nat} {kept : Mg.Id4 → Option (List Nat)} (h : Mp E w b n kept) {i : Mg.Id4} (hf : Fit i) (hk : kept i = none) :
    ∀ W : World, W.heap[b]? = w.heap[b]? → (Instr.lookup 74 (.map (some b)) (.agg (Mg.idC i)) true).run Tryz.prog W = .ok (.tuple #[.slice none 0 0, .bool false]) W := by
  intro W hW
  obtain ⟨D, ⟨es, clock, hb, r⟩, _, hv⟩ := h
  have how : W.ownsMap Tryz.prog 43 RV b n D := ⟨es, clock, hW.trans hb, r⟩
  obtain ⟨v, ps, h1, h2⟩ := how.look_ok keyed Tryz.underlying74 (zero24 W) (zd := .held (.slice none 0 0)) (zp := []) rfl (key_of hf)
  have hh := hv.no i hf hk
  rw [hh] at h1
  rw [atKey_of_not_has hh] at h2
  simp only [Option.some.injEq, Prod.mk.injEq, DataW.held.injEq] at h2
  rw [h2.1] at h1
  exact h1
/-- One that is there. -/
theorem Mp.yes {E : Nat → Prop} {w : World} {b n : Nat} {kept : Mg.Id4 → Option (List Nat)} (h : Mp E w b n kept) {i : Mg.Id4} (hf : Fit i) {p : List Nat} (hk : kept i = some p) :
    ∃ v, El E w v p ∧ (∀ W : World, W.heap[b]? = w.heap[b]? → (Instr.lookup 74 (.map (some b)) (.agg (Mg.idC i)) true).run Tryz.prog W = .ok (.tuple #[v, .bool true]) W) ∧ (∀ W : World, W.heap[b]? = w.heap[b]? → (Instr.lookup 74 (.map (some b)) (.agg (Mg.idC i)) false).run Tryz.prog W = .ok v W) := by
  obtain ⟨D, ⟨es, clock, hb, r⟩, _, hv⟩ := h
  obtain ⟨hh, v, h3, h4⟩ := hv.yes i p hf hk
  refine ⟨v, h4, fun W hW => ?_, fun W hW => ?_⟩
  · have how : W.ownsMap Tryz.prog 43 RV b n D := ⟨es, clock, hW.trans hb, r⟩
    obtain ⟨v', ps, h1, h2⟩ := how.look_ok keyed Tryz.underlying74 (zero24 W) (zd := .held (.slice none 0 0)) (zp := []) rfl (key_of hf)
    rw [hh] at h1
    rw [h3] at h2
    simp only [Option.some.injEq, Prod.mk.injEq, DataW.held.injEq] at h2
    rw [h2.1] at h1
    exact h1
  · have how : W.ownsMap Tryz.prog 43 RV b n D := ⟨es, clock, hW.trans hb, r⟩
    obtain ⟨v', ps, h1, h2⟩ := how.lookup keyed Tryz.underlying74 (zero24 W) (zd := .held (.slice none 0 0)) (zp := []) rfl (key_of hf)
    rw [h3] at h2
    simp only [Option.some.injEq, Prod.mk.injEq, DataW.held.injEq] at h2
    rw [h2.1] at h1
    exact h1
theorem but_turned {w w' : World} {b : Nat} (h : w.mapTurned w' b) : But (fun k => k = b) w w' ∧ w'.heap.size = w.heap.size := by
  have hg := h.grown
  refine ⟨⟨hg.os, hg.tape, hg.output, hg.size, fun k hk hn => hg.block k hk fun e => hn (by cases e; rfl)⟩, ?_⟩
  obtain ⟨es, clock, es', clock', hb, rfl⟩ := h
  simp [ChangeMaps.setBlock]
theorem u8_turned {E : Nat → Prop} {w w' : World} {b : Nat} (hm : ∃ es c, w.heap[b]? = some (.map es c)) (hb : But (fun k => k = b) w w') : U8s E w w' := U8s.but hb fun k cs _ hk e => by
  obtain ⟨es, c, hm⟩ := hm
  subst e
  rw [hm] at hk; cases hk
theorem Mp.put {E : Nat → Prop} {w : World} {b n : Nat} {kept : Mg.Id4 → Option (List Nat)} (h : Mp E w b n kept) (hn : n ≤ 1000000000) {i : Mg.Id4} (hf : Fit i) (hno : kept i = none) {v : Value} {p : List Nat} (hv : El E w v p) :
    ∃ w', (Instr.mapUpdate 74 (.map (some b)) (.agg (Mg.idC i)) v).run Tryz.prog w = .ok () w' ∧ Mp E w' b (n + 1) (fun k => if k = i then some p else kept k) ∧ But (fun k => k = b) w w' ∧ w'.heap.size = w.heap.size := by
  have hm := h.isMap
  obtain ⟨D, how, hsz, hvw⟩ := h
  have htd := how.tidy keyed
  have hnh := hvw.no i hf hno
  obtain ⟨w', h1, h2, h3⟩ := how.store keyed Tryz.underlying74 (by unfold maxLen; omega) (key_of hf) (val := v) (d := .held v) (ps := []) rfl
  obtain ⟨b1, b2⟩ := but_turned h3
  have hI := how.isMap
  have hu : U8s E w w' := u8_turned hm b1
  have hvw' : Vw E w' (D.put (kl i) (.held v)) (fun k => if k = i then some p else kept k) := by
    refine ⟨fun l hl => ?_, fun a ha hk => ?_, fun a q ha hk => ?_⟩
    · by_cases he : l = kl i
      · exact ⟨i, he, hf, by simp⟩
      · rw [has_put_other he] at hl
        obtain ⟨a, e1, e2, e3⟩ := hvw.keys l hl
        refine ⟨a, e1, e2, ?_⟩
        split
        · simp
        · exact e3
    · split at hk
      · cases hk
      · rename_i hne
        rw [has_put_other (fun he => hne (kl_inj ha hf he))]
        exact hvw.no a ha hk
    · split at hk
      · rename_i he
        cases hk
        subst he
        exact ⟨has_put_same hI (key_lit _) _, v, fun z => atKey_put_same hI (key_lit _) _ _, hv.kept hu fun _ _ h => h⟩
      · rename_i hne
        have hk' : kl a ≠ kl i := fun he => hne (kl_inj ha hf he)
        obtain ⟨y1, u, y2, y3⟩ := hvw.yes a q ha hk
        exact ⟨by rw [has_put_other hk']; exact y1, u, fun z => by rw [atKey_put_other hk']; exact y2 z, y3.kept hu fun _ _ h => h⟩
  exact ⟨w', h1, ⟨_, h2, by rw [Maps.size_put htd, hnh, hsz]; rfl, hvw'⟩, b1, b2⟩
theorem Mp.del {E : Nat → Prop} {w : World} {b n : Nat} {kept : Mg.Id4 → Option (List Nat)} (h : Mp E w b n kept) {i : Mg.Id4} (hf : Fit i) {p : List Nat} (hyes : kept i = some p) (ty : TypeId) :
    ∃ w', (Builtin.delete_ #[74, 43] ty #[.map (some b), .agg (Mg.idC i)]).run Tryz.prog w = .ok (.tuple #[]) w' ∧ Mp E w' b (n - 1) (fun k => if k = i then none else kept k) ∧ But (fun k => k = b) w w' ∧ w'.heap.size = w.heap.size := by
  have hm := h.isMap
  obtain ⟨D, how, hsz, hvw⟩ := h
  have htd := how.tidy keyed
  have hnh := (hvw.yes i p hf hyes).1
  obtain ⟨w', h1, h2, h3⟩ := how.drop keyed Tryz.underlying74 (key_of hf) ty
  obtain ⟨b1, b2⟩ := but_turned h3
  have hu : U8s E w w' := u8_turned hm b1
  have hvw' : Vw E w' (D.del (kl i)) (fun k => if k = i then none else kept k) := by
    refine ⟨fun l hl => ?_, fun a ha hk => ?_, fun a q ha hk => ?_⟩
    · by_cases he : l = kl i
      · subst he; rw [has_del_same] at hl; cases hl
      · rw [has_del_other he] at hl
        obtain ⟨a, e1, e2, e3⟩ := hvw.keys l hl
        refine ⟨a, e1, e2, ?_⟩
        rw [if_neg (fun e => he (by rw [e1, e]))]
        exact e3
    · split at hk
      · rename_i e
        subst e
        exact has_del_same
      · rename_i hne
        rw [has_del_other (fun he => hne (kl_inj ha hf he))]
        exact hvw.no a ha hk
    · split at hk
      · cases hk
      · rename_i hne
        have hk' : kl a ≠ kl i := fun he => hne (kl_inj ha hf he)
        obtain ⟨y1, u, y2, y3⟩ := hvw.yes a q ha hk
        exact ⟨by rw [has_del_other hk']; exact y1, u, fun z => by rw [atKey_del_other hk']; exact y2 z, y3.kept hu fun _ _ h => h⟩
  have hs2 : Maps.size (D.del (kl i)) = n - 1 := by
    have := Maps.size_del (k := kl i) htd
    rw [hnh, hsz] at this
    simp at this
    omega
  exact ⟨w', h1, ⟨_, tight h2 hs2, hs2, hvw'⟩, b1, b2⟩
theorem putW {w : World} {o : Oper} {a : Act} {K : Act → World → Prop} {Q : Exit → Act → World → Prop} (m x v : Operand) (ho : o.op = .mapUpdate 74 m x v)
    (E : Nat → Prop) (b n : Nat) (kept : Mg.Id4 → Option (List Nat)) (i : Mg.Id4) (p : List Nat) (u : Value) (hm : a.eval m = .map (some b)) (hx : a.eval x = .agg (Mg.idC i)) (hv : a.eval v = u) (hM : Mp E w b n kept) (hn : n ≤ 1000000000) (hf : Fit i) (hno : kept i = none) (hE : El E w u p)
    (h : ∀ w', Mp E w' b (n + 1) (fun k => if k = i then some p else kept k) → But (fun k => k = b) w w' → w'.heap.size = w.heap.size → K (a.put o.dst undef) w') : o.wp Tryz.prog a w K Q := by
  obtain ⟨w', hr, h1, h2, h3⟩ := hM.put hn hf hno hE
  unfold Oper.wp execOp
  simp only [ho, Sem.run_bind, Sem.run_pure, Result.andThen_ok, hm, hx, hv, hr]
  exact h w' h1 h2 h3
theorem delW {w : World} {o : Oper} {a : Act} {K : Act → World → Prop} {Q : Exit → Act → World → Prop} (m x : Operand) (ho : o.op = .call { callee := .builtin .delete, args := #[m, x], argTypes := #[74, 43] })
    (E : Nat → Prop) (b n : Nat) (kept : Mg.Id4 → Option (List Nat)) (i : Mg.Id4) (hm : a.eval m = .map (some b)) (hx : a.eval x = .agg (Mg.idC i)) (hM : Mp E w b n kept) (hf : Fit i) (q : List Nat) (hyes : kept i = some q)
    (h : ∀ w', Mp E w' b (n - 1) (fun k => if k = i then none else kept k) → But (fun k => k = b) w w' → w'.heap.size = w.heap.size → K (a.put o.dst (.tuple #[])) w') : o.wp Tryz.prog a w K Q := by
  obtain ⟨w', hr, h1, h2, h3⟩ := hM.del hf hyes o.type
  unfold Oper.wp execOp
  simp only [ho, resolve, invoke, builtin, Sem.run_bind, Sem.run_pure, Result.andThen_ok, List.map_toArray, List.map_cons, List.map_nil, hm, hx, hr]
  exact h w' h1 h2 h3
end Go.Proofs.YtfnlhfelpdkieaaGreat.So
/- A map of ids alone: its block, one more, how many. -/
namespace Go.Proofs.YtfnlhfelpdkieaaGreat.So
open Go.RowKit Go.Maps Go.WideElems
open Go.Proofs.YtfnlhfelpdkieaaGreat.Me Go.Proofs.YtfnlhfelpdkieaaGreat.Sb
set_option linter.unusedVariables false
set_option linter.unusedSimpArgs false

def Ks (w : World) (b : Nat) (S : List Mg.Id4) : Prop := ∃ D, w.ownsMap Tryz.prog 43 RV b S.length D ∧ Maps.size D = S.length ∧ ∀ i, Fit i → (Maps.has D (kl i) = true ↔ i ∈ S)
theorem Ks.lt {w : World} {b : Nat} {S : List Mg.Id4} (h : Ks w b S) : b < w.heap.size := by
  obtain ⟨D, h1, _⟩ := h
  exact h1.lt
theorem Ks.isMap {w : World} {b : Nat} {S : List Mg.Id4} (h : Ks w b S) : ∃ es c, w.heap[b]? = some (.map es c) := by
  obtain ⟨D, ⟨es, clock, hb, _⟩, _, _⟩ := h
  exact ⟨es, clock, hb⟩
theorem Ks.keep {w w' : World} {b : Nat} {S : List Mg.Id4} (h : Ks w b S) (hb : w'.heap[b]? = w.heap[b]?) : Ks w' b S := by
  obtain ⟨D, ⟨es, clock, hb', r⟩, hs, hv⟩ := h
  exact ⟨D, ⟨es, clock, hb.trans hb', r⟩, hs, hv⟩
theorem Ks.made (w : World) : Ks (w.alloc (.map #[] 0)) w.heap.size [] :=
  ⟨.map [], World.ownsMap_made w Tryz.prog 43 RV, rfl, fun i _ => ⟨fun h => by simp [Maps.has] at h, fun h => by cases h⟩⟩
theorem Ks.len {w : World} {b : Nat} {S : List Mg.Id4} (h : Ks w b S) (ty : TypeId) (W : World) (hW : W.heap[b]? = w.heap[b]?) : (Builtin.len_ #[158] ty #[.map (some b)]).run Tryz.prog W = .ok (.int .i64 (S.length : Int)) W := by
  obtain ⟨D, ⟨es, clock, hb, r⟩, hs, hv⟩ := h
  have how : W.ownsMap Tryz.prog 43 RV b S.length D := ⟨es, clock, hW.trans hb, r⟩
  have := how.len Tryz.underlying158 ty
  rw [hs] at this
  exact this
theorem Ks.put {w : World} {b : Nat} {S : List Mg.Id4} (h : Ks w b S) (hn : S.length ≤ 100000000000000) {i : Mg.Id4} (hf : Fit i) :
    ∃ w', (Instr.mapUpdate 158 (.map (some b)) (.agg (Mg.idC i)) (.agg #[])).run Tryz.prog w = .ok () w' ∧ Ks w' b (addI S i) ∧ But (fun k => k = b) w w' ∧ w'.heap.size = w.heap.size := by
  obtain ⟨D, how, hsz, hv⟩ := h
  have htd := how.tidy keyed
  obtain ⟨w', h1, h2, h3⟩ := how.store keyed Tryz.underlying158 (by unfold maxLen; omega) (key_of hf) (val := .agg #[]) (d := .held (.agg #[])) (ps := []) rfl
  obtain ⟨b1, b2⟩ := but_turned h3
  have hI := how.isMap
  have hlen : (addI S i).length = if Maps.has D (kl i) = true then S.length else S.length + 1 := by
    unfold addI
    by_cases hi : i ∈ S
    · rw [if_pos hi, if_pos ((hv i hf).2 hi)]
    · rw [if_neg hi, if_neg (fun h => hi ((hv i hf).1 h)), List.length_append]; rfl
  have hsz2 : Maps.size (D.put (kl i) (.held (.agg #[]))) = (addI S i).length := by
    rw [Maps.size_put htd, hlen, hsz]
  refine ⟨w', h1, ⟨_, tight h2 hsz2, hsz2, fun j hj => ?_⟩, b1, b2⟩
  by_cases e : j = i
  · subst e
    refine ⟨fun _ => ?_, fun _ => has_put_same hI (key_lit _) _⟩
    unfold addI
    split
    · assumption
    · simp
  · have hk : kl j ≠ kl i := fun he => e (kl_inj hj hf he)
    rw [has_put_other hk, hv j hj]
    unfold addI
    split
    · rfl
    · simp [e]
end Go.Proofs.YtfnlhfelpdkieaaGreat.So
