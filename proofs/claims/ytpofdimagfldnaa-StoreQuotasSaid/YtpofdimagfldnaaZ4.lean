/- What a change leaves alone; structs' boxes: for seats without bytes (out of MemB, MgGath, MgGetI, MgRGet). -/
import Derived.Test.YtpofdimagfldnaaZ1
import Derived.Test.YtpofdimagfldnaaZ2
import Derived.Test.YtpofdimagfldnaaZ3
import Derived.Handy
import Derived.Deep.MidRow
import Derived.Laws.ResultCell
import Derived.Laws.Tables
import Derived.WideKeyPair
import Derived.DeepKeys4
import Derived.Maps.OwnSet
import Derived.Sort.MapsRangeIn
namespace Go.Proofs.Ytpofdimagfldnaa.Sb
open Go.RowKit
open Go.Proofs.Ytpofdimagfldnaa.Me
set_option linter.unusedVariables false
set_option linter.unusedSimpArgs false

/-- All lies as it lay in w, but for what lies in the blocks S, and for new ones. -/
structure But (S : Nat → Prop) (w X : World) : Prop where
  os : X.os = w.os
  tape : X.tape = w.tape
  output : X.output = w.output
  size : w.heap.size ≤ X.heap.size
  same : ∀ k, k < w.heap.size → ¬ S k → X.heap[k]? = w.heap[k]?
theorem But.refl (S : Nat → Prop) (w : World) : But S w w := ⟨rfl, rfl, rfl, Nat.le_refl _, fun _ _ _ => rfl⟩
theorem But.trans {S S' : Nat → Prop} {w X Y : World} (h : But S w X) (k : But S' X Y) (hS : ∀ b, b < w.heap.size → S' b → S b) : But S w Y :=
  ⟨k.os.trans h.os, k.tape.trans h.tape, k.output.trans h.output, Nat.le_trans h.size k.size, fun b hb hn => (k.same b (Nat.lt_of_lt_of_le hb h.size) (fun hs => hn (hS b hb hs))).trans (h.same b hb hn)⟩
theorem But.mono {S S' : Nat → Prop} {w X : World} (h : But S w X) (hS : ∀ b, b < w.heap.size → S b → S' b) : But S' w X :=
  ⟨h.os, h.tape, h.output, h.size, fun b hb hn => h.same b hb (fun hs => hn (hS b hb hs))⟩
theorem But.of_below {S : Nat → Prop} {w X : World} (h : Below w.heap.size w X) : But S w X := ⟨h.os, h.tape, h.output, h.size, fun b hb _ => h.block b hb⟩
theorem But.below {S : Nat → Prop} {w X : World} {B : Nat} (h : But S w X) (hB : B ≤ w.heap.size) (hS : ∀ k, S k → B ≤ k) : Below B w X :=
  ⟨h.os, h.tape, h.output, h.size, fun k hk => h.same k (by omega) (fun hs => by have := hS k hs; omega)⟩
theorem But.grown {S : Nat → Prop} {w X Y : World} {row : Option Nat} (h : But S w X) (hg : X.grownBy Y row) (hr : ∀ r, row = some r → S r ∨ w.heap.size ≤ r) : But S w Y :=
  ⟨hg.os.trans h.os, hg.tape.trans h.tape, hg.output.trans h.output, Nat.le_trans h.size hg.size, fun k hk hS => (hg.block k (Nat.lt_of_lt_of_le hk h.size) (fun e => by
    rcases hr k e.symm with h1 | h1
    · exact hS h1
    · omega)).trans (h.same k hk hS)⟩
theorem grown_set (W : World) (p : Addr) (v : Value) : W.grownBy (W.setCell p v) (some p.block) :=
  ⟨rfl, rfl, rfl, by simp, fun k _ hk => Below.heap_setCell _ _ _ k (fun e => hk (by rw [e]))⟩
theorem But.set {S : Nat → Prop} {w X : World} (h : But S w X) {p : Addr} (hp : S p.block ∨ w.heap.size ≤ p.block) (u : Value) : But S w (X.setCell p u) :=
  h.grown (grown_set X p u) fun r e => by cases e; exact hp
theorem But.alloc {S : Nat → Prop} {w X : World} (h : But S w X) (o : Obj) : But S w (X.alloc o) := h.grown (World.grownBy_alloc X o none) (by simp)
theorem But.at_ {S : Nat → Prop} {w X : World} {b : Nat} {o : Obj} (h : But S w X) (hb : w.heap[b]? = some o) (hS : ¬ S b) : X.heap[b]? = some o := (h.same b (Array.getElem?_eq_some_iff.1 hb).1 hS).trans hb
theorem own_same {w w' : World} {B T s n : Nat} {v : Value} {xs : List Value} (h : w.ownsRow B T s v n xs) (hk : ∀ k, v.ownBlock = some k → k < w.heap.size → w'.heap[k]? = w.heap[k]?) : w'.ownsRow B T s v n xs := by
  refine ⟨h.1, ?_⟩
  rcases h.2 with h' | ⟨g, cap, cur, rfl, q2, q3, q4⟩
  · exact .inl h'
  · exact .inr ⟨g, cap, cur, rfl, q2, (hk g rfl (Array.getElem?_eq_some_iff.1 q3).1).trans q3, q4⟩
theorem own_base {w : World} {B B' T s n : Nat} {v : Value} {xs : List Value} (h : w.ownsRow B T s v n xs) (hB : ∀ k, v.ownBlock = some k → B' ≤ k) : w.ownsRow B' T s v n xs := by
  refine ⟨h.1, ?_⟩
  rcases h.2 with h' | ⟨g, cap, cur, rfl, q2, q3, q4⟩
  · exact .inl h'
  · exact .inr ⟨g, cap, cur, rfl, hB g rfl, q3, q4⟩
theorem own_lt {w : World} {B T s n : Nat} {v : Value} {xs : List Value} (h : w.ownsRow B T s v n xs) : ∀ k, v.ownBlock = some k → k < w.heap.size := fun k e => (h.lt k e).2
theorem below_setRow {B : Nat} {w W : World} {D : Nat} (cs : Array Value) (h : Below B w W) (hD : B ≤ D) : Below B w (W.setRow D cs) :=
  ⟨h.os, h.tape, h.output, by simpa using h.size, fun c hc => (setRow_other _ _ c _ (by omega)).trans (h.block c hc)⟩
theorem But.setRow {S : Nat → Prop} {w X : World} (h : But S w X) {D : Nat} (hD : S D ∨ w.heap.size ≤ D) (cs : Array Value) : But S w (X.setRow D cs) :=
  ⟨h.os, h.tape, h.output, by simpa using h.size, fun k hk hn => (setRow_other _ _ k _ (fun e => by subst e; rcases hD with hD | hD; exact hn hD; omega)).trans (h.same k hk hn)⟩
theorem go_on {w W W' : World} (h : Below w.heap.size w W) (h2 : Below W.heap.size W W') : Below w.heap.size w W' := h.trans (h2.mono h.size)
/-- A struct's return out of its box. -/
theorem ret_box {fn : Func} {R : Ending → World → Prop} {a : Act} {w : World} {g : Nat} {cs : Array Value} {p : Tmp} {ty t : TypeId} {fr : Nat × Nat} {d : TypeDesc} (hres : fn.results = #[.cell p ty]) (hp : a.tmps.getD p undef = .pointer (some ⟨g, 0, none⟩)) (hg : w.heap[g]? = some (.cells cs t fr))
    (hd : d.isRow = true) (hu : Try.prog.underlying ty = some d) (hi : (Try.prog.info? ty).map (·.size) = some cs.size) (hdef : a.defers = [])
    (hR : R (.returned (.agg cs)) w) : bodyPost Try.prog fn R .ret a w :=
  bodyPost_ret (v := .agg cs) (results_cell_row hres a.tmps w g t cs fr d hp hg hu (by cases d <;> first | rfl | cases hd) hi) hdef hR
theorem ret_box2 {fn : Func} {R : Ending → World → Prop} {a : Act} {w : World} {g : Nat} {cs : Array Value} {p u : Tmp} {ty t : TypeId} {fr : Nat × Nat} {d : TypeDesc} (hres : fn.results = #[.cell p ty, .tmp u]) (hp : a.tmps.getD p undef = .pointer (some ⟨g, 0, none⟩)) (hg : w.heap[g]? = some (.cells cs t fr))
    (hd : d.isRow = true) (hu : Try.prog.underlying ty = some d) (hi : (Try.prog.info? ty).map (·.size) = some cs.size) (hdef : a.defers = [])
    (hR : R (.returned (.tuple #[.agg cs, a.tmps.getD u undef])) w) : bodyPost Try.prog fn R .ret a w :=
  bodyPost_ret (v := .tuple #[.agg cs, a.tmps.getD u undef]) (by rw [results_cell_tmp hres, hp]; simp only [asAddr, Sem.run_pure, Result.andThen_ok, run_loadVar_row w g t ty cs fr d hg hu (by cases d <;> first | rfl | cases hd) hi]) hdef hR
theorem id_cells {W : World} {D : Nat} {o d e c : Int} (h : W.heap[D]? = some (.cells #[.int .i64 o, .int .i64 d, .int .i64 e, .int .i64 c] 28 (0, 0))) : W.cell? ⟨D, 0, none⟩ = some (.int .i64 o) ∧ W.cell? ⟨D, 1, none⟩ = some (.int .i64 d) ∧ W.cell? ⟨D, 2, none⟩ = some (.int .i64 e) ∧ W.cell? ⟨D, 3, none⟩ = some (.int .i64 c) := by
  refine ⟨?_, ?_, ?_, ?_⟩
  all_goals
    rw [cell_of_row _ D _ _ _ (0, 0) h]
    rfl
end Go.Proofs.Ytpofdimagfldnaa.Sb
/- A map from ids to bytes of one's own: what its block holds, what its operations do. -/
namespace Go.Proofs.Ytpofdimagfldnaa.So
open Go.RowKit Go.Maps Go.WideElems
open Go.Proofs.Ytpofdimagfldnaa.Me Go.Proofs.Ytpofdimagfldnaa.Sb
set_option linter.unusedVariables false
set_option linter.unusedSimpArgs false

/-! ### Keys -/
abbrev RV : Value → Option (DataW Value × List MemPlace) := fun v => some (.held v, [])
theorem idKey : Try.prog.keyTypeAt 2 28 = true := by kernel_rfl
theorem idTiled : Try.prog.tiled 2 28 = true := by kernel_rfl
theorem keyed : Keyed Try.prog 28 := Keyed.of_law (deep_law (m := 2) (by omega) idKey idTiled (by rw [Try.underlying28]))
def kl (i : Mg.Id4) : Lit := .string (keyBytes [.int .i64 i.o, .int .i64 i.d, .int .i64 i.e, .int .i64 i.c])
/-- A number that fits. -/
def Fit (i : Mg.Id4) : Prop := (Lit.int .i64 i.o).wf = true ∧ (Lit.int .i64 i.d).wf = true ∧ (Lit.int .i64 i.e).wf = true ∧ (Lit.int .i64 i.c).wf = true
theorem fit_right {i : Mg.Id4} (h : Mg.Right i) : Fit i := by
  obtain ⟨h1, h2, h3, h4, h5, h6, h7, h8, _⟩ := h
  exact ⟨WalkArith.wf_i64 (by omega), WalkArith.wf_i64 (by omega), WalkArith.wf_i64 (by omega), WalkArith.wf_i64 (by omega)⟩
theorem fit_zero : Fit zeroI := ⟨WalkArith.wf_i64 (by decide), WalkArith.wf_i64 (by decide), WalkArith.wf_i64 (by decide), WalkArith.wf_i64 (by decide)⟩
theorem types_pos : ∃ m, Try.prog.types.size = m + 1 := by
  have h : 0 < Try.prog.types.size := of_decide_eq_true (by kernel_rfl)
  exact ⟨Try.prog.types.size - 1, by omega⟩
theorem keyT : Try.prog.keyType 28 = true := by kernel_rfl
theorem formedId (a b c d : Value) : (Value.agg #[a, b, c, d]).formed Try.prog 28 = true := by kernel_rfl
theorem key_of {i : Mg.Id4} (h : Fit i) : keyOf Try.prog 28 (.agg (Mg.idC i)) = some (kl i) := by
  obtain ⟨o, d, e, c⟩ := i
  obtain ⟨h0, h1, h2, h3⟩ := h
  obtain ⟨m, hm⟩ := types_pos
  show keyOf Try.prog 28 (.agg #[.int .i64 o, .int .i64 d, .int .i64 e, .int .i64 c]) = some (.string (keyBytes [.int .i64 o, .int .i64 d, .int .i64 e, .int .i64 c]))
  unfold keyOf
  simp only [Try.underlying28]
  rw [if_pos (by rw [keyT, formedId]; rfl), hm]
  unfold Program.keyLits
  simp only [Try.underlying28, Value.cells]
  rw [if_pos ⟨by kernel_rfl, by kernel_rfl⟩]
  simp only [List.mapM_cons, List.mapM_nil]
  have e1 : Try.prog.cellsOf 3 = 1 := by kernel_rfl
  simp only [e1]
  simp [Program.keyLits, Try.underlying3, h0, h1, h2, h3]
theorem key_lit (i : Mg.Id4) : WideAt.IsKeyLit (kl i) := trivial
theorem kl_inj {i j : Mg.Id4} (h : Fit i) (k : Fit j) (hk : kl i = kl j) : i = j := by
  have := _root_.Go.keyBytes_inj (l := [.int .i64 i.o, .int .i64 i.d, .int .i64 i.e, .int .i64 i.c]) (l' := [.int .i64 j.o, .int .i64 j.d, .int .i64 j.e, .int .i64 j.c]) ⟨rfl, rfl, rfl, rfl, trivial⟩ (by
    intro x hx
    simp only [List.mem_cons, List.not_mem_nil, or_false] at hx
    rcases hx with rfl | rfl | rfl | rfl
    · exact h.1
    · exact h.2.1
    · exact h.2.2.1
    · exact h.2.2.2) (by
    intro x hx
    simp only [List.mem_cons, List.not_mem_nil, or_false] at hx
    rcases hx with rfl | rfl | rfl | rfl
    · exact k.1
    · exact k.2.1
    · exact k.2.2.1
    · exact k.2.2.2) (by injection hk)
  obtain ⟨o, d, e, c⟩ := i
  obtain ⟨o', d', e', c'⟩ := j
  simpa using this
/-! ### Bytes of one's own -/
/-- A slice of one's own with these bytes, in a block that bears E. -/
def El (E : Nat → Prop) (w : World) (u : Value) (l : List Nat) : Prop :=
  ∃ A c, u = .slice A l.length c ∧ Me.Own w 0 (.slice A l.length c) l ∧ ∀ a, A = some a → E a.block
theorem own_type {w : World} {B T s n : Nat} {v : Value} {xs : List Value} (h : w.ownsRow B T s v n xs) : ∀ k, v.ownBlock = some k → ∃ cur, w.heap[k]? = some (.cells cur T (0, 0)) := by
  intro k e
  rcases h.2 with ⟨rfl, _⟩ | ⟨g, cap, cur, rfl, _, h3, _⟩
  · cases e
  · simp only [Value.ownBlock, Option.some.injEq] at e
    subst e
    exact ⟨cur, h3⟩
/-- What leaves the blocks of bytes that bear E alone. -/
def U8s (E : Nat → Prop) (w w' : World) : Prop := ∀ (k : Nat) (cs : Array Value), E k → w.heap[k]? = some (.cells cs 5 (0, 0)) → w'.heap[k]? = w.heap[k]?
theorem U8s.below {E : Nat → Prop} {w w' : World} (h : Below w.heap.size w w') : U8s E w w' := fun k cs _ hk => h.block k (Array.getElem?_eq_some_iff.1 hk).1
theorem U8s.trans {E : Nat → Prop} {w w' w'' : World} (h : U8s E w w') (k : U8s E w' w'') : U8s E w w'' := fun x cs hx he => (k x cs hx ((h x cs hx he).trans he)).trans (h x cs hx he)
theorem U8s.but {E S : Nat → Prop} {w w' : World} (h : But S w w') (hS : ∀ (k : Nat) (cs : Array Value), E k → w.heap[k]? = some (.cells cs 5 (0, 0)) → ¬ S k) : U8s E w w' := fun k cs he hk => h.same k (Array.getElem?_eq_some_iff.1 hk).1 (hS k cs he hk)
theorem El.kept {E E' : Nat → Prop} {w w' : World} {u : Value} {l : List Nat} (h : El E w u l) (hk : U8s E w w') (hE : ∀ k, k < w.heap.size → E k → E' k) : El E' w' u l := by
  obtain ⟨A, c, e, ho, hF⟩ := h
  refine ⟨A, c, e, own_same ho fun k ek hk' => ?_, fun a ea => ?_⟩
  · obtain ⟨cs, hc⟩ := own_type ho k ek
    cases A with
    | none => cases ek
    | some a => cases ek; exact hk _ cs (hF a rfl) hc
  · exact hE _ (own_lt ho a.block (by rw [ea]; rfl)) (hF a ea)
theorem zero24 (w : World) : (zeroValue 44).run Try.prog w = .ok (.slice none 0 0) w := by kernel_rfl
/-! ### The map -/
structure Vw (E : Nat → Prop) (w : World) (D : DataW Value) (kept : Mg.Id4 → Option (List Nat)) : Prop where
  keys : ∀ l : Lit, Maps.has D l = true → ∃ i, l = kl i ∧ Fit i ∧ kept i ≠ none
  no : ∀ i, Fit i → kept i = none → Maps.has D (kl i) = false
  yes : ∀ i p, Fit i → kept i = some p → Maps.has D (kl i) = true ∧ ∃ v, (∀ z, D.atKey (kl i) z = .held v) ∧ El E w v p
def Mp (E : Nat → Prop) (w : World) (b n : Nat) (kept : Mg.Id4 → Option (List Nat)) : Prop := ∃ D, w.ownsMap Try.prog 28 RV b n D ∧ Maps.size D = n ∧ Vw E w D kept
theorem Vw.keep {E E' : Nat → Prop} {w w' : World} {D : DataW Value} {kept : Mg.Id4 → Option (List Nat)} (h : Vw E w D kept) (hk : U8s E w w') (hE : ∀ k, k < w.heap.size → E k → E' k) : Vw E' w' D kept :=
  ⟨h.keys, h.no, fun i p hf hp => ⟨(h.yes i p hf hp).1, by obtain ⟨v, h1, h2⟩ := (h.yes i p hf hp).2; exact ⟨v, h1, h2.kept hk hE⟩⟩⟩
theorem Mp.lt {E : Nat → Prop} {w : World} {b n : Nat} {kept : Mg.Id4 → Option (List Nat)} (h : Mp E w b n kept) : b < w.heap.size := by
  obtain ⟨D, h1, _⟩ := h
  exact h1.lt
theorem Mp.isMap {E : Nat → Prop} {w : World} {b n : Nat} {kept : Mg.Id4 → Option (List Nat)} (h : Mp E w b n kept) : ∃ es c, w.heap[b]? = some (.map es c) := by
  obtain ⟨D, ⟨es, clock, hb, _⟩, _, _⟩ := h
  exact ⟨es, clock, hb⟩
theorem Mp.keep {E E' : Nat → Prop} {w w' : World} {b n : Nat} {kept : Mg.Id4 → Option (List Nat)} (h : Mp E w b n kept) (hb : w'.heap[b]? = w.heap[b]?) (hk : U8s E w w') (hE : ∀ k, k < w.heap.size → E k → E' k) : Mp E' w' b n kept := by
  obtain ⟨D, ⟨es, clock, hb', r⟩, hs, hv⟩ := h
  exact ⟨D, ⟨es, clock, hb.trans hb', r⟩, hs, hv.keep hk hE⟩
theorem Mp.made (E : Nat → Prop) (w : World) : Mp E (w.alloc (.map #[] 0)) w.heap.size 0 fun _ => none := by
  refine ⟨.map [], World.ownsMap_made w Try.prog 28 RV, rfl, fun l hl => ?_, fun i _ _ => rfl, fun i p _ hk => by cases hk⟩
  simp [Maps.has] at hl
theorem tight {w : World} {b n c : Nat} {D : DataW Value} (h : w.ownsMap Try.prog 28 RV b n D) (hs : Maps.size D = c) : w.ownsMap Try.prog 28 RV b c D := by
  obtain ⟨es, clock, hb, F, _, hD⟩ := h
  refine ⟨es, clock, hb, F, ?_, hD⟩
  rw [hD] at hs
  simp [Maps.size, length_sorted] at hs
  omega
/-- 'len(m)'. -/
theorem Mp.len {E : Nat → Prop} {w : World} {b n : Nat} {kept : Mg.Id4 → Option (List Nat)} (h : Mp E w b n kept) (ty : TypeId) (W : World) (hW : W.heap[b]? = w.heap[b]?) : (Builtin.len_ #[86] ty #[.map (some b)]).run Try.prog W = .ok (.int .i64 (n : Int)) W := by
  obtain ⟨D, ⟨es, clock, hb, r⟩, hs, hv⟩ := h
  have how : W.ownsMap Try.prog 28 RV b n D := ⟨es, clock, hW.trans hb, r⟩
  have := how.len Try.underlying86 ty
  rw [hs] at this
  exact this
/-- An id that is not there. -/
theorem Mp.no {E : Nat → Prop} {w : World} {b n : Nat} {kept : Mg.Id4 → Option (List Nat)} (h : Mp E w b n kept) {i : Mg.Id4} (hf : Fit i) (hk : kept i = none) :
    ∀ W : World, W.heap[b]? = w.heap[b]? → (Instr.lookup 86 (.map (some b)) (.agg (Mg.idC i)) true).run Try.prog W = .ok (.tuple #[.slice none 0 0, .bool false]) W := by
  intro W hW
  obtain ⟨D, ⟨es, clock, hb, r⟩, _, hv⟩ := h
  have how : W.ownsMap Try.prog 28 RV b n D := ⟨es, clock, hW.trans hb, r⟩
  obtain ⟨v, ps, h1, h2⟩ := how.look_ok keyed Try.underlying86 (zero24 W) (zd := .held (.slice none 0 0)) (zp := []) rfl (key_of hf)
  have hh := hv.no i hf hk
  rw [hh] at h1
  rw [atKey_of_not_has hh] at h2
  simp only [Option.some.injEq, Prod.mk.injEq, DataW.held.injEq] at h2
  rw [h2.1] at h1
  exact h1
/-- One that is there. -/
theorem Mp.yes {E : Nat → Prop} {w : World} {b n : Nat} {kept : Mg.Id4 → Option (List Nat)} (h : Mp E w b n kept) {i : Mg.Id4} (hf : Fit i) {p : List Nat} (hk : kept i = some p) :
    ∃ v, El E w v p ∧ (∀ W : World, W.heap[b]? = w.heap[b]? → (Instr.lookup 86 (.map (some b)) (.agg (Mg.idC i)) true).run Try.prog W = .ok (.tuple #[v, .bool true]) W) ∧ (∀ W : World, W.heap[b]? = w.heap[b]? → (Instr.lookup 86 (.map (some b)) (.agg (Mg.idC i)) false).run Try.prog W = .ok v W) := by
  obtain ⟨D, ⟨es, clock, hb, r⟩, _, hv⟩ := h
  obtain ⟨hh, v, h3, h4⟩ := hv.yes i p hf hk
  refine ⟨v, h4, fun W hW => ?_, fun W hW => ?_⟩
  · have how : W.ownsMap Try.prog 28 RV b n D := ⟨es, clock, hW.trans hb, r⟩
    obtain ⟨v', ps, h1, h2⟩ := how.look_ok keyed Try.underlying86 (zero24 W) (zd := .held (.slice none 0 0)) (zp := []) rfl (key_of hf)
    rw [hh] at h1
    rw [h3] at h2
    simp only [Option.some.injEq, Prod.mk.injEq, DataW.held.injEq] at h2
    rw [h2.1] at h1
    exact h1
  · have how : W.ownsMap Try.prog 28 RV b n D := ⟨es, clock, hW.trans hb, r⟩
    obtain ⟨v', ps, h1, h2⟩ := how.lookup keyed Try.underlying86 (zero24 W) (zd := .held (.slice none 0 0)) (zp := []) rfl (key_of hf)
    rw [h3] at h2
    simp only [Option.some.injEq, Prod.mk.injEq, DataW.held.injEq] at h2
    rw [h2.1] at h1
    exact h1
theorem but_turned {w w' : World} {b : Nat} (h : w.mapTurned w' b) : But (fun k => k = b) w w' ∧ w'.heap.size = w.heap.size := by
  have hg := h.grown
  refine ⟨⟨hg.os, hg.tape, hg.output, hg.size, fun k hk hn => hg.block k hk fun e => hn (by cases e; rfl)⟩, ?_⟩
  obtain ⟨es, clock, es', clock', hb, rfl⟩ := h
  simp [ChangeMaps.setBlock]
theorem u8_turned {E : Nat → Prop} {w w' : World} {b : Nat} (hm : ∃ es c, w.heap[b]? = some (.map es c)) (hb : But (fun k => k = b) w w') : U8s E w w' := U8s.but hb fun k cs _ hk e => by
  obtain ⟨es, c, hm⟩ := hm
  subst e
  rw [hm] at hk; cases hk
theorem Mp.put {E : Nat → Prop} {w : World} {b n : Nat} {kept : Mg.Id4 → Option (List Nat)} (h : Mp E w b n kept) (hn : n ≤ 1000000000) {i : Mg.Id4} (hf : Fit i) (hno : kept i = none) {v : Value} {p : List Nat} (hv : El E w v p) :
    ∃ w', (Instr.mapUpdate 86 (.map (some b)) (.agg (Mg.idC i)) v).run Try.prog w = .ok () w' ∧ Mp E w' b (n + 1) (fun k => if k = i then some p else kept k) ∧ But (fun k => k = b) w w' ∧ w'.heap.size = w.heap.size := by
  have hm := h.isMap
  obtain ⟨D, how, hsz, hvw⟩ := h
  have htd := how.tidy keyed
  have hnh := hvw.no i hf hno
  obtain ⟨w', h1, h2, h3⟩ := how.store keyed Try.underlying86 (by unfold maxLen; omega) (key_of hf) (val := v) (d := .held v) (ps := []) rfl
  obtain ⟨b1, b2⟩ := but_turned h3
  have hI := how.isMap
  have hu : U8s E w w' := u8_turned hm b1
  have hvw' : Vw E w' (D.put (kl i) (.held v)) (fun k => if k = i then some p else kept k) := by
    refine ⟨fun l hl => ?_, fun a ha hk => ?_, fun a q ha hk => ?_⟩
    · by_cases he : l = kl i
      · exact ⟨i, he, hf, by simp⟩
      · rw [has_put_other he] at hl
        obtain ⟨a, e1, e2, e3⟩ := hvw.keys l hl
        refine ⟨a, e1, e2, ?_⟩
        split
        · simp
        · exact e3
    · split at hk
      · cases hk
      · rename_i hne
        rw [has_put_other (fun he => hne (kl_inj ha hf he))]
        exact hvw.no a ha hk
    · split at hk
      · rename_i he
        cases hk
        subst he
        exact ⟨has_put_same hI (key_lit _) _, v, fun z => atKey_put_same hI (key_lit _) _ _, hv.kept hu fun _ _ h => h⟩
      · rename_i hne
        have hk' : kl a ≠ kl i := fun he => hne (kl_inj ha hf he)
        obtain ⟨y1, u, y2, y3⟩ := hvw.yes a q ha hk
        exact ⟨by rw [has_put_other hk']; exact y1, u, fun z => by rw [atKey_put_other hk']; exact y2 z, y3.kept hu fun _ _ h => h⟩
  exact ⟨w', h1, ⟨_, h2, by rw [Maps.size_put htd, hnh, hsz]; rfl, hvw'⟩, b1, b2⟩
theorem Mp.del {E : Nat → Prop} {w : World} {b n : Nat} {kept : Mg.Id4 → Option (List Nat)} (h : Mp E w b n kept) {i : Mg.Id4} (hf : Fit i) {p : List Nat} (hyes : kept i = some p) (ty : TypeId) :
    ∃ w', (Builtin.delete_ #[86, 28] ty #[.map (some b), .agg (Mg.idC i)]).run Try.prog w = .ok (.tuple #[]) w' ∧ Mp E w' b (n - 1) (fun k => if k = i then none else kept k) ∧ But (fun k => k = b) w w' ∧ w'.heap.size = w.heap.size := by
  have hm := h.isMap
  obtain ⟨D, how, hsz, hvw⟩ := h
  have htd := how.tidy keyed
  have hnh := (hvw.yes i p hf hyes).1
  obtain ⟨w', h1, h2, h3⟩ := how.drop keyed Try.underlying86 (key_of hf) ty
  obtain ⟨b1, b2⟩ := but_turned h3
  have hu : U8s E w w' := u8_turned hm b1
  have hvw' : Vw E w' (D.del (kl i)) (fun k => if k = i then none else kept k) := by
    refine ⟨fun l hl => ?_, fun a ha hk => ?_, fun a q ha hk => ?_⟩
    · by_cases he : l = kl i
      · subst he; rw [has_del_same] at hl; cases hl
      · rw [has_del_other he] at hl
        obtain ⟨a, e1, e2, e3⟩ := hvw.keys l hl
        refine ⟨a, e1, e2, ?_⟩
        rw [if_neg (fun e => he (by rw [e1, e]))]
        exact e3
    · split at hk
      · rename_i e
        subst e
        exact has_del_same
      · rename_i hne
        rw [has_del_other (fun he => hne (kl_inj ha hf he))]
        exact hvw.no a ha hk
    · split at hk
      · cases hk
      · rename_i hne
        have hk' : kl a ≠ kl i := fun he => hne (kl_inj ha hf he)
        obtain ⟨y1, u, y2, y3⟩ := hvw.yes a q ha hk
        exact ⟨by rw [has_del_other hk']; exact y1, u, fun z => by rw [atKey_del_other hk']; exact y2 z, y3.kept hu fun _ _ h => h⟩
  have hs2 : Maps.size (D.del (kl i)) = n - 1 := by
    have := Maps.size_del (k := kl i) htd
    rw [hnh, hsz] at this
    simp at this
    omega
  exact ⟨w', h1, ⟨_, tight h2 hs2, hs2, hvw'⟩, b1, b2⟩
theorem putW {w : World} {o : Oper} {a : Act} {K : Act → World → Prop} {Q : Exit → Act → World → Prop} (m x v : Operand) (ho : o.op = .mapUpdate 86 m x v)
    (E : Nat → Prop) (b n : Nat) (kept : Mg.Id4 → Option (List Nat)) (i : Mg.Id4) (p : List Nat) (u : Value) (hm : a.eval m = .map (some b)) (hx : a.eval x = .agg (Mg.idC i)) (hv : a.eval v = u) (hM : Mp E w b n kept) (hn : n ≤ 1000000000) (hf : Fit i) (hno : kept i = none) (hE : El E w u p)
    (h : ∀ w', Mp E w' b (n + 1) (fun k => if k = i then some p else kept k) → But (fun k => k = b) w w' → w'.heap.size = w.heap.size → K (a.put o.dst undef) w') : o.wp Try.prog a w K Q := by
  obtain ⟨w', hr, h1, h2, h3⟩ := hM.put hn hf hno hE
  unfold Oper.wp execOp
  simp only [ho, Sem.run_bind, Sem.run_pure, Result.andThen_ok, hm, hx, hv, hr]
  exact h w' h1 h2 h3
theorem delW {w : World} {o : Oper} {a : Act} {K : Act → World → Prop} {Q : Exit → Act → World → Prop} (m x : Operand) (ho : o.op = .call { callee := .builtin .delete, args := #[m, x], argTypes := #[86, 28] })
    (E : Nat → Prop) (b n : Nat) (kept : Mg.Id4 → Option (List Nat)) (i : Mg.Id4) (hm : a.eval m = .map (some b)) (hx : a.eval x = .agg (Mg.idC i)) (hM : Mp E w b n kept) (hf : Fit i) (q : List Nat) (hyes : kept i = some q)
    (h : ∀ w', Mp E w' b (n - 1) (fun k => if k = i then none else kept k) → But (fun k => k = b) w w' → w'.heap.size = w.heap.size → K (a.put o.dst (.tuple #[])) w') : o.wp Try.prog a w K Q := by
  obtain ⟨w', hr, h1, h2, h3⟩ := hM.del hf hyes o.type
  unfold Oper.wp execOp
  simp only [ho, resolve, invoke, builtin, Sem.run_bind, Sem.run_pure, Result.andThen_ok, List.map_toArray, List.map_cons, List.map_nil, hm, hx, hr]
  exact h w' h1 h2 h3
end Go.Proofs.Ytpofdimagfldnaa.So
