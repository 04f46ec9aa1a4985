/- A desk: what it knows of ids, its memory. -/
import Derived.Test.YtohfoieibgmmdaaZ1
import Derived.Test.YtohfoieibgmmdaaZ2
import Derived.WideKeyPair
import Derived.DeepKeys4
import Derived.Maps.OwnSet
import Derived.Sort.MapsRangeIn
import Derived.Deep.RegionHeld
import Derived.WalkMore
namespace Go.Proofs.Ytohfoieibgmmdaa.Hp
open Go.RowKit Go.Maps Go.WideElems
open Go.Proofs.Ytohfoieibgmmdaa.Me Go.Proofs.Ytohfoieibgmmdaa.Sb
set_option linter.unusedVariables false
set_option linter.unusedSimpArgs false

/-! ### Keys -/
instance idEq : DecidableEq Mg.Id4 := fun a b => decidable_of_iff (a.o = b.o ∧ a.d = b.d ∧ a.e = b.e ∧ a.c = b.c) ⟨fun h => by
  cases a
  cases b
  obtain ⟨h1, h2, h3, h4⟩ := h
  simp only at h1 h2 h3 h4
  rw [h1, h2, h3, h4], fun h => by rw [h]; exact ⟨rfl, rfl, rfl, rfl⟩⟩
abbrev RV : Value → Option (DataW Value × List MemPlace) := fun v => some (.held v, [])
theorem idKey : Try.prog.keyTypeAt 2 23 = true := by kernel_rfl
theorem idTiled : Try.prog.tiled 2 23 = true := by kernel_rfl
theorem keyed : Keyed Try.prog 23 := Keyed.of_law (deep_law (m := 2) (by omega) idKey idTiled (by rw [Try.underlying23]))
def kl (i : Mg.Id4) : Lit := .string (keyBytes [.int .i64 i.o, .int .i64 i.d, .int .i64 i.e, .int .i64 i.c])
/-- A number that fits. -/
def Fit (i : Mg.Id4) : Prop := (Lit.int .i64 i.o).wf = true ∧ (Lit.int .i64 i.d).wf = true ∧ (Lit.int .i64 i.e).wf = true ∧ (Lit.int .i64 i.c).wf = true
theorem fit_right {i : Mg.Id4} (h : Mg.Right i) : Fit i := by
  obtain ⟨h1, h2, h3, h4, h5, h6, h7, h8, _⟩ := h
  exact ⟨WalkArith.wf_i64 (by omega), WalkArith.wf_i64 (by omega), WalkArith.wf_i64 (by omega), WalkArith.wf_i64 (by omega)⟩
theorem types_pos : ∃ m, Try.prog.types.size = m + 1 := by
  have h : 0 < Try.prog.types.size := of_decide_eq_true (by kernel_rfl)
  exact ⟨Try.prog.types.size - 1, by omega⟩
theorem keyT : Try.prog.keyType 23 = true := by kernel_rfl
theorem formedId (a b c d : Value) : (Value.agg #[a, b, c, d]).formed Try.prog 23 = true := by kernel_rfl
theorem key_of {i : Mg.Id4} (h : Fit i) : keyOf Try.prog 23 (.agg (Mg.idC i)) = some (kl i) := by
  obtain ⟨o, d, e, c⟩ := i
  obtain ⟨h0, h1, h2, h3⟩ := h
  obtain ⟨m, hm⟩ := types_pos
  show keyOf Try.prog 23 (.agg #[.int .i64 o, .int .i64 d, .int .i64 e, .int .i64 c]) = some (.string (keyBytes [.int .i64 o, .int .i64 d, .int .i64 e, .int .i64 c]))
  unfold keyOf
  simp only [Try.underlying23]
  rw [if_pos (by rw [keyT, formedId]; rfl), hm]
  unfold Program.keyLits
  simp only [Try.underlying23, Value.cells]
  rw [if_pos ⟨by kernel_rfl, by kernel_rfl⟩]
  simp only [List.mapM_cons, List.mapM_nil]
  have e1 : Try.prog.cellsOf 3 = 1 := by kernel_rfl
  simp only [e1]
  simp [Program.keyLits, Try.underlying3, h0, h1, h2, h3]
theorem key_lit (i : Mg.Id4) : WideAt.IsKeyLit (kl i) := trivial
theorem kl_inj {i j : Mg.Id4} (h : Fit i) (k : Fit j) (hk : kl i = kl j) : i = j := by
  have := _root_.Go.keyBytes_inj (l := [.int .i64 i.o, .int .i64 i.d, .int .i64 i.e, .int .i64 i.c]) (l' := [.int .i64 j.o, .int .i64 j.d, .int .i64 j.e, .int .i64 j.c]) ⟨rfl, rfl, rfl, rfl, trivial⟩ (by
    intro x hx
    simp only [List.mem_cons, List.not_mem_nil, or_false] at hx
    rcases hx with rfl | rfl | rfl | rfl
    · exact h.1
    · exact h.2.1
    · exact h.2.2.1
    · exact h.2.2.2) (by
    intro x hx
    simp only [List.mem_cons, List.not_mem_nil, or_false] at hx
    rcases hx with rfl | rfl | rfl | rfl
    · exact k.1
    · exact k.2.1
    · exact k.2.2.1
    · exact k.2.2.2) (by injection hk)
  obtain ⟨o, d, e, c⟩ := i
  obtain ⟨o', d', e', c'⟩ := j
  simpa using this
/-! ### What is known of an id -/
structure Sd where
  o : Bool
  t : Int
  n : Int
  u : Int
def sdC (s : Sd) : Array Value := #[.bool s.o, .int .i64 s.t, .int .i64 s.n, .int .i64 s.u]
def sd0 : Sd := ⟨false, 0, 0, 0⟩
abbrev Kn := Mg.Id4 → Option Sd
theorem zeroSd (w : World) : (zeroValue 95).run Try.prog w = .ok (.agg (sdC sd0)) w := by kernel_rfl
structure Vw (D : DataW Value) (kept : Kn) : Prop where
  keys : ∀ l : Lit, Maps.has D l = true → ∃ i, l = kl i ∧ Fit i ∧ kept i ≠ none
  no : ∀ i, Fit i → kept i = none → Maps.has D (kl i) = false
  yes : ∀ i p, Fit i → kept i = some p → Maps.has D (kl i) = true ∧ ∀ z, D.atKey (kl i) z = .held (.agg (sdC p))
def Mp (w : World) (b n : Nat) (kept : Kn) : Prop := ∃ D, w.ownsMap Try.prog 23 RV b n D ∧ Maps.size D = n ∧ Vw D kept
def putK (kept : Kn) (i : Mg.Id4) (p : Sd) : Kn := fun k => if k = i then some p else kept k
def delK (kept : Kn) (i : Mg.Id4) : Kn := fun k => if k = i then none else kept k
section
variable {w w' : World} {b n : Nat} {kept : Kn}
theorem Mp.lt (h : Mp w b n kept) : b < w.heap.size := by
  obtain ⟨D, h1, _⟩ := h
  exact h1.lt
theorem Mp.isMap (h : Mp w b n kept) : ∃ es c, w.heap[b]? = some (.map es c) := by
  obtain ⟨D, ⟨es, clock, hb, _⟩, _, _⟩ := h
  exact ⟨es, clock, hb⟩
theorem Mp.same (h : Mp w b n kept) (hb : w'.heap[b]? = w.heap[b]?) : Mp w' b n kept := by
  obtain ⟨D, ⟨es, clock, hb', r⟩, hs, hv⟩ := h
  exact ⟨D, ⟨es, clock, hb.trans hb', r⟩, hs, hv⟩
theorem Mp.made (w : World) : Mp (w.alloc (.map #[] 0)) w.heap.size 0 fun _ => none := by
  refine ⟨.map [], World.ownsMap_made w Try.prog 23 RV, rfl, fun l hl => ?_, fun i _ _ => rfl, fun i p _ hk => by cases hk⟩
  simp [Maps.has] at hl
theorem tight {c : Nat} {D : DataW Value} (h : w.ownsMap Try.prog 23 RV b n D) (hs : Maps.size D = c) : w.ownsMap Try.prog 23 RV b c D := by
  obtain ⟨es, clock, hb, F, _, hD⟩ := h
  refine ⟨es, clock, hb, F, ?_, hD⟩
  rw [hD] at hs
  simp [Maps.size, length_sorted] at hs
  omega
/-- What a look answers. -/
def at_ (kept : Kn) (i : Mg.Id4) : Sd := match kept i with
  | some s => s
  | none => sd0
theorem Mp.look (h : Mp w b n kept) {i : Mg.Id4} (hf : Fit i) :
    ∀ W : World, W.heap[b]? = w.heap[b]? → (Instr.lookup 83 (.map (some b)) (.agg (Mg.idC i)) true).run Try.prog W = .ok (.tuple #[.agg (sdC (at_ kept i)), .bool (kept i).isSome]) W ∧
      (Instr.lookup 83 (.map (some b)) (.agg (Mg.idC i)) false).run Try.prog W = .ok (.agg (sdC (at_ kept i))) W := by
  intro W hW
  obtain ⟨D, ⟨es, clock, hb, r⟩, _, hv⟩ := h
  have how : W.ownsMap Try.prog 23 RV b n D := ⟨es, clock, hW.trans hb, r⟩
  obtain ⟨v, ps, h1, h2⟩ := how.look_ok keyed Try.underlying83 (zeroSd W) (zd := .held (.agg (sdC sd0))) (zp := []) rfl (key_of hf)
  obtain ⟨v', ps', h1', h2'⟩ := how.lookup keyed Try.underlying83 (zeroSd W) (zd := .held (.agg (sdC sd0))) (zp := []) rfl (key_of hf)
  unfold at_
  cases hk : kept i with
  | none =>
    have hh := hv.no i hf hk
    rw [hh] at h1
    rw [atKey_of_not_has hh] at h2 h2'
    simp only [Option.some.injEq, Prod.mk.injEq, DataW.held.injEq] at h2 h2'
    rw [h2.1] at h1
    rw [h2'.1] at h1'
    exact ⟨h1, h1'⟩
  | some p =>
    obtain ⟨hh, h3⟩ := hv.yes i p hf hk
    rw [hh] at h1
    rw [h3] at h2 h2'
    simp only [Option.some.injEq, Prod.mk.injEq, DataW.held.injEq] at h2 h2'
    rw [h2.1] at h1
    rw [h2'.1] at h1'
    exact ⟨h1, h1'⟩
theorem but_turned (h : w.mapTurned w' b) : But (fun k => k = b) w w' ∧ w'.heap.size = w.heap.size := by
  have hg := h.grown
  refine ⟨⟨hg.os, hg.tape, hg.output, hg.size, fun k hk hn => hg.block k hk fun e => hn (by cases e; rfl)⟩, ?_⟩
  obtain ⟨es, clock, es', clock', hb, rfl⟩ := h
  simp [ChangeMaps.setBlock]
theorem Vw.put {D : DataW Value} (hv : Vw D kept) (hI : ∃ es, D = .map es) {i : Mg.Id4} (hf : Fit i) (p : Sd) : Vw (D.put (kl i) (.held (.agg (sdC p)))) (putK kept i p) := by
  refine ⟨fun l hl => ?_, fun a ha hk => ?_, fun a q ha hk => ?_⟩
  · by_cases he : l = kl i
    · exact ⟨i, he, hf, by simp [putK]⟩
    · rw [has_put_other he] at hl
      obtain ⟨a, e1, e2, e3⟩ := hv.keys l hl
      refine ⟨a, e1, e2, ?_⟩
      unfold putK
      split
      · simp
      · exact e3
  · unfold putK at hk
    split at hk
    · cases hk
    · rename_i hne
      rw [has_put_other (fun he => hne (kl_inj ha hf he))]
      exact hv.no a ha hk
  · unfold putK at hk
    split at hk
    · rename_i he
      cases hk
      subst he
      exact ⟨has_put_same hI (key_lit _) _, fun z => atKey_put_same hI (key_lit _) _ _⟩
    · rename_i hne
      have hk' : kl a ≠ kl i := fun he => hne (kl_inj ha hf he)
      obtain ⟨y1, y2⟩ := hv.yes a q ha hk
      exact ⟨by rw [has_put_other hk']; exact y1, fun z => by rw [atKey_put_other hk']; exact y2 z⟩
theorem Vw.del {D : DataW Value} (hv : Vw D kept) {i : Mg.Id4} (hf : Fit i) : Vw (D.del (kl i)) (delK kept i) := by
  refine ⟨fun l hl => ?_, fun a ha hk => ?_, fun a q ha hk => ?_⟩
  · by_cases he : l = kl i
    · subst he; rw [has_del_same] at hl; cases hl
    · rw [has_del_other he] at hl
      obtain ⟨a, e1, e2, e3⟩ := hv.keys l hl
      refine ⟨a, e1, e2, ?_⟩
      unfold delK
      rw [if_neg (fun e => he (by rw [e1, e]))]
      exact e3
  · unfold delK at hk
    split at hk
    · rename_i e
      subst e
      exact has_del_same
    · rename_i hne
      rw [has_del_other (fun he => hne (kl_inj ha hf he))]
      exact hv.no a ha hk
  · unfold delK at hk
    split at hk
    · cases hk
    · rename_i hne
      have hk' : kl a ≠ kl i := fun he => hne (kl_inj ha hf he)
      obtain ⟨y1, y2⟩ := hv.yes a q ha hk
      exact ⟨by rw [has_del_other hk']; exact y1, fun z => by rw [atKey_del_other hk']; exact y2 z⟩
/-- How many there are behind a put. -/
theorem Mp.put (h : Mp w b n kept) (hn : n ≤ 1000000000000000000) {i : Mg.Id4} (hf : Fit i) (p : Sd) :
    ∃ w', (Instr.mapUpdate 83 (.map (some b)) (.agg (Mg.idC i)) (.agg (sdC p))).run Try.prog w = .ok () w' ∧ Mp w' b (if (kept i).isSome = true then n else n + 1) (putK kept i p) ∧ But (fun k => k = b) w w' ∧ w'.heap.size = w.heap.size := by
  obtain ⟨D, how, hsz, hv⟩ := h
  have htd := how.tidy keyed
  obtain ⟨w', h1, h2, h3⟩ := how.store keyed Try.underlying83 (by unfold maxLen; omega) (key_of hf) (val := .agg (sdC p)) (d := .held (.agg (sdC p))) (ps := []) rfl
  obtain ⟨b1, b2⟩ := but_turned h3
  have hs2 : Maps.size (D.put (kl i) (.held (.agg (sdC p)))) = if (kept i).isSome = true then n else n + 1 := by
    rw [Maps.size_put htd, hsz]
    cases hk : kept i with
    | none => rw [hv.no i hf hk]; rfl
    | some q => rw [(hv.yes i q hf hk).1]; rfl
  exact ⟨w', h1, ⟨_, tight h2 hs2, hs2, hv.put how.isMap hf p⟩, b1, b2⟩
theorem Mp.del (h : Mp w b n kept) {i : Mg.Id4} (hf : Fit i) (ty : TypeId) :
    ∃ w', (Builtin.delete_ #[83, 23] ty #[.map (some b), .agg (Mg.idC i)]).run Try.prog w = .ok (.tuple #[]) w' ∧ Mp w' b (if (kept i).isSome = true then n - 1 else n) (delK kept i) ∧ But (fun k => k = b) w w' ∧ w'.heap.size = w.heap.size := by
  obtain ⟨D, how, hsz, hv⟩ := h
  have htd := how.tidy keyed
  obtain ⟨w', h1, h2, h3⟩ := how.drop keyed Try.underlying83 (key_of hf) ty
  obtain ⟨b1, b2⟩ := but_turned h3
  have hs2 : Maps.size (D.del (kl i)) = if (kept i).isSome = true then n - 1 else n := by
    have h9 := Maps.size_del (k := kl i) htd
    rw [hsz] at h9
    cases hk : kept i with
    | none =>
      rw [hv.no i hf hk] at h9
      simp at h9
      simpa using h9
    | some q =>
      rw [(hv.yes i q hf hk).1] at h9
      simp at h9
      simp
      omega
  exact ⟨w', h1, ⟨_, tight h2 hs2, hs2, hv.del hf⟩, b1, b2⟩
end
theorem putW {w : World} {o : Oper} {a : Act} {K : Act → World → Prop} {Q : Exit → Act → World → Prop} (m x v : Operand) (ho : o.op = .mapUpdate 83 m x v)
    (b n : Nat) (kept : Kn) (i : Mg.Id4) (p : Sd) (hm : a.eval m = .map (some b)) (hx : a.eval x = .agg (Mg.idC i)) (hv : a.eval v = .agg (sdC p)) (hM : Mp w b n kept) (hn : n ≤ 1000000000000000000) (hf : Fit i)
    (h : ∀ w', Mp w' b (if (kept i).isSome = true then n else n + 1) (putK kept i p) → But (fun k => k = b) w w' → w'.heap.size = w.heap.size → K (a.put o.dst undef) w') : o.wp Try.prog a w K Q := by
  obtain ⟨w', hr, h1, h2, h3⟩ := hM.put hn hf p
  unfold Oper.wp execOp
  simp only [ho, Sem.run_bind, Sem.run_pure, Result.andThen_ok, hm, hx, hv, hr]
  exact h w' h1 h2 h3
theorem delW {w : World} {o : Oper} {a : Act} {K : Act → World → Prop} {Q : Exit → Act → World → Prop} (m x : Operand) (ho : o.op = .call { callee := .builtin .delete, args := #[m, x], argTypes := #[83, 23] })
    (b n : Nat) (kept : Kn) (i : Mg.Id4) (hm : a.eval m = .map (some b)) (hx : a.eval x = .agg (Mg.idC i)) (hM : Mp w b n kept) (hf : Fit i)
    (h : ∀ w', Mp w' b (if (kept i).isSome = true then n - 1 else n) (delK kept i) → But (fun k => k = b) w w' → w'.heap.size = w.heap.size → K (a.put o.dst (.tuple #[])) w') : o.wp Try.prog a w K Q := by
  obtain ⟨w', hr, h1, h2, h3⟩ := hM.del hf o.type
  unfold Oper.wp execOp
  simp only [ho, resolve, invoke, builtin, Sem.run_bind, Sem.run_pure, Result.andThen_ok, List.map_toArray, List.map_cons, List.map_nil, hm, hx, hr]
  exact h w' h1 h2 h3
/-! ### The desk -/
structure Dk where
  wait : Nat
  passed : Nat
  next : Nat
  kept : Kn
def dkC (d : Dk) (mb : Nat) : Array Value := #[.int .i64 d.wait, .int .i64 d.passed, .int .i64 d.next, .map (some mb)]
/-- A desk in memory: its box D, its map mb with m entries. -/
structure Dq (w : World) (D mb m : Nat) (d : Dk) : Prop where
  box : w.heap[D]? = some (.cells (dkC d mb) 85 (0, 0))
  map : Mp w mb m d.kept
section
variable {w w' : World} {D mb m : Nat} {d : Dk}
theorem Dq.ltD (h : Dq w D mb m d) : D < w.heap.size := (Array.getElem?_eq_some_iff.1 h.box).1
theorem Dq.ltm (h : Dq w D mb m d) : mb < w.heap.size := h.map.lt
theorem Dq.ne (h : Dq w D mb m d) : D ≠ mb := fun e => by
  obtain ⟨es, c, hm⟩ := h.map.isMap
  rw [← e, h.box] at hm
  cases hm
theorem Dq.keep (h : Dq w D mb m d) (h1 : w'.heap[D]? = w.heap[D]?) (h2 : w'.heap[mb]? = w.heap[mb]?) : Dq w' D mb m d := ⟨h1.trans h.box, h.map.same h2⟩
theorem Dq.below (h : Dq w D mb m d) (hb : Below w.heap.size w w') : Dq w' D mb m d := h.keep (hb.block _ h.ltD) (hb.block _ h.ltm)
theorem Dq.cells (h : Dq w D mb m d) : w.cell? ⟨D, 0, none⟩ = some (.int .i64 (d.wait : Int)) ∧ w.cell? ⟨D, 1, none⟩ = some (.int .i64 (d.passed : Int)) ∧ w.cell? ⟨D, 2, none⟩ = some (.int .i64 (d.next : Int)) ∧ w.cell? ⟨D, 3, none⟩ = some (.map (some mb)) := by
  refine ⟨?_, ?_, ?_, ?_⟩
  all_goals
    rw [cell_of_row w D _ _ _ (0, 0) h.box]
    rfl
theorem Dq.frozen (h : Dq w D mb m d) (j : Nat) : w.frozen? ⟨D, j, none⟩ = false := frozen_of_row w D j _ _ h.box
theorem Dq.put (h : Dq w D mb m d) {m' : Nat} {kept : Kn} (hm : Mp w' mb m' kept) (hb : But (fun k => k = mb) w w') : Dq w' D mb m' ⟨d.wait, d.passed, d.next, kept⟩ := ⟨(hb.same D h.ltD h.ne).trans h.box, hm⟩
end
end Go.Proofs.Ytohfoieibgmmdaa.Hp
/- Is, isOffered, Waits, of a desk and of none. -/
namespace Go.Proofs.Ytohfoieibgmmdaa.Hp
open Go.RowKit Go.Maps
open Go.Proofs.Ytohfoieibgmmdaa.Me Go.Proofs.Ytohfoieibgmmdaa.Sb
set_option linter.unusedVariables false
set_option linter.unusedSimpArgs false

/-- Is an id offered? -/
def isB (kept : Kn) (i : Mg.Id4) : Bool := (at_ kept i).o
theorem isB_some {kept : Kn} {i : Mg.Id4} (h : isB kept i = true) : (kept i).isSome = true := by
  unfold isB at_ at h
  cases hk : kept i with
  | none => rw [hk] at h; cases h
  | some s => rfl
theorem field_sd (s : Sd) (w : World) : (Instr.field 95 (.agg (sdC s)) 0).run Try.prog w = .ok (.bool s.o) w := by
  obtain ⟨a, b, c, d⟩ := s
  simp only [sdC]
  kernel_rfl
/-- An id's box, and what is below it. -/
theorem idbox (i : Mg.Id4) (w : World) : ∀ W, Below (w.alloc (.cells (Mg.idC i) 23 (0, 0))).heap.size (w.alloc (.cells (Mg.idC i) 23 (0, 0))) W → (W.cell? ⟨w.heap.size, 0, none⟩ = some (.int .i64 i.o) ∧ W.cell? ⟨w.heap.size, 1, none⟩ = some (.int .i64 i.d) ∧ W.cell? ⟨w.heap.size, 2, none⟩ = some (.int .i64 i.e) ∧ W.cell? ⟨w.heap.size, 3, none⟩ = some (.int .i64 i.c)) ∧ Below w.heap.size w W := fun W hW => by
  have hl : w.heap.size < (w.alloc (.cells (Mg.idC i) 23 (0, 0))).heap.size := by simp
  have hb := heap_alloc_new w (.cells (Mg.idC i) 23 (0, 0))
  exact ⟨id_cells ((hW.block _ hl).trans hb), (Me.below_alloc (Below.refl _ _)).trans (hW.mono (by simp))⟩
set_option maxRecDepth 100000 in
theorem Is_nil (i : Mg.Id4) (w : World) : Calls Try.prog 23 #[.pointer none, .agg (Mg.idC i)] w fun e w' => e = .returned (.bool false) ∧ Hid (Below w.heap.size w w') := by
  obtain ⟨o, d, ee, c⟩ := i
  simp only [Mg.idC]
  have HB : Hid (Below w.heap.size w (w.alloc (.cells #[.int .i64 o, .int .i64 d, .int .i64 ee, .int .i64 c] 23))) := Me.below_alloc (Below.refl _ _)
  go_enter Try.func23, Try.ntmps23
  go_wp2
  obtain ⟨W1, hW1⟩ : ∃ W, w.alloc (.cells #[.int .i64 o, .int .i64 d, .int .i64 ee, .int .i64 c] 23) = W := ⟨_, rfl⟩
  rw [hW1] at HB ⊢
  have S0 : Below w.heap.size w W1.drew := HB.out.drew
  refine wp_region_held_drew (S := fun W => Below w.heap.size w W) (by kernel_rfl) S0 (fun hHeld => ?_)
  refine wpAnyH_take (i := 0) (v := .pointer none) rfl (by kernel_rfl) (by kernel_rfl) (by kernel_rfl) (fun _ _ _ h => h) (Or.inl ⟨by rfl, ?_⟩) (by first | assumption | exact trivial) ?_
  · intro W hSW; go_simp; try (with_reducible rfl)
  simp only [Act.put, List.getElem_toArray, List.getElem_cons_succ, List.getElem_cons_zero, List.setIfInBounds_toArray, List.set_cons_zero, List.set_cons_succ]
  refine wpAnyH_take (i := 1) (v := .bool false) rfl (by kernel_rfl) (by kernel_rfl) (by kernel_rfl) (fun _ _ _ h => h) (Or.inl ⟨by rfl, ?_⟩) (by first | assumption | exact trivial) ?_
  · intro W hSW; go_simp; try (with_reducible rfl)
  simp only [Act.put, List.getElem_toArray, List.getElem_cons_succ, List.getElem_cons_zero, List.setIfInBounds_toArray, List.set_cons_zero, List.set_cons_succ]
  refine wpAnyH_take (i := 2) (v := .bool false) rfl (by kernel_rfl) (by kernel_rfl) (by kernel_rfl) (fun _ _ _ h => h) (Or.inl ⟨by rfl, ?_⟩) (by first | assumption | exact trivial) ?_
  · intro W hSW; go_simp; try (with_reducible rfl)
  simp only [Act.put, List.getElem_toArray, List.getElem_cons_succ, List.getElem_cons_zero, List.setIfInBounds_toArray, List.set_cons_zero, List.set_cons_succ]
  refine wpAnyH_take (i := 3) (v := undef) rfl (by kernel_rfl) (by kernel_rfl) (by kernel_rfl) (fun _ _ _ h => h) (Or.inr ⟨by rfl, rfl⟩) (by first | assumption | exact trivial) ?restz1
  simp only [Act.put, List.getElem_toArray, List.getElem_cons_succ, List.getElem_cons_zero, List.setIfInBounds_toArray, List.set_cons_zero, List.set_cons_succ]
  refine wpAnyH_take (i := 4) (v := undef) rfl (by kernel_rfl) (by kernel_rfl) (by kernel_rfl) (fun _ _ _ h => h) (Or.inr ⟨by rfl, rfl⟩) (by first | assumption | exact trivial) ?restz2
  simp only [Act.put, List.getElem_toArray, List.getElem_cons_succ, List.getElem_cons_zero, List.setIfInBounds_toArray, List.set_cons_zero, List.set_cons_succ]
  refine wpAnyH_take (i := 5) (v := undef) rfl (by kernel_rfl) (by kernel_rfl) (by kernel_rfl) (fun _ _ _ h => h) (Or.inr ⟨by rfl, rfl⟩) (by first | assumption | exact trivial) ?restz3
  simp only [Act.put, List.getElem_toArray, List.getElem_cons_succ, List.getElem_cons_zero, List.setIfInBounds_toArray, List.set_cons_zero, List.set_cons_succ]
  refine wpAnyH_take (i := 6) (v := undef) rfl (by kernel_rfl) (by kernel_rfl) (by kernel_rfl) (fun _ _ _ h => h) (Or.inr ⟨by rfl, rfl⟩) (by first | assumption | exact trivial) ?restz4
  simp only [Act.put, List.getElem_toArray, List.getElem_cons_succ, List.getElem_cons_zero, List.setIfInBounds_toArray, List.set_cons_zero, List.set_cons_succ]
  refine wpAnyH_take (i := 7) (v := undef) rfl (by kernel_rfl) (by kernel_rfl) (by kernel_rfl) (fun _ _ _ h => h) (Or.inr ⟨by rfl, rfl⟩) (by first | assumption | exact trivial) ?restz5
  simp only [Act.put, List.getElem_toArray, List.getElem_cons_succ, List.getElem_cons_zero, List.setIfInBounds_toArray, List.set_cons_zero, List.set_cons_succ]
  refine wpAnyH_take (i := 8) (v := undef) rfl (by kernel_rfl) (by kernel_rfl) (by kernel_rfl) (fun _ _ _ h => h) (Or.inr ⟨by rfl, rfl⟩) (by first | assumption | exact trivial) ?restz6
  simp only [Act.put, List.getElem_toArray, List.getElem_cons_succ, List.getElem_cons_zero, List.setIfInBounds_toArray, List.set_cons_zero, List.set_cons_succ]
  refine wpAnyH_take (i := 9) (v := undef) rfl (by kernel_rfl) (by kernel_rfl) (by kernel_rfl) (fun _ _ _ h => h) (Or.inr ⟨by rfl, rfl⟩) (by first | assumption | exact trivial) ?restz7
  simp only [Act.put, List.getElem_toArray, List.getElem_cons_succ, List.getElem_cons_zero, List.setIfInBounds_toArray, List.set_cons_zero, List.set_cons_succ]
  refine wpAnyH_take (i := 10) (v := .bool false) rfl (by kernel_rfl) (by kernel_rfl) (by kernel_rfl) (fun _ _ _ h => h) (Or.inl ⟨by rfl, ?_⟩) (by first | assumption | exact trivial) ?_
  · intro W hSW; go_simp; try (with_reducible rfl)
  simp only [Act.put, List.getElem_toArray, List.getElem_cons_succ, List.getElem_cons_zero, List.setIfInBounds_toArray, List.set_cons_zero, List.set_cons_succ]
  refine wpAnyH_take (i := 11) (v := .bool false) rfl (by kernel_rfl) (by kernel_rfl) (by kernel_rfl) (fun _ _ _ h => h) (Or.inl ⟨by rfl, ?_⟩) (by first | assumption | exact trivial) ?_
  · intro W hSW; go_simp; try (with_reducible rfl)
  simp only [Act.put, List.getElem_toArray, List.getElem_cons_succ, List.getElem_cons_zero, List.setIfInBounds_toArray, List.set_cons_zero, List.set_cons_succ]
  refine wpAnyH_done (by kernel_rfl) ?_ _
  go_wp2
  go_ret
  exact ⟨rfl, S0⟩
set_option maxRecDepth 100000 in
theorem Is_any (D mb m : Nat) (dk : Dk) (i : Mg.Id4) (w : World) (h : Hid (Dq w D mb m dk)) (hf : Fit i) : Calls Try.prog 23 #[.pointer (some ⟨D, 0, none⟩), .agg (Mg.idC i)] w fun e w' => e = .returned (.bool (isB dk.kept i)) ∧ Hid (Below w.heap.size w w') := by
  have HX := Lib.hid (idbox i w)
  have hb1 : Below w.heap.size w (w.alloc (.cells (Mg.idC i) 23 (0, 0))) := Me.below_alloc (Below.refl _ _)
  obtain ⟨W1, hW1⟩ : ∃ W, w.alloc (.cells (Mg.idC i) 23 (0, 0)) = W := ⟨_, rfl⟩
  rw [hW1] at HX hb1
  have HB1 := Lib.hid hb1
  have HW1 := Lib.hid hW1
  have HD : Hid (∀ W, Below W1.heap.size W1 W → W.cell? ⟨D, 3, none⟩ = some (.map (some mb))) := fun W hW => (h.out.below (hb1.trans (hW.mono hb1.size))).cells.2.2.2
  have hlk := h.out.map.look hf
  have HL : Hid (∀ W, Below W1.heap.size W1 W → (Instr.lookup 83 (.map (some mb)) (.agg (Mg.idC i)) false).run Try.prog W = .ok (.agg (sdC (at_ dk.kept i))) W) := fun W hW => (hlk W ((hb1.trans (hW.mono hb1.size)).block _ h.out.ltm)).2
  unfold isB
  obtain ⟨s, hs⟩ : ∃ s, at_ dk.kept i = s := ⟨_, rfl⟩
  rw [hs] at HL ⊢
  have HF := Lib.hid (field_sd s)
  clear hs hlk h hf hb1 hW1
  obtain ⟨so, st, sn, su⟩ := s
  obtain ⟨o, d, ee, c⟩ := i
  simp only [Mg.idC, sdC] at HX HL HW1 HF ⊢
  go_enter Try.func23, Try.ntmps23
  go_wp2
  rw [HW1.out]
  have S0 := (Below.refl W1.heap.size W1).drew
  refine wp_region_held_drew (S := fun W => Below W1.heap.size W1 W) (by kernel_rfl) S0 (fun hHeld => ?_)
  refine wpAnyH_take (i := 0) (v := .pointer (some ⟨D, 0, none⟩)) rfl (by kernel_rfl) (by kernel_rfl) (by kernel_rfl) (fun _ _ _ h => h) (Or.inl ⟨by rfl, ?_⟩) (by first | assumption | exact trivial) ?_
  · intro W hSW; go_simp; try (with_reducible rfl)
  simp only [Act.put, List.getElem_toArray, List.getElem_cons_succ, List.getElem_cons_zero, List.setIfInBounds_toArray, List.set_cons_zero, List.set_cons_succ]
  refine wpAnyH_take (i := 1) (v := .bool true) rfl (by kernel_rfl) (by kernel_rfl) (by kernel_rfl) (fun _ _ _ h => h) (Or.inl ⟨by rfl, ?_⟩) (by first | assumption | exact trivial) ?_
  · intro W hSW; go_simp; try (with_reducible rfl)
  simp only [Act.put, List.getElem_toArray, List.getElem_cons_succ, List.getElem_cons_zero, List.setIfInBounds_toArray, List.set_cons_zero, List.set_cons_succ]
  refine wpAnyH_take (i := 2) (v := .bool true) rfl (by kernel_rfl) (by kernel_rfl) (by kernel_rfl) (fun _ _ _ h => h) (Or.inl ⟨by rfl, ?_⟩) (by first | assumption | exact trivial) ?_
  · intro W hSW; go_simp; try (with_reducible rfl)
  simp only [Act.put, List.getElem_toArray, List.getElem_cons_succ, List.getElem_cons_zero, List.setIfInBounds_toArray, List.set_cons_zero, List.set_cons_succ]
  refine wpAnyH_take (i := 3) (v := .pointer (some ⟨D, 0, none⟩)) rfl (by kernel_rfl) (by kernel_rfl) (by kernel_rfl) (fun _ _ _ h => h) (Or.inl ⟨by rfl, ?_⟩) (by first | assumption | exact trivial) ?_
  · intro W hSW; go_simp; try (with_reducible rfl)
  simp only [Act.put, List.getElem_toArray, List.getElem_cons_succ, List.getElem_cons_zero, List.setIfInBounds_toArray, List.set_cons_zero, List.set_cons_succ]
  refine wpAnyH_take (i := 4) (v := .pointer (some ⟨D, 0, none⟩)) rfl (by kernel_rfl) (by kernel_rfl) (by kernel_rfl) (fun _ _ _ h => h) (Or.inl ⟨by rfl, ?_⟩) (by first | assumption | exact trivial) ?_
  · intro W hSW; go_simp; try (with_reducible rfl)
  simp only [Act.put, List.getElem_toArray, List.getElem_cons_succ, List.getElem_cons_zero, List.setIfInBounds_toArray, List.set_cons_zero, List.set_cons_succ]
  refine wpAnyH_take (i := 5) (v := .pointer (some ⟨D, 3, none⟩)) rfl (by kernel_rfl) (by kernel_rfl) (by kernel_rfl) (fun _ _ _ h => h) (Or.inl ⟨by rfl, ?_⟩) (by first | assumption | exact trivial) ?_
  · intro W hSW; go_simp; try (with_reducible rfl)
  simp only [Act.put, List.getElem_toArray, List.getElem_cons_succ, List.getElem_cons_zero, List.setIfInBounds_toArray, List.set_cons_zero, List.set_cons_succ]
  refine wpAnyH_take (i := 6) (v := .map (some mb)) rfl (by kernel_rfl) (by kernel_rfl) (by kernel_rfl) (fun _ _ _ h => h) (Or.inl ⟨by rfl, ?_⟩) (by first | assumption | exact trivial) ?_
  · intro W hSW; have q := HD.out W hSW; go_simp; try (with_reducible rfl)
  simp only [Act.put, List.getElem_toArray, List.getElem_cons_succ, List.getElem_cons_zero, List.setIfInBounds_toArray, List.set_cons_zero, List.set_cons_succ]
  refine wpAnyH_take (i := 7) (v := .agg #[.int .i64 o, .int .i64 d, .int .i64 ee, .int .i64 c]) rfl (by kernel_rfl) (by kernel_rfl) (by kernel_rfl) (fun _ _ _ h => h) (Or.inl ⟨by rfl, ?_⟩) (by first | assumption | exact trivial) ?_
  · intro W hSW; obtain ⟨⟨y0, y1, y2, y3⟩, _⟩ := HX.out W hSW; go_simp; try (with_reducible rfl)
  simp only [Act.put, List.getElem_toArray, List.getElem_cons_succ, List.getElem_cons_zero, List.setIfInBounds_toArray, List.set_cons_zero, List.set_cons_succ]
  refine wpAnyH_take (i := 8) (v := .agg #[.bool so, .int .i64 st, .int .i64 sn, .int .i64 su]) rfl (by kernel_rfl) (by kernel_rfl) (by kernel_rfl) (fun _ _ _ h => h) (Or.inl ⟨by rfl, ?_⟩) (by first | assumption | exact trivial) ?_
  · intro W hSW; have q := HL.out W hSW; go_simp; try (with_reducible rfl)
  simp only [Act.put, List.getElem_toArray, List.getElem_cons_succ, List.getElem_cons_zero, List.setIfInBounds_toArray, List.set_cons_zero, List.set_cons_succ]
  refine wpAnyH_take (i := 9) (v := .bool so) rfl (by kernel_rfl) (by kernel_rfl) (by kernel_rfl) (fun _ _ _ h => h) (Or.inl ⟨by rfl, ?_⟩) (by first | assumption | exact trivial) ?_
  · intro W hSW; have q := HF.out W; go_simp; try (with_reducible rfl)
  simp only [Act.put, List.getElem_toArray, List.getElem_cons_succ, List.getElem_cons_zero, List.setIfInBounds_toArray, List.set_cons_zero, List.set_cons_succ]
  refine wpAnyH_take (i := 10) (v := .bool so) rfl (by kernel_rfl) (by kernel_rfl) (by kernel_rfl) (fun _ _ _ h => h) (Or.inl ⟨by rfl, ?_⟩) (by first | assumption | exact trivial) ?_
  · intro W hSW; go_simp; try (with_reducible rfl)
  simp only [Act.put, List.getElem_toArray, List.getElem_cons_succ, List.getElem_cons_zero, List.setIfInBounds_toArray, List.set_cons_zero, List.set_cons_succ]
  refine wpAnyH_take (i := 11) (v := .bool so) rfl (by kernel_rfl) (by kernel_rfl) (by kernel_rfl) (fun _ _ _ h => h) (Or.inl ⟨by rfl, ?_⟩) (by first | assumption | exact trivial) ?_
  · intro W hSW; go_simp; try (with_reducible rfl)
  simp only [Act.put, List.getElem_toArray, List.getElem_cons_succ, List.getElem_cons_zero, List.setIfInBounds_toArray, List.set_cons_zero, List.set_cons_succ]
  refine wpAnyH_done (by kernel_rfl) ?_ _
  go_wp2
  go_ret
  exact ⟨rfl, HB1.out.trans (S0.mono HB1.out.size)⟩
end Go.Proofs.Ytohfoieibgmmdaa.Hp
/- isOffered, Waits. -/
namespace Go.Proofs.Ytohfoieibgmmdaa.Hp
open Go.RowKit Go.Maps
open Go.Proofs.Ytohfoieibgmmdaa.Me Go.Proofs.Ytohfoieibgmmdaa.Sb
set_option linter.unusedVariables false
set_option linter.unusedSimpArgs false

/-- Is an id offered to a neighbour by a number? -/
def offB (kept : Kn) (t n : Int) (i : Mg.Id4) : Bool := isB kept i && ((at_ kept i).t == t && (at_ kept i).n == n)
/-- How long does an id wait? -/
def waitN (d : Dk) (i : Mg.Id4) : Int := match d.kept i with
  | none => 0
  | some s => if s.o = true then 0 else s.u - d.passed
theorem sd_one (a : Bool) (b c d : Int) : (#[.bool a, .int .i64 b, .int .i64 c, .int .i64 d] : Array Value).all (·.oneCell') = true := by simp [Value.oneCell']
theorem sd_row {W : World} {g : Nat} {s : Sd} (h : W.heap[g]? = some (.cells (sdC s) 95 (0, 0))) : W.cell? ⟨g, 0, none⟩ = some (.bool s.o) ∧ W.cell? ⟨g, 1, none⟩ = some (.int .i64 s.t) ∧ W.cell? ⟨g, 2, none⟩ = some (.int .i64 s.n) ∧ W.cell? ⟨g, 3, none⟩ = some (.int .i64 s.u) := by
  refine ⟨?_, ?_, ?_, ?_⟩
  all_goals
    rw [cell_of_row W g _ _ _ (0, 0) h]
    rfl
theorem Off_nil (t n : Int) (i : Mg.Id4) (w : World) : Calls Try.prog 62 #[.pointer none, .int .i64 t, .int .i64 n, .agg (Mg.idC i)] w fun e w' => e = .returned (.bool false) ∧ Hid (Below w.heap.size w w') := by
  have HI := Lib.hid (fun W => Is_nil i W)
  have HX := Lib.hid (idbox i w)
  obtain ⟨o, d, ee, c⟩ := i
  simp only [Mg.idC] at HI HX ⊢
  go_enter Try.func62, Try.ntmps62
  go_wp2_with (go_at_call 23; refine (HI.out _).mono ?_; rintro e w1 ⟨rfl, b1⟩; obtain ⟨_, bw⟩ := HX.out w1 b1.out)
  go_ret
  exact ⟨rfl, bw⟩
set_option maxRecDepth 100000 in
theorem Off_any (D mb m : Nat) (dk : Dk) (t n : Int) (i : Mg.Id4) (w : World) (h : Hid (Dq w D mb m dk)) (hf : Fit i) : Calls Try.prog 62 #[.pointer (some ⟨D, 0, none⟩), .int .i64 t, .int .i64 n, .agg (Mg.idC i)] w fun e w' => e = .returned (.bool (offB dk.kept t n i)) ∧ Hid (Below w.heap.size w w') := by
  have HX := Lib.hid (idbox i w)
  have hb1 : Below w.heap.size w (w.alloc (.cells (Mg.idC i) 23 (0, 0))) := Me.below_alloc (Below.refl _ _)
  have HI : Hid (∀ W, Below w.heap.size w W → Calls Try.prog 23 #[.pointer (some ⟨D, 0, none⟩), .agg (Mg.idC i)] W fun e w' => e = .returned (.bool (isB dk.kept i)) ∧ Hid (Below W.heap.size W w')) := fun W hW => Is_any D mb m dk i W (h.out.below hW) hf
  have HD : Hid (∀ W, Below w.heap.size w W → W.cell? ⟨D, 3, none⟩ = some (.map (some mb))) := fun W hW => (h.out.below hW).cells.2.2.2
  have hlk := h.out.map.look hf
  have HL : Hid (∀ W, Below w.heap.size w W → (Instr.lookup 83 (.map (some mb)) (.agg (Mg.idC i)) false).run Try.prog W = .ok (.agg (sdC (at_ dk.kept i))) W) := fun W hW => (hlk W (hW.block _ h.out.ltm)).2
  unfold offB
  obtain ⟨s, hs⟩ : ∃ s, at_ dk.kept i = s := ⟨_, rfl⟩
  obtain ⟨q, hq⟩ : ∃ q, isB dk.kept i = q := ⟨_, rfl⟩
  rw [hs] at HL
  rw [hq] at HI
  rw [hq, hs]
  have HB1 := Lib.hid hb1
  clear hs hlk h hf hb1 hq
  obtain ⟨so, st, sn, su⟩ := s
  obtain ⟨o, d, ee, c⟩ := i
  simp only [Mg.idC, sdC] at HX HL HI HB1 ⊢
  cases q
  · rw [Bool.false_and]
    go_enter Try.func62, Try.ntmps62
    go_wp2_with (go_at_call 23; refine (HI.out _ HB1.out).mono ?_; rintro e w1 ⟨rfl, b1⟩; obtain ⟨_, bw⟩ := HX.out w1 b1.out)
    go_ret
    exact ⟨rfl, bw⟩
  · rw [Bool.true_and]
    obtain ⟨q1, e1⟩ : ∃ q, (st == t) = q := ⟨_, rfl⟩
    obtain ⟨q2, e2⟩ : ∃ q, (sn == n) = q := ⟨_, rfl⟩
    rw [e1, e2]
    cases q1
    all_goals
      go_enter Try.func62, Try.ntmps62
      go_wp2_with (go_at_call 23; refine (HI.out _ HB1.out).mono ?_; rintro e w1 ⟨rfl, b1⟩; obtain ⟨_, bw⟩ := HX.out w1 b1.out)
      have HBW := Lib.hid bw
      have HX1 : Hid (∀ W, Below w1.heap.size w1 W → (W.cell? ⟨w.heap.size, 0, none⟩ = some (.int .i64 o) ∧ W.cell? ⟨w.heap.size, 1, none⟩ = some (.int .i64 d) ∧ W.cell? ⟨w.heap.size, 2, none⟩ = some (.int .i64 ee) ∧ W.cell? ⟨w.heap.size, 3, none⟩ = some (.int .i64 c)) ∧ Below w.heap.size w W) := fun W hW => HX.out W (b1.out.trans (hW.mono b1.out.size))
      clear b1 bw HX HB1
      have S0 := (Below.refl w1.heap.size w1).drew
      refine wp_region_held_drew (S := fun W => Below w1.heap.size w1 W) (by kernel_rfl) S0 (fun hHeld => ?_)
      refine wpAnyH_take (i := 0) (v := .pointer (some ⟨D, 0, none⟩)) rfl (by kernel_rfl) (by kernel_rfl) (by kernel_rfl) (fun _ _ _ h => h) (Or.inl ⟨by rfl, ?_⟩) (by first | assumption | exact trivial) ?_
      · intro W hSW; go_simp; try (with_reducible rfl)
      simp only [Act.put, List.getElem_toArray, List.getElem_cons_succ, List.getElem_cons_zero, List.setIfInBounds_toArray, List.set_cons_zero, List.set_cons_succ]
      refine wpAnyH_take (i := 1) (v := .pointer (some ⟨D, 0, none⟩)) rfl (by kernel_rfl) (by kernel_rfl) (by kernel_rfl) (fun _ _ _ h => h) (Or.inl ⟨by rfl, ?_⟩) (by first | assumption | exact trivial) ?_
      · intro W hSW; go_simp; try (with_reducible rfl)
      simp only [Act.put, List.getElem_toArray, List.getElem_cons_succ, List.getElem_cons_zero, List.setIfInBounds_toArray, List.set_cons_zero, List.set_cons_succ]
      refine wpAnyH_take (i := 2) (v := .pointer (some ⟨D, 3, none⟩)) rfl (by kernel_rfl) (by kernel_rfl) (by kernel_rfl) (fun _ _ _ h => h) (Or.inl ⟨by rfl, ?_⟩) (by first | assumption | exact trivial) ?_
      · intro W hSW; go_simp; try (with_reducible rfl)
      simp only [Act.put, List.getElem_toArray, List.getElem_cons_succ, List.getElem_cons_zero, List.setIfInBounds_toArray, List.set_cons_zero, List.set_cons_succ]
      refine wpAnyH_take (i := 3) (v := .map (some mb)) rfl (by kernel_rfl) (by kernel_rfl) (by kernel_rfl) (fun _ _ _ h => h) (Or.inl ⟨by rfl, ?_⟩) (by first | assumption | exact trivial) ?_
      · intro W hSW; have q := HD.out W (HX1.out W hSW).2; go_simp; try (with_reducible rfl)
      simp only [Act.put, List.getElem_toArray, List.getElem_cons_succ, List.getElem_cons_zero, List.setIfInBounds_toArray, List.set_cons_zero, List.set_cons_succ]
      refine wpAnyH_take (i := 4) (v := .agg #[.int .i64 o, .int .i64 d, .int .i64 ee, .int .i64 c]) rfl (by kernel_rfl) (by kernel_rfl) (by kernel_rfl) (fun _ _ _ h => h) (Or.inl ⟨by rfl, ?_⟩) (by first | assumption | exact trivial) ?_
      · intro W hSW; obtain ⟨⟨y0, y1, y2, y3⟩, _⟩ := HX1.out W hSW; go_simp; try (with_reducible rfl)
      simp only [Act.put, List.getElem_toArray, List.getElem_cons_succ, List.getElem_cons_zero, List.setIfInBounds_toArray, List.set_cons_zero, List.set_cons_succ]
      refine wpAnyH_take (i := 5) (v := .agg #[.bool so, .int .i64 st, .int .i64 sn, .int .i64 su]) rfl (by kernel_rfl) (by kernel_rfl) (by kernel_rfl) (fun _ _ _ h => h) (Or.inl ⟨by rfl, ?_⟩) (by first | assumption | exact trivial) ?_
      · intro W hSW; have q := HL.out W (HX1.out W hSW).2; go_simp; try (with_reducible rfl)
      simp only [Act.put, List.getElem_toArray, List.getElem_cons_succ, List.getElem_cons_zero, List.setIfInBounds_toArray, List.set_cons_zero, List.set_cons_succ]
      refine wpAnyH_ready (rs := [6]) (by kernel_rfl) (by simp) ?_
      refine AllReadyH.cons rfl (fun K hK => ?_) AllReadyH.nil
      go_simp
      obtain ⟨V6, hV6⟩ : ∃ V, (w1.alloc (.cells #[.bool false, .int .i64 0, .int .i64 0, .int .i64 0] 95)).drew = V := ⟨_, rfl⟩
      have hb6 : Below w1.heap.size w1 V6 := by rw [← hV6]; exact (Me.below_alloc (Below.refl _ _)).drew
      have hg6 : V6.heap[w1.heap.size]? = some (.cells #[.bool false, .int .i64 0, .int .i64 0, .int .i64 0] 95 (0, 0)) := by rw [← hV6]; exact heap_alloc_new w1 _
      rw [hV6]
      obtain ⟨g, hg⟩ : ∃ g, w1.heap.size = g := ⟨_, rfl⟩
      rw [hg] at hg6
      have HG := Lib.hid hg
      simp only [hg]
      clear hV6 hg
      refine hK.out _ _ (hb6) (fun hHeld => ?_)
      clear hK K
      refine wpAnyH_ready (rs := [7]) (by kernel_rfl) (by simp) ?_
      refine AllReadyH.cons rfl (fun K hK => ?_) AllReadyH.nil
      rw [if_pos (by kernel_rfl)]
      refine wp_store_row 95 (.tmp 9) (.tmp 19) rfl g #[.bool so, .int .i64 st, .int .i64 sn, .int .i64 su] rfl (by rfl) 95 _ hg6 (by kernel_rfl) rfl (sd_one _ _ _ _) ?_
      simp only [Act.put, List.getElem_toArray, List.getElem_cons_succ, List.getElem_cons_zero, List.setIfInBounds_toArray, List.set_cons_zero, List.set_cons_succ]
      obtain ⟨V7, hV7⟩ : ∃ V, V6.setRow g #[.bool so, .int .i64 st, .int .i64 sn, .int .i64 su] = V := ⟨_, rfl⟩
      have hb7 : Below w1.heap.size w1 V7 := by rw [← hV7]; exact Sb.below_setRow _ hb6 (by rw [HG.out]; exact Nat.le_refl _)
      have hg7 : V7.heap[g]? = some (.cells #[.bool so, .int .i64 st, .int .i64 sn, .int .i64 su] 95 (0, 0)) := by rw [← hV7]; exact setRow_heap _ _ _ _ _ _ hg6
      rw [hV7]
      clear hV7
      refine hK.out _ _ (hb7) (fun hHeld => ?_)
      clear hK K
      refine wpAnyH_done (by kernel_rfl) ?_ _
      obtain ⟨x0, x1, x2, x3⟩ := sd_row (s := ⟨so, st, sn, su⟩) hg7
      simp only at x0 x1 x2 x3
      go_wp2
      go_ret
      exact ⟨rfl, (HX1.out _ hb7).2⟩
end Go.Proofs.Ytohfoieibgmmdaa.Hp
