/- A table of routes: what it holds, its memory. -/
import Derived.Test.YtkanebolfmpnfaaSeBut
import Derived.Sort.MapsRangeIn
import Derived.Maps.OwnSet
namespace Go.Proofs.Ytkanebolfmpnfaa.Rt
open Go.RowKit Go.Maps Go.WideElems
open Go.Proofs.Ytkanebolfmpnfaa.Sb
set_option linter.unusedVariables false
set_option linter.unusedSimpArgs false

/-! ### Arrays of 64 numbers -/
def row (f : Nat → Int) : Array Value := ((List.range 64).map fun i => Value.int .i64 (f i)).toArray
def upd (f : Nat → Int) (j : Nat) (v : Int) : Nat → Int := fun d => if d = j then v else f d
theorem row_size (f : Nat → Int) : (row f).size = 64 := by simp [row]
theorem row_at (f : Nat → Int) {j : Nat} (h : j < 64) : (row f)[j]? = some (.int .i64 (f j)) := by simp [row, h]
theorem row_one (f : Nat → Int) : (row f).all (·.oneCell') = true := by
  simp only [row, List.all_toArray, List.all_map]
  exact List.all_eq_true.mpr fun _ _ => rfl
theorem row_eq {f g : Nat → Int} (h : ∀ d, d < 64 → f d = g d) : row f = row g := by
  unfold row
  congr 1
  exact List.map_congr_left fun d hd => by rw [h d (by simpa using hd)]
theorem row_set (f : Nat → Int) {j : Nat} (h : j < 64) (v : Int) : (row f).setIfInBounds j (.int .i64 v) = row (upd f j v) := by
  apply Array.ext_getElem?
  intro i
  rw [Array.getElem?_setIfInBounds, row_size]
  by_cases hi : i < 64
  · rw [row_at _ hi, row_at _ hi]
    by_cases e : j = i
    · subst e
      simp [hi, upd]
    · rw [if_neg e]
      simp only [upd, if_neg (fun h : i = j => e h.symm)]
  · rw [Array.getElem?_eq_none (by rw [row_size]; omega), Array.getElem?_eq_none (by rw [row_size]; omega)]
    split
    · omega
    · rfl
theorem size64 (f : Nat → Int) : (Try.prog.info? 74).map (·.size) = some (row f).size := by rw [row_size]; kernel_rfl
theorem alloc_row (ρ : Operand → Value) (o : Oper) (ho : o.op = .alloc 74) (w : World) : (execOp ρ o).run Try.prog w = .ok (.value (.pointer (some ⟨w.heap.size, 0, none⟩))) (w.alloc (.cells (row fun _ => 0) 74 (0, 0))) := by
  unfold execOp
  rw [ho]
  kernel_rfl
/-- Block g is an array of these numbers. -/
def Ar (w : World) (g : Nat) (f : Nat → Int) : Prop := w.heap[g]? = some (.cells (row f) 74 (0, 0))
section
variable {w w' : World} {g B : Nat} {f : Nat → Int}
theorem Ar.lt (h : Ar w g f) : g < w.heap.size := (Array.getElem?_eq_some_iff.1 h).1
theorem Ar.cell (h : Ar w g f) {j : Nat} (hj : j < 64) : w.cell? ⟨g, j, none⟩ = some (.int .i64 (f j)) := by rw [cell_of_row w g j _ _ (0, 0) h, row_at f hj]
theorem Ar.frozen (h : Ar w g f) (j : Nat) : w.frozen? ⟨g, j, none⟩ = false := frozen_of_row w g j _ _ h
theorem Ar.below (h : Ar w g f) (hb : Below B w w') (hg : g < B) : Ar w' g f := (hb.block g hg).trans h
theorem Ar.same (h : Ar w g f) (hb : w'.heap[g]? = w.heap[g]?) : Ar w' g f := hb.trans h
theorem Ar.set (h : Ar w g f) {j : Nat} (hj : j < 64) (v : Int) : Ar (w.setCell ⟨g, j, none⟩ (.int .i64 v)) g (upd f j v) := by
  unfold Ar
  rw [heap_setCell_same w g j _ _ _ h, row_set f hj]
theorem Ar.other (h : Ar w g f) {g' j : Nat} (hg : g ≠ g') (v : Value) : Ar (w.setCell ⟨g', j, none⟩ v) g f := (Below.heap_setCell w _ v g hg).trans h
theorem Ar.eq (h : Ar w g f) {f' : Nat → Int} (he : ∀ d, d < 64 → f d = f' d) : Ar w g f' := by
  unfold Ar
  rw [← row_eq he]
  exact h
theorem Ar.row (w : World) (f : Nat → Int) : Ar (w.alloc (.cells (row f) 74 (0, 0))) w.heap.size f := heap_alloc_new w _
theorem Ar.setRow (h : Ar w g f) (f' : Nat → Int) : Ar (w.setRow g (Rt.row f')) g f' := setRow_heap _ _ _ _ _ _ h
theorem Ar.rowOther (h : Ar w g f) {g' : Nat} (hg : g ≠ g') (cs : Array Value) : Ar (w.setRow g' cs) g f := (setRow_other _ _ g _ hg).trans h
end
theorem index_at (f : Nat → Int) {i : Nat} (hi : i < 64) (w : World) : (Instr.index 74 (.agg (row f)) (.int .i64 (i : Int))).run Try.prog w = .ok (.int .i64 (f i)) w := by
  have hn : (i : Int) < 64 := by omega
  have h1 : (row f)[i]? = some (.int .i64 (f i)) := row_at f hi
  have h2 : (isAgg 3).run Try.prog w = .ok false w := by kernel_rfl
  have h3 : (sizeOf 3).run Try.prog w = .ok 1 w := by kernel_rfl
  simp [Instr.index, run_underlying Try.underlying74, asIntOf, hn, part, asAgg, h1, h2, h3, go_sem]
  intro h; omega
/-! ### What was heard of a neighbour -/
structure Nw where
  c : Nat → Int
  s : Nat
def ncs (n : Nw) : Array Value := ((List.range 64).map (fun i => Value.int .i64 (n.c i)) ++ [Value.int .i64 (n.s : Int)]).toArray
theorem ncs_size (n : Nw) : (ncs n).size = 65 := by simp [ncs]
theorem ncs_at (n : Nw) {j : Nat} (h : j < 64) : (ncs n)[j]? = some (.int .i64 (n.c j)) := by
  unfold ncs
  rw [List.getElem?_toArray, List.getElem?_append_left (by simpa using h)]
  simp [h]
theorem ncs_s (n : Nw) : (ncs n)[64]? = some (.int .i64 (n.s : Int)) := by
  unfold ncs
  rw [List.getElem?_toArray, List.getElem?_append_right (by simp)]
  simp
theorem ncs_one (n : Nw) : (ncs n).all (·.oneCell') = true := by
  simp only [ncs, List.all_toArray, List.all_append, List.all_map]
  rw [Bool.and_eq_true]
  exact ⟨List.all_eq_true.mpr fun _ _ => rfl, rfl⟩
theorem ncs_set (n : Nw) (s : Nat) : (ncs n).setIfInBounds 64 (.int .i64 (s : Int)) = ncs ⟨n.c, s⟩ := by
  apply Array.ext_getElem?
  intro i
  rw [Array.getElem?_setIfInBounds, ncs_size]
  by_cases hi : i < 64
  · rw [if_neg (by omega), ncs_at _ hi, ncs_at _ hi]
  · by_cases e : 64 = i
    · subst e
      rw [if_pos rfl, if_pos (by omega), ncs_s]
    · rw [if_neg e, Array.getElem?_eq_none (by rw [ncs_size]; omega), Array.getElem?_eq_none (by rw [ncs_size]; omega)]
theorem size65 (n : Nw) : (Try.prog.info? 91).map (·.size) = some (ncs n).size := by rw [ncs_size]; kernel_rfl
def n0 : Nw := ⟨fun _ => 0, 0⟩
theorem alloc_news (ρ : Operand → Value) (o : Oper) (ho : o.op = .alloc 91) (w : World) : (execOp ρ o).run Try.prog w = .ok (.value (.pointer (some ⟨w.heap.size, 0, none⟩))) (w.alloc (.cells (ncs n0) 91 (0, 0))) := by
  unfold execOp
  rw [ho]
  kernel_rfl
theorem ncs_row (n : Nw) : (ncs n).extract 0 64 = row n.c := by
  apply Array.ext_getElem?
  intro i
  by_cases hi : i < 64
  · rw [row_at _ hi, Array.getElem?_extract, if_pos (by rw [ncs_size]; omega), Nat.zero_add, ncs_at _ hi]
  · rw [Array.getElem?_eq_none (by rw [Array.size_extract, ncs_size]; omega), Array.getElem?_eq_none (by rw [row_size]; omega)]
theorem field_news (n : Nw) (w : World) : (Instr.field 91 (.agg (ncs n)) 0).run Try.prog w = .ok (.agg (row n.c)) w := by
  have h2 : (isAgg 74).run Try.prog w = .ok true w := by kernel_rfl
  have h3 : (sizeOf 74).run Try.prog w = .ok 64 w := by kernel_rfl
  simp [Instr.field, Sem.run_bind, run_underlying Try.underlying91, part, asAgg, h2, h3, ncs_row, go_sem]
def Nb (w : World) (g : Nat) (n : Nw) : Prop := w.heap[g]? = some (.cells (ncs n) 91 (0, 0))
theorem Nb.lt {w : World} {g : Nat} {n : Nw} (h : Nb w g n) : g < w.heap.size := (Array.getElem?_eq_some_iff.1 h).1
theorem Nb.cell {w : World} {g : Nat} {n : Nw} (h : Nb w g n) {j : Nat} (hj : j < 64) : w.cell? ⟨g, j, none⟩ = some (.int .i64 (n.c j)) := by rw [cell_of_row w g j _ _ (0, 0) h, ncs_at n hj]
theorem Nb.cellS {w : World} {g : Nat} {n : Nw} (h : Nb w g n) : w.cell? ⟨g, 64, none⟩ = some (.int .i64 (n.s : Int)) := by rw [cell_of_row w g 64 _ _ (0, 0) h, ncs_s n]
theorem Nb.frozen {w : World} {g : Nat} {n : Nw} (h : Nb w g n) (j : Nat) : w.frozen? ⟨g, j, none⟩ = false := frozen_of_row w g j _ _ h
theorem Nb.setS {w : World} {g : Nat} {n : Nw} (h : Nb w g n) (s : Nat) : Nb (w.setCell ⟨g, 64, none⟩ (.int .i64 (s : Int))) g ⟨n.c, s⟩ := by
  unfold Nb
  rw [heap_setCell_same w g 64 _ _ _ h, ncs_set]
/-! ### The map of what was heard -/
abbrev RV : Value → Option (DataW Value × List MemPlace) := fun v => some (.held v, [])
theorem keyed : Keyed Try.prog 3 := int_keyed Try.underlying3
theorem wf64 {n : Nat} (h : n < 64) : (Lit.int .i64 (n : Int)).wf = true := WalkArith.wf_i64 (by omega)
theorem key_of {n : Nat} (h : n < 64) : keyOf Try.prog 3 (.int .i64 (n : Int)) = some (.int .i64 (n : Int)) := keyOf_int_mk Try.underlying3 (wf64 h)
theorem key_lit (n : Int) : WideAt.IsKeyLit (.int .i64 n) := trivial
theorem key_ne {m n : Nat} (h : m ≠ n) : (Lit.int .i64 (m : Int)) ≠ .int .i64 (n : Int) := fun e => h (by injection e; omega)
structure Vw (D : DataW Value) (kept : Nat → Option Nw) : Prop where
  keys : ∀ l : Lit, has D l = true → ∃ m : Nat, l = .int .i64 (m : Int) ∧ m < 64
  no : ∀ m, m < 64 → kept m = none → has D (.int .i64 (m : Int)) = false
  yes : ∀ m p, m < 64 → kept m = some p → has D (.int .i64 (m : Int)) = true ∧ ∀ z, D.atKey (.int .i64 (m : Int)) z = .held (.agg (ncs p))
def Mp (w : World) (b : Nat) (kept : Nat → Option Nw) : Prop := ∃ D, w.ownsMap Try.prog 3 RV b 64 D ∧ Vw D kept
theorem nodup_le : ∀ (n : Nat) (l : List Nat), l.Nodup → (∀ x ∈ l, x < n) → l.length ≤ n
  | 0, l, _, h => by
    cases l with
    | nil => exact Nat.le_refl _
    | cons a r => exact absurd (h a (by simp)) (by omega)
  | n + 1, l, hd, h => by
    by_cases hm : n ∈ l
    · have h1 := nodup_le n (l.erase n) (hd.erase n) (fun x hx => by
        have := (List.Nodup.mem_erase_iff hd).1 hx
        have h2 := h x this.2
        have h3 := this.1
        omega)
      have h2 := List.length_erase_of_mem hm
      omega
    · have h1 := nodup_le n l hd (fun x hx => by
        have h2 := h x hx
        have : x ≠ n := fun e => hm (e ▸ hx)
        omega)
      omega
theorem size_64 {es : List (Lit × DataW Value)} (hp : es.Pairwise (fun p q => p.1 ≠ q.1)) (hl : ∀ p ∈ es, WideAt.IsKeyLit p.1) (hk : ∀ l : Lit, has (DataW.map es) l = true → ∃ m : Nat, l = .int .i64 (m : Int) ∧ m < 64) : es.length ≤ 64 := by
  have hke : ∀ p ∈ es, ∃ m : Nat, p.1 = .int .i64 (m : Int) ∧ m < 64 := fun p hpm => hk p.1 (by rw [has_eq]; exact List.any_eq_true.2 ⟨p, hpm, WideAt.sameKey_self (hl p hpm)⟩)
  have hf : ∃ f : Lit × DataW Value → Nat, ∀ p ∈ es, p.1 = .int .i64 (f p : Int) ∧ f p < 64 := by
    refine ⟨fun p => match p.1 with | .int _ n => n.toNat | _ => 0, fun p hpm => ?_⟩
    obtain ⟨m, e, h⟩ := hke p hpm
    simp only [e]
    exact ⟨by simp, by simpa using h⟩
  obtain ⟨f, hf⟩ := hf
  have := nodup_le 64 (es.map f) (by
    rw [List.nodup_iff_pairwise_ne, List.pairwise_map]
    exact (List.Pairwise.and_mem.1 hp).imp fun {a b} h e => h.2.2 (by rw [(hf a h.1).1, (hf b h.2.1).1, e])) (fun x hx => by
      obtain ⟨p, hpm, rfl⟩ := List.mem_map.1 hx
      exact (hf p hpm).2)
  simpa using this
theorem owns_tight {w : World} {b n : Nat} {D : DataW Value} (h : w.ownsMap Try.prog 3 RV b n D) (hk : ∀ l : Lit, has D l = true → ∃ m : Nat, l = .int .i64 (m : Int) ∧ m < 64) : w.ownsMap Try.prog 3 RV b 64 D := by
  obtain ⟨es', rfl, hp, hl⟩ := h.entries keyed
  have h64 := size_64 hp hl hk
  obtain ⟨es, clock, hb, F, hs, hD⟩ := h
  refine ⟨es, clock, hb, F, ?_, hD⟩
  have : size (DataW.map es') = es.size := by rw [hD]; simp [size, length_sorted]
  rw [← this]; exact h64
section
variable {w w' : World} {b : Nat} {kept : Nat → Option Nw}
theorem Mp.lt (h : Mp w b kept) : b < w.heap.size := by
  obtain ⟨D, h1, _⟩ := h
  exact h1.lt
theorem Mp.isMap (h : Mp w b kept) : ∃ es c, w.heap[b]? = some (.map es c) := by
  obtain ⟨D, ⟨es, clock, hb, _⟩, _⟩ := h
  exact ⟨es, clock, hb⟩
theorem Mp.same (h : Mp w b kept) (hb : w'.heap[b]? = w.heap[b]?) : Mp w' b kept := by
  obtain ⟨D, ⟨es, clock, hb', r⟩, hv⟩ := h
  exact ⟨D, ⟨es, clock, hb.trans hb', r⟩, hv⟩
theorem zeroN (w : World) : (zeroValue 91).run Try.prog w = .ok (.agg (ncs n0)) w := by kernel_rfl
theorem Mp.no (h : Mp w b kept) {n : Nat} (hn : n < 64) (hk : kept n = none) {W : World} (hW : W.heap[b]? = w.heap[b]?) :
    (Instr.lookup 76 (.map (some b)) (.int .i64 (n : Int)) true).run Try.prog W = .ok (.tuple #[.agg (ncs n0), .bool false]) W := by
  obtain ⟨D, ⟨es, clock, hb, r⟩, hv⟩ := h
  have how : W.ownsMap Try.prog 3 RV b 64 D := ⟨es, clock, hW.trans hb, r⟩
  obtain ⟨v, ps, h1, h2⟩ := how.look_ok keyed Try.underlying76 (zeroN W) (zd := .held (.agg (ncs n0))) (zp := []) rfl (key_of hn)
  have hh := hv.no n hn hk
  rw [hh] at h1
  rw [atKey_of_not_has hh] at h2
  simp only [Option.some.injEq, Prod.mk.injEq, DataW.held.injEq] at h2
  rw [h2.1] at h1
  exact h1
theorem Mp.yes (h : Mp w b kept) {n : Nat} (hn : n < 64) {p : Nw} (hk : kept n = some p) {W : World} (hW : W.heap[b]? = w.heap[b]?) :
    (Instr.lookup 76 (.map (some b)) (.int .i64 (n : Int)) true).run Try.prog W = .ok (.tuple #[.agg (ncs p), .bool true]) W := by
  obtain ⟨D, ⟨es, clock, hb, r⟩, hv⟩ := h
  obtain ⟨hh, h3⟩ := hv.yes n p hn hk
  have how : W.ownsMap Try.prog 3 RV b 64 D := ⟨es, clock, hW.trans hb, r⟩
  obtain ⟨v', ps, h1, h2⟩ := how.look_ok keyed Try.underlying76 (zeroN W) (zd := .held (.agg (ncs n0))) (zp := []) rfl (key_of hn)
  rw [hh] at h1
  rw [h3] at h2
  simp only [Option.some.injEq, Prod.mk.injEq, DataW.held.injEq] at h2
  rw [h2.1] at h1
  exact h1
theorem Mp.get (h : Mp w b kept) {n : Nat} (hn : n < 64) {p : Nw} (hk : kept n = some p) {W : World} (hW : W.heap[b]? = w.heap[b]?) :
    (Instr.lookup 76 (.map (some b)) (.int .i64 (n : Int)) false).run Try.prog W = .ok (.agg (ncs p)) W := by
  obtain ⟨D, ⟨es, clock, hb, r⟩, hv⟩ := h
  obtain ⟨hh, h3⟩ := hv.yes n p hn hk
  have how : W.ownsMap Try.prog 3 RV b 64 D := ⟨es, clock, hW.trans hb, r⟩
  obtain ⟨v', ps, h1, h2⟩ := how.lookup keyed Try.underlying76 (zeroN W) (zd := .held (.agg (ncs n0))) (zp := []) rfl (key_of hn)
  rw [h3] at h2
  simp only [Option.some.injEq, Prod.mk.injEq, DataW.held.injEq] at h2
  rw [h2.1] at h1
  exact h1
theorem but_turned {w w' : World} {b : Nat} (h : w.mapTurned w' b) : But (fun k => k = b) w w' ∧ w'.heap.size = w.heap.size := by
  have hg := h.grown
  refine ⟨⟨hg.os, hg.tape, hg.output, hg.size, fun k hk hn => hg.block k hk fun e => hn (by cases e; rfl)⟩, ?_⟩
  obtain ⟨es, clock, es', clock', hb, rfl⟩ := h
  simp [ChangeMaps.setBlock]
def putK (kept : Nat → Option Nw) (n : Nat) (p : Nw) : Nat → Option Nw := fun k => if k = n then some p else kept k
def delK (kept : Nat → Option Nw) (n : Nat) : Nat → Option Nw := fun k => if k = n then none else kept k
theorem Mp.put (h : Mp w b kept) {n : Nat} (hn : n < 64) (p : Nw) :
    ∃ w', (Instr.mapUpdate 76 (.map (some b)) (.int .i64 (n : Int)) (.agg (ncs p))).run Try.prog w = .ok () w' ∧ Mp w' b (putK kept n p) ∧ But (fun k => k = b) w w' ∧ w'.heap.size = w.heap.size := by
  obtain ⟨D, how, hvw⟩ := h
  obtain ⟨w', h1, h2, h3⟩ := how.store keyed Try.underlying76 (by unfold maxLen; omega) (key_of hn) (val := .agg (ncs p)) (d := .held (.agg (ncs p))) (ps := []) rfl
  obtain ⟨b1, b2⟩ := but_turned h3
  have hI := how.isMap
  have hvw' : Vw (D.put (.int .i64 (n : Int)) (.held (.agg (ncs p)))) (putK kept n p) := by
    refine ⟨fun l hl => ?_, fun m hm' hk => ?_, fun m q hm' hk => ?_⟩
    · by_cases e : l = .int .i64 (n : Int)
      · exact ⟨n, e, hn⟩
      · rw [has_put_other e] at hl
        exact hvw.keys l hl
    · unfold putK at hk
      split at hk
      · cases hk
      · rename_i hne
        rw [has_put_other (key_ne hne)]
        exact hvw.no m hm' hk
    · unfold putK at hk
      split at hk
      · rename_i e
        cases hk
        subst e
        exact ⟨has_put_same hI (key_lit _) _, fun z => atKey_put_same hI (key_lit _) _ _⟩
      · rename_i hne
        obtain ⟨y1, y2⟩ := hvw.yes m q hm' hk
        exact ⟨by rw [has_put_other (key_ne hne)]; exact y1, fun z => by rw [atKey_put_other (key_ne hne)]; exact y2 z⟩
  exact ⟨w', h1, ⟨_, owns_tight h2 hvw'.keys, hvw'⟩, b1, b2⟩
theorem Mp.del (h : Mp w b kept) {n : Nat} (hn : n < 64) (ty : TypeId) :
    ∃ w', (Builtin.delete_ #[76, 3] ty #[.map (some b), .int .i64 (n : Int)]).run Try.prog w = .ok (.tuple #[]) w' ∧ Mp w' b (delK kept n) ∧ But (fun k => k = b) w w' ∧ w'.heap.size = w.heap.size := by
  obtain ⟨D, how, hvw⟩ := h
  obtain ⟨w', h1, h2, h3⟩ := how.drop keyed Try.underlying76 (key_of hn) ty
  obtain ⟨b1, b2⟩ := but_turned h3
  have hvw' : Vw (D.del (.int .i64 (n : Int))) (delK kept n) := by
    refine ⟨fun l hl => ?_, fun m hm' hk => ?_, fun m q hm' hk => ?_⟩
    · by_cases e : l = .int .i64 (n : Int)
      · exact ⟨n, e, hn⟩
      · rw [has_del_other e] at hl
        exact hvw.keys l hl
    · unfold delK at hk
      split at hk
      · rename_i e
        subst e
        exact has_del_same
      · rename_i hne
        rw [has_del_other (key_ne hne)]
        exact hvw.no m hm' hk
    · unfold delK at hk
      split at hk
      · cases hk
      · rename_i hne
        obtain ⟨y1, y2⟩ := hvw.yes m q hm' hk
        exact ⟨by rw [has_del_other (key_ne hne)]; exact y1, fun z => by rw [atKey_del_other (key_ne hne)]; exact y2 z⟩
  exact ⟨w', h1, ⟨_, h2, hvw'⟩, b1, b2⟩
theorem Mp.made (w : World) : Mp (w.alloc (.map #[] 0)) w.heap.size fun _ => none := by
  refine ⟨.map [], (World.ownsMap_made w Try.prog 3 RV).mono (Nat.zero_le _), fun l hl => ?_, fun m _ _ => rfl, fun m p _ hk => by cases hk⟩
  simp [has] at hl
end
theorem putW {w : World} {o : Oper} {a : Act} {K : Act → World → Prop} {Q : Exit → Act → World → Prop} (m x v : Operand) (ho : o.op = .mapUpdate 76 m x v)
    (b : Nat) (kept : Nat → Option Nw) (n : Nat) (p : Nw) (hm : a.eval m = .map (some b)) (hx : a.eval x = .int .i64 (n : Int)) (hv : a.eval v = .agg (ncs p)) (hM : Mp w b kept) (hn : n < 64)
    (h : ∀ w', Mp w' b (putK kept n p) → But (fun k => k = b) w w' → w'.heap.size = w.heap.size → K (a.put o.dst undef) w') : o.wp Try.prog a w K Q := by
  obtain ⟨w', hr, h1, h2, h3⟩ := hM.put hn p
  unfold Oper.wp execOp
  simp only [ho, Sem.run_bind, Sem.run_pure, Result.andThen_ok, hm, hx, hv, hr]
  exact h w' h1 h2 h3
theorem delW {w : World} {o : Oper} {a : Act} {K : Act → World → Prop} {Q : Exit → Act → World → Prop} (m x : Operand) (ho : o.op = .call { callee := .builtin .delete, args := #[m, x], argTypes := #[76, 3] })
    (b : Nat) (kept : Nat → Option Nw) (n : Nat) (hm : a.eval m = .map (some b)) (hx : a.eval x = .int .i64 (n : Int)) (hM : Mp w b kept) (hn : n < 64)
    (h : ∀ w', Mp w' b (delK kept n) → But (fun k => k = b) w w' → w'.heap.size = w.heap.size → K (a.put o.dst (.tuple #[])) w') : o.wp Try.prog a w K Q := by
  obtain ⟨w', hr, h1, h2, h3⟩ := hM.del hn o.type
  unfold Oper.wp execOp
  simp only [ho, resolve, invoke, builtin, Sem.run_bind, Sem.run_pure, Result.andThen_ok, List.map_toArray, List.map_cons, List.map_nil, hm, hx, hr]
  exact h w' h1 h2 h3
/-! ### The table -/
structure Tb where
  self : Nat
  nbs : List Int
  age : Nat
  set : Nat → Int
  heard : Nat → Option Nw
def tcs (t : Tb) (v : Value) (mb : Nat) : Array Value := ([Value.int .i64 (t.self : Int), v, .int .i64 (t.age : Int)] ++ (List.range 64).map (fun i => Value.int .i64 (t.set i)) ++ [Value.map (some mb)]).toArray
theorem tcs_size (t : Tb) (v : Value) (mb : Nat) : (tcs t v mb).size = 68 := by simp [tcs]
theorem tcs_set (t : Tb) (v : Value) (mb : Nat) {j : Nat} (h : j < 64) : (tcs t v mb)[3 + j]? = some (.int .i64 (t.set j)) := by
  unfold tcs
  rw [List.getElem?_toArray, List.getElem?_append_left (by simp; omega), List.getElem?_append_right (by simp)]
  simp [h]
theorem tcs_map (t : Tb) (v : Value) (mb : Nat) : (tcs t v mb)[67]? = some (.map (some mb)) := by
  unfold tcs
  rw [List.getElem?_toArray, List.getElem?_append_right (by simp)]
  simp
theorem tcs_row (t : Tb) (v : Value) (mb : Nat) : (tcs t v mb).extract 3 67 = row t.set := by
  apply Array.ext_getElem?
  intro i
  by_cases hi : i < 64
  · rw [row_at _ hi, Array.getElem?_extract, if_pos (by rw [tcs_size]; omega), tcs_set _ _ _ hi]
  · rw [Array.getElem?_eq_none (by rw [Array.size_extract, tcs_size]; omega), Array.getElem?_eq_none (by rw [row_size]; omega)]
theorem tcs_put (t : Tb) (v : Value) (mb : Nat) {n : Nat} (hn : n < 64) (x : Int) : (tcs t v mb).setIfInBounds (3 + n) (.int .i64 x) = tcs ⟨t.self, t.nbs, t.age, upd t.set n x, t.heard⟩ v mb := by
  apply Array.ext_getElem?
  intro i
  rw [Array.getElem?_setIfInBounds, tcs_size]
  by_cases h3 : i < 3
  · rw [if_neg (by omega)]
    match i, h3 with
    | 0, _ => rfl
    | 1, _ => rfl
    | 2, _ => rfl
  · obtain ⟨j, rfl⟩ : ∃ j, i = 3 + j := ⟨i - 3, by omega⟩
    by_cases hj : j < 64
    · rw [tcs_set _ _ _ hj, tcs_set _ _ _ hj]
      by_cases e : n = j
      · subst e
        rw [if_pos rfl, if_pos (by omega)]
        simp [upd]
      · rw [if_neg (by omega)]
        simp only [upd, if_neg (fun h : j = n => e h.symm)]
    · rw [if_neg (by omega)]
      by_cases h64 : j = 64
      · subst h64
        rw [tcs_map, tcs_map]
      · rw [Array.getElem?_eq_none (by rw [tcs_size]; omega), Array.getElem?_eq_none (by rw [tcs_size]; omega)]
/-- Block D is the table t; block mb its map, v its neighbours. -/
structure Tq (w : World) (D mb : Nat) (v : Value) (t : Tb) : Prop where
  blk : w.heap[D]? = some (.cells (tcs t v mb) 78 (0, 0))
  mp : Mp w mb t.heard
  nb : Mi.Own w 0 v t.nbs
theorem own_type {w : World} {B T s n : Nat} {v : Value} {xs : List Value} (h : w.ownsRow B T s v n xs) : ∀ k, v.ownBlock = some k → ∃ cur, w.heap[k]? = some (.cells cur T (0, 0)) := by
  intro k e
  rcases h.2 with ⟨rfl, _⟩ | ⟨g, cap, cur, rfl, _, h3, _⟩
  · cases e
  · simp only [Value.ownBlock, Option.some.injEq] at e
    subst e
    exact ⟨cur, h3⟩
section
variable {w w' : World} {D mb : Nat} {v : Value} {t : Tb}
theorem Tq.lt (h : Tq w D mb v t) : D < w.heap.size := (Array.getElem?_eq_some_iff.1 h.blk).1
theorem Tq.ltm (h : Tq w D mb v t) : mb < w.heap.size := h.mp.lt
theorem Tq.ltv (h : Tq w D mb v t) : ∀ k, v.ownBlock = some k → k < w.heap.size := own_lt h.nb
theorem Tq.ne (h : Tq w D mb v t) : D ≠ mb := fun e => by
  obtain ⟨es, c, hm⟩ := h.mp.isMap
  have := h.blk
  rw [e, hm] at this
  cases this
theorem Tq.nev (h : Tq w D mb v t) : v.ownBlock ≠ some D := fun e => by
  obtain ⟨cur, hc⟩ := own_type h.nb D e
  have := h.blk
  rw [hc] at this
  simp only [Option.some.injEq, Obj.cells.injEq] at this
  exact absurd this.2.1 (by decide)
theorem Tq.nem (h : Tq w D mb v t) : v.ownBlock ≠ some mb := fun e => by
  obtain ⟨cur, hc⟩ := own_type h.nb mb e
  obtain ⟨es, c, hm⟩ := h.mp.isMap
  rw [hc] at hm
  cases hm
theorem Tq.c0 (h : Tq w D mb v t) : w.cell? ⟨D, 0, none⟩ = some (.int .i64 (t.self : Int)) := cell_of_row w D 0 _ _ (0, 0) h.blk
theorem Tq.c1 (h : Tq w D mb v t) : w.cell? ⟨D, 1, none⟩ = some v := cell_of_row w D 1 _ _ (0, 0) h.blk
theorem Tq.c2 (h : Tq w D mb v t) : w.cell? ⟨D, 2, none⟩ = some (.int .i64 (t.age : Int)) := cell_of_row w D 2 _ _ (0, 0) h.blk
theorem Tq.c67 (h : Tq w D mb v t) : w.cell? ⟨D, 67, none⟩ = some (.map (some mb)) := by rw [cell_of_row w D 67 _ _ (0, 0) h.blk, tcs_map]
theorem Tq.frozen (h : Tq w D mb v t) (i : Nat) : w.frozen? ⟨D, i, none⟩ = false := frozen_of_row w D i _ _ h.blk
theorem Tq.but {S : Nat → Prop} (h : Tq w D mb v t) (hb : But S w w') (h1 : ¬ S D) (h2 : ¬ S mb) (h3 : ∀ k, v.ownBlock = some k → ¬ S k) : Tq w' D mb v t :=
  ⟨(hb.same D h.lt h1).trans h.blk, h.mp.same (hb.same mb h.ltm h2), own_same h.nb fun k hk hl => hb.same k hl (h3 k hk)⟩
theorem Tq.below (h : Tq w D mb v t) (hb : Below w.heap.size w w') : Tq w' D mb v t := h.but (S := fun _ => False) (But.of_below hb) id id fun _ _ => id
theorem Tq.map {kept : Nat → Option Nw} (h : Tq w D mb v t) (hm : Mp w' mb kept) (hb : But (fun k => k = mb) w w') : Tq w' D mb v ⟨t.self, t.nbs, t.age, t.set, kept⟩ :=
  ⟨(hb.same D h.lt h.ne).trans h.blk, hm, own_same h.nb fun k hk hl => hb.same k hl fun e => h.nem (by rw [hk, e])⟩
theorem Tq.put (h : Tq w D mb v t) {n : Nat} (hn : n < 64) (x : Int) : Tq (w.setCell ⟨D, 3 + n, none⟩ (.int .i64 x)) D mb v ⟨t.self, t.nbs, t.age, upd t.set n x, t.heard⟩ :=
  ⟨by rw [heap_setCell_same w D (3 + n) _ _ _ h.blk, tcs_put _ _ _ hn], h.mp.same (Below.heap_setCell w ⟨D, 3 + n, none⟩ _ mb fun e => h.ne e.symm), own_same h.nb fun k hk hl => Below.heap_setCell w ⟨D, 3 + n, none⟩ _ k fun e => h.nev (by rw [hk]; simp only at e; rw [e])⟩
end
end Go.Proofs.Ytkanebolfmpnfaa.Rt
