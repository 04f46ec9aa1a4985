/- A map from numbers to byte slices of one's own: what its block holds, what its operations do. -/
import Derived.Test.YtnfjfcoonabmmaaSnState
import Derived.Sort.MapsRangeIn
namespace Go.Proofs.Ytnfjfcoonabmmaa.Rv
open Go.RowKit Go.Maps Go.WideElems
open Go.Proofs.Ytnfjfcoonabmmaa.Me Go.Proofs.Ytnfjfcoonabmmaa.Hd Go.Proofs.Ytnfjfcoonabmmaa.Sn
set_option linter.unusedVariables false

/-- An element as it is. -/
abbrev RV : Value → Option (DataW Value × List MemPlace) := fun v => some (.held v, [])
theorem keyed : Keyed Try.prog 3 := int_keyed Try.underlying3
theorem wf64 {n : Nat} (h : n < 128) : (Lit.int .i64 (n : Int)).wf = true := WalkArith.wf_i64 (by omega)
theorem key_of {n : Nat} (h : n < 128) : keyOf Try.prog 3 (.int .i64 (n : Int)) = some (.int .i64 (n : Int)) := keyOf_int_mk Try.underlying3 (wf64 h)
theorem key_lit (n : Int) : WideAt.IsKeyLit (.int .i64 n) := trivial
theorem key_ne {m n : Nat} (h : m ≠ n) : (Lit.int .i64 (m : Int)) ≠ .int .i64 (n : Int) := fun e => h (by injection e; omega)
/-- What is read of a map says what kept says. -/
structure Vw (E : Nat → Prop) (w : World) (D : DataW Value) (kept : Nat → Option (List Nat)) : Prop where
  keys : ∀ l : Lit, has D l = true → ∃ m : Nat, l = .int .i64 (m : Int) ∧ m < 128
  no : ∀ m, m < 128 → kept m = none → has D (.int .i64 (m : Int)) = false
  yes : ∀ m p, m < 128 → kept m = some p → has D (.int .i64 (m : Int)) = true ∧ ∃ v, (∀ z, D.atKey (.int .i64 (m : Int)) z = .held v) ∧ El E w v p
/-- Block b is a map that holds what kept says, its elements in blocks that bear E. -/
def Mp (E : Nat → Prop) (w : World) (b : Nat) (kept : Nat → Option (List Nat)) : Prop :=
  ∃ D, w.ownsMap Try.prog 3 RV b 128 D ∧ Vw E w D kept
theorem nodup_le : ∀ (n : Nat) (l : List Nat), l.Nodup → (∀ x ∈ l, x < n) → l.length ≤ n
  | 0, l, _, h => by
    cases l with
    | nil => exact Nat.le_refl _
    | cons a r => exact absurd (h a (by simp)) (by omega)
  | n + 1, l, hd, h => by
    by_cases hm : n ∈ l
    · have h1 := nodup_le n (l.erase n) (hd.erase n) (fun x hx => by
        have := (List.Nodup.mem_erase_iff hd).1 hx
        have h2 := h x this.2
        have h3 := this.1
        omega)
      have h2 := List.length_erase_of_mem hm
      omega
    · have h1 := nodup_le n l hd (fun x hx => by
        have h2 := h x hx
        have : x ≠ n := fun e => hm (e ▸ hx)
        omega)
      omega
theorem size_128 {es : List (Lit × DataW Value)} (hp : es.Pairwise (fun p q => p.1 ≠ q.1)) (hl : ∀ p ∈ es, WideAt.IsKeyLit p.1) (hk : ∀ l : Lit, has (DataW.map es) l = true → ∃ m : Nat, l = .int .i64 (m : Int) ∧ m < 128) : es.length ≤ 128 := by
  have hke : ∀ p ∈ es, ∃ m : Nat, p.1 = .int .i64 (m : Int) ∧ m < 128 := fun p hpm => hk p.1 (by rw [has_eq]; exact List.any_eq_true.2 ⟨p, hpm, WideAt.sameKey_self (hl p hpm)⟩)
  have hf : ∃ f : Lit × DataW Value → Nat, ∀ p ∈ es, p.1 = .int .i64 (f p : Int) ∧ f p < 128 := by
    refine ⟨fun p => match p.1 with | .int _ n => n.toNat | _ => 0, fun p hpm => ?_⟩
    obtain ⟨m, e, h⟩ := hke p hpm
    simp only [e]
    exact ⟨by simp, by simpa using h⟩
  obtain ⟨f, hf⟩ := hf
  have := nodup_le 128 (es.map f) (by
    rw [List.nodup_iff_pairwise_ne, List.pairwise_map]
    exact (List.Pairwise.and_mem.1 hp).imp fun {a b} h e => h.2.2 (by rw [(hf a h.1).1, (hf b h.2.1).1, e])) (fun x hx => by
      obtain ⟨p, hpm, rfl⟩ := List.mem_map.1 hx
      exact (hf p hpm).2)
  simpa using this
theorem owns_tight {w : World} {b n : Nat} {D : DataW Value} (h : w.ownsMap Try.prog 3 RV b n D) (hk : ∀ l : Lit, has D l = true → ∃ m : Nat, l = .int .i64 (m : Int) ∧ m < 128) : w.ownsMap Try.prog 3 RV b 128 D := by
  obtain ⟨es', rfl, hp, hl⟩ := h.entries keyed
  have h128 := size_128 hp hl hk
  obtain ⟨es, clock, hb, F, hs, hD⟩ := h
  refine ⟨es, clock, hb, F, ?_, hD⟩
  have : size (DataW.map es') = es.size := by rw [hD]; simp [size, length_sorted]
  rw [← this]; exact h128
theorem Vw.mono {E E' : Nat → Prop} {w w' : World} {D : DataW Value} {kept : Nat → Option (List Nat)} (h : Vw E w D kept) (hE : ∀ v p, El E w v p → El E' w' v p) : Vw E' w' D kept :=
  ⟨h.keys, h.no, fun m p hm hp => ⟨(h.yes m p hm hp).1, by obtain ⟨v, h1, h2⟩ := (h.yes m p hm hp).2; exact ⟨v, h1, hE v p h2⟩⟩⟩
theorem Mp.lt {E : Nat → Prop} {w : World} {b : Nat} {kept : Nat → Option (List Nat)} (h : Mp E w b kept) : b < w.heap.size := by
  obtain ⟨D, h1, _⟩ := h
  exact h1.lt
theorem Mp.isMap {E : Nat → Prop} {w : World} {b : Nat} {kept : Nat → Option (List Nat)} (h : Mp E w b kept) : ∃ es c, w.heap[b]? = some (.map es c) := by
  obtain ⟨D, ⟨es, clock, hb, _⟩, _⟩ := h
  exact ⟨es, clock, hb⟩
/-- The map stays while its block and its elements' blocks do. -/
theorem Mp.kept {E E' : Nat → Prop} {w w' : World} {b : Nat} {kept : Nat → Option (List Nat)} (h : Mp E w b kept) (hb : w'.heap[b]? = w.heap[b]?) (hk : ∀ k cs, E k → w.heap[k]? = some (.cells cs 5 (0, 0)) → w'.heap[k]? = w.heap[k]? ∧ E' k) : Mp E' w' b kept := by
  obtain ⟨D, ⟨es, clock, hb', r⟩, hv⟩ := h
  exact ⟨D, ⟨es, clock, hb.trans hb', r⟩, hv.mono fun v p he => he.kept hk⟩
theorem Mp.but {E S : Nat → Prop} {w w' : World} {b : Nat} {kept : Nat → Option (List Nat)} (h : Mp E w b kept) (hb : But S w w') (h1 : ¬ S b) (h2 : ∀ k, E k → ¬ S k) : Mp E w' b kept :=
  h.kept (hb.same b h.lt h1) fun k cs he hc => ⟨hb.same k (Array.getElem?_eq_some_iff.1 hc).1 (h2 k he), he⟩
theorem Mp.below {E : Nat → Prop} {w w' : World} {b : Nat} {kept : Nat → Option (List Nat)} (h : Mp E w b kept) (hb : Below w.heap.size w w') : Mp E w' b kept := h.but (S := fun _ => False) (But.of_below hb) id fun _ _ => id
/-- A number that is not there. -/
theorem Mp.no {E : Nat → Prop} {w : World} {b : Nat} {kept : Nat → Option (List Nat)} (h : Mp E w b kept) {n : Nat} (hn : n < 128) (hk : kept n = none) {W : World} (hW : W.heap[b]? = w.heap[b]?) :
    (Instr.lookup 54 (.map (some b)) (.int .i64 (n : Int)) true).run Try.prog W = .ok (.tuple #[.slice none 0 0, .bool false]) W := by
  obtain ⟨D, ⟨es, clock, hb, r⟩, hv⟩ := h
  have how : W.ownsMap Try.prog 3 RV b 128 D := ⟨es, clock, hW.trans hb, r⟩
  obtain ⟨v, ps, h1, h2⟩ := how.look_ok keyed Try.underlying54 (zero24 W) (zd := .held (.slice none 0 0)) (zp := []) rfl (key_of hn)
  have hh := hv.no n hn hk
  rw [hh] at h1
  rw [atKey_of_not_has hh] at h2
  simp only [Option.some.injEq, Prod.mk.injEq, DataW.held.injEq] at h2
  rw [h2.1] at h1
  exact h1
/-- One that is there. -/
theorem Mp.yes {E : Nat → Prop} {w : World} {b : Nat} {kept : Nat → Option (List Nat)} (h : Mp E w b kept) {n : Nat} (hn : n < 128) {p : List Nat} (hk : kept n = some p) :
    ∃ v, El E w v p ∧ ∀ W : World, W.heap[b]? = w.heap[b]? → (Instr.lookup 54 (.map (some b)) (.int .i64 (n : Int)) true).run Try.prog W = .ok (.tuple #[v, .bool true]) W := by
  obtain ⟨D, ⟨es, clock, hb, r⟩, hv⟩ := h
  obtain ⟨hh, v, h3, h4⟩ := hv.yes n p hn hk
  refine ⟨v, h4, fun W hW => ?_⟩
  have how : W.ownsMap Try.prog 3 RV b 128 D := ⟨es, clock, hW.trans hb, r⟩
  obtain ⟨v', ps, h1, h2⟩ := how.look_ok keyed Try.underlying54 (zero24 W) (zd := .held (.slice none 0 0)) (zp := []) rfl (key_of hn)
  rw [hh] at h1
  rw [h3] at h2
  simp only [Option.some.injEq, Prod.mk.injEq, DataW.held.injEq] at h2
  rw [h2.1] at h1
  exact h1
theorem but_turned {w w' : World} {b : Nat} (h : w.mapTurned w' b) : But (fun k => k = b) w w' ∧ w'.heap.size = w.heap.size := by
  have hg := h.grown
  refine ⟨⟨hg.os, hg.tape, hg.output, hg.size, fun k hk hn => hg.block k hk fun e => hn (by cases e; rfl)⟩, ?_⟩
  obtain ⟨es, clock, es', clock', hb, rfl⟩ := h
  simp [ChangeMaps.setBlock]
theorem El.turned {E E' : Nat → Prop} {w w' : World} {b : Nat} {v : Value} {p : List Nat} (h : El E w v p) (hm : ∃ es c, w.heap[b]? = some (.map es c)) (hb : But (fun k => k = b) w w') (hE : ∀ k, E k → E' k) : El E' w' v p := by
  obtain ⟨es, c, hm⟩ := hm
  exact h.kept fun k cs he hc => ⟨hb.same k (Array.getElem?_eq_some_iff.1 hc).1 (fun e => by subst e; rw [hm] at hc; cases hc), hE k he⟩
/-- 'm[n] = v'. -/
theorem Mp.put {E : Nat → Prop} {w : World} {b : Nat} {kept : Nat → Option (List Nat)} (h : Mp E w b kept) {n : Nat} (hn : n < 128) {v : Value} {p : List Nat} (hv : El E w v p) :
    ∃ w', (Instr.mapUpdate 54 (.map (some b)) (.int .i64 (n : Int)) v).run Try.prog w = .ok () w' ∧ Mp E w' b (fun k => if k = n then some p else kept k) ∧ But (fun k => k = b) w w' ∧ w'.heap.size = w.heap.size := by
  have hm := h.isMap
  obtain ⟨D, how, hvw⟩ := h
  obtain ⟨w', h1, h2, h3⟩ := how.store keyed Try.underlying54 (by unfold maxLen; omega) (key_of hn) (val := v) (d := .held v) (ps := []) rfl
  obtain ⟨b1, b2⟩ := but_turned h3
  have hI := how.isMap
  have hvw' : Vw E w' (D.put (.int .i64 (n : Int)) (.held v)) (fun k => if k = n then some p else kept k) := by
    refine ⟨fun l hl => ?_, fun m hm' hk => ?_, fun m q hm' hk => ?_⟩
    · by_cases e : l = .int .i64 (n : Int)
      · exact ⟨n, e, hn⟩
      · rw [has_put_other e] at hl
        exact hvw.keys l hl
    · split at hk
      · cases hk
      · rename_i hne
        rw [has_put_other (key_ne hne)]
        exact hvw.no m hm' hk
    · split at hk
      · rename_i e
        cases hk
        subst e
        exact ⟨has_put_same hI (key_lit _) _, v, fun z => atKey_put_same hI (key_lit _) _ _, El.turned hv hm b1 fun _ h => h⟩
      · rename_i hne
        obtain ⟨y1, u, y2, y3⟩ := hvw.yes m q hm' hk
        exact ⟨by rw [has_put_other (key_ne hne)]; exact y1, u, fun z => by rw [atKey_put_other (key_ne hne)]; exact y2 z, El.turned y3 hm b1 fun _ h => h⟩
  exact ⟨w', h1, ⟨_, owns_tight h2 hvw'.keys, hvw'⟩, b1, b2⟩
/-- 'delete(m, n)'. -/
theorem Mp.del {E : Nat → Prop} {w : World} {b : Nat} {kept : Nat → Option (List Nat)} (h : Mp E w b kept) {n : Nat} (hn : n < 128) (ty : TypeId) :
    ∃ w', (Builtin.delete_ #[54, 3] ty #[.map (some b), .int .i64 (n : Int)]).run Try.prog w = .ok (.tuple #[]) w' ∧ Mp E w' b (fun k => if k = n then none else kept k) ∧ But (fun k => k = b) w w' ∧ w'.heap.size = w.heap.size := by
  have hm := h.isMap
  obtain ⟨D, how, hvw⟩ := h
  obtain ⟨w', h1, h2, h3⟩ := how.drop keyed Try.underlying54 (key_of hn) ty
  obtain ⟨b1, b2⟩ := but_turned h3
  have hvw' : Vw E w' (D.del (.int .i64 (n : Int))) (fun k => if k = n then none else kept k) := by
    refine ⟨fun l hl => ?_, fun m hm' hk => ?_, fun m q hm' hk => ?_⟩
    · by_cases e : l = .int .i64 (n : Int)
      · exact ⟨n, e, hn⟩
      · rw [has_del_other e] at hl
        exact hvw.keys l hl
    · split at hk
      · rename_i e
        subst e
        exact has_del_same
      · rename_i hne
        rw [has_del_other (key_ne hne)]
        exact hvw.no m hm' hk
    · split at hk
      · cases hk
      · rename_i hne
        obtain ⟨y1, u, y2, y3⟩ := hvw.yes m q hm' hk
        exact ⟨by rw [has_del_other (key_ne hne)]; exact y1, u, fun z => by rw [atKey_del_other (key_ne hne)]; exact y2 z, El.turned y3 hm b1 fun _ h => h⟩
  exact ⟨w', h1, ⟨_, h2, hvw'⟩, b1, b2⟩
/-- A new map. -/
theorem Mp.made (E : Nat → Prop) (w : World) : Mp E (w.alloc (.map #[] 0)) w.heap.size fun _ => none := by
  refine ⟨.map [], (World.ownsMap_made w Try.prog 3 RV).mono (Nat.zero_le _), fun l hl => ?_, fun m _ _ => rfl, fun m p _ hk => by cases hk⟩
  simp [has] at hl
theorem putW {w : World} {o : Oper} {a : Act} {K : Act → World → Prop} {Q : Exit → Act → World → Prop} (m x v : Operand) (ho : o.op = .mapUpdate 54 m x v)
    (E : Nat → Prop) (b : Nat) (kept : Nat → Option (List Nat)) (n : Nat) (p : List Nat) (u : Value) (hm : a.eval m = .map (some b)) (hx : a.eval x = .int .i64 (n : Int)) (hv : a.eval v = u) (hM : Mp E w b kept) (hn : n < 128) (hE : El E w u p)
    (h : ∀ w', Mp E w' b (fun k => if k = n then some p else kept k) → But (fun k => k = b) w w' → w'.heap.size = w.heap.size → K (a.put o.dst undef) w') : o.wp Try.prog a w K Q := by
  obtain ⟨w', hr, h1, h2, h3⟩ := hM.put hn hE
  unfold Oper.wp execOp
  simp only [ho, Sem.run_bind, Sem.run_pure, Result.andThen_ok, hm, hx, hv, hr]
  exact h w' h1 h2 h3
theorem delW {w : World} {o : Oper} {a : Act} {K : Act → World → Prop} {Q : Exit → Act → World → Prop} (m x : Operand) (ho : o.op = .call { callee := .builtin .delete, args := #[m, x], argTypes := #[54, 3] })
    (E : Nat → Prop) (b : Nat) (kept : Nat → Option (List Nat)) (n : Nat) (hm : a.eval m = .map (some b)) (hx : a.eval x = .int .i64 (n : Int)) (hM : Mp E w b kept) (hn : n < 128)
    (h : ∀ w', Mp E w' b (fun k => if k = n then none else kept k) → But (fun k => k = b) w w' → w'.heap.size = w.heap.size → K (a.put o.dst (.tuple #[])) w') : o.wp Try.prog a w K Q := by
  obtain ⟨w', hr, h1, h2, h3⟩ := hM.del hn o.type
  unfold Oper.wp execOp
  simp only [ho, resolve, invoke, builtin, Sem.run_bind, Sem.run_pure, Result.andThen_ok, List.map_toArray, List.map_cons, List.map_nil, hm, hx, hr]
  exact h w' h1 h2 h3
end Go.Proofs.Ytnfjfcoonabmmaa.Rv
