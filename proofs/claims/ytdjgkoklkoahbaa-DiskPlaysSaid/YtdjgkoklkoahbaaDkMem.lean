/- A map from names to files of one's own: what its block holds, what its operations do. -/
import Derived.Test.YtdjgkoklkoahbaaMemB
import Derived.Test.YtdjgkoklkoahbaaDkOk
import Derived.Sort.MapsRangeIn
import Derived.Sort.KeysCollected
namespace Go.Proofs.Ytdjgkoklkoahbaa.Dk
open Go.RowKit Go.Maps Go.WideElems
open Go.Proofs.Ytdjgkoklkoahbaa.Me Go.Proofs.Ytdjgkoklkoahbaa.Hd
set_option linter.unusedVariables false

/-- An element as it is. -/
abbrev RV : Value → Option (DataW Value × List MemPlace) := fun v => some (.held v, [])
theorem keyed : Keyed Try.prog 9 := string_keyed Try.underlying9
/-- A name as a value. -/
abbrev nmV (n : Nm) : Value := .string ⟨n.toArray⟩
theorem nm_of (s : ByteArray) : ∃ n : Nm, s = ⟨n.toArray⟩ := ⟨s.data.toList, by cases s; simp⟩
theorem key_of {n : Nm} (h : n.length ≤ maxLen) : keyOf Try.prog 9 (nmV n) = some (.string n) := WideMaps.keyOf_string_mk Try.underlying9 (by simpa [ByteArray.size] using h)
theorem key_lit (n : Nm) : WideAt.IsKeyLit (.string n) := trivial
theorem key_ne {m n : Nm} (h : m ≠ n) : (Lit.string m) ≠ .string n := fun e => h (by injection e)
theorem own_type {w : World} {B T s n : Nat} {v : Value} {xs : List Value} (h : w.ownsRow B T s v n xs) : ∀ k, v.ownBlock = some k → ∃ cur, w.heap[k]? = some (.cells cur T (0, 0)) := by
  intro k e
  rcases h.2 with ⟨rfl, _⟩ | ⟨g, cap, cur, rfl, _, h3, _⟩
  · cases e
  · simp only [Value.ownBlock, Option.some.injEq] at e
    subst e
    exact ⟨cur, h3⟩
/-- A file in its block: its bytes' slice, how many are safe. -/
structure FileIn (w : World) (p : Nat) (v : Value) (f : Fl) : Prop where
  blk : w.heap[p]? = some (.cells #[v, .int .i64 (f.safe : Int)] 68 (0, 0))
  own : Me.Own w 0 v f.bytes
theorem FileIn.lt {w : World} {p : Nat} {v : Value} {f : Fl} (h : FileIn w p v f) : p < w.heap.size := (Array.getElem?_eq_some_iff.1 h.blk).1
theorem FileIn.ltv {w : World} {p : Nat} {v : Value} {f : Fl} (h : FileIn w p v f) : ∀ k, v.ownBlock = some k → k < w.heap.size := own_lt h.own
theorem FileIn.ne {w : World} {p : Nat} {v : Value} {f : Fl} (h : FileIn w p v f) : v.ownBlock ≠ some p := fun e => by
  obtain ⟨cur, hc⟩ := own_type h.own p e
  have := h.blk
  rw [hc] at this
  simp only [Option.some.injEq, Obj.cells.injEq] at this
  exact absurd this.2.1 (by decide)
theorem FileIn.keep {w w' : World} {p : Nat} {v : Value} {f : Fl} (h : FileIn w p v f) (h1 : w'.heap[p]? = w.heap[p]?) (h2 : ∀ k, v.ownBlock = some k → w'.heap[k]? = w.heap[k]?) : FileIn w' p v f :=
  ⟨h1.trans h.blk, own_same h.own fun k e _ => h2 k e⟩
/-- What is read of a map says what kept says; ent: where each file lies. -/
structure Vf (E : Nat → Prop) (w : World) (D : DataW Value) (ent : Nm → Nat × Value) (kept : Nm → Option Fl) : Prop where
  keys : ∀ l : Lit, has D l = true → ∃ m, l = .string m ∧ (kept m).isSome = true
  no : ∀ m, kept m = none → has D (.string m) = false
  yes : ∀ m f, kept m = some f → has D (.string m) = true ∧ ∀ z, D.atKey (.string m) z = .held (.pointer (some ⟨(ent m).1, 0, none⟩))
  file : ∀ m f, kept m = some f → FileIn w (ent m).1 (ent m).2 f ∧ E (ent m).1 ∧ ∀ k, (ent m).2.ownBlock = some k → E k
  apart : ∀ m m' f f', kept m = some f → kept m' = some f' → m ≠ m' → (ent m).1 ≠ (ent m').1 ∧ ∀ k, (ent m).2.ownBlock = some k → (ent m').2.ownBlock ≠ some k
/-- Block b is a map of N files that holds what kept says, in blocks that bear E. -/
def Mf (E : Nat → Prop) (w : World) (b : Nat) (kept : Nm → Option Fl) (N : Nat) : Prop :=
  ∃ D ent, w.ownsMap Try.prog 9 RV b N D ∧ size D = N ∧ Vf E w D ent kept
theorem owns_tight {w : World} {b n : Nat} {D : DataW Value} (h : w.ownsMap Try.prog 9 RV b n D) : w.ownsMap Try.prog 9 RV b (size D) D := by
  obtain ⟨es, clock, hb, F, hs, rfl⟩ := h
  exact ⟨es, clock, hb, F, by simp [size, length_sorted], rfl⟩
theorem Vf.keep {E E' : Nat → Prop} {w w' : World} {D : DataW Value} {ent : Nm → Nat × Value} {kept : Nm → Option Fl} (h : Vf E w D ent kept) (hE : ∀ k, k < w.heap.size → E k → w'.heap[k]? = w.heap[k]? ∧ E' k) : Vf E' w' D ent kept :=
  ⟨h.keys, h.no, h.yes, fun m f hf => by
    obtain ⟨h1, h2, h3⟩ := h.file m f hf
    exact ⟨h1.keep (hE _ h1.lt h2).1 fun k e => (hE k (h1.ltv k e) (h3 k e)).1, (hE _ h1.lt h2).2, fun k e => (hE k (h1.ltv k e) (h3 k e)).2⟩, h.apart⟩
section
variable {E E' S : Nat → Prop} {w w' : World} {b N : Nat} {kept : Nm → Option Fl}
theorem Mf.lt (h : Mf E w b kept N) : b < w.heap.size := by
  obtain ⟨D, ent, h1, _⟩ := h
  exact h1.lt
theorem Mf.isMap (h : Mf E w b kept N) : ∃ es c, w.heap[b]? = some (.map es c) := by
  obtain ⟨D, ent, ⟨es, clock, hb, _⟩, _⟩ := h
  exact ⟨es, clock, hb⟩
theorem Mf.keep (h : Mf E w b kept N) (hb : w'.heap[b]? = w.heap[b]?) (hE : ∀ k, k < w.heap.size → E k → w'.heap[k]? = w.heap[k]? ∧ E' k) : Mf E' w' b kept N := by
  obtain ⟨D, ent, ⟨es, clock, hb', r⟩, hs, hv⟩ := h
  exact ⟨D, ent, ⟨es, clock, hb.trans hb', r⟩, hs, hv.keep hE⟩
theorem Mf.but (h : Mf E w b kept N) (hb : But S w w') (h1 : ¬ S b) (h2 : ∀ k, E k → ¬ S k) : Mf E w' b kept N :=
  h.keep (hb.same b h.lt h1) fun k hk he => ⟨hb.same k hk (h2 k he), he⟩
theorem Mf.below (h : Mf E w b kept N) (hb : Below w.heap.size w w') : Mf E w' b kept N := h.but (S := fun _ => False) (But.of_below hb) id fun _ _ => id
theorem Mf.mono (h : Mf E w b kept N) (hE : ∀ k, k < w.heap.size → E k → E' k) : Mf E' w b kept N := h.keep rfl fun k hk he => ⟨rfl, hE k hk he⟩
theorem Mf.congr {kept' : Nm → Option Fl} (h : Mf E w b kept N) (he : ∀ m, kept' m = kept m) : Mf E w b kept' N := by
  obtain rfl : kept' = kept := funext he
  exact h
theorem Mf.made (E : Nat → Prop) (w : World) : Mf E (w.alloc (.map #[] 0)) w.heap.size (fun _ => none) 0 := by
  refine ⟨.map [], fun _ => (0, .nilIface), World.ownsMap_made w Try.prog 9 RV, rfl, fun l hl => ?_, (fun m _ => rfl), (fun m f hk => by cases hk), (fun m f hk => by cases hk), (fun m m' f f' hk => by cases hk)⟩
  simp [has] at hl
theorem zeroP (w : World) : (zeroValue 65).run Try.prog w = .ok (.pointer none) w := by kernel_rfl
/-- A name that is not there. -/
theorem Mf.no (h : Mf E w b kept N) {n : Nm} (hn : n.length ≤ maxLen) (hk : kept n = none) (W : World) (hW : W.heap[b]? = w.heap[b]?) :
    (Instr.lookup 62 (.map (some b)) (nmV n) false).run Try.prog W = .ok (.pointer none) W := by
  obtain ⟨D, ent, ⟨es, clock, hb, r⟩, _, hv⟩ := h
  have how : W.ownsMap Try.prog 9 RV b N D := ⟨es, clock, hW.trans hb, r⟩
  obtain ⟨v, ps, h1, h2⟩ := how.lookup keyed Try.underlying62 (zeroP W) (zd := .held (.pointer none)) (zp := []) rfl (key_of hn)
  rw [atKey_of_not_has (hv.no n hk)] at h2
  simp only [Option.some.injEq, Prod.mk.injEq, DataW.held.injEq] at h2
  rw [h2.1] at h1
  exact h1
/-- One that is there: its file, and what the map is behind whatever becomes of that file alone. -/
theorem Mf.yes (h : Mf E w b kept N) {n : Nm} (hn : n.length ≤ maxLen) {f : Fl} (hk : kept n = some f) :
    ∃ p v, FileIn w p v f ∧ E p ∧ (∀ k, v.ownBlock = some k → E k) ∧
      (∀ W : World, W.heap[b]? = w.heap[b]? → (Instr.lookup 62 (.map (some b)) (nmV n) false).run Try.prog W = .ok (.pointer (some ⟨p, 0, none⟩)) W) ∧
      (∀ (w' : World) (v' : Value) (f' : Fl) (E' : Nat → Prop), w'.heap[b]? = w.heap[b]? → FileIn w' p v' f' → (∀ k, k < w.heap.size → E k → k ≠ p → v.ownBlock ≠ some k → w'.heap[k]? = w.heap[k]?) → (∀ k, k < w.heap.size → E k → E' k) →
        (∀ k, v'.ownBlock = some k → E' k ∧ (v.ownBlock = some k ∨ w.heap.size ≤ k)) → Mf E' w' b (fun m => if m = n then some f' else kept m) N) := by
  obtain ⟨D, ent, ⟨es, clock, hb, r⟩, hs, hv⟩ := h
  obtain ⟨g1, g2⟩ := hv.yes n f hk
  obtain ⟨f1, f2, f3⟩ := hv.file n f hk
  refine ⟨(ent n).1, (ent n).2, f1, f2, f3, fun W hW => ?_, fun w' v' f' E' q1 q2 q3 q4 q5 => ?_⟩
  · have how : W.ownsMap Try.prog 9 RV b N D := ⟨es, clock, hW.trans hb, r⟩
    obtain ⟨v, ps, h1, h2⟩ := how.lookup keyed Try.underlying62 (zeroP W) (zd := .held (.pointer none)) (zp := []) rfl (key_of hn)
    rw [g2] at h2
    simp only [Option.some.injEq, Prod.mk.injEq, DataW.held.injEq] at h2
    rw [h2.1] at h1
    exact h1
  · refine ⟨D, fun m => if m = n then ((ent n).1, v') else ent m, ⟨es, clock, q1.trans hb, r⟩, hs, fun l hl => ?_, fun m hm => ?_, fun m g hm => ?_, fun m g hm => ?_, fun m m' g g' hm hm' hne => ?_⟩
    · obtain ⟨m, e, hm⟩ := hv.keys l hl
      refine ⟨m, e, ?_⟩
      split
      · rfl
      · exact hm
    · skip
      split at hm
      · cases hm
      · exact hv.no m hm
    · skip
      split at hm
      · rename_i e
        subst e
        simp only [if_true]
        exact ⟨g1, g2⟩
      · rename_i e
        simp only [if_neg e]
        exact hv.yes m g hm
    · skip
      split at hm
      · rename_i e
        subst e
        cases hm
        simp only [if_true]
        exact ⟨q2, q4 _ f1.lt f2, fun k e => (q5 k e).1⟩
      · rename_i e
        simp only [if_neg e]
        obtain ⟨a1, a2, a3⟩ := hv.file m g hm
        have ap := hv.apart m n g f hm hk e
        refine ⟨a1.keep (q3 _ a1.lt a2 ap.1 fun e1 => ?_) fun k ek => q3 k (a1.ltv k ek) (a3 k ek) (fun e1 => ?_) (fun e1 => ap.2 k ek e1), q4 _ a1.lt a2, fun k ek => q4 k (a1.ltv k ek) (a3 k ek)⟩
        · obtain ⟨cur, hc⟩ := own_type f1.own _ e1
          have := a1.blk
          rw [hc] at this
          simp only [Option.some.injEq, Obj.cells.injEq] at this
          exact absurd this.2.1 (by decide)
        · obtain ⟨cur, hc⟩ := own_type a1.own _ ek
          have := f1.blk
          rw [← e1, hc] at this
          simp only [Option.some.injEq, Obj.cells.injEq] at this
          exact absurd this.2.1 (by decide)
    · skip
      by_cases e : m = n
      · subst e
        rw [if_neg (fun e => hne e.symm)] at hm'
        rw [if_pos rfl, if_neg (fun e => hne e.symm)]
        have ap := hv.apart m m' f g' hk hm' hne
        have a1 := (hv.file m' g' hm').1
        refine ⟨ap.1, fun k ek e2 => ?_⟩
        rcases (q5 k ek).2 with h | h
        · exact ap.2 k h e2
        · have := a1.ltv k e2; omega
      · rw [if_neg e] at hm
        rw [if_neg e]
        by_cases e' : m' = n
        · subst e'
          rw [if_pos rfl]
          have ap := hv.apart m m' g f hm hk e
          have a1 := (hv.file m g hm).1
          refine ⟨ap.1, fun k ek e2 => ?_⟩
          rcases (q5 k e2).2 with h | h
          · exact ap.2 k ek h
          · have := a1.ltv k ek; omega
        · rw [if_neg e'] at hm'
          rw [if_neg e']
          exact hv.apart m m' g g' hm hm' hne
theorem Mf.len (h : Mf E w b kept N) (W : World) (hW : W.heap[b]? = w.heap[b]?) (ty : TypeId) : (Builtin.len_ #[62] ty #[.map (some b)]).run Try.prog W = .ok (.int .i64 (N : Int)) W := by
  obtain ⟨D, ent, ⟨es, clock, hb, r⟩, hs, hv⟩ := h
  have how : W.ownsMap Try.prog 9 RV b N D := ⟨es, clock, hW.trans hb, r⟩
  rw [← hs]
  exact how.len Try.underlying62 ty
theorem but_turned {b : Nat} (h : w.mapTurned w' b) : But (fun k => k = b) w w' ∧ w'.heap.size = w.heap.size := by
  have hg := h.grown
  refine ⟨⟨hg.os, hg.tape, hg.output, hg.size, fun k hk hn => hg.block k hk fun e => hn (by cases e; rfl)⟩, ?_⟩
  obtain ⟨es, clock, es', clock', hb, rfl⟩ := h
  simp [ChangeMaps.setBlock]
theorem FileIn.turned {p : Nat} {v : Value} {f : Fl} (h : FileIn w p v f) (hm : ∃ es c, w.heap[b]? = some (.map es c)) (hb : But (fun k => k = b) w w') : FileIn w' p v f := by
  obtain ⟨es, c, hm⟩ := hm
  refine h.keep (hb.same p h.lt fun e => ?_) fun k ek => hb.same k (h.ltv k ek) fun e => ?_
  · subst e
    have := h.blk
    rw [hm] at this; cases this
  · subst e
    obtain ⟨cur, hc⟩ := own_type h.own _ ek
    rw [hm] at hc; cases hc
/-- 'm[n] = f', f a file that is none of the map's. -/
theorem Mf.put (h : Mf E w b kept N) {n : Nm} (hn : n.length ≤ maxLen) (hN : N < maxLen) {p : Nat} {v : Value} {f : Fl} (hf : FileIn w p v f) (hp : ¬ E p) (hv' : ∀ k, v.ownBlock = some k → ¬ E k) :
    ∃ w', (Instr.mapUpdate 62 (.map (some b)) (nmV n) (.pointer (some ⟨p, 0, none⟩))).run Try.prog w = .ok () w' ∧
      Mf (fun k => E k ∨ k = p ∨ v.ownBlock = some k) w' b (fun m => if m = n then some f else kept m) (if (kept n).isSome then N else N + 1) ∧ But (fun k => k = b) w w' ∧ w'.heap.size = w.heap.size ∧
      ∀ W : World, W.heap[b]? = w'.heap[b]? → (Instr.lookup 62 (.map (some b)) (nmV n) false).run Try.prog W = .ok (.pointer (some ⟨p, 0, none⟩)) W := by
  have hm := h.isMap
  obtain ⟨D, ent, how, hs, hv⟩ := h
  obtain ⟨w', h1, h2, h3⟩ := how.store keyed Try.underlying62 hN (key_of hn) (val := .pointer (some ⟨p, 0, none⟩)) (d := .held (.pointer (some ⟨p, 0, none⟩))) (ps := []) rfl
  obtain ⟨b1, b2⟩ := but_turned h3
  have hI := how.isMap
  have hT := how.tidy keyed
  have hsz : size (D.put (.string n) (.held (.pointer (some ⟨p, 0, none⟩)))) = if (kept n).isSome then N else N + 1 := by
    rw [size_put hT, hs]
    cases hk : kept n with
    | none => simp [hv.no n hk]
    | some g => simp [(hv.yes n g hk).1]
  have ht := owns_tight h2
  rw [hsz] at ht
  refine ⟨w', h1, ⟨_, fun m => if m = n then (p, v) else ent m, ht, hsz, fun l hl => ?_, fun m hm' => ?_, fun m g hm' => ?_, fun m g hm' => ?_, fun m m' g g' hg hg' hne => ?_⟩, b1, b2, fun W hW => ?_⟩
  rotate_right
  · obtain ⟨es, clock, hb2, r2⟩ := ht
    have how2 : W.ownsMap Try.prog 9 RV b _ (D.put (.string n) (.held (.pointer (some ⟨p, 0, none⟩)))) := ⟨es, clock, hW.trans hb2, r2⟩
    obtain ⟨u, ps, q1, q2⟩ := how2.lookup keyed Try.underlying62 (zeroP W) (zd := .held (.pointer none)) (zp := []) rfl (key_of hn)
    rw [atKey_put_same hI (key_lit _)] at q2
    simp only [Option.some.injEq, Prod.mk.injEq, DataW.held.injEq] at q2
    rw [q2.1] at q1
    exact q1
  · by_cases e : l = .string n
    · exact ⟨n, e, by simp⟩
    · rw [has_put_other e] at hl
      obtain ⟨m, e1, hm'⟩ := hv.keys l hl
      refine ⟨m, e1, ?_⟩
      split
      · rfl
      · exact hm'
  · skip
    split at hm'
    · cases hm'
    · rename_i e
      rw [has_put_other (key_ne e)]
      exact hv.no m hm'
  · skip
    split at hm'
    · rename_i e
      subst e
      simp only [if_true]
      exact ⟨has_put_same hI (key_lit _) _, fun z => atKey_put_same hI (key_lit _) _ _⟩
    · rename_i e
      simp only [if_neg e]
      obtain ⟨y1, y2⟩ := hv.yes m g hm'
      exact ⟨by rw [has_put_other (key_ne e)]; exact y1, fun z => by rw [atKey_put_other (key_ne e)]; exact y2 z⟩
  · skip
    split at hm'
    · rename_i e
      subst e
      cases hm'
      simp only [if_true]
      exact ⟨hf.turned hm b1, .inr (.inl trivial), fun k ek => .inr (.inr ek)⟩
    · rename_i e
      simp only [if_neg e]
      obtain ⟨a1, a2, a3⟩ := hv.file m g hm'
      exact ⟨a1.turned hm b1, .inl a2, fun k ek => .inl (a3 k ek)⟩
  · skip
    by_cases e : m = n
    · subst e
      rw [if_neg (fun e => hne e.symm)] at hg'
      rw [if_pos rfl, if_neg (fun e => hne e.symm)]
      obtain ⟨a1, a2, a3⟩ := hv.file m' g' hg'
      exact ⟨fun e => hp (by have e' : p = (ent m').1 := e; rw [e']; exact a2), fun k ek e2 => hv' k ek (a3 k e2)⟩
    · rw [if_neg e] at hg
      rw [if_neg e]
      obtain ⟨a1, a2, a3⟩ := hv.file m g hg
      by_cases e' : m' = n
      · subst e'
        rw [if_pos rfl]
        exact ⟨fun e => hp (by have e' : (ent m).1 = p := e; rw [← e']; exact a2), fun k ek e2 => hv' k e2 (a3 k ek)⟩
      · rw [if_neg e'] at hg'
        rw [if_neg e']
        exact hv.apart m m' g g' hg hg' hne
/-- 'delete(m, n)': its file is none of the map's any more. -/
theorem Mf.del (h : Mf E w b kept N) {n : Nm} (hn : n.length ≤ maxLen) {f : Fl} (hk : kept n = some f) (ty : TypeId) :
    ∃ w', (Builtin.delete_ #[62, 9] ty #[.map (some b), nmV n]).run Try.prog w = .ok (.tuple #[]) w' ∧
      (∀ p v, FileIn w p v f → (∀ W : World, W.heap[b]? = w.heap[b]? → (Instr.lookup 62 (.map (some b)) (nmV n) false).run Try.prog W = .ok (.pointer (some ⟨p, 0, none⟩)) W) →
        Mf (fun k => E k ∧ k ≠ p ∧ v.ownBlock ≠ some k) w' b (fun m => if m = n then none else kept m) (N - 1)) ∧ But (fun k => k = b) w w' ∧ w'.heap.size = w.heap.size := by
  have hm := h.isMap
  have hM := h
  obtain ⟨D, ent, how, hs, hv⟩ := h
  obtain ⟨w', h1, h2, h3⟩ := how.drop keyed Try.underlying62 (key_of hn) ty
  obtain ⟨b1, b2⟩ := but_turned h3
  have hT := how.tidy keyed
  obtain ⟨g1, g2⟩ := hv.yes n f hk
  obtain ⟨f1, f2, f3⟩ := hv.file n f hk
  have hsz : size (D.del (.string n)) = N - 1 := by
    have := size_del (k := .string n) hT
    rw [g1, hs] at this
    simp at this
    omega
  have ht := owns_tight h2
  rw [hsz] at ht
  refine ⟨w', h1, fun p v hF hL => ?_, b1, b2⟩
  have hp : p = (ent n).1 := by
    obtain ⟨u, ps, q1, q2⟩ := how.lookup keyed Try.underlying62 (zeroP w) (zd := .held (.pointer none)) (zp := []) rfl (key_of hn)
    rw [hL w rfl] at q1
    rw [g2] at q2
    simp only [Result.ok.injEq, and_true] at q1
    subst q1
    simp only [Option.some.injEq, Prod.mk.injEq, DataW.held.injEq, Value.pointer.injEq, Addr.mk.injEq, and_true] at q2
    exact q2.1
  subst hp
  have hvv : v = (ent n).2 := by
    have h1 := hF.blk
    rw [f1.blk] at h1
    simp at h1
    exact h1.symm
  subst hvv
  refine ⟨_, ent, ht, hsz, fun l hl => ?_, fun m hm' => ?_, fun m g hm' => ?_, fun m g hm' => ?_, fun m m' g g' hg hg' hne => ?_⟩
  · by_cases e : l = .string n
    · rw [e, has_del_same] at hl; cases hl
    · rw [has_del_other e] at hl
      obtain ⟨m, e1, hm'⟩ := hv.keys l hl
      refine ⟨m, e1, ?_⟩
      rw [if_neg (fun e2 => e (by rw [e1, e2]))]
      exact hm'
  · skip
    split at hm'
    · rename_i e
      rw [e]
      exact has_del_same
    · rename_i e
      rw [has_del_other (key_ne e)]
      exact hv.no m hm'
  · skip
    split at hm'
    · cases hm'
    · rename_i e
      obtain ⟨y1, y2⟩ := hv.yes m g hm'
      exact ⟨by rw [has_del_other (key_ne e)]; exact y1, fun z => by rw [atKey_del_other (key_ne e)]; exact y2 z⟩
  · skip
    split at hm'
    · cases hm'
    · rename_i e
      obtain ⟨a1, a2, a3⟩ := hv.file m g hm'
      have ap := hv.apart m n g f hm' hk e
      refine ⟨a1.turned hm b1, ⟨a2, ap.1, fun e1 => ?_⟩, fun k ek => ⟨a3 k ek, fun e1 => ?_, fun e1 => ap.2 k ek e1⟩⟩
      · obtain ⟨cur, hc⟩ := own_type f1.own _ e1
        have := a1.blk
        rw [hc] at this
        simp only [Option.some.injEq, Obj.cells.injEq] at this
        exact absurd this.2.1 (by decide)
      · obtain ⟨cur, hc⟩ := own_type a1.own _ ek
        have := f1.blk
        rw [← e1, hc] at this
        simp only [Option.some.injEq, Obj.cells.injEq] at this
        exact absurd this.2.1 (by decide)
  · skip
    split at hg
    · cases hg
    · split at hg'
      · cases hg'
      · exact hv.apart m m' g g' hg hg' hne
end
end Go.Proofs.Ytdjgkoklkoahbaa.Dk
