/- The reference's keys: rows of three numbers; slices of them that are read, slices that are made. -/
import Derived.Test.YtfnlhfelpdkieaaGreatZ4
import Derived.Test.YtfnlhfelpdkieaaGreatZ2
import Derived.Test.YtfnlhfelpdkieaaGreatZ3
import Derived.Maps.AppendAt
namespace Go.Proofs.YtfnlhfelpdkieaaGreat.Se
open Go.RowKit
open Go.Proofs.YtfnlhfelpdkieaaGreat.Me Go.Proofs.YtfnlhfelpdkieaaGreat.Sb
set_option linter.unusedVariables false
set_option linter.unusedSimpArgs false

structure Ky where
  o : Int
  e : Int
  c : Int
deriving DecidableEq
abbrev Ks := List Ky
theorem add_mk (g off n : Nat) : (⟨g, off, none⟩ : Addr).add n = ⟨g, off + n, none⟩ := by unfold Addr.add; split <;> simp_all
/-- A file as cells. -/
def kyV (p : Ky) : List Value := [.int .i64 p.o, .int .i64 p.e, .int .i64 p.c]
def kyAt (L : Ks) (j : Nat) : Ky := L.getD j ⟨0, 0, 0⟩
theorem kyAt_get {L : Ks} {j : Nat} (h : j < L.length) : kyAt L j = L[j] := by simp [kyAt, h]
def kysV (L : Ks) : List Value := L.flatMap kyV
theorem kyV_len (p : Ky) : (kyV p).length = 3 := rfl
theorem kysV_len (L : Ks) : (kysV L).length = L.length * 3 := by
  induction L with
  | nil => rfl
  | cons p r ih => unfold kysV at ih ⊢; rw [List.flatMap_cons, List.length_append, ih, kyV_len, List.length_cons]; omega
theorem kysV_get {L : Ks} : ∀ {j : Nat}, j < L.length → ∀ {i : Nat}, i < 3 → (kysV L)[j * 3 + i]? = (kyV (kyAt L j))[i]? := by
  induction L with
  | nil => intro j h; exact absurd h (by simp)
  | cons p r ih =>
    intro j h i hi
    have e : kysV (p :: r) = kyV p ++ kysV r := by unfold kysV; rw [List.flatMap_cons]
    rw [e]
    cases j with
    | zero => rw [List.getElem?_append_left (by rw [kyV_len]; omega)]; simp [kyAt]
    | succ j =>
      rw [List.getElem?_append_right (by rw [kyV_len]; omega), kyV_len]
      have h2 := ih (j := j) (by simpa using h) hi
      rw [show (j + 1) * 3 + i - 3 = j * 3 + i by omega, h2]
      simp [kyAt]
theorem kysV_snoc (L : Ks) (p : Ky) : kysV (L ++ [p]) = kysV L ++ kyV p := by unfold kysV; rw [List.flatMap_append]; simp
/-- A slice of files that is read: in a block that bears Q. -/
def Kv (Q : Nat → Prop) (w : World) (v : Value) (L : Ks) : Prop :=
  ∃ A c, v = .slice A L.length c ∧ L.length ≤ c ∧ c ≤ 9223372036854775807 ∧ ∀ j, j < L.length → ∃ g, A = some ⟨g, 0, none⟩ ∧ g < w.heap.size ∧ Q g ∧ ∀ i u, (kyV (kyAt L j))[i]? = some u → w.cell? ⟨g, j * 3 + i, none⟩ = some u
theorem Kv.nil (Q : Nat → Prop) (w : World) : Kv Q w (.slice none 0 0) [] := ⟨none, 0, rfl, Nat.le_refl _, Nat.zero_le _, fun j hj => absurd hj (by simp)⟩
theorem Kv.but {Q S : Nat → Prop} {w w' : World} {v : Value} {L : Ks} (h : Kv Q w v L) (hb : But S w w') (hS : ∀ k, Q k → ¬ S k) : Kv Q w' v L := by
  obtain ⟨A, c, e, h1, h2, h3⟩ := h
  refine ⟨A, c, e, h1, h2, fun j hj => ?_⟩
  obtain ⟨g, e1, e2, e3, e4⟩ := h3 j hj
  exact ⟨g, e1, Nat.lt_of_lt_of_le e2 hb.size, e3, fun i u hu => (World.cell?_of_block (w := w) (a := ⟨g, j * 3 + i, none⟩) (hb.same g e2 (hS g e3))).trans (e4 i u hu)⟩
theorem Kv.below {Q : Nat → Prop} {w w' : World} {v : Value} {L : Ks} (h : Kv Q w v L) (hb : Below w.heap.size w w') : Kv Q w' v L := h.but (S := fun _ => False) (But.of_below hb) fun _ _ => id
theorem Kv.mono {Q Q' : Nat → Prop} {w : World} {v : Value} {L : Ks} (h : Kv Q w v L) (hQ : ∀ k, k < w.heap.size → Q k → Q' k) : Kv Q' w v L := by
  obtain ⟨A, c, e, h1, h2, h3⟩ := h
  refine ⟨A, c, e, h1, h2, fun j hj => ?_⟩
  obtain ⟨g, e1, e2, e3, e4⟩ := h3 j hj
  exact ⟨g, e1, e2, hQ g e2 e3, e4⟩
/-- The cells of the file at a place. -/
theorem Kv.at_ {Q : Nat → Prop} {w : World} {A : Option Addr} {n c : Nat} {L : Ks} (h : Kv Q w (.slice A n c) L) {j : Nat} (hj : j < L.length) :
    ∃ g, A = some ⟨g, 0, none⟩ ∧ g < w.heap.size ∧ ∀ W, Below w.heap.size w W → W.cell? ⟨g, j * 3, none⟩ = some (.int .i64 (kyAt L j).o) ∧ W.cell? ⟨g, j * 3 + 1, none⟩ = some (.int .i64 (kyAt L j).e) ∧ W.cell? ⟨g, j * 3 + 2, none⟩ = some (.int .i64 (kyAt L j).c) := by
  obtain ⟨A', c', e, h1, h2, h3⟩ := h
  simp only [Value.slice.injEq] at e
  obtain ⟨rfl, _, _⟩ := e
  obtain ⟨g, e1, e2, _, e4⟩ := h3 j hj
  refine ⟨g, e1, e2, fun W hW => ?_⟩
  have hx : ∀ i u, (kyV (kyAt L j))[i]? = some u → W.cell? ⟨g, j * 3 + i, none⟩ = some u := fun i u hu => (hW.cell (p := ⟨g, j * 3 + i, none⟩) e2).trans (e4 i u hu)
  exact ⟨hx 0 _ rfl, hx 1 _ rfl, hx 2 _ rfl⟩
theorem Kv.form {Q : Nat → Prop} {w : World} {v : Value} {L : Ks} (h : Kv Q w v L) : ∃ A c, v = .slice A L.length c ∧ L.length ≤ c ∧ c ≤ 9223372036854775807 := by
  obtain ⟨A, c, e, h1, h2, _⟩ := h
  exact ⟨A, c, e, h1, h2⟩
/-- A slice of files of the call's own. -/
def Ko (w : World) (B : Nat) (v : Value) (L : Ks) : Prop := w.ownsRow B 123 3 v L.length (kysV L)
theorem Ko.lit {w0 w : World} (hb : w0.heap.size ≤ w.heap.size) : Ko (w.alloc (.cells #[] 123)) w0.heap.size (.slice (some ⟨w.heap.size, 0, none⟩) 0 0) [] :=
  World.ownsRow_made w #[] 0 hb (by unfold maxLen; omega) rfl
theorem Ko.kv {w : World} {B : Nat} {v : Value} {L : Ks} (h : Ko w B v L) : Kv (fun k => B ≤ k) w v L := by
  have h0 := h
  rcases h.2 with ⟨h1, h2⟩ | ⟨g, cap, cur, h1, h2, h3, h4, h5, h6, h7⟩
  · have : L = [] := by simpa using h2
    subst this
    subst h1
    exact Kv.nil _ _
  · have hlt := h.lt g (by rw [h1]; rfl)
    refine ⟨some ⟨g, 0, none⟩, cap, h1, h4, by unfold maxLen at h5; omega, fun j hj => ⟨g, rfl, hlt.2, hlt.1, fun i u hu => ?_⟩⟩
    have hi : i < 3 := by have := (List.getElem?_eq_some_iff.1 hu).1; rwa [kyV_len] at this
    subst h1
    have := h0.cells (g := g) rfl (j * 3 + i) u (by rw [kysV_get hj hi]; exact hu)
    rwa [add_mk, Nat.zero_add] at this
theorem Ko.alloc {w : World} {B : Nat} {v : Value} {L : Ks} (h : Ko w B v L) (o : Obj) : Ko (w.alloc o) B v L := World.ownsRow.kept h (World.grownBy_alloc w o none) (by cases v.ownBlock <;> simp)
theorem Ko.below {w w' : World} {B : Nat} {v : Value} {L : Ks} (h : Ko w B v L) (hb : Below w.heap.size w w') : Ko w' B v L := own_same h fun k _ hk => hb.block k hk
theorem Ko.form {w : World} {B : Nat} {v : Value} {L : Ks} (h : Ko w B v L) : ∃ A c, v = .slice A L.length c ∧ L.length ≤ c ∧ c ≤ 9223372036854775807 := h.kv.form
theorem infoKy : (Tryz.prog.info? 123).map (fun i => (i.zero, i.size, i.bytes)) = some (some (.agg #[.int .i64 0, .int .i64 0, .int .i64 0]), 3, 24) := by kernel_rfl
theorem ky_one (p : Ky) : ∀ v ∈ kyV p, v.oneCell' = true := by
  intro v hv
  simp only [kyV, List.mem_cons, List.not_mem_nil, or_false] at hv
  rcases hv with rfl | rfl | rfl <;> rfl
theorem ky_new (w : World) (p : Ky) (T : TypeId) (fr : Nat × Nat) : ∀ j u, (kyV p)[j]? = some u → (w.alloc (.cells (kyV p).toArray T fr)).cell? ((⟨w.heap.size, 0, none⟩ : Addr).add j) = some u := by
  intro j u hu
  rw [add_mk, Nat.zero_add, cell_of_row _ w.heap.size j _ T fr (heap_alloc_new w _)]
  simpa using hu
/-- One file appended to a slice of the call's own. -/
theorem appKy {w0 w wl : World} {ops : Array Oper} {rest : List Oper} {o : Oper} {a : Act} {Q : Exit → Act → World → Prop} (hgd : o.guard = none) (s x : Operand)
    (ho : o.op = .call { callee := .builtin .append, args := #[s, x], argTypes := #[33, 33] })
    (B : Nat) (v : Value) (L : Ks) (p : Ky) (hs : a.eval s = v) (hw : w = wl.alloc (.cells (kyV p).toArray 123)) (hown : Ko wl B v L) (hb : Below B w0 wl) (hB : B ≤ wl.heap.size)
    (g : Nat) (hg : g = wl.heap.size) (hx : a.eval x = .slice (some ⟨g, 0, none⟩) 1 1) (hlen : L.length ≤ 1000)
    (h : ∀ v' w', Ko w' B v' (L ++ [p]) → Below B w0 w' → wl.grownBy w' v.ownBlock → (∀ k, v'.ownBlock = some k → v.ownBlock = some k ∨ wl.heap.size ≤ k) → wpList Tryz.prog ops Q rest (a.put o.dst v') w') : wpList Tryz.prog ops Q (o :: rest) a w := by
  subst hw hg
  obtain ⟨i0, hi, hz0, hz1, hz2⟩ := info_parts infoKy
  refine wpList_append_own_at (wl.alloc (.cells (kyV p).toArray 123)) hgd s x 33 ho B 123 i0 (.agg #[.int .i64 0, .int .i64 0, .int .i64 0]) 3 24 Tryz.underlying33 hi hz0 hz1 hz2 rfl (by decide) v L.length (kysV L) hs (hown.alloc _) ⟨wl.heap.size, 0, none⟩ 1 1 (kyV p) hx rfl (ky_new wl p _ _) (ky_one p) (by unfold maxLen; omega) (by omega) (by simp; omega) ?_
  intro v' w' h1 h2 _ h4
  have hb1 : Below B w0 (wl.alloc (.cells (kyV p).toArray 123)) := hb.alloc hB _
  refine h v' w' ?_ (hb1.grown h2 (by simp; omega) fun k hk => (hown.lt k hk).1) ⟨h2.os, h2.tape, h2.output, Nat.le_trans (by simp) h2.size, fun k hk hne => ?_⟩ fun k hk => ?_
  · unfold Ko
    rw [List.length_append, kysV_snoc]; exact h1
  · exact (h2.block k (by simp; omega) hne).trans (Below.heap_alloc wl _ k hk)
  · rcases h4 with h4 | h4
    · rw [h4] at hk; exact .inl hk
    · rw [h4] at hk
      simp only [World.size_alloc, Option.some.injEq] at hk
      exact .inr (by omega)
end Go.Proofs.YtfnlhfelpdkieaaGreat.Se
/- The reference's marks in memory: a slice of rows of three numbers and a list of one's own. -/
namespace Go.Proofs.YtfnlhfelpdkieaaGreat.Se
open Go.RowKit
open Go.Proofs.YtfnlhfelpdkieaaGreat.Me Go.Proofs.YtfnlhfelpdkieaaGreat.Sb
set_option linter.unusedVariables false
set_option linter.unusedSimpArgs false

/-- A mark that is told. -/
structure Mr where
  o : Int
  e : Int
  up : Int
  more : List Int
/-- One and where its list lies. -/
structure Pm where
  m : Mr
  A : Option Addr
  c : Nat
def Pm.v (p : Pm) : Value := .slice p.A p.m.more.length p.c
def pV (p : Pm) : List Value := [.int .i64 p.m.o, .int .i64 p.m.e, .int .i64 p.m.up, p.v]
def psV (P : List Pm) : List Value := P.flatMap pV
theorem pV_len (p : Pm) : (pV p).length = 4 := rfl
theorem psV_len (P : List Pm) : (psV P).length = P.length * 4 := by
  induction P with
  | nil => rfl
  | cons p r ih => unfold psV at ih ⊢; rw [List.flatMap_cons, List.length_append, ih, pV_len, List.length_cons]; omega
theorem psV_snoc (P : List Pm) (p : Pm) : psV (P ++ [p]) = psV P ++ pV p := by unfold psV; rw [List.flatMap_append]; simp
theorem psV_get {P : List Pm} {p : Pm} : ∀ {j : Nat}, P[j]? = some p → ∀ {i : Nat}, i < 4 → (psV P)[j * 4 + i]? = (pV p)[i]? := by
  induction P with
  | nil => intro j h; simp at h
  | cons x r ih =>
    intro j h i hi
    have e : psV (x :: r) = pV x ++ psV r := by unfold psV; rw [List.flatMap_cons]
    rw [e]
    cases j with
    | zero =>
      obtain rfl : x = p := by simpa using h
      rw [List.getElem?_append_left (by rw [pV_len]; omega)]; simp
    | succ j =>
      rw [List.getElem?_append_right (by rw [pV_len]; omega), pV_len]
      have h2 := ih (j := j) (by simpa using h) hi
      rw [show (j + 1) * 4 + i - 4 = j * 4 + i by omega, h2]
/-- Marks of the call's own; the last one's list lies alone. -/
structure Mo (w : World) (B : Nat) (v : Value) (P : List Pm) : Prop where
  own : w.ownsRow B 112 4 v P.length (psV P)
  each : ∀ p ∈ P, Mi.Own w B p.v p.m.more
  last : ∀ I x, P = I ++ [x] → ∀ p ∈ I, x.v.ownBlock = none ∨ p.v.ownBlock ≠ x.v.ownBlock
theorem Mo.lit {B : Nat} {w : World} (hb : B ≤ w.heap.size) : Mo (w.alloc (.cells #[] 112)) B (.slice (some ⟨w.heap.size, 0, none⟩) 0 0) [] :=
  ⟨World.ownsRow_made w #[] 0 hb (by unfold maxLen; omega) rfl, fun p h => by simp at h, fun I x h => by simp at h⟩
theorem Mo.below {w w' : World} {B : Nat} {v : Value} {P : List Pm} (h : Mo w B v P) (hb : Below w.heap.size w w') : Mo w' B v P :=
  ⟨own_same h.own fun k _ hk => hb.block k hk, fun p hp => (h.each p hp).below hb, h.last⟩
theorem ty_ne {w : World} {B B' T T' s s' n n' : Nat} {v v' : Value} {xs xs' : List Value} (h : w.ownsRow B T s v n xs) (h' : w.ownsRow B' T' s' v' n' xs') (hT : T ≠ T') : v.ownBlock = none ∨ v.ownBlock ≠ v'.ownBlock := by
  rcases h.2 with ⟨rfl, _⟩ | ⟨g, cap, cur, rfl, _, h3, _⟩
  · exact .inl rfl
  · right
    rcases h'.2 with ⟨rfl, _⟩ | ⟨g', cap', cur', rfl, _, h3', _⟩
    · simp [Value.ownBlock]
    · intro e
      obtain rfl : g = g' := by simpa [Value.ownBlock] using e
      rw [h3] at h3'
      simp at h3'
      exact hT h3'.2
theorem Mo.form {w : World} {B : Nat} {v : Value} {P : List Pm} (h : Mo w B v P) : ∃ A c, v = .slice A P.length c ∧ P.length ≤ c ∧ c ≤ 9223372036854775807 := by
  rcases h.own.2 with ⟨h1, h2⟩ | ⟨g, cap, cur, h1, h2, h3, h4, h5, h6, h7⟩
  · have : P = [] := by simpa using h2
    subst this
    exact ⟨none, 0, h1, Nat.le_refl _, Nat.zero_le _⟩
  · exact ⟨_, cap, h1, h4, by unfold maxLen at h5; omega⟩
/-- The row of mark j. -/
theorem Mo.at_ {w : World} {B : Nat} {A : Option Addr} {n c : Nat} {P : List Pm} (h : Mo w B (.slice A n c) P) {j : Nat} {p : Pm} (hj : P[j]? = some p) :
    ∃ g, A = some ⟨g, 0, none⟩ ∧ B ≤ g ∧ g < w.heap.size ∧ (∀ W : World, W.heap[g]? = w.heap[g]? → W.cell? ⟨g, j * 4, none⟩ = some (.int .i64 p.m.o) ∧ W.cell? ⟨g, j * 4 + 1, none⟩ = some (.int .i64 p.m.e) ∧ W.cell? ⟨g, j * 4 + 2, none⟩ = some (.int .i64 p.m.up) ∧ W.cell? ⟨g, j * 4 + 3, none⟩ = some p.v ∧ ∀ i, W.frozen? ⟨g, i, none⟩ = false) := by
  have h0 := h.own
  have hlt := (List.getElem?_eq_some_iff.1 hj).1
  rcases h0.2 with ⟨h1, h2⟩ | ⟨g, cap, cur, h1, h2, h3, h4, h5, h6, h7⟩
  · have : P = [] := by simpa using h2
    subst this; simp at hlt
  · cases h1
    have hl := h0.lt g rfl
    refine ⟨g, rfl, h2, hl.2, fun W hW => ?_⟩
    have hx : ∀ i u, i < 4 → (pV p)[i]? = some u → W.cell? ⟨g, j * 4 + i, none⟩ = some u := fun i u hi hu => by
      have := h0.cells (g := g) rfl (j * 4 + i) u (by rw [psV_get hj hi]; exact hu)
      rw [add_mk, Nat.zero_add] at this
      exact (World.cell?_of_block (w := w) (a := ⟨g, j * 4 + i, none⟩) hW).trans this
    exact ⟨hx 0 _ (by omega) rfl, hx 1 _ (by omega) rfl, hx 2 _ (by omega) rfl, hx 3 _ (by omega) rfl, fun i => frozen_of_row W g i _ _ (hW.trans h3)⟩
/-- A cell of one's own row turned. -/
theorem row_set {w : World} {B T s n : Nat} {g c : Nat} {xs : List Value} (h : w.ownsRow B T s (.slice (some ⟨g, 0, none⟩) n c) n xs) {i : Nat} (hi : i < xs.length) (u : Value) : (w.setCell ⟨g, i, none⟩ u).ownsRow B T s (.slice (some ⟨g, 0, none⟩) n c) n (xs.set i u) := by
  refine ⟨by rw [List.length_set]; exact h.1, ?_⟩
  rcases h.2 with ⟨h1, h2⟩ | ⟨g', cap, cur, h1, h2, h3, h4, h5, h6, h7⟩
  · cases h1
  · cases h1
    refine .inr ⟨g, c, cur.set! i u, rfl, h2, ?_, h4, h5, by simp [h6], ?_⟩
    · rw [heap_setCell_same w g i _ _ _ h3]
      simp
    · have hl := h.1
      rw [← h7]
      simp only [Array.set!_eq_setIfInBounds, Array.toList_setIfInBounds]
      rw [List.take_set]
theorem set_last (P : List Pm) (p : Pm) (i : Nat) (u : Value) (hi : i < 4) : (psV (P ++ [p])).set (P.length * 4 + i) u = psV P ++ (pV p).set i u := by
  rw [psV_snoc, List.set_append_right _ _ (by rw [psV_len]; omega), psV_len]
  congr 2
  omega
/-- The last one's count turned. -/
theorem Mo.up {w : World} {B g c n : Nat} {I : List Pm} {x : Pm} (h : Mo w B (.slice (some ⟨g, 0, none⟩) n c) (I ++ [x])) (u : Int) : Mo (w.setCell ⟨g, I.length * 4 + 2, none⟩ (.int .i64 u)) B (.slice (some ⟨g, 0, none⟩) n c) (I ++ [⟨⟨x.m.o, x.m.e, u, x.m.more⟩, x.A, x.c⟩]) := by
  have hn : n = (I ++ [x]).length := by
    have := h.own.2
    rcases this with ⟨h1, h2⟩ | ⟨g', cap, cur, h1, _⟩
    · simp at h2
    · cases h1; rfl
  subst hn
  have hw := row_set h.own (i := I.length * 4 + 2) (by rw [psV_len, List.length_append]; simp; omega) (.int .i64 u)
  rw [set_last I x 2 _ (by omega)] at hw
  have hk : ∀ p : Pm, Mi.Own w B p.v p.m.more → Mi.Own (w.setCell ⟨g, I.length * 4 + 2, none⟩ (.int .i64 u)) B p.v p.m.more := fun p hp => hp.same fun k e hk => by
    refine Below.heap_setCell _ _ _ _ ?_
    intro e2
    have e3 : k = g := e2
    rcases ty_ne hp h.own (by decide) with h1 | h1
    · rw [e] at h1; cases h1
    · exact h1 (by rw [e, e3]; rfl)
  refine ⟨?_, fun p hp => ?_, fun I' x' e p hp => ?_⟩
  · have e : psV (I ++ [(⟨⟨x.m.o, x.m.e, u, x.m.more⟩, x.A, x.c⟩ : Pm)]) = psV I ++ (pV x).set 2 (.int .i64 u) := by rw [psV_snoc]; rfl
    rw [e]
    have e2 : (I ++ [(⟨⟨x.m.o, x.m.e, u, x.m.more⟩, x.A, x.c⟩ : Pm)]).length = (I ++ [x]).length := by simp
    rw [e2]
    exact hw
  · rcases List.mem_append.1 hp with hp | hp
    · exact hk p (h.each p (by simp [hp]))
    · obtain rfl : p = ⟨⟨x.m.o, x.m.e, u, x.m.more⟩, x.A, x.c⟩ := by simpa using hp
      exact hk x (h.each x (by simp))
  · obtain ⟨rfl, hx⟩ := List.append_inj' e (by simp)
    obtain rfl : (⟨⟨x.m.o, x.m.e, u, x.m.more⟩, x.A, x.c⟩ : Pm) = x' := by simpa using hx
    exact h.last I x rfl p hp
/-- The last one's list turned into one that lies alone. -/
theorem Mo.more {w w1 : World} {B g c n A' c' : Nat} {I : List Pm} {x : Pm} {z : Int} (h : Mo w B (.slice (some ⟨g, 0, none⟩) n c) (I ++ [x])) (ho : Mi.Own w1 B (.slice (some ⟨A', 0, none⟩) (x.m.more.length + 1) c') (x.m.more ++ [z])) (hg : w.grownBy w1 x.v.ownBlock) (hb : ∀ k, (Value.slice (some ⟨A', 0, none⟩) (x.m.more.length + 1) c').ownBlock = some k → x.v.ownBlock = some k ∨ w.heap.size ≤ k) :
    Mo (w1.setCell ⟨g, I.length * 4 + 3, none⟩ (.slice (some ⟨A', 0, none⟩) (x.m.more.length + 1) c')) B (.slice (some ⟨g, 0, none⟩) n c) (I ++ [⟨⟨x.m.o, x.m.e, x.m.up, x.m.more ++ [z]⟩, some ⟨A', 0, none⟩, c'⟩]) := by
  have hn : n = (I ++ [x]).length := by
    have := h.own.2
    rcases this with ⟨h1, h2⟩ | ⟨g', cap, cur, h1, _⟩
    · simp at h2
    · cases h1; rfl
  subst hn
  have hown1 : w1.ownsRow B 112 4 (.slice (some ⟨g, 0, none⟩) (I ++ [x]).length c) (I ++ [x]).length (psV (I ++ [x])) := h.own.kept hg (ty_ne h.own (h.each x (by simp)) (by decide))
  have hw := row_set hown1 (i := I.length * 4 + 3) (by rw [psV_len, List.length_append]; simp; omega) (.slice (some ⟨A', 0, none⟩) (x.m.more.length + 1) c')
  rw [set_last I x 3 _ (by omega)] at hw
  have hlen : (x.m.more ++ [z]).length = x.m.more.length + 1 := by simp
  have hk : ∀ (v : Value) (l : List Int), Mi.Own w1 B v l → Mi.Own (w1.setCell ⟨g, I.length * 4 + 3, none⟩ (.slice (some ⟨A', 0, none⟩) (x.m.more.length + 1) c')) B v l := fun v l hp => hp.same fun k e hk => by
    refine Below.heap_setCell _ _ _ _ ?_
    intro e2
    have e3 : k = g := e2
    rcases ty_ne hp hown1 (by decide) with h1 | h1
    · rw [e] at h1; cases h1
    · exact h1 (by rw [e, e3]; rfl)
  refine ⟨?_, fun p hp => ?_, fun I' x' e p hp => ?_⟩
  · have e : psV (I ++ [(⟨⟨x.m.o, x.m.e, x.m.up, x.m.more ++ [z]⟩, some ⟨A', 0, none⟩, c'⟩ : Pm)]) = psV I ++ (pV x).set 3 (.slice (some ⟨A', 0, none⟩) (x.m.more.length + 1) c') := by
      rw [psV_snoc]
      simp [pV, Pm.v]
    rw [e]
    have e2 : (I ++ [(⟨⟨x.m.o, x.m.e, x.m.up, x.m.more ++ [z]⟩, some ⟨A', 0, none⟩, c'⟩ : Pm)]).length = (I ++ [x]).length := by simp
    rw [e2]
    exact hw
  · rcases List.mem_append.1 hp with hp | hp
    · refine hk _ _ ((h.each p (by simp [hp])).kept hg ?_)
      rcases h.last I x rfl p hp with h1 | h1
      · rw [h1]
        cases hv : p.v.ownBlock with
        | none => exact .inl rfl
        | some k => exact .inr (by simp)
      · exact .inr h1
    · obtain rfl : p = ⟨⟨x.m.o, x.m.e, x.m.up, x.m.more ++ [z]⟩, some ⟨A', 0, none⟩, c'⟩ := by simpa using hp
      show Mi.Own _ B (.slice (some ⟨A', 0, none⟩) (x.m.more ++ [z]).length c') (x.m.more ++ [z])
      rw [hlen]
      exact hk _ _ ho
  · obtain ⟨rfl, hx⟩ := List.append_inj' e (by simp)
    obtain rfl : (⟨⟨x.m.o, x.m.e, x.m.up, x.m.more ++ [z]⟩, some ⟨A', 0, none⟩, c'⟩ : Pm) = x' := by simpa using hx
    right
    intro e1
    have e2 : p.v.ownBlock = some A' := e1
    rcases hb A' rfl with h1 | h1
    · rcases h.last I x rfl p hp with h2 | h2
      · rw [h2] at h1; cases h1
      · exact h2 (e2.trans h1.symm)
    · have := ((h.each p (by simp [hp])).lt A' e2).2
      omega
theorem infoMk : (Tryz.prog.info? 112).map (fun i => (i.zero, i.size, i.bytes)) = some (some (.agg #[.int .i64 0, .int .i64 0, .int .i64 0, .slice none 0 0]), 4, 48) := by kernel_rfl
theorem mk_new (w : World) (o e : Int) (T : TypeId) (fr : Nat × Nat) : ∀ j u, ([.int .i64 o, .int .i64 e, .int .i64 0, .slice none 0 0] : List Value)[j]? = some u → (w.alloc (.cells #[.int .i64 o, .int .i64 e, .int .i64 0, .slice none 0 0] T fr)).cell? ((⟨w.heap.size, 0, none⟩ : Addr).add j) = some u := by
  intro j u hu
  rw [add_mk, Nat.zero_add, cell_of_row _ w.heap.size j _ T fr (heap_alloc_new w _)]
  simpa using hu
/-- A new mark appended. -/
theorem appMk {w0 w wl : World} {ops : Array Oper} {rest : List Oper} {o : Oper} {a : Act} {Q : Exit → Act → World → Prop} (hgd : o.guard = none) (s x : Operand)
    (ho : o.op = .call { callee := .builtin .append, args := #[s, x], argTypes := #[57, 57] })
    (B : Nat) (v : Value) (P : List Pm) (oo ee : Int) (hs : a.eval s = v) (hw : w = wl.alloc (.cells #[.int .i64 oo, .int .i64 ee, .int .i64 0, .slice none 0 0] 112)) (hown : Mo wl B v P) (hb : Below B w0 wl) (hB : B ≤ wl.heap.size)
    (g : Nat) (hg : g = wl.heap.size) (hx : a.eval x = .slice (some ⟨g, 0, none⟩) 1 1) (hlen : P.length ≤ 1000)
    (h : ∀ v' w', Mo w' B v' (P ++ [⟨⟨oo, ee, 0, []⟩, none, 0⟩]) → Below B w0 w' → wl.grownBy w' v.ownBlock → wpList Tryz.prog ops Q rest (a.put o.dst v') w') : wpList Tryz.prog ops Q (o :: rest) a w := by
  subst hw hg
  obtain ⟨i0, hi, hz0, hz1, hz2⟩ := info_parts infoMk
  have hba : Below wl.heap.size wl (wl.alloc (.cells #[.int .i64 oo, .int .i64 ee, .int .i64 0, .slice none 0 0] 112)) := Me.below_alloc (Below.refl _ _)
  have hown' := hown.below hba
  refine wpList_append_own_at (wl.alloc (.cells #[.int .i64 oo, .int .i64 ee, .int .i64 0, .slice none 0 0] 112)) hgd s x 57 ho B 112 i0 (.agg #[.int .i64 0, .int .i64 0, .int .i64 0, .slice none 0 0]) 4 48 Tryz.underlying57 hi hz0 hz1 hz2 rfl (by decide) v P.length (psV P) hs hown'.own ⟨wl.heap.size, 0, none⟩ 1 1 [.int .i64 oo, .int .i64 ee, .int .i64 0, .slice none 0 0] hx rfl (mk_new wl oo ee _ _) (by simp [Value.oneCell']) (by unfold maxLen; omega) (by omega) (by simp; omega) ?_
  intro v' w' h1 h2 _ h4
  have hb1 : Below B w0 (wl.alloc (.cells #[.int .i64 oo, .int .i64 ee, .int .i64 0, .slice none 0 0] 112)) := hb.alloc hB _
  refine h v' w' ⟨?_, fun p hp => ?_, fun I x e p hp => ?_⟩ (hb1.grown h2 (by simp; omega) fun k hk => (hown.own.lt k hk).1) ⟨h2.os, h2.tape, h2.output, Nat.le_trans (by simp) h2.size, fun k hk hne => (h2.block k (by simp; omega) hne).trans (Below.heap_alloc wl _ k hk)⟩
  · rw [List.length_append, psV_snoc]; exact h1
  · rcases List.mem_append.1 hp with hp | hp
    · exact (hown'.each p hp).kept h2 (ty_ne (hown'.each p hp) hown'.own (by decide))
    · obtain rfl : p = ⟨⟨oo, ee, 0, []⟩, none, 0⟩ := by simpa using hp
      exact Mi.Own.nil _ _
  · obtain ⟨_, hx⟩ := List.append_inj' e (by simp)
    obtain rfl : (⟨⟨oo, ee, 0, []⟩, none, 0⟩ : Pm) = x := by simpa using hx
    exact .inl rfl
/-- A number appended to a list of one's own, as one operation. -/
theorem appMoreW {w : World} {o : Oper} {a : Act} {K : Act → World → Prop} {Q : Exit → Act → World → Prop} (s x : Operand)
    (ho : o.op = .call { callee := .builtin .append, args := #[s, x], argTypes := #[110, 110] })
    (B : Nat) (v : Value) (l : List Int) (z : Int) (gx : Nat) (hs : a.eval s = v) (hown : Mi.Own w B v l) (hx : a.eval x = .slice (some ⟨gx, 0, none⟩) 1 1) (hz : w.cell? ⟨gx, 0, none⟩ = some (.int .i64 z)) (hlen : l.length ≤ 1000000) (hB : B ≤ w.heap.size)
    (h : ∀ A' c' w', Mi.Own w' B (.slice (some ⟨A', 0, none⟩) (l.length + 1) c') (l ++ [z]) → w.grownBy w' v.ownBlock → (v.ownBlock = some A' ∨ w.heap.size ≤ A') → K (a.put o.dst (.slice (some ⟨A', 0, none⟩) (l.length + 1) c')) w') : o.wp Tryz.prog a w K Q := by
  obtain ⟨i0, hi, hz0, hz1, hz2⟩ := info_parts Mi.infoI
  have hnews : ∀ j u, ([Value.int .i64 z] : List Value)[j]? = some u → w.cell? ((⟨gx, 0, none⟩ : Addr).add j) = some u := by
    intro j u hj
    cases j with
    | zero => rw [add_mk, hz]; simpa using hj
    | succ j => simp at hj
  obtain ⟨v', w', hr, h2, h3, h4⟩ := Mi.run_append_own2 (P := Tryz.prog) (w := w) 110 o.type 3 i0 (.int .i64 0) 8 Tryz.underlying110 hi hz0 hz1 hz2 rfl v l.length (l.map Mi.iV) (own_base hown fun _ _ => Nat.zero_le _) ⟨gx, 0, none⟩ 1 1 [.int .i64 z] rfl hnews (by simp [Value.oneCell']) (by unfold maxLen; omega) (by omega)
  have ho2 : Mi.Own w' B v' (l ++ [z]) := by
    have h5 : Mi.Own w' 0 v' (l ++ [z]) := by unfold Mi.Own; rw [List.length_append, List.map_append]; exact h2
    refine own_base h5 fun k hk => ?_
    rcases h4 k hk with h6 | h6
    · exact (hown.lt k h6).1
    · omega
  rcases ho2.2 with ⟨_, h5⟩ | ⟨A', c', cur, rfl, _⟩
  · simp at h5
  · have e : (l ++ [z]).length = l.length + 1 := by simp
    rw [e] at ho2 hr h4
    unfold Oper.wp execOp
    simp only [ho, resolve, invoke, builtin, Sem.run_bind, Sem.run_pure, Result.andThen_ok, List.map_toArray, List.map_cons, List.map_nil, hs, hx, hr]
    exact h A' c' w' ho2 h3 (h4 A' rfl)
end Go.Proofs.YtfnlhfelpdkieaaGreat.Se
/- Messages of the call's own in memory: a slice of rows of an id and bytes of one's own; counters: a slice of pairs. -/
namespace Go.Proofs.YtfnlhfelpdkieaaGreat.So
open Go.RowKit Go.Deep
open Go.ChangeShapes Go.WideShapes Go.Joins
open Go.Proofs.YtfnlhfelpdkieaaGreat.Me Go.Proofs.YtfnlhfelpdkieaaGreat.Sb
set_option linter.unusedVariables false
set_option linter.unusedSimpArgs false

/-- A message and where its data lies. -/
structure Pq where
  x : It
  A : Option Addr
  c : Nat
def Pq.v (q : Pq) : Value := .slice q.A q.x.p.length q.c
def qV (q : Pq) : List Value := [.int .i64 q.x.i.o, .int .i64 q.x.i.d, .int .i64 q.x.i.e, .int .i64 q.x.i.c, q.v]
def qsV (P : List Pq) : List Value := P.flatMap qV
theorem qV_len (p : Pq) : (qV p).length = 5 := rfl
theorem qsV_len (P : List Pq) : (qsV P).length = P.length * 5 := by
  induction P with
  | nil => rfl
  | cons p r ih => unfold qsV at ih ⊢; rw [List.flatMap_cons, List.length_append, ih, qV_len, List.length_cons]; omega
theorem qsV_snoc (P : List Pq) (p : Pq) : qsV (P ++ [p]) = qsV P ++ qV p := by unfold qsV; rw [List.flatMap_append]; simp
theorem qsV_get {P : List Pq} {p : Pq} : ∀ {j : Nat}, P[j]? = some p → ∀ {i : Nat}, i < 5 → (qsV P)[j * 5 + i]? = (qV p)[i]? := by
  induction P with
  | nil => intro j h; simp at h
  | cons x r ih =>
    intro j h i hi
    have e : qsV (x :: r) = qV x ++ qsV r := by unfold qsV; rw [List.flatMap_cons]
    rw [e]
    cases j with
    | zero =>
      obtain rfl : x = p := by simpa using h
      rw [List.getElem?_append_left (by rw [qV_len]; omega)]; simp
    | succ j =>
      rw [List.getElem?_append_right (by rw [qV_len]; omega), qV_len]
      have h2 := ih (j := j) (by simpa using h) hi
      rw [show (j + 1) * 5 + i - 5 = j * 5 + i by omega, h2]
/-- Messages of the call's own, with bytes of the call's own. -/
structure Ow (w : World) (B : Nat) (v : Value) (P : List Pq) : Prop where
  own : w.ownsRow B 46 5 v P.length (qsV P)
  each : ∀ p ∈ P, Me.Own w B p.v p.x.p
theorem Ow.nil (w : World) (B : Nat) : Ow w B (.slice none 0 0) [] := ⟨⟨rfl, .inl ⟨rfl, rfl⟩⟩, fun p hp => by simp at hp⟩
theorem Ow.lit {B : Nat} {w : World} (hb : B ≤ w.heap.size) : Ow (w.alloc (.cells #[] 46)) B (.slice (some ⟨w.heap.size, 0, none⟩) 0 0) [] :=
  ⟨World.ownsRow_made w #[] 0 hb (by unfold maxLen; omega) rfl, fun p h => by simp at h⟩
theorem Ow.below {w w' : World} {B : Nat} {v : Value} {P : List Pq} (h : Ow w B v P) (hb : Below w.heap.size w w') : Ow w' B v P :=
  ⟨own_same h.own fun k _ hk => hb.block k hk, fun p hp => own_same (h.each p hp) fun k _ hk => hb.block k hk⟩
theorem Ow.base {w : World} {B B' : Nat} {v : Value} {P : List Pq} (h : Ow w B v P) (hB : B' ≤ B) : Ow w B' v P :=
  ⟨own_base h.own fun k hk => Nat.le_trans hB (h.own.lt k hk).1, fun p hp => own_base (h.each p hp) fun k hk => Nat.le_trans hB (World.ownsRow.lt (h.each p hp) k hk).1⟩
theorem Ow.form {w : World} {B : Nat} {v : Value} {P : List Pq} (h : Ow w B v P) : ∃ A c, v = .slice A P.length c ∧ P.length ≤ c ∧ c ≤ 9223372036854775807 := by
  rcases h.own.2 with ⟨h1, h2⟩ | ⟨g, cap, cur, h1, h2, h3, h4, h5, h6, h7⟩
  · have : P = [] := by simpa using h2
    subst this
    exact ⟨none, 0, h1, Nat.le_refl _, Nat.zero_le _⟩
  · exact ⟨_, cap, h1, h4, by unfold maxLen at h5; omega⟩
theorem Ow.butP {S : Nat → Prop} {w w' : World} {B : Nat} {v : Value} {P : List Pq} (h : Ow w B v P) (hb : But S w w') (hS : ∀ k, S k → k < B) : Ow w' B v P :=
  ⟨own_same h.own fun k e hk => hb.same k hk fun hs => by have := (h.own.lt k e).1; have := hS k hs; omega, fun p hp => own_same (h.each p hp) fun k e hk => hb.same k hk fun hs => by have := (World.ownsRow.lt (h.each p hp) k e).1; have := hS k hs; omega⟩
/-- The row of message j. -/
theorem Ow.at_ {w : World} {B : Nat} {A : Option Addr} {n c : Nat} {P : List Pq} (h : Ow w B (.slice A n c) P) {j : Nat} {p : Pq} (hj : P[j]? = some p) :
    ∃ g, A = some ⟨g, 0, none⟩ ∧ B ≤ g ∧ g < w.heap.size ∧ (∀ W : World, W.heap[g]? = w.heap[g]? → W.cell? ⟨g, j * 5, none⟩ = some (.int .i64 p.x.i.o) ∧ W.cell? ⟨g, j * 5 + 1, none⟩ = some (.int .i64 p.x.i.d) ∧ W.cell? ⟨g, j * 5 + 2, none⟩ = some (.int .i64 p.x.i.e) ∧ W.cell? ⟨g, j * 5 + 3, none⟩ = some (.int .i64 p.x.i.c) ∧ W.cell? ⟨g, j * 5 + 4, none⟩ = some p.v ∧ ∀ i, W.frozen? ⟨g, i, none⟩ = false) := by
  have h0 := h.own
  have hlt := (List.getElem?_eq_some_iff.1 hj).1
  rcases h0.2 with ⟨h1, h2⟩ | ⟨g, cap, cur, h1, h2, h3, h4, h5, h6, h7⟩
  · have : P = [] := by simpa using h2
    subst this; simp at hlt
  · cases h1
    have hl := h0.lt g rfl
    refine ⟨g, rfl, h2, hl.2, fun W hW => ?_⟩
    have hx : ∀ i u, i < 5 → (qV p)[i]? = some u → W.cell? ⟨g, j * 5 + i, none⟩ = some u := fun i u hi hu => by
      have := h0.cells (g := g) rfl (j * 5 + i) u (by rw [qsV_get hj hi]; exact hu)
      rw [add_mk, Nat.zero_add] at this
      exact (World.cell?_of_block (w := w) (a := ⟨g, j * 5 + i, none⟩) hW).trans this
    exact ⟨hx 0 _ (by omega) rfl, hx 1 _ (by omega) rfl, hx 2 _ (by omega) rfl, hx 3 _ (by omega) rfl, hx 4 _ (by omega) rfl, fun i => frozen_of_row W g i _ _ (hW.trans h3)⟩
theorem infoMsg : (Tryz.prog.info? 46).map (fun i => (i.zero, i.size, i.bytes)) = some (some (.agg #[.int .i64 0, .int .i64 0, .int .i64 0, .int .i64 0, .slice none 0 0]), 5, 56) := by kernel_rfl
theorem two_ty {w : World} {B B' T T' s s' n n' : Nat} {v v' : Value} {xs xs' : List Value} (h : w.ownsRow B T s v n xs) (h' : w.ownsRow B' T' s' v' n' xs') (hT : T ≠ T') : ∀ k, v.ownBlock = some k → v'.ownBlock ≠ some k := by
  intro k e e'
  rcases Se.ty_ne h h' hT with h0 | h0
  · rw [h0] at e; cases e
  · rw [e, e'] at h0; exact h0 rfl
/-- One message appended, as one operation. -/
theorem appMsg {w : World} {o : Oper} {a : Act} {K : Act → World → Prop} {Q : Exit → Act → World → Prop} (s x : Operand)
    (ho : o.op = .call { callee := .builtin .append, args := #[s, x], argTypes := #[32, 32] })
    (B : Nat) (v : Value) (P : List Pq) (p : Pq) (gx : Nat) (hs : a.eval s = v) (hown : Ow w B v P) (hp : Me.Own w B p.v p.x.p) (hx : a.eval x = .slice (some ⟨gx, 0, none⟩) 1 1) (hz : ∀ j u, (qV p)[j]? = some u → w.cell? ⟨gx, j, none⟩ = some u) (hlen : P.length ≤ 100000) (hB : B ≤ w.heap.size)
    (h : ∀ v' w', Ow w' B v' (P ++ [p]) → w.grownBy w' v.ownBlock → (∀ k, v.ownBlock = some k → B ≤ k) → K (a.put o.dst v') w') : o.wp Tryz.prog a w K Q := by
  obtain ⟨i0, hi, hz0, hz1, hz2⟩ := info_parts infoMsg
  have hnews : ∀ j u, (qV p)[j]? = some u → w.cell? ((⟨gx, 0, none⟩ : Addr).add j) = some u := by
    intro j u hj
    rw [add_mk, Nat.zero_add]
    exact hz j u hj
  obtain ⟨v', w', hr, h2, h3, h4⟩ := run_append_own_at (P := Tryz.prog) w B 32 o.type 46 i0 (.agg #[.int .i64 0, .int .i64 0, .int .i64 0, .int .i64 0, .slice none 0 0]) 5 56 Tryz.underlying32 hi hz0 hz1 hz2 rfl (by decide) v P.length (qsV P) hown.own ⟨gx, 0, none⟩ 1 1 (qV p) rfl hnews (by simp [qV, Pq.v, Value.oneCell']) (by unfold maxLen; omega) (by omega) hB
  unfold Oper.wp execOp
  simp only [ho, resolve, invoke, builtin, Sem.run_bind, Sem.run_pure, Result.andThen_ok, List.map_toArray, List.map_cons, List.map_nil, hs, hx, hr]
  have hk : ∀ q : Pq, Me.Own w B q.v q.x.p → Me.Own w' B q.v q.x.p := fun q hq => own_same hq fun k e hk => h3.block k hk fun e' => two_ty hq hown.own (by decide) k e e'.symm
  refine h v' w' ⟨?_, fun q hq => ?_⟩ h3 fun k hk => (hown.own.lt k hk).1
  · rw [List.length_append, qsV_snoc]; exact h2
  · rcases List.mem_append.1 hq with hq | hq
    · exact hk q (hown.each q hq)
    · obtain rfl : q = p := by simpa using hq
      exact hk q hp

/-! ### Counters -/
abbrev Nx := List (Int × Int)
def nV (p : Int × Int) : List Value := [.int .i64 p.1, .int .i64 p.2]
def nsV (l : Nx) : List Value := l.flatMap nV
theorem nsV_len (l : Nx) : (nsV l).length = l.length * 2 := by
  induction l with
  | nil => rfl
  | cons p r ih => unfold nsV at ih ⊢; rw [List.flatMap_cons, List.length_append, ih]; simp [nV]; omega
theorem nsV_snoc (P : Nx) (p : Int × Int) : nsV (P ++ [p]) = nsV P ++ nV p := by unfold nsV; rw [List.flatMap_append]; simp
theorem nsV_get {P : Nx} {p : Int × Int} : ∀ {j : Nat}, P[j]? = some p → ∀ {i : Nat}, i < 2 → (nsV P)[j * 2 + i]? = (nV p)[i]? := by
  induction P with
  | nil => intro j h; simp at h
  | cons x r ih =>
    intro j h i hi
    have e : nsV (x :: r) = nV x ++ nsV r := by unfold nsV; rw [List.flatMap_cons]
    have l2 : (nV x).length = 2 := rfl
    rw [e]
    cases j with
    | zero =>
      obtain rfl : x = p := by simpa using h
      rw [List.getElem?_append_left (by rw [l2]; omega)]; simp
    | succ j =>
      rw [List.getElem?_append_right (by rw [l2]; omega), l2]
      have h2 := ih (j := j) (by simpa using h) hi
      rw [show (j + 1) * 2 + i - 2 = j * 2 + i by omega, h2]
/-- A slice of counters of the call's own. -/
def Kn (w : World) (B : Nat) (v : Value) (l : Nx) : Prop := w.ownsRow B 62 2 v l.length (nsV l)
theorem infoNx : (Tryz.prog.info? 62).map (fun i => (i.zero, i.size, i.bytes)) = some (some (.agg #[.int .i64 0, .int .i64 0]), 2, 16) := by kernel_rfl
theorem Kn.nil (w : World) (B : Nat) : Kn w B (.slice none 0 0) [] := ⟨rfl, .inl ⟨rfl, rfl⟩⟩
theorem Kn.lit {B : Nat} {w : World} (hb : B ≤ w.heap.size) : Kn (w.alloc (.cells #[] 62)) B (.slice (some ⟨w.heap.size, 0, none⟩) 0 0) [] := World.ownsRow_made w #[] 0 hb (by unfold maxLen; omega) rfl
theorem Kn.below {w w' : World} {B : Nat} {v : Value} {l : Nx} (h : Kn w B v l) (hb : Below w.heap.size w w') : Kn w' B v l := own_same h fun k _ hk => hb.block k hk
theorem Kn.base {w : World} {B B' : Nat} {v : Value} {l : Nx} (h : Kn w B v l) (hB : B' ≤ B) : Kn w B' v l := own_base h fun k hk => Nat.le_trans hB (World.ownsRow.lt h k hk).1
theorem Kn.form {w : World} {B : Nat} {v : Value} {l : Nx} (h : Kn w B v l) : ∃ A c, v = .slice A l.length c ∧ l.length ≤ c ∧ c ≤ 9223372036854775807 := by
  rcases h.2 with ⟨h1, h2⟩ | ⟨g, cap, cur, h1, h2, h3, h4, h5, h6, h7⟩
  · have : l = [] := by simpa using h2
    subst this
    exact ⟨none, 0, h1, Nat.le_refl _, Nat.zero_le _⟩
  · exact ⟨_, cap, h1, h4, by unfold maxLen at h5; omega⟩
theorem Kn.at_ {w : World} {B : Nat} {A : Option Addr} {n c : Nat} {P : Nx} (h : Kn w B (.slice A n c) P) {j : Nat} {p : Int × Int} (hj : P[j]? = some p) :
    ∃ g, A = some ⟨g, 0, none⟩ ∧ B ≤ g ∧ g < w.heap.size ∧ (∀ W : World, W.heap[g]? = w.heap[g]? → W.cell? ⟨g, j * 2, none⟩ = some (.int .i64 p.1) ∧ W.cell? ⟨g, j * 2 + 1, none⟩ = some (.int .i64 p.2) ∧ ∀ i, W.frozen? ⟨g, i, none⟩ = false) := by
  have hlt := (List.getElem?_eq_some_iff.1 hj).1
  rcases h.2 with ⟨h1, h2⟩ | ⟨g, cap, cur, h1, h2, h3, h4, h5, h6, h7⟩
  · have : P = [] := by simpa using h2
    subst this; simp at hlt
  · cases h1
    have hl := World.ownsRow.lt h g rfl
    refine ⟨g, rfl, h2, hl.2, fun W hW => ?_⟩
    have hx : ∀ i u, i < 2 → (nV p)[i]? = some u → W.cell? ⟨g, j * 2 + i, none⟩ = some u := fun i u hi hu => by
      have := World.ownsRow.cells h (g := g) rfl (j * 2 + i) u (by rw [nsV_get hj hi]; exact hu)
      rw [add_mk, Nat.zero_add] at this
      exact (World.cell?_of_block (w := w) (a := ⟨g, j * 2 + i, none⟩) hW).trans this
    exact ⟨hx 0 _ (by omega) rfl, hx 1 _ (by omega) rfl, fun i => frozen_of_row W g i _ _ (hW.trans h3)⟩
/-- One counter appended, as one operation. -/
theorem appNx {w : World} {o : Oper} {a : Act} {K : Act → World → Prop} {Q : Exit → Act → World → Prop} (s x : Operand)
    (ho : o.op = .call { callee := .builtin .append, args := #[s, x], argTypes := #[31, 31] })
    (B : Nat) (v : Value) (P : Nx) (p : Int × Int) (gx : Nat) (hs : a.eval s = v) (hown : Kn w B v P) (hx : a.eval x = .slice (some ⟨gx, 0, none⟩) 1 1) (hz : ∀ j u, (nV p)[j]? = some u → w.cell? ⟨gx, j, none⟩ = some u) (hlen : P.length ≤ 100000) (hB : B ≤ w.heap.size)
    (h : ∀ v' w', Kn w' B v' (P ++ [p]) → w.grownBy w' v.ownBlock → (∀ k, v.ownBlock = some k → B ≤ k) → K (a.put o.dst v') w') : o.wp Tryz.prog a w K Q := by
  obtain ⟨i0, hi, hz0, hz1, hz2⟩ := info_parts infoNx
  have hnews : ∀ j u, (nV p)[j]? = some u → w.cell? ((⟨gx, 0, none⟩ : Addr).add j) = some u := by
    intro j u hj
    rw [add_mk, Nat.zero_add]
    exact hz j u hj
  obtain ⟨v', w', hr, h2, h3, h4⟩ := run_append_own_at (P := Tryz.prog) w B 31 o.type 62 i0 (.agg #[.int .i64 0, .int .i64 0]) 2 16 Tryz.underlying31 hi hz0 hz1 hz2 rfl (by decide) v P.length (nsV P) hown ⟨gx, 0, none⟩ 1 1 (nV p) rfl hnews (by simp [nV, Value.oneCell']) (by unfold maxLen; omega) (by omega) hB
  unfold Oper.wp execOp
  simp only [ho, resolve, invoke, builtin, Sem.run_bind, Sem.run_pure, Result.andThen_ok, List.map_toArray, List.map_cons, List.map_nil, hs, hx, hr]
  refine h v' w' ?_ h3 fun k hk => (World.ownsRow.lt hown k hk).1
  unfold Kn
  rw [List.length_append, nsV_snoc]; exact h2
end Go.Proofs.YtfnlhfelpdkieaaGreat.So
/- The counters that are used, told: used. -/
namespace Go.Proofs.YtfnlhfelpdkieaaGreat.So
open Go.RowKit
open Go.Proofs.YtfnlhfelpdkieaaGreat.Me Go.Proofs.YtfnlhfelpdkieaaGreat.Sb
set_option linter.unusedVariables false
set_option linter.unusedSimpArgs false

def lastV (f : Nat → Int) : Array Value := ((List.range 64).map fun k => Value.int .i64 (f k)).toArray
theorem lastV_size (f : Nat → Int) : (lastV f).size = 64 := by simp [lastV]
theorem lastV_at (f : Nat → Int) {j : Nat} (h : j < 64) : (lastV f)[j]? = some (.int .i64 (f j)) := by simp [lastV, h]
theorem size64 (f : Nat → Int) : (Tryz.prog.info? 76).map (·.size) = some (lastV f).size := by rw [lastV_size]; kernel_rfl
theorem run_ix (f : Nat → Int) {j : Nat} (hj : j < 64) (W : World) : Sem.run Tryz.prog (Instr.index 76 (.agg (lastV f)) (.int .i64 (j : Int))) W = .ok (.int .i64 (f j)) W := by
  have h1 : (j : Int) < 64 := by omega
  have h2 := lastV_at f hj
  have hz : (Tryz.prog.info? 3).map (·.size) = some 1 := by kernel_rfl
  obtain ⟨i0, hi⟩ : ∃ i, Tryz.prog.info? 3 = some i := by
    cases h : Tryz.prog.info? 3 with
    | none => rw [h] at hz; cases hz
    | some i => exact ⟨i, rfl⟩
  have hs : i0.size = 1 := by rw [hi] at hz; simpa using hz
  simp [Instr.index, run_underlying Tryz.underlying76, asIntOf, go_sem, part, sizeOf, typeInfo, hi, hs, h1]
  rw [if_pos hj, h2]
  rfl
set_option maxRecDepth 100000 in
set_option maxHeartbeats 8000000 in
theorem used_any (f : Nat → Int) (w : World) : Calls Tryz.prog 44 #[.agg (lastV f)] w fun e w' => ∃ v, e = .returned v ∧ Hid (Kn w' w.heap.size v (usedTo f 64)) ∧ Hid (Below w.heap.size w w') := by
  have HX : Hid ((w.alloc (.cells (lastV f) 76)).heap[w.heap.size]? = some (.cells (lastV f) 76 (0, 0))) := heap_alloc_new w _
  have HB : Hid (Below w.heap.size w (w.alloc (.cells (lastV f) 76))) := Me.below_alloc (Below.refl _ _)
  have HI : Hid (∀ j : Nat, j < 64 → ∀ W, Sem.run Tryz.prog (Instr.index 76 (.agg (lastV f)) (.int .i64 (j : Int))) W = .ok (.int .i64 (f j)) W) := fun j hj W => run_ix f hj W
  have HS := Lib.hid (size64 f)
  obtain ⟨V, hV⟩ : ∃ V, lastV f = V := ⟨_, rfl⟩
  rw [hV] at HX HB HI HS ⊢
  clear hV
  go_enter Tryz.func44, Tryz.ntmps44
  go_wp2_with (refine wpList_load_row rfl 76 (.tmp 1) rfl w.heap.size rfl 76 _ (0, 0) _ HX.out Tryz.underlying76 rfl HS.out ?_)
  go_loopw [3, 7] (fun v3 v7 wr => ∃ j : Nat, j ≤ 64 ∧ v7 = .int .i64 (j : Int) ∧ Hid (Kn wr w.heap.size v3 (usedTo f j)) ∧ Hid (Below w.heap.size w wr)) (fun _ v7 _ => 64 - (intOf v7).toNat)
  case atStart => exact ⟨0, by omega, rfl, Kn.nil _ _, HB.out⟩
  case round =>
    obtain ⟨j, hj, rfl, HK, HBr⟩ := hrel
    by_cases hlt : j < 64
    · have g1 : (j : Int) < 64 := by omega
      have hI := Lib.hid (HI.out j hlt)
      obtain ⟨y, hy⟩ : ∃ y, f j = y := ⟨_, rfl⟩
      rw [hy] at hI
      by_cases hp : 0 < y
      · have HU : Hid (usedTo f (j + 1) = usedTo f j ++ [((j : Int), y)]) := by
          have := usedTo_yes (f := f) (k := j) (by rw [hy]; exact hp)
          rw [hy] at this
          exact this
        obtain ⟨V6, hV6⟩ : ∃ X, wr.alloc (.cells #[.int .i64 (j : Int), .int .i64 y] 62) = X := ⟨_, rfl⟩
        have hb6 : Below wr.heap.size wr V6 := by rw [← hV6]; exact Me.below_alloc (Below.refl _ _)
        have hx6 : V6.heap[wr.heap.size]? = some (.cells #[.int .i64 (j : Int), .int .i64 y] 62 (0, 0)) := by rw [← hV6]; exact heap_alloc_new wr _
        have hz : ∀ i u, (nV ((j : Int), y))[i]? = some u → V6.cell? ⟨wr.heap.size, i, none⟩ = some u := fun i u hu => by
          rw [cell_of_row V6 wr.heap.size i _ _ (0, 0) hx6, ← hu]
          show (#[Value.int .i64 (j : Int), .int .i64 y] : Array Value)[i]? = _
          rw [← Array.getElem?_toList]
          rfl
        have HZ := Lib.hid hz
        have K6 := Lib.hid (HK.out.below hb6)
        have B6 := Lib.hid (go_on HBr.out hb6)
        have HV6 := Lib.hid hV6
        have hl6 : (usedTo f j).length ≤ 100000 := by have := usedTo_len f j; omega
        have Hl6 := Lib.hid hl6
        clear hV6 hb6 hx6 hz hl6 hy
        go_wp2_with (first
          | (rw [hI.out])
          | (rw [HV6.out]; refine wpList_plain rfl fun _ hK => ?_; refine appNx (.tmp 13) (.tmp 17) rfl w.heap.size u3 (usedTo f j) ((j : Int), y) wr.heap.size rfl K6.out rfl HZ.out Hl6.out B6.out.size ?_; intro v' w7 ho7 hg7 hlt7; refine hK _ _ ?_; have HO7 := Lib.hid ho7; have HB7 : Hid (Below w.heap.size w w7) := (B6.out.trans (((But.refl (fun k => u3.ownBlock = some k) V6).grown hg7 fun r e => .inl e).below B6.out.size hlt7)); clear ho7 hg7 hlt7))
        go_roundw
        case rel => exact ⟨j + 1, by omega, by go_num, (by show Kn _ _ _ _; rw [HU.out]; exact HO7), HB7⟩
        case measure => simp [intOf]; omega
      · have HU : Hid (usedTo f (j + 1) = usedTo f j) := usedTo_no (by rw [hy]; exact hp)
        clear hy
        go_wp2_with (rw [hI.out])
        go_roundw
        case rel => exact ⟨j + 1, by omega, by go_num, (by show Kn _ _ _ _; rw [HU.out]; exact HK), HBr⟩
        case measure => simp [intOf]; omega
    · obtain rfl : j = 64 := by omega
      go_wp2
      go_ret
      exact ⟨_, rfl, HK, HBr⟩
end Go.Proofs.YtfnlhfelpdkieaaGreat.So
