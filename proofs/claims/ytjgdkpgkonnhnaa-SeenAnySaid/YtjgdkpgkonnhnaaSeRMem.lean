/- The reference's keys: rows of three numbers; slices of them that are read, slices that are made. -/
import Derived.Test.YtjgdkpgkonnhnaaSeBut
import Derived.Test.YtjgdkpgkonnhnaaSeDef
import Derived.Maps.AppendAt
namespace Go.Proofs.Ytjgdkpgkonnhnaa.Se
open Go.RowKit
open Go.Proofs.Ytjgdkpgkonnhnaa.Me Go.Proofs.Ytjgdkpgkonnhnaa.Sb
set_option linter.unusedVariables false
set_option linter.unusedSimpArgs false

structure Ky where
  o : Int
  e : Int
  c : Int
deriving DecidableEq
abbrev Ks := List Ky
theorem add_mk (g off n : Nat) : (⟨g, off, none⟩ : Addr).add n = ⟨g, off + n, none⟩ := by unfold Addr.add; split <;> simp_all
/-- A file as cells. -/
def kyV (p : Ky) : List Value := [.int .i64 p.o, .int .i64 p.e, .int .i64 p.c]
def kyAt (L : Ks) (j : Nat) : Ky := L.getD j ⟨0, 0, 0⟩
theorem kyAt_get {L : Ks} {j : Nat} (h : j < L.length) : kyAt L j = L[j] := by simp [kyAt, h]
def kysV (L : Ks) : List Value := L.flatMap kyV
theorem kyV_len (p : Ky) : (kyV p).length = 3 := rfl
theorem kysV_len (L : Ks) : (kysV L).length = L.length * 3 := by
  induction L with
  | nil => rfl
  | cons p r ih => unfold kysV at ih ⊢; rw [List.flatMap_cons, List.length_append, ih, kyV_len, List.length_cons]; omega
theorem kysV_get {L : Ks} : ∀ {j : Nat}, j < L.length → ∀ {i : Nat}, i < 3 → (kysV L)[j * 3 + i]? = (kyV (kyAt L j))[i]? := by
  induction L with
  | nil => intro j h; exact absurd h (by simp)
  | cons p r ih =>
    intro j h i hi
    have e : kysV (p :: r) = kyV p ++ kysV r := by unfold kysV; rw [List.flatMap_cons]
    rw [e]
    cases j with
    | zero => rw [List.getElem?_append_left (by rw [kyV_len]; omega)]; simp [kyAt]
    | succ j =>
      rw [List.getElem?_append_right (by rw [kyV_len]; omega), kyV_len]
      have h2 := ih (j := j) (by simpa using h) hi
      rw [show (j + 1) * 3 + i - 3 = j * 3 + i by omega, h2]
      simp [kyAt]
theorem kysV_snoc (L : Ks) (p : Ky) : kysV (L ++ [p]) = kysV L ++ kyV p := by unfold kysV; rw [List.flatMap_append]; simp
/-- A slice of files that is read: in a block that bears Q. -/
def Kv (Q : Nat → Prop) (w : World) (v : Value) (L : Ks) : Prop :=
  ∃ A c, v = .slice A L.length c ∧ L.length ≤ c ∧ c ≤ 9223372036854775807 ∧ ∀ j, j < L.length → ∃ g, A = some ⟨g, 0, none⟩ ∧ g < w.heap.size ∧ Q g ∧ ∀ i u, (kyV (kyAt L j))[i]? = some u → w.cell? ⟨g, j * 3 + i, none⟩ = some u
theorem Kv.nil (Q : Nat → Prop) (w : World) : Kv Q w (.slice none 0 0) [] := ⟨none, 0, rfl, Nat.le_refl _, Nat.zero_le _, fun j hj => absurd hj (by simp)⟩
theorem Kv.but {Q S : Nat → Prop} {w w' : World} {v : Value} {L : Ks} (h : Kv Q w v L) (hb : But S w w') (hS : ∀ k, Q k → ¬ S k) : Kv Q w' v L := by
  obtain ⟨A, c, e, h1, h2, h3⟩ := h
  refine ⟨A, c, e, h1, h2, fun j hj => ?_⟩
  obtain ⟨g, e1, e2, e3, e4⟩ := h3 j hj
  exact ⟨g, e1, Nat.lt_of_lt_of_le e2 hb.size, e3, fun i u hu => (World.cell?_of_block (w := w) (a := ⟨g, j * 3 + i, none⟩) (hb.same g e2 (hS g e3))).trans (e4 i u hu)⟩
theorem Kv.below {Q : Nat → Prop} {w w' : World} {v : Value} {L : Ks} (h : Kv Q w v L) (hb : Below w.heap.size w w') : Kv Q w' v L := h.but (S := fun _ => False) (But.of_below hb) fun _ _ => id
theorem Kv.mono {Q Q' : Nat → Prop} {w : World} {v : Value} {L : Ks} (h : Kv Q w v L) (hQ : ∀ k, k < w.heap.size → Q k → Q' k) : Kv Q' w v L := by
  obtain ⟨A, c, e, h1, h2, h3⟩ := h
  refine ⟨A, c, e, h1, h2, fun j hj => ?_⟩
  obtain ⟨g, e1, e2, e3, e4⟩ := h3 j hj
  exact ⟨g, e1, e2, hQ g e2 e3, e4⟩
/-- The cells of the file at a place. -/
theorem Kv.at_ {Q : Nat → Prop} {w : World} {A : Option Addr} {n c : Nat} {L : Ks} (h : Kv Q w (.slice A n c) L) {j : Nat} (hj : j < L.length) :
    ∃ g, A = some ⟨g, 0, none⟩ ∧ g < w.heap.size ∧ ∀ W, Below w.heap.size w W → W.cell? ⟨g, j * 3, none⟩ = some (.int .i64 (kyAt L j).o) ∧ W.cell? ⟨g, j * 3 + 1, none⟩ = some (.int .i64 (kyAt L j).e) ∧ W.cell? ⟨g, j * 3 + 2, none⟩ = some (.int .i64 (kyAt L j).c) := by
  obtain ⟨A', c', e, h1, h2, h3⟩ := h
  simp only [Value.slice.injEq] at e
  obtain ⟨rfl, _, _⟩ := e
  obtain ⟨g, e1, e2, _, e4⟩ := h3 j hj
  refine ⟨g, e1, e2, fun W hW => ?_⟩
  have hx : ∀ i u, (kyV (kyAt L j))[i]? = some u → W.cell? ⟨g, j * 3 + i, none⟩ = some u := fun i u hu => (hW.cell (p := ⟨g, j * 3 + i, none⟩) e2).trans (e4 i u hu)
  exact ⟨hx 0 _ rfl, hx 1 _ rfl, hx 2 _ rfl⟩
theorem Kv.form {Q : Nat → Prop} {w : World} {v : Value} {L : Ks} (h : Kv Q w v L) : ∃ A c, v = .slice A L.length c ∧ L.length ≤ c ∧ c ≤ 9223372036854775807 := by
  obtain ⟨A, c, e, h1, h2, _⟩ := h
  exact ⟨A, c, e, h1, h2⟩
/-- A slice of files of the call's own. -/
def Ko (w : World) (B : Nat) (v : Value) (L : Ks) : Prop := w.ownsRow B 68 3 v L.length (kysV L)
theorem Ko.lit {w0 w : World} (hb : w0.heap.size ≤ w.heap.size) : Ko (w.alloc (.cells #[] 68)) w0.heap.size (.slice (some ⟨w.heap.size, 0, none⟩) 0 0) [] :=
  World.ownsRow_made w #[] 0 hb (by unfold maxLen; omega) rfl
theorem Ko.kv {w : World} {B : Nat} {v : Value} {L : Ks} (h : Ko w B v L) : Kv (fun k => B ≤ k) w v L := by
  have h0 := h
  rcases h.2 with ⟨h1, h2⟩ | ⟨g, cap, cur, h1, h2, h3, h4, h5, h6, h7⟩
  · have : L = [] := by simpa using h2
    subst this
    subst h1
    exact Kv.nil _ _
  · have hlt := h.lt g (by rw [h1]; rfl)
    refine ⟨some ⟨g, 0, none⟩, cap, h1, h4, by unfold maxLen at h5; omega, fun j hj => ⟨g, rfl, hlt.2, hlt.1, fun i u hu => ?_⟩⟩
    have hi : i < 3 := by have := (List.getElem?_eq_some_iff.1 hu).1; rwa [kyV_len] at this
    subst h1
    have := h0.cells (g := g) rfl (j * 3 + i) u (by rw [kysV_get hj hi]; exact hu)
    rwa [add_mk, Nat.zero_add] at this
theorem Ko.alloc {w : World} {B : Nat} {v : Value} {L : Ks} (h : Ko w B v L) (o : Obj) : Ko (w.alloc o) B v L := World.ownsRow.kept h (World.grownBy_alloc w o none) (by cases v.ownBlock <;> simp)
theorem Ko.below {w w' : World} {B : Nat} {v : Value} {L : Ks} (h : Ko w B v L) (hb : Below w.heap.size w w') : Ko w' B v L := own_same h fun k _ hk => hb.block k hk
theorem Ko.form {w : World} {B : Nat} {v : Value} {L : Ks} (h : Ko w B v L) : ∃ A c, v = .slice A L.length c ∧ L.length ≤ c ∧ c ≤ 9223372036854775807 := h.kv.form
theorem infoKy : (Try.prog.info? 68).map (fun i => (i.zero, i.size, i.bytes)) = some (some (.agg #[.int .i64 0, .int .i64 0, .int .i64 0]), 3, 24) := by kernel_rfl
theorem ky_one (p : Ky) : ∀ v ∈ kyV p, v.oneCell' = true := by
  intro v hv
  simp only [kyV, List.mem_cons, List.not_mem_nil, or_false] at hv
  rcases hv with rfl | rfl | rfl <;> rfl
theorem ky_new (w : World) (p : Ky) (T : TypeId) (fr : Nat × Nat) : ∀ j u, (kyV p)[j]? = some u → (w.alloc (.cells (kyV p).toArray T fr)).cell? ((⟨w.heap.size, 0, none⟩ : Addr).add j) = some u := by
  intro j u hu
  rw [add_mk, Nat.zero_add, cell_of_row _ w.heap.size j _ T fr (heap_alloc_new w _)]
  simpa using hu
/-- One file appended to a slice of the call's own. -/
theorem appKy {w0 w wl : World} {ops : Array Oper} {rest : List Oper} {o : Oper} {a : Act} {Q : Exit → Act → World → Prop} (hgd : o.guard = none) (s x : Operand)
    (ho : o.op = .call { callee := .builtin .append, args := #[s, x], argTypes := #[27, 27] })
    (B : Nat) (v : Value) (L : Ks) (p : Ky) (hs : a.eval s = v) (hw : w = wl.alloc (.cells (kyV p).toArray 68)) (hown : Ko wl B v L) (hb : Below B w0 wl) (hB : B ≤ wl.heap.size)
    (g : Nat) (hg : g = wl.heap.size) (hx : a.eval x = .slice (some ⟨g, 0, none⟩) 1 1) (hlen : L.length ≤ 1000)
    (h : ∀ v' w', Ko w' B v' (L ++ [p]) → Below B w0 w' → wl.grownBy w' v.ownBlock → (∀ k, v'.ownBlock = some k → v.ownBlock = some k ∨ wl.heap.size ≤ k) → wpList Try.prog ops Q rest (a.put o.dst v') w') : wpList Try.prog ops Q (o :: rest) a w := by
  subst hw hg
  obtain ⟨i0, hi, hz0, hz1, hz2⟩ := info_parts infoKy
  refine wpList_append_own_at (wl.alloc (.cells (kyV p).toArray 68)) hgd s x 27 ho B 68 i0 (.agg #[.int .i64 0, .int .i64 0, .int .i64 0]) 3 24 Try.underlying27 hi hz0 hz1 hz2 rfl (by decide) v L.length (kysV L) hs (hown.alloc _) ⟨wl.heap.size, 0, none⟩ 1 1 (kyV p) hx rfl (ky_new wl p _ _) (ky_one p) (by unfold maxLen; omega) (by omega) (by simp; omega) ?_
  intro v' w' h1 h2 _ h4
  have hb1 : Below B w0 (wl.alloc (.cells (kyV p).toArray 68)) := hb.alloc hB _
  refine h v' w' ?_ (hb1.grown h2 (by simp; omega) fun k hk => (hown.lt k hk).1) ⟨h2.os, h2.tape, h2.output, Nat.le_trans (by simp) h2.size, fun k hk hne => ?_⟩ fun k hk => ?_
  · unfold Ko
    rw [List.length_append, kysV_snoc]; exact h1
  · exact (h2.block k (by simp; omega) hne).trans (Below.heap_alloc wl _ k hk)
  · rcases h4 with h4 | h4
    · rw [h4] at hk; exact .inl hk
    · rw [h4] at hk
      simp only [World.size_alloc, Option.some.injEq] at hk
      exact .inr (by omega)
end Go.Proofs.Ytjgdkpgkonnhnaa.Se
