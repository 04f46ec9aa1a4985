/- The reference's files: rows of three strings; slices of them that are read, slices that are made. -/
import Derived.Test.YtdjgkoklkoahbaaDkSt
import Derived.Test.YtdjgkoklkoahbaaIKit
import Derived.Maps.AppendAt
namespace Go.Proofs.Ytdjgkoklkoahbaa.Dk
open Go.RowKit
open Go.Proofs.Ytdjgkoklkoahbaa.Me Go.Proofs.Ytdjgkoklkoahbaa.Hd
set_option linter.unusedVariables false
set_option linter.unusedSimpArgs false

theorem add_mk (g off n : Nat) : (⟨g, off, none⟩ : Addr).add n = ⟨g, off + n, none⟩ := by unfold Addr.add; split <;> simp_all
/-- A file as cells. -/
def flV (p : Nm × Fl) : List Value := [nmV p.1, .string (Me.strOf (p.2.bytes.take p.2.safe)), .string (Me.strOf (p.2.bytes.drop p.2.safe))]
def flAt (L : Fs) (j : Nat) : Nm × Fl := L.getD j ([], ⟨[], 0⟩)
theorem flAt_get {L : Fs} {j : Nat} (h : j < L.length) : flAt L j = L[j] := by simp [flAt, h]
def flsV (L : Fs) : List Value := L.flatMap flV
theorem flV_len (p : Nm × Fl) : (flV p).length = 3 := rfl
theorem flsV_len (L : Fs) : (flsV L).length = L.length * 3 := by
  induction L with
  | nil => rfl
  | cons p r ih => unfold flsV at ih ⊢; rw [List.flatMap_cons, List.length_append, ih, flV_len, List.length_cons]; omega
theorem flsV_get {L : Fs} : ∀ {j : Nat}, j < L.length → ∀ {i : Nat}, i < 3 → (flsV L)[j * 3 + i]? = (flV (flAt L j))[i]? := by
  induction L with
  | nil => intro j h; exact absurd h (by simp)
  | cons p r ih =>
    intro j h i hi
    have e : flsV (p :: r) = flV p ++ flsV r := by unfold flsV; rw [List.flatMap_cons]
    rw [e]
    cases j with
    | zero => rw [List.getElem?_append_left (by rw [flV_len]; omega)]; simp [flAt]
    | succ j =>
      rw [List.getElem?_append_right (by rw [flV_len]; omega), flV_len]
      have h2 := ih (j := j) (by simpa using h) hi
      rw [show (j + 1) * 3 + i - 3 = j * 3 + i by omega, h2]
      simp [flAt]
theorem flsV_snoc (L : Fs) (p : Nm × Fl) : flsV (L ++ [p]) = flsV L ++ flV p := by unfold flsV; rw [List.flatMap_append]; simp
/-- A slice of files that is read: in a block that bears Q. -/
def Fv (Q : Nat → Prop) (w : World) (v : Value) (L : Fs) : Prop :=
  ∃ A c, v = .slice A L.length c ∧ L.length ≤ c ∧ c ≤ 9223372036854775807 ∧ ∀ j, j < L.length → ∃ g, A = some ⟨g, 0, none⟩ ∧ g < w.heap.size ∧ Q g ∧ ∀ i u, (flV (flAt L j))[i]? = some u → w.cell? ⟨g, j * 3 + i, none⟩ = some u
theorem Fv.nil (Q : Nat → Prop) (w : World) : Fv Q w (.slice none 0 0) [] := ⟨none, 0, rfl, Nat.le_refl _, Nat.zero_le _, fun j hj => absurd hj (by simp)⟩
theorem Fv.but {Q S : Nat → Prop} {w w' : World} {v : Value} {L : Fs} (h : Fv Q w v L) (hb : But S w w') (hS : ∀ k, Q k → ¬ S k) : Fv Q w' v L := by
  obtain ⟨A, c, e, h1, h2, h3⟩ := h
  refine ⟨A, c, e, h1, h2, fun j hj => ?_⟩
  obtain ⟨g, e1, e2, e3, e4⟩ := h3 j hj
  exact ⟨g, e1, Nat.lt_of_lt_of_le e2 hb.size, e3, fun i u hu => (World.cell?_of_block (w := w) (a := ⟨g, j * 3 + i, none⟩) (hb.same g e2 (hS g e3))).trans (e4 i u hu)⟩
theorem Fv.below {Q : Nat → Prop} {w w' : World} {v : Value} {L : Fs} (h : Fv Q w v L) (hb : Below w.heap.size w w') : Fv Q w' v L := h.but (S := fun _ => False) (But.of_below hb) fun _ _ => id
theorem Fv.mono {Q Q' : Nat → Prop} {w : World} {v : Value} {L : Fs} (h : Fv Q w v L) (hQ : ∀ k, k < w.heap.size → Q k → Q' k) : Fv Q' w v L := by
  obtain ⟨A, c, e, h1, h2, h3⟩ := h
  refine ⟨A, c, e, h1, h2, fun j hj => ?_⟩
  obtain ⟨g, e1, e2, e3, e4⟩ := h3 j hj
  exact ⟨g, e1, e2, hQ g e2 e3, e4⟩
/-- The cells of the file at a place. -/
theorem Fv.at_ {Q : Nat → Prop} {w : World} {A : Option Addr} {n c : Nat} {L : Fs} (h : Fv Q w (.slice A n c) L) {j : Nat} (hj : j < L.length) :
    ∃ g, A = some ⟨g, 0, none⟩ ∧ g < w.heap.size ∧ ∀ W, Below w.heap.size w W → W.cell? ⟨g, j * 3, none⟩ = some (nmV (flAt L j).1) ∧ W.cell? ⟨g, j * 3 + 1, none⟩ = some (.string (Me.strOf ((flAt L j).2.bytes.take (flAt L j).2.safe))) ∧ W.cell? ⟨g, j * 3 + 2, none⟩ = some (.string (Me.strOf ((flAt L j).2.bytes.drop (flAt L j).2.safe))) := by
  obtain ⟨A', c', e, h1, h2, h3⟩ := h
  simp only [Value.slice.injEq] at e
  obtain ⟨rfl, _, _⟩ := e
  obtain ⟨g, e1, e2, _, e4⟩ := h3 j hj
  refine ⟨g, e1, e2, fun W hW => ?_⟩
  have hx : ∀ i u, (flV (flAt L j))[i]? = some u → W.cell? ⟨g, j * 3 + i, none⟩ = some u := fun i u hu => (hW.cell (p := ⟨g, j * 3 + i, none⟩) e2).trans (e4 i u hu)
  exact ⟨hx 0 _ rfl, hx 1 _ rfl, hx 2 _ rfl⟩
theorem Fv.form {Q : Nat → Prop} {w : World} {v : Value} {L : Fs} (h : Fv Q w v L) : ∃ A c, v = .slice A L.length c ∧ L.length ≤ c ∧ c ≤ 9223372036854775807 := by
  obtain ⟨A, c, e, h1, h2, _⟩ := h
  exact ⟨A, c, e, h1, h2⟩
/-- A slice of files of the call's own. -/
def Fo (w : World) (B : Nat) (v : Value) (L : Fs) : Prop := w.ownsRow B 82 3 v L.length (flsV L)
theorem Fo.lit {w0 w : World} (hb : w0.heap.size ≤ w.heap.size) : Fo (w.alloc (.cells #[] 82)) w0.heap.size (.slice (some ⟨w.heap.size, 0, none⟩) 0 0) [] :=
  World.ownsRow_made w #[] 0 hb (by unfold maxLen; omega) rfl
theorem Fo.fv {w : World} {B : Nat} {v : Value} {L : Fs} (h : Fo w B v L) : Fv (fun k => B ≤ k) w v L := by
  have h0 := h
  rcases h.2 with ⟨h1, h2⟩ | ⟨g, cap, cur, h1, h2, h3, h4, h5, h6, h7⟩
  · have : L = [] := by simpa using h2
    subst this
    subst h1
    exact Fv.nil _ _
  · have hlt := h.lt g (by rw [h1]; rfl)
    refine ⟨some ⟨g, 0, none⟩, cap, h1, h4, by unfold maxLen at h5; omega, fun j hj => ⟨g, rfl, hlt.2, hlt.1, fun i u hu => ?_⟩⟩
    have hi : i < 3 := by have := (List.getElem?_eq_some_iff.1 hu).1; rwa [flV_len] at this
    subst h1
    have := h0.cells (g := g) rfl (j * 3 + i) u (by rw [flsV_get hj hi]; exact hu)
    rwa [add_mk, Nat.zero_add] at this
theorem Fo.alloc {w : World} {B : Nat} {v : Value} {L : Fs} (h : Fo w B v L) (o : Obj) : Fo (w.alloc o) B v L := World.ownsRow.kept h (World.grownBy_alloc w o none) (by cases v.ownBlock <;> simp)
theorem Fo.below {w w' : World} {B : Nat} {v : Value} {L : Fs} (h : Fo w B v L) (hb : Below w.heap.size w w') : Fo w' B v L := own_same h fun k _ hk => hb.block k hk
theorem Fo.form {w : World} {B : Nat} {v : Value} {L : Fs} (h : Fo w B v L) : ∃ A c, v = .slice A L.length c ∧ L.length ≤ c ∧ c ≤ 9223372036854775807 := h.fv.form
theorem infoFl : (Try.prog.info? 82).map (fun i => (i.zero, i.size, i.bytes)) = some (some (.agg #[.string ⟨#[]⟩, .string ⟨#[]⟩, .string ⟨#[]⟩]), 3, 48) := by kernel_rfl
theorem fl_one (p : Nm × Fl) : ∀ v ∈ flV p, v.oneCell' = true := by
  intro v hv
  simp only [flV, List.mem_cons, List.not_mem_nil, or_false] at hv
  rcases hv with rfl | rfl | rfl <;> rfl
theorem fl_new (w : World) (p : Nm × Fl) (T : TypeId) (fr : Nat × Nat) : ∀ j u, (flV p)[j]? = some u → (w.alloc (.cells (flV p).toArray T fr)).cell? ((⟨w.heap.size, 0, none⟩ : Addr).add j) = some u := by
  intro j u hu
  rw [add_mk, Nat.zero_add, cell_of_row _ w.heap.size j _ T fr (heap_alloc_new w _)]
  simpa using hu
/-- One file appended to a slice of the call's own. -/
theorem appFl {w0 w wl : World} {ops : Array Oper} {rest : List Oper} {o : Oper} {a : Act} {Q : Exit → Act → World → Prop} (hgd : o.guard = none) (s x : Operand)
    (ho : o.op = .call { callee := .builtin .append, args := #[s, x], argTypes := #[27, 27] })
    (B : Nat) (v : Value) (L : Fs) (p : Nm × Fl) (hs : a.eval s = v) (hw : w = wl.alloc (.cells (flV p).toArray 82)) (hown : Fo wl B v L) (hb : Below B w0 wl) (hB : B ≤ wl.heap.size)
    (g : Nat) (hg : g = wl.heap.size) (hx : a.eval x = .slice (some ⟨g, 0, none⟩) 1 1) (hlen : L.length ≤ 1000)
    (h : ∀ v' w', Fo w' B v' (L ++ [p]) → Below B w0 w' → wl.grownBy w' v.ownBlock → (∀ k, v'.ownBlock = some k → v.ownBlock = some k ∨ wl.heap.size ≤ k) → wpList Try.prog ops Q rest (a.put o.dst v') w') : wpList Try.prog ops Q (o :: rest) a w := by
  subst hw hg
  obtain ⟨i0, hi, hz0, hz1, hz2⟩ := info_parts infoFl
  refine wpList_append_own_at (wl.alloc (.cells (flV p).toArray 82)) hgd s x 27 ho B 82 i0 (.agg #[.string ⟨#[]⟩, .string ⟨#[]⟩, .string ⟨#[]⟩]) 3 48 Try.underlying27 hi hz0 hz1 hz2 rfl (by decide) v L.length (flsV L) hs (hown.alloc _) ⟨wl.heap.size, 0, none⟩ 1 1 (flV p) hx rfl (fl_new wl p _ _) (fl_one p) (by unfold maxLen; omega) (by omega) (by simp; omega) ?_
  intro v' w' h1 h2 _ h4
  have hb1 : Below B w0 (wl.alloc (.cells (flV p).toArray 82)) := hb.alloc hB _
  refine h v' w' ?_ (hb1.grown h2 (by simp; omega) fun k hk => (hown.lt k hk).1) ⟨h2.os, h2.tape, h2.output, Nat.le_trans (by simp) h2.size, fun k hk hne => ?_⟩ fun k hk => ?_
  · unfold Fo
    rw [List.length_append, flsV_snoc]; exact h1
  · exact (h2.block k (by simp; omega) hne).trans (Below.heap_alloc wl _ k hk)
  · rcases h4 with h4 | h4
    · rw [h4] at hk; exact .inl hk
    · rw [h4] at hk
      simp only [World.size_alloc, Option.some.injEq] at hk
      exact .inr (by omega)
end Go.Proofs.Ytdjgkoklkoahbaa.Dk
