/- A list of slices that came in: a slice of one's own that is appended to, whose elements lay there at the call (out of XHdRows; never import both). -/
import Derived.Test.YtbacgljeadalbaaGreatDoorZ5
namespace Go.Proofs.YtbacgljeadalbaaGreatDoor.Hd
open Go.RowKit
open Go.Proofs.YtbacgljeadalbaaGreatDoor.Me
set_option linter.unusedVariables false
set_option linter.unusedSimpArgs false

/-- A slice of one's own, whose elements are slices that lay in w0 with these bytes. -/
def Wnt (w0 : World) (W : World) (v : Value) (ps : List (List Nat)) : Prop :=
  ∃ vs : List Value, W.ownsRow w0.heap.size 32 1 v ps.length vs ∧ vs.length = ps.length ∧ ∀ j, j < ps.length → ∃ A c, vs[j]? = some (.slice A (lsAt ps j).length c) ∧ (lsAt ps j).length ≤ c ∧ c ≤ 9223372036854775807 ∧ Rd w0 w0.heap.size A (lsAt ps j) ∧ (A = none → (lsAt ps j).length = 0 ∧ c = 0)
theorem Wnt.same {w0 W W' : World} {v : Value} {ps : List (List Nat)} (h : Wnt w0 W v ps) (hk : ∀ k, v.ownBlock = some k → k < W.heap.size → W'.heap[k]? = W.heap[k]?) : Wnt w0 W' v ps := by
  obtain ⟨vs, h1, h2, h3⟩ := h
  exact ⟨vs, own_same h1 hk, h2, h3⟩
theorem Wnt.own {w0 W : World} {v : Value} {ps : List (List Nat)} (h : Wnt w0 W v ps) : ∀ k, v.ownBlock = some k → w0.heap.size ≤ k ∧ k < W.heap.size := by
  obtain ⟨vs, h1, h2, h3⟩ := h
  exact fun k hk => h1.lt k hk
theorem Wnt.form {w0 W : World} {v : Value} {ps : List (List Nat)} (h : Wnt w0 W v ps) (hb : Below w0.heap.size w0 W) : ∃ A c, v = .slice A ps.length c ∧ Lst W W.heap.size A ps ∧ Nils W A ps := by
  obtain ⟨vs, h1, h2, h3⟩ := h
  rcases h1.2 with ⟨rfl, e0⟩ | ⟨g, cap, cur, rfl, q2, q3, q4, q5, q6, q7⟩
  · obtain rfl : ps = [] := List.eq_nil_of_length_eq_zero e0
    exact ⟨none, 0, rfl, fun hl => absurd hl (by simp), fun _ _ _ j hj => absurd hj (by simp)⟩
  · have hcell : ∀ j, j < ps.length → ∃ A c, W.cell? ⟨g, 0 + j, none⟩ = some (.slice A (lsAt ps j).length c) ∧ (lsAt ps j).length ≤ c ∧ c ≤ 9223372036854775807 ∧ Rd w0 w0.heap.size A (lsAt ps j) ∧ (A = none → (lsAt ps j).length = 0 ∧ c = 0) := by
      intro j hj
      obtain ⟨A, c, e, h4, h5, h6, h7⟩ := h3 j hj
      refine ⟨A, c, ?_, h4, h5, h6, h7⟩
      rw [Nat.zero_add, h1.cellAt j (by omega)]
      exact e
    refine ⟨some ⟨g, 0, none⟩, cap, rfl, fun hl => ⟨g, 0, rfl, own_lt h1 g rfl, fun j hj => ?_⟩, ?_⟩
    · obtain ⟨A, c, e, h4, h5, h6, h7⟩ := hcell j hj
      exact ⟨A, c, e, h4, h5, (h6.below hb).more hb.size⟩
    · intro b off e j hj n c hc
      simp only [Option.some.injEq, Addr.mk.injEq, and_true] at e
      obtain ⟨rfl, rfl⟩ := e
      obtain ⟨A, c', e', h4, h5, h6, h7⟩ := hcell j hj
      rw [hc] at e'
      simp only [Option.some.injEq, Value.slice.injEq] at e'
      obtain ⟨rfl, rfl, rfl⟩ := e'
      exact h7 rfl
/-- One slice that came in appended. -/
theorem appW {w0 wl w : World} {ops : Array Oper} {rest : List Oper} {o : Oper} {a : Act} {Q : Exit → Act → World → Prop} (hgd : o.guard = none) (s x : Operand)
    (ho : o.op = .call { callee := .builtin .append, args := #[s, x], argTypes := #[31, 31] })
    (v : Value) (ps : List (List Nat)) (r : List Nat) (A : Option Addr) (n c : Nat) (hn : n = r.length) (hs : a.eval s = v) (hw : w = wl.alloc (.cells #[.slice A n c] 32)) (hrows : Wnt w0 wl v ps) (hb : Below w0.heap.size w0 wl)
    (h1 : r.length ≤ c) (h2 : c ≤ 9223372036854775807) (h3 : Rd w0 w0.heap.size A r) (h4 : A = none → r.length = 0 ∧ c = 0) (g : Nat) (hgs : g = wl.heap.size) (hx : a.eval x = .slice (some ⟨g, 0, none⟩) 1 1) (hlen : (ps.length + 1) * 24 ≤ 140737488355328)
    (h : ∀ v' w', Wnt w0 w' v' (ps ++ [r]) → wl.grownBy w' v.ownBlock → (∀ k, v.ownBlock = some k → w0.heap.size ≤ k) → wpList Tryz.prog ops Q rest (a.put o.dst v') w') : wpList Tryz.prog ops Q (o :: rest) a w := by
  obtain ⟨i0, hi, hz0, hz1, hz2⟩ := info_parts info24
  subst hn hgs
  have hba : Below wl.heap.size wl w := by rw [hw]; exact (Below.refl _ _).alloc (Nat.le_refl _) _
  obtain ⟨vs, k1, k2, k3⟩ := hrows.same fun k _ hk => hba.block k hk
  refine wpList_append_own w hgd s x 31 ho w0.heap.size 32 i0 (.slice none 0 0) 1 24 Tryz.underlying31 hi hz0 hz1 hz2 rfl (by decide) v ps.length vs hs k1 ⟨wl.heap.size, 0, none⟩ 1 1 [.slice A r.length c] hx rfl
    (by
      intro j u hj
      rw [hw]
      have : j = 0 := by
        apply Classical.byContradiction
        intro hn
        rw [List.getElem?_eq_none (by simp; omega)] at hj; cases hj
      subst this
      have e : (⟨wl.heap.size, 0, none⟩ : Addr).add 0 = ⟨wl.heap.size, 0, none⟩ := by unfold Addr.add; split <;> simp_all
      rw [e, cell_of_row _ wl.heap.size 0 _ 32 (0, 0) (heap_alloc_new wl _)]
      simpa using hj)
    (by simp [Value.oneCell']) (by unfold maxLen; omega) hlen (Nat.le_trans hb.size hba.size) ?_
  intro v' w' q1 q2 _
  have hg2 : wl.grownBy w' v.ownBlock := ⟨q2.os.trans hba.os, q2.tape.trans hba.tape, q2.output.trans hba.output, Nat.le_trans hba.size q2.size, fun b hb' hne => (q2.block b (Nat.lt_of_lt_of_le hb' hba.size) hne).trans (hba.block b hb')⟩
  refine h v' w' ⟨vs ++ [.slice A r.length c], by simpa using q1, by simp [k2], fun j hj => ?_⟩ hg2 fun k hk => (k1.lt k hk).1
  simp only [List.length_append, List.length_singleton] at hj
  by_cases hlt : j < ps.length
  · obtain ⟨A', c', e, h8⟩ := k3 j hlt
    rw [lsAt_append_left hlt]
    exact ⟨A', c', by rw [List.getElem?_append_left (by omega)]; exact e, h8⟩
  · obtain rfl : j = ps.length := by omega
    rw [lsAt_append_right hlt]
    exact ⟨A, c, by rw [← k2]; simp [lsAt], by simpa [lsAt] using h1, h2, by simpa [lsAt] using h3, by simpa [lsAt] using h4⟩
theorem rows_ne {w0 W : World} {v u : Value} {ps : List (List Nat)} {B : Nat} {l : List Nat} (h : Wnt w0 W v ps) (ho : Me.Own W B u l) {j : Nat} (hj : v.ownBlock = some j) : some j ≠ u.ownBlock := by
  obtain ⟨vs, h1, _, _⟩ := h
  rcases two_types h1 ho (by decide) with h' | h'
  · rw [hj] at h'; cases h'
  · rw [← hj]; exact h'
theorem line_ne {w0 W : World} {v u : Value} {ps : List (List Nat)} {B : Nat} {l : List Nat} (h : Wnt w0 W v ps) (ho : Me.Own W B u l) : u.ownBlock = none ∨ u.ownBlock ≠ v.ownBlock := by
  obtain ⟨vs, h1, _, _⟩ := h
  exact two_types ho h1 (by decide)
theorem Wnt.nil (w0 W : World) : Wnt w0 W (.slice none 0 0) [] := ⟨[], ⟨rfl, .inl ⟨rfl, rfl⟩⟩, rfl, fun j hj => absurd hj (by simp)⟩
theorem Wnt.lit {w0 w : World} (hb : Below w0.heap.size w0 w) : Wnt w0 (w.alloc (.cells #[] 32)) (.slice (some ⟨w.heap.size, 0, none⟩) 0 0) [] :=
  ⟨[], World.ownsRow_made w #[] 0 hb.size (by unfold maxLen; omega) rfl, rfl, fun j hj => absurd hj (by simp)⟩
end Go.Proofs.YtbacgljeadalbaaGreatDoor.Hd
