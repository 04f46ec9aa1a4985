/- Lists of bytes that a call makes: rows appended to, and the reference's Parts. -/
import Derived.Test.YtpnmigfgeieggaaStIter
import Derived.Test.YtpnmigfgeieggaaRows2
namespace Go.Proofs.Ytpnmigfgeieggaa.St
open Go.RowKit
open Go.Proofs.Ytpnmigfgeieggaa.Me Go.Proofs.Ytpnmigfgeieggaa.It
set_option linter.unusedVariables false

theorem info24 : (Try.prog.info? 22).map (fun i => (i.zero, i.size, i.bytes)) = some (some (.slice none 0 0), 1, 24) := by kernel_rfl
/-- Two slices of other elements are two blocks. -/
theorem two_types {w : World} {B B' T T' n n' : Nat} {v v' : Value} {xs xs' : List Value} (h : w.ownsRow B T 1 v n xs) (h' : w.ownsRow B' T' 1 v' n' xs') (hT : T ≠ T') : v.ownBlock = none ∨ v.ownBlock ≠ v'.ownBlock := by
  rcases h.2 with ⟨rfl, _⟩ | ⟨g, cap, cur, rfl, _, h3, _⟩
  · exact .inl rfl
  · right
    rcases h'.2 with ⟨rfl, _⟩ | ⟨g', cap', cur', rfl, _, h3', _⟩
    · simp [Value.ownBlock]
    · intro e
      obtain rfl : g = g' := by simpa [Value.ownBlock] using e
      rw [h3] at h3'
      simp at h3'
      exact hT h3'.2
theorem own_more {w : World} {B B' : Nat} {v : Value} {l : List Nat} (h : Me.Own w B v l) (hB : B' ≤ B) : Me.Own w B' v l := by
  refine ⟨h.1, ?_⟩
  rcases h.2 with h' | ⟨g, cap, cur, q1, q2, q3⟩
  · exact .inl h'
  · exact .inr ⟨g, cap, cur, q1, Nat.le_trans hB q2, q3⟩
/-- A slice of the call's own, whose elements are slices of its own with these bytes. -/
def RowsOf (w : World) (B : Nat) (v : Value) (ps : List (List Nat)) : Prop :=
  ∃ vs : List Value, w.ownsRow B 22 1 v ps.length vs ∧ vs.length = ps.length ∧ ∀ j, j < ps.length → ∃ A c, vs[j]? = some (.slice A (lsAt ps j).length c) ∧ Me.Own w B (.slice A (lsAt ps j).length c) (lsAt ps j)
theorem RowsOf.nil (w : World) (B : Nat) : RowsOf w B (.slice none 0 0) [] := ⟨[], ⟨rfl, .inl ⟨rfl, rfl⟩⟩, rfl, fun j hj => absurd hj (by simp)⟩
theorem RowsOf.lit {w0 w : World} (hb : Below w0.heap.size w0 w) : RowsOf (w.alloc (.cells #[] 22)) w0.heap.size (.slice (some ⟨w.heap.size, 0, none⟩) 0 0) [] :=
  ⟨[], World.ownsRow_made w #[] 0 hb.size (by unfold maxLen; omega) rfl, rfl, fun j hj => absurd hj (by simp)⟩
theorem own_below_any {w w' : World} {B T n : Nat} {v : Value} {xs : List Value} (h : w.ownsRow B T 1 v n xs) (hb : Below w.heap.size w w') : w'.ownsRow B T 1 v n xs :=
  h.kept (grown_of_below hb) (by cases v.ownBlock <;> simp)
theorem RowsOf.below {w w' : World} {B : Nat} {v : Value} {ps : List (List Nat)} (h : RowsOf w B v ps) (hb : Below w.heap.size w w') : RowsOf w' B v ps := by
  obtain ⟨vs, h1, h2, h3⟩ := h
  refine ⟨vs, own_below_any h1 hb, h2, fun j hj => ?_⟩
  obtain ⟨A, c, e, h4⟩ := h3 j hj
  exact ⟨A, c, e, own_below_any h4 hb⟩
theorem lsAt_append_left {ps : List (List Nat)} {r : List Nat} {j : Nat} (h : j < ps.length) : lsAt (ps ++ [r]) j = lsAt ps j := by
  simp [lsAt, List.getElem?_append_left h]
theorem lsAt_append_last (ps : List (List Nat)) (r : List Nat) : lsAt (ps ++ [r]) ps.length = r := by simp [lsAt]
/-- One slice of its own appended to such rows. -/
theorem RowsOf.more {w w' : World} {B : Nat} {v v' : Value} {ps : List (List Nat)} {r : List Nat} {A : Option Addr} {c : Nat} {vs : List Value} (h1 : w.ownsRow B 22 1 v ps.length vs) (h2 : vs.length = ps.length)
    (h3 : ∀ j, j < ps.length → ∃ A c, vs[j]? = some (.slice A (lsAt ps j).length c) ∧ Me.Own w B (.slice A (lsAt ps j).length c) (lsAt ps j)) (hx : Me.Own w B (.slice A r.length c) r)
    (h4 : w'.ownsRow B 22 1 v' (ps.length + 1) (vs ++ [.slice A r.length c])) (hg : w.grownBy w' v.ownBlock) : RowsOf w' B v' (ps ++ [r]) := by
  refine ⟨vs ++ [.slice A r.length c], by simpa using h4, by simp [h2], fun j hj => ?_⟩
  simp only [List.length_append, List.length_singleton] at hj
  by_cases hlt : j < ps.length
  · obtain ⟨A', c', e, h5⟩ := h3 j hlt
    rw [lsAt_append_left hlt]
    refine ⟨A', c', by rw [List.getElem?_append_left (by omega)]; exact e, h5.kept hg ?_⟩
    exact two_types h5 h1 (by decide)
  · obtain rfl : j = ps.length := by omega
    rw [lsAt_append_last]
    refine ⟨A, c, by rw [← h2]; simp, hx.kept hg (two_types hx h1 (by decide))⟩
theorem appR {w0 w : World} {ops : Array Oper} {rest : List Oper} {o : Oper} {a : Act} {Q : Exit → Act → World → Prop} (hgd : o.guard = none) (s x : Operand)
    (ho : o.op = .call { callee := .builtin .append, args := #[s, x], argTypes := #[33, 33] })
    (B : Nat) (v : Value) (ps : List (List Nat)) (r : List Nat) (A : Option Addr) (c : Nat) (hs : a.eval s = v) (wl : World) (hw : w = wl.alloc (.cells #[.slice A r.length c] 22)) (hrows : RowsOf wl B v ps) (hown : Me.Own wl B (.slice A r.length c) r)
    (hb : Below w0.heap.size w0 wl) (hB : B ≤ w0.heap.size) (hBr : B = w0.heap.size) (hx : a.eval x = .slice (some ⟨wl.heap.size, 0, none⟩) 1 1) (hlen : (ps.length + 1) * 24 ≤ 140737488355328)
    (h : ∀ v' w', RowsOf w' B v' (ps ++ [r]) → Below w0.heap.size w0 w' → wpList Try.prog ops Q rest (a.put o.dst v') w') : wpList Try.prog ops Q (o :: rest) a w := by
  obtain ⟨i0, hi, hz0, hz1, hz2⟩ := info_parts info24
  obtain ⟨vs, h1, h2, h3⟩ := hrows
  have hba : Below wl.heap.size wl w := by rw [hw]; exact (Below.refl _ _).alloc (Nat.le_refl _) _
  have hown2 := own_below_any hown hba
  have h12 := own_below_any h1 hba
  subst hBr
  refine wpList_append_own w hgd s x 33 ho w0.heap.size 22 i0 (.slice none 0 0) 1 24 Try.underlying33 hi hz0 hz1 hz2 rfl (by decide) v ps.length vs hs h12 ⟨wl.heap.size, 0, none⟩ 1 1 [.slice A r.length c] hx rfl
    (by
      intro j u hj
      rw [hw]
      have : j = 0 := by
        apply Classical.byContradiction
        intro hn
        rw [List.getElem?_eq_none (by simp; omega)] at hj; cases hj
      subst this
      have e : (⟨wl.heap.size, 0, none⟩ : Addr).add 0 = ⟨wl.heap.size, 0, none⟩ := by unfold Addr.add; split <;> simp_all
      rw [e, (Boxed.new wl 22 _).cell]
      simpa using hj)
    (by simp [Value.oneCell']) (by unfold maxLen; omega) hlen (Nat.le_trans hb.size hba.size) ?_
  intro v' w' q1 q2 _
  refine h v' w' (RowsOf.more h12 h2 (fun j hj => ?_) hown2 q1 q2) ?_
  · obtain ⟨A', c', e, h5⟩ := h3 j hj
    exact ⟨A', c', e, own_below_any h5 hba⟩
  · exact (hb.trans (hba.mono hb.size)).grown q2 (Nat.le_trans hb.size hba.size) fun k hk => (h12.lt k hk).1
theorem done_le (zs : List Nat) : ∀ k, (done zs k).length ≤ k
  | 0 => Nat.le_refl _
  | k + 1 => by
    have := done_le zs k
    unfold done
    split <;> simp <;> omega
end Go.Proofs.Ytpnmigfgeieggaa.St
