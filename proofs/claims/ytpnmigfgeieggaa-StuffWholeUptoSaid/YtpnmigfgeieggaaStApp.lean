/- Appending to slices of one's own in a round. -/
import Derived.Test.YtpnmigfgeieggaaStRows
import Derived.Test.YtpnmigfgeieggaaRangeB
namespace Go.Proofs.Ytpnmigfgeieggaa.St
open Go.RowKit
open Go.Proofs.Ytpnmigfgeieggaa.Me Go.Proofs.Ytpnmigfgeieggaa.It
set_option linter.unusedVariables false

theorem app_none_in {F : Fence} {n : Nat} {w : World} {ops : Array Oper} {rest : List Oper} {o : Oper} {a : Act} {Q : Exit → Act → World → Prop} (hgd : o.guard = none) (s x : Operand) (t : TypeId)
    (ho : o.op = .call { callee := .builtin .append, args := #[s, x], argTypes := #[t, t] })
    (base : Nat) (e : TypeId) (i : TypeInfo) (size : Nat) (ht : Try.prog.underlying t = some (.slice e)) (hi : Try.prog.info? e = some i)
    (v : Value) (k : Nat) (xs : List Value) (hs : a.eval s = v) (hown : w.ownsRow base e size v k xs) (hx : a.eval x = .slice none 0 0)
    (h : wpListIn F n Try.prog ops Q rest (a.put o.dst v) w) : wpListIn F n Try.prog ops Q (o :: rest) a w := by
  refine wpListIn_plain hgd fun K hK => ?_
  have hrun := run_append_owned_none (P := Try.prog) (w := w) base t o.type e i size ht hi v k xs hown
  unfold Oper.wpIn
  refine ⟨?_, ?_⟩
  · simp [Oper.about, ho, resolve, Target.leads, Sem.run_pure]
  · rw [Oper.semAt_plain F _ _ (by rw [ho]; intro c hc; cases hc)]
    simp [execOp, ho, resolve, invoke, builtin, hs, hx, hrun, Result.andThen]
    exact hK _ _ h
/-- Bytes appended to a slice of the call's own, in a round. -/
theorem app8In {F : Fence} {n : Nat} {w : World} {ops : Array Oper} {rest : List Oper} {o : Oper} {a : Act} {Q : Exit → Act → World → Prop} (hgd : o.guard = none) (s x : Operand)
    (ho : o.op = .call { callee := .builtin .append, args := #[s, x], argTypes := #[22, 22] })
    (B Bx : Nat) (v : Value) (l r : List Nat) (hs : a.eval s = v) (hown : Me.Own w B v l) (hB : B ≤ w.heap.size)
    (A : Option Addr) (c : Nat) (hx : a.eval x = .slice A r.length c) (hr : Rd w Bx A r) (hA : A = none → r.length = 0 ∧ c = 0) (hlen : l.length + r.length ≤ 140737488355328)
    (h : ∀ v' w', Me.Own w' B v' (l ++ r) → w.grownBy w' v.ownBlock → wpListIn F n Try.prog ops Q rest (a.put o.dst v') w') : wpListIn F n Try.prog ops Q (o :: rest) a w := by
  obtain ⟨i0, hi, hz0, hz1, hz2⟩ := info_parts info8
  rcases A with _ | ad
  · obtain ⟨h1, rfl⟩ := hA rfl
    obtain rfl : r = [] := List.eq_nil_of_length_eq_zero h1
    refine app_none_in hgd s x 22 ho B 5 i0 1 Try.underlying22 hi v l.length (l.map byV) hs hown hx ?_
    exact h v w (by rw [List.append_nil]; exact hown) ⟨rfl, rfl, rfl, Nat.le_refl _, fun _ _ _ => rfl⟩
  · refine wpListIn_append_own w hgd s x 22 ho B 5 i0 (.int .u8 0) 1 1 Try.underlying22 hi hz0 hz1 hz2 rfl (by decide) v l.length (l.map byV) hs hown ad r.length c (r.map byV) hx (len_map r) (rd_cells hr (Below.refl _ _)) (one_cells _) (by unfold maxLen; omega) (by omega) hB ?_
    intro v' w' h1 h2 _
    refine h v' w' ?_ h2
    unfold Me.Own
    rw [List.length_append, List.map_append]; exact h1
/-- One slice of its own appended to rows, in a round. -/
theorem appRIn {F : Fence} {n : Nat} {w : World} {ops : Array Oper} {rest : List Oper} {o : Oper} {a : Act} {Q : Exit → Act → World → Prop} (hgd : o.guard = none) (s x : Operand)
    (ho : o.op = .call { callee := .builtin .append, args := #[s, x], argTypes := #[33, 33] })
    (B : Nat) (v : Value) (ps : List (List Nat)) (r : List Nat) (A : Option Addr) (c : Nat) (hs : a.eval s = v) (wl : World) (hw : w = wl.alloc (.cells #[.slice A r.length c] 22)) (hrows : RowsOf wl B v ps) (hown : Me.Own wl B (.slice A r.length c) r)
    (hB : B ≤ wl.heap.size) (hx : a.eval x = .slice (some ⟨wl.heap.size, 0, none⟩) 1 1) (hlen : (ps.length + 1) * 24 ≤ 140737488355328)
    (h : ∀ v' w', RowsOf w' B v' (ps ++ [r]) → w.grownBy w' v.ownBlock → (∀ k, v.ownBlock = some k → B ≤ k) → wpListIn F n Try.prog ops Q rest (a.put o.dst v') w') : wpListIn F n Try.prog ops Q (o :: rest) a w := by
  obtain ⟨i0, hi, hz0, hz1, hz2⟩ := info_parts info24
  obtain ⟨vs, h1, h2, h3⟩ := hrows
  have hba : Below wl.heap.size wl w := by rw [hw]; exact (Below.refl _ _).alloc (Nat.le_refl _) _
  have hown2 := own_below_any hown hba
  have h12 := own_below_any h1 hba
  refine wpListIn_append_own w hgd s x 33 ho B 22 i0 (.slice none 0 0) 1 24 Try.underlying33 hi hz0 hz1 hz2 rfl (by decide) v ps.length vs hs h12 ⟨wl.heap.size, 0, none⟩ 1 1 [.slice A r.length c] hx rfl
    (by
      intro j u hj
      rw [hw]
      have : j = 0 := by
        apply Classical.byContradiction
        intro hn
        rw [List.getElem?_eq_none (by simp; omega)] at hj; cases hj
      subst this
      have e : (⟨wl.heap.size, 0, none⟩ : Addr).add 0 = ⟨wl.heap.size, 0, none⟩ := by unfold Addr.add; split <;> simp_all
      rw [e, (Boxed.new wl 22 _).cell]
      simpa using hj)
    (by simp [Value.oneCell']) (by unfold maxLen; omega) hlen (Nat.le_trans hB hba.size) ?_
  intro v' w' q1 q2 _
  refine h v' w' (RowsOf.more h12 h2 (fun j hj => ?_) hown2 q1 q2) q2 (fun k hk => (h12.lt k hk).1)
  obtain ⟨A', c', e, h5⟩ := h3 j hj
  exact ⟨A', c', e, own_below_any h5 hba⟩
theorem own_kept {w w' : World} {B T n : Nat} {v : Value} {xs : List Value} {row : Option Nat} (h : w.ownsRow B T 1 v n xs) (hg : w.grownBy w' row) (hr : ∀ r, row = some r → r < B) : w'.ownsRow B T 1 v n xs := by
  refine h.kept hg ?_
  cases hv : v.ownBlock with
  | none => exact .inl rfl
  | some b => exact .inr (fun e => by have h1 := (h.lt _ hv).1; have := hr b e.symm; omega)
theorem RowsOf.kept {w w' : World} {B : Nat} {v : Value} {ps : List (List Nat)} {row : Option Nat} (h : RowsOf w B v ps) (hg : w.grownBy w' row) (hr : ∀ r, row = some r → r < B) : RowsOf w' B v ps := by
  obtain ⟨vs, h1, h2, h3⟩ := h
  refine ⟨vs, own_kept h1 hg hr, h2, fun j hj => ?_⟩
  obtain ⟨A, c, e, h4⟩ := h3 j hj
  exact ⟨A, c, e, own_kept h4 hg hr⟩
end Go.Proofs.Ytpnmigfgeieggaa.St
