/- A call of both lines: what it leans on. -/
import Derived.Test.YtcdpdijfgeeenaaLnPure
import Derived.Test.YtcdpdijfgeeenaaLnIn
import Derived.Deep.RegionHeld
namespace Go.Proofs.Ytcdpdijfgeeenaa.Li
open Go.RowKit
open Go.Proofs.Ytcdpdijfgeeenaa.Sb
set_option linter.unusedVariables false
set_option linter.unusedSimpArgs false

theorem allocAt {ops : Array Oper} {rest : List Oper} {o : Oper} {a : Act} {w : World} {Q : Exit → Act → World → Prop} (hg : o.guard = none) (g : Nat) (ob : Obj) (hrun : (execOp a.eval o).run Try.prog w = .ok (.value (.pointer (some ⟨w.heap.size, 0, none⟩))) (w.alloc ob)) (hs : w.heap.size = g)
    (h : wpList Try.prog ops Q rest (a.put o.dst (.pointer (some ⟨g, 0, none⟩))) (w.alloc ob)) : wpList Try.prog ops Q (o :: rest) a w := by
  subst hs
  exact Mi.allocTo hg _ _ hrun h
/-- Blocks of no type of a line's own. -/
def Ko (w : World) (k : Nat) : Prop := ∃ cs T, w.heap[k]? = some (.cells cs T (0, 0)) ∧ T ≠ 53 ∧ T ≠ 5 ∧ T ≠ 3
theorem Ko.lt {w : World} {k : Nat} (h : Ko w k) : k < w.heap.size := by
  obtain ⟨cs, T, h, _⟩ := h
  exact (Array.getElem?_eq_some_iff.1 h).1
theorem Ko.below {w w' : World} {k : Nat} (h : Ko w k) (hb : Below w.heap.size w w') : Ko w' k := by
  have hl := h.lt
  obtain ⟨cs, T, h1, h2⟩ := h
  exact ⟨cs, T, (hb.block k hl).trans h1, h2⟩
theorem Wk.ko {w : World} {k : Nat} (h : Wk w k) : Ko w k := by
  obtain ⟨cs, h⟩ := h
  exact ⟨cs, _, h, by decide, by decide, by decide⟩
theorem Bl.ko {w : World} {g d n c : Nat} {A : Option Addr} (h : Bl w g d A n c) : Ko w g := ⟨_, _, h, by decide, by decide, by decide⟩
theorem own_not_ko {w : World} {B T n : Nat} {v : Value} {xs : List Value} (h : w.ownsRow B T 1 v n xs) (hT : T = 5 ∨ T = 3) {k : Nat} (hk : v.ownBlock = some k) : ¬ Ko w k := by
  rintro ⟨cs, T', h1, h2, h3, h4⟩
  have hne : T ≠ T' := by
    rintro rfl
    rcases hT with h | h
    · exact h3 h
    · exact h4 h
  exact own_ne h h1 hne hk
/-- A line has none of these. -/
theorem Lr.ko {M : Nat} {O : Nat → Prop} {w : World} {D : Nat} {s : Ln} (h : Lr M O w D s) : Lr M (fun k => O k ∨ Ko w k) w D s := by
  refine ⟨?_, h.ok, h.m, fun k hk => hk.elim (h.o k) Ko.lt⟩
  obtain ⟨vb, vd, hq, hF⟩ := h.li
  refine ⟨vb, vd, hq, fun k hk => ⟨(hF k hk).1, fun ho => ?_⟩⟩
  rcases ho with ho | ho
  · exact (hF k hk).2 ho
  · rcases hk with rfl | e | e
    · obtain ⟨cs, T', h1, h2, _⟩ := ho
      rw [hq.box] at h1
      injection h1 with h1
      injection h1 with _ hT _
      exact h2 hT.symm
    · exact own_not_ko hq.ob (.inl rfl) e ho
    · exact own_not_ko hq.od (.inr rfl) e ho
/-- What a call of the program's leaves alone. -/
def Ok2 (M : Nat) (w : World) (k : Nat) : Prop := M ≤ k ∧ ¬ Ko w k
theorem ok2_chain {M : Nat} {w w1 w2 : World} (hb : Below w.heap.size w w1) (h : But (Ok2 M w1) w1 w2) : But (Ok2 M w) w w2 :=
  (But.of_below (S := Ok2 M w) hb).trans h fun k _ hs => ⟨hs.1, fun hk => hs.2 (hk.below hb)⟩
theorem ok2_then {M : Nat} {w w1 w2 : World} (h : But (Ok2 M w) w w1) (hb : Below w1.heap.size w1 w2) : But (Ok2 M w) w w2 := h.trans (But.of_below (S := fun _ => False) hb) fun _ _ h => h.elim
theorem ok2_keep {M : Nat} {w w' : World} (h : But (Ok2 M w) w w') {k : Nat} (hk : Ko w k) : w'.heap[k]? = w.heap[k]? := h.same k hk.lt fun hs => hs.2 hk
theorem ok2_rw {M : Nat} {w w' : World} {A : Option Addr} {n c : Nat} {L : List Wy} (h : But (Ok2 M w) w w') (hr : RW w A n c L) : RW w' A n c L := hr.keep fun k hk => ok2_keep h hk.ko
theorem ok2_bl {M : Nat} {w w' : World} {g d n c : Nat} {A : Option Addr} (h : But (Ok2 M w) w w') (hb : Bl w g d A n c) : Bl w' g d A n c := (ok2_keep h hb.ko).trans hb
/-- A call by value. -/
def acV (k a n : Int) (R : Option Addr) (pn cr : Nat) : Array Value := #[.int .i64 k, .int .i64 a, .int .i64 n, .slice R pn cr]
def Ba (w : World) (g : Nat) (k a n : Int) (R : Option Addr) (pn cr : Nat) : Prop := w.heap[g]? = some (.cells (acV k a n R pn cr) 35 (0, 0))
theorem Ba.cells {w : World} {g : Nat} {k a n : Int} {R : Option Addr} {pn cr : Nat} (h : Ba w g k a n R pn cr) : w.cell? ⟨g, 0, none⟩ = some (.int .i64 k) ∧ w.cell? ⟨g, 1, none⟩ = some (.int .i64 a) ∧ w.cell? ⟨g, 2, none⟩ = some (.int .i64 n) ∧ w.cell? ⟨g, 3, none⟩ = some (.slice R pn cr) := by
  refine ⟨?_, ?_, ?_, ?_⟩
  all_goals
    rw [cell_of_row _ g _ _ _ (0, 0) h]
    rfl
theorem Ba.ko {w : World} {g : Nat} {k a n : Int} {R : Option Addr} {pn cr : Nat} (h : Ba w g k a n R pn cr) : Ko w g := ⟨_, _, h, by decide, by decide, by decide⟩
theorem Ba.lt {w : World} {g : Nat} {k a n : Int} {R : Option Addr} {pn cr : Nat} (h : Ba w g k a n R pn cr) : g < w.heap.size := h.ko.lt
theorem exec_boxa (ρ : Operand → Value) (o : Oper) (k a n : Int) (R : Option Addr) (pn cr : Nat) (x : Operand) (ho : o.op = .box 35 x) (h0 : ρ x = .agg (acV k a n R pn cr)) (w : World) :
    (execOp ρ o).run Try.prog w = .ok (.value (.pointer (some ⟨w.heap.size, 0, none⟩))) (w.alloc (.cells (acV k a n R pn cr) 35 (0, 0))) := by
  unfold execOp
  rw [ho]
  simp only [h0]
  kernel_rfl
/-- The three boxes of 'play'. -/
theorem three_bx (w : World) (d : Nat) (A : Option Addr) (n c : Nat) (k a m : Int) (R : Option Addr) (pn cr : Nat) : ∃ w1, ((w.alloc (.cells (lnV d A n c) 29)).alloc (.cells (acV k a m R pn cr) 35)).alloc (.cells (lnV 0 none 0 0) 29) = w1 ∧
    Bl w1 w.heap.size d A n c ∧ Ba w1 (w.heap.size + 1) k a m R pn cr ∧ Bl w1 (w.heap.size + 2) 0 none 0 0 ∧ w1.heap.size = w.heap.size + 3 ∧ Below w.heap.size w w1 := by
  have hb : Below w.heap.size w (((w.alloc (.cells (lnV d A n c) 29)).alloc (.cells (acV k a m R pn cr) 35)).alloc (.cells (lnV 0 none 0 0) 29)) := Me.below_alloc (Me.below_alloc (Me.below_alloc (Below.refl _ _)))
  refine ⟨_, rfl, ?_, ?_, ?_, by simp, hb⟩
  · have h1 : (w.alloc (.cells (lnV d A n c) 29)).heap[w.heap.size]? = _ := heap_alloc_new w _
    exact ((Below.heap_alloc _ _ _ (by simp; omega)).trans (Below.heap_alloc _ _ _ (by simp))).trans h1
  · have h2 := heap_alloc_new (w.alloc (.cells (lnV d A n c) 29)) (.cells (acV k a m R pn cr) 35)
    rw [World.size_alloc] at h2
    exact (Below.heap_alloc _ _ _ (by simp)).trans h2
  · have h3 := heap_alloc_new ((w.alloc (.cells (lnV d A n c) 29)).alloc (.cells (acV k a m R pn cr) 35)) (.cells (lnV 0 none 0 0) 29)
    rw [World.size_alloc, World.size_alloc] at h3
    exact h3
theorem yieldsIf_load_ln {ops : Array Oper} {S : World → Prop} {op : Oper} {a : Act} (hw : Region.wanted op (yielded ops a.tmps) = true) (x : Operand) (ho : op.op = .load 29 x)
    (g : Nat) (hx : a.eval x = .pointer (some ⟨g, 0, none⟩)) (d : Nat) (A : Option Addr) (n c : Nat) (hS : ∀ W, S W → Bl W g d A n c) : YieldsIf Try.prog ops S op (.agg (lnV d A n c)) a := by
  have := yieldsIf_load_mid (P := Try.prog) (ops := ops) (S := S) (op := op) (a := a) hw 29 x ho g 0 hx (lnV d A n c).toList _ (fun W hW => by
    have h := World.rangeAt_of_block (hS W hW) 0 2
    have e : (lnV d A n c).extract 0 (0 + 2) = lnV d A n c := rfl
    rw [e] at h
    exact h) Try.underlying29 rfl (ln_size d A n c)
  simpa using this
/-- What a call of both leaves: the same line on both sides. -/
def Pst (M : Nat) (w : World) (D : Nat) (s' : Ln) (A' : Option Addr) (n' c' : Nat) (w' : World) : Prop := RW w' A' n' c' (ways s') ∧ Lr M (fun _ => False) w' D s' ∧ But (Ok2 M w) w w'
theorem Lr.no {M : Nat} {O : Nat → Prop} {w : World} {D : Nat} {s : Ln} (h : Lr M O w D s) : Lr M (fun _ => False) w D s := h.other fun _ h => h.elim
theorem out_ok2 {M : Nat} {w : World} {k : Nat} (h : Out M (fun k => False ∨ Ko w k) k) : Ok2 M w k := ⟨h.1, fun hk => h.2 (.inr hk)⟩
end Go.Proofs.Ytcdpdijfgeeenaa.Li
