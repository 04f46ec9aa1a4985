/- Any call of both lines. -/
import Derived.Test.YtcdpdijfgeeenaaLnPlayDrop
import Derived.Test.YtcdpdijfgeeenaaLnPlayFlip
import Derived.Test.YtcdpdijfgeeenaaLnPlayInsert
import Derived.Test.YtcdpdijfgeeenaaLnPlayTick
import Derived.Test.YtcdpdijfgeeenaaLnPlayTake
import Derived.Test.YtcdpdijfgeeenaaLnPlayPut
namespace Go.Proofs.Ytcdpdijfgeeenaa.Li
open Go.RowKit
open Go.Proofs.Ytcdpdijfgeeenaa.Sb
set_option linter.unusedVariables false
set_option linter.unusedSimpArgs false

/-- What a call makes of a line. -/
def actS (s : Ln) (a : Ac) : Ln := if a.k = 0 then putL s a.p else if a.k = 1 then tickL s else if a.k = 2 then takeL s else if a.k = 3 then cutS s a.d a.v else if a.k = 4 then flipS s a.d a.v else if a.k = 5 then insS s a.d (low8 a.v) else s
theorem actS_delay (s : Ln) (a : Ac) : (actS s a).delay = s.delay := by
  unfold actS
  repeat' split
  · unfold putL; split <;> rfl
  · rfl
  · rfl
  · unfold cutS; split <;> rfl
  · unfold flipS; split <;> rfl
  · unfold insS; split <;> rfl
  · rfl
theorem actS_passed (s : Ln) (a : Ac) : (actS s a).passed ≤ s.passed + 1 := by
  unfold actS
  repeat' split
  · unfold putL; split <;> exact Nat.le_succ _
  · exact Nat.le_refl _
  · exact Nat.le_succ _
  · unfold cutS; split <;> exact Nat.le_succ _
  · unfold flipS; split <;> exact Nat.le_succ _
  · unfold insS; split <;> exact Nat.le_succ _
  · exact Nat.le_succ _
theorem AcIn.below {w w' : World} {a : Ac} {R : Option Addr} {cr : Nat} (h : AcIn w a R cr) (hb : Below w.heap.size w w') : AcIn w' a R cr := ⟨h.le, h.sz, (h.rd.below hb).more hb.size, h.nil, h.i1, h.i2⟩
theorem play_any (M : Nat) (w : World) (D : Nat) (s : Ln) (A : Option Addr) (n c : Nat) (a : Ac) (R : Option Addr) (cr : Nat) (h : Lr M (fun _ => False) w D s) (hr : RW w A n c (ways s)) (ha : AcIn w a R cr) (hp : s.passed < 1000000) (hl : a.p.length ≤ 3000) :
    Calls Try.prog 10 #[.pointer (some ⟨D, 0, none⟩), .agg (lnV s.delay A n c), .agg (acV a.k a.d a.v R a.p.length cr)] w fun e w' => ∃ A' n' c', e = .returned (.tuple #[.agg (lnV s.delay A' n' c'), .bool true]) ∧ Hid (Pst M w D (actS s a) A' n' c' w') := by
  obtain ⟨k, d, v, p⟩ := a
  unfold actS
  by_cases h0 : k = 0
  · subst h0
    exact play_put M w D s A n c d v R cr p (Lib.hid h) (Lib.hid hr) (Lib.hid ha.rd) (Lib.hid ha.nil) hl
  rw [if_neg h0]
  by_cases h1 : k = 1
  · subst h1
    exact play_tick M w D s A n c d v R p.length cr (Lib.hid h) (Lib.hid hr) hp
  rw [if_neg h1]
  by_cases h2 : k = 2
  · subst h2
    exact play_take M w D s A n c d v R p.length cr (Lib.hid h) (Lib.hid hr)
  rw [if_neg h2]
  by_cases h3 : k = 3
  · subst h3
    exact play_drop M w D s A n c d v R p.length cr ha.i1 ha.i2 (Lib.hid h) (Lib.hid hr)
  rw [if_neg h3]
  by_cases h4 : k = 4
  · subst h4
    exact play_flip M w D s A n c d v R p.length cr ha.i1 ha.i2 (Lib.hid h) (Lib.hid hr)
  rw [if_neg h4]
  by_cases h5 : k = 5
  · subst h5
    exact play_insert M w D s A n c d v R p.length cr ha.i1 ha.i2 (Lib.hid h) (Lib.hid hr)
  rw [if_neg h5]
  exact play_none M w D s A n c k d v R p.length cr (Lib.hid h) (Lib.hid hr) h0 h1 h2 h3 h4 h5
theorem ac_size (k a n : Int) (R : Option Addr) (pn cr : Nat) : (Try.prog.info? 35).map (·.size) = some (acV k a n R pn cr).size := by
  show _ = some 4
  kernel_rfl
/-- A line is laid: as one operation of a drawn region. -/
theorem wp_alloc_ln2 {o : Oper} {a : Act} {w : World} {K : Act → World → Prop} {Q : Exit → Act → World → Prop} (ho : o.op = .alloc 29) (g : Nat) (hg : w.heap.size = g)
    (h : K (a.put o.dst (.pointer (some ⟨g, 0, none⟩))) (w.alloc (.cells (lnV 0 none 0 0) 29))) : o.wp Try.prog a w K Q := by
  subst hg
  unfold Oper.wp
  rw [alloc_ln _ _ ho, Oper.upon_value]
  exact h
/-- Both lines between two calls: the program's at D, the document's in the law's box g. -/
structure Bo (w0 W : World) (D g : Nat) (s : Ln) (A : Option Addr) (n c : Nat) : Prop where
  lr : Lr w0.heap.size (fun _ => False) W D s
  rw : RW W A n c (ways s)
  bx : Bl W g s.delay A n c
  bel : Below w0.heap.size w0 W
  gm : w0.heap.size ≤ g
theorem Bo.below {w0 W W' : World} {D g n c : Nat} {s : Ln} {A : Option Addr} (h : Bo w0 W D g s A n c) (hb : Below W.heap.size W W') : Bo w0 W' D g s A n c :=
  ⟨h.lr.below hb, h.rw.below hb, h.bx.below hb, h.bel.trans (hb.mono h.bel.size), h.gm⟩
/-- What is stored into a new box, and from there into the law's own. -/
theorem Bo.store {w0 V : World} {D g g10 d d0 n c n' c' n0 c0 : Nat} {s' : Ln} {A A' A0 : Option Addr} (hl : Lr w0.heap.size (fun _ => False) V D s') (hr : RW V A' n' c' (ways s')) (hx : Bl V g10 d0 A0 n0 c0) (hbx : Bl V g d A n c) (hb : Below w0.heap.size w0 V) (hg : w0.heap.size ≤ g) (hg10 : w0.heap.size ≤ g10) (hne : g ≠ g10) (hd : s'.delay = d) :
    Bl (V.setRow g10 (lnV d A' n' c')) g10 d A' n' c' ∧ Bl (V.setRow g10 (lnV d A' n' c')) g d A n c ∧ Bo w0 ((V.setRow g10 (lnV d A' n' c')).setRow g (lnV d A' n' c')) D g s' A' n' c' := by
  have h1 : Bl (V.setRow g10 (lnV d A' n' c')) g10 d A' n' c' := setRow_heap _ _ _ _ _ _ hx
  have h2 : Bl (V.setRow g10 (lnV d A' n' c')) g d A n c := (setRow_other V g10 g _ hne).trans hbx
  have b1 : But (fun k => k = g10) V (V.setRow g10 (lnV d A' n' c')) := (But.refl (fun k => k = g10) V).setRow (D := g10) (.inl rfl) _
  have b2 : But (fun k => k = g) (V.setRow g10 (lnV d A' n' c')) ((V.setRow g10 (lnV d A' n' c')).setRow g (lnV d A' n' c')) := (But.refl (fun k => k = g) _).setRow (D := g) (.inl rfl) _
  have l1 : Lr w0.heap.size (fun _ => False) (V.setRow g10 (lnV d A' n' c')) D s' := (hl.ko.but b1 fun k e => .inl (.inr (by rw [e]; exact hx.ko))).no
  have l2 := (l1.ko.but b2 fun k e => .inl (.inr (by rw [e]; exact h2.ko))).no
  refine ⟨h1, h2, l2, h2.rw_set (hx.rw_set hr _) _, ?_, Sb.below_setRow _ (Sb.below_setRow _ hb hg10) hg, hg⟩
  rw [hd]
  exact setRow_heap _ _ _ _ _ _ h2
end Go.Proofs.Ytcdpdijfgeeenaa.Li
