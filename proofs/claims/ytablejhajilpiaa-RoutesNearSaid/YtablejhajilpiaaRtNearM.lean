/- RoutesNear: what each neighbour said last. -/
import Derived.Test.YtablejhajilpiaaRtVecL
namespace Go.Proofs.Ytablejhajilpiaa.Rt
open Go.RowKit Go.Maps
open Go.Proofs.Ytablejhajilpiaa.Sb
set_option linter.unusedVariables false
set_option linter.unusedSimpArgs false

/-- Costs that were said: where they lie, which ones, their slice's capacity. -/
structure Cs where
  R : Option Addr
  l : List Int
  c : Nat
def csv (f : Nat → Cs) : Array Value := ((List.range 64).map fun i => Value.slice (f i).R (f i).l.length (f i).c).toArray
theorem csv_size (f : Nat → Cs) : (csv f).size = 64 := by simp [csv]
theorem csv_at (f : Nat → Cs) {j : Nat} (h : j < 64) : (csv f)[j]? = some (.slice (f j).R (f j).l.length (f j).c) := by simp [csv, h]
def updS (f : Nat → Cs) (j : Nat) (x : Cs) : Nat → Cs := fun d => if d = j then x else f d
theorem csv_set (f : Nat → Cs) {j : Nat} (h : j < 64) (x : Cs) : (csv f).setIfInBounds j (.slice x.R x.l.length x.c) = csv (updS f j x) := by
  apply Array.ext_getElem?
  intro i
  rw [Array.getElem?_setIfInBounds, csv_size]
  by_cases hi : i < 64
  · rw [csv_at _ hi, csv_at _ hi]
    by_cases e : j = i
    · subst e
      simp [hi, updS]
    · rw [if_neg e]
      simp only [updS, if_neg (fun h : i = j => e h.symm)]
  · rw [Array.getElem?_eq_none (by rw [csv_size]; omega), Array.getElem?_eq_none (by rw [csv_size]; omega)]
    split
    · omega
    · rfl
def cs0 : Cs := ⟨none, [], 0⟩
theorem make_cs (a : Act) (o : Oper) (ho : o.op = .makeSlice 55 (.const (.int .i64 64)) (.const (.int .i64 64))) (w : World) :
    (execOp a.eval o).run Try.prog w = .ok (.value (.slice (some ⟨w.heap.size, 0, none⟩) 64 64)) (w.alloc (.cells (csv fun _ => cs0) 22 (0, 0))) := by
  unfold execOp
  rw [ho]
  kernel_rfl
/-- Block g holds these. -/
def Sd (w : World) (g : Nat) (f : Nat → Cs) : Prop := w.heap[g]? = some (.cells (csv f) 22 (0, 0))
theorem Sd.lt {w : World} {g : Nat} {f : Nat → Cs} (h : Sd w g f) : g < w.heap.size := (Array.getElem?_eq_some_iff.1 h).1
theorem Sd.cell {w : World} {g : Nat} {f : Nat → Cs} (h : Sd w g f) {j : Nat} (hj : j < 64) : w.cell? ⟨g, j, none⟩ = some (.slice (f j).R (f j).l.length (f j).c) := by rw [cell_of_row w g j _ _ (0, 0) h, csv_at f hj]
theorem Sd.frozen {w : World} {g : Nat} {f : Nat → Cs} (h : Sd w g f) (j : Nat) : w.frozen? ⟨g, j, none⟩ = false := frozen_of_row w g j _ _ h
theorem Sd.set {w : World} {g : Nat} {f : Nat → Cs} (h : Sd w g f) {j : Nat} (hj : j < 64) (x : Cs) : Sd (w.setCell ⟨g, j, none⟩ (.slice x.R x.l.length x.c)) g (updS f j x) := by
  unfold Sd
  rw [heap_setCell_same w g j _ _ _ h, csv_set f hj]
/-- The call's cells at every world that has only grown. -/
theorem acts_cells {w : World} {A : Option Addr} {ls : List Ac} (h : Acts w A ls) {k : Nat} (hk : k < ls.length) : ∃ b off R cr, A = some ⟨b, off, none⟩ ∧ AcIn w (acAt ls k) R cr ∧ ∀ W, Below w.heap.size w W → W.cell? ⟨b, off + k * 4, none⟩ = some (.int .i64 (acAt ls k).k) ∧ W.cell? ⟨b, off + k * 4 + 2, none⟩ = some (.int .i64 (acAt ls k).v) ∧ W.cell? ⟨b, off + k * 4 + 3, none⟩ = some (.slice R (acAt ls k).p.length cr) := by
  obtain ⟨b, off, R, cr, e, h1, c0, c1, c2, c3, hi⟩ := h k hk
  exact ⟨b, off, R, cr, e, hi, fun W hW => ⟨(hW.cell (p := ⟨b, off + k * 4, none⟩) h1).trans c0, (hW.cell (p := ⟨b, off + k * 4 + 2, none⟩) h1).trans c2, (hW.cell (p := ⟨b, off + k * 4 + 3, none⟩) h1).trans c3⟩⟩
/-- What was said stands there, and the table heard nothing else. -/
structure Nr (w W : World) (D mb : Nat) (v : Value) (t : Tb) (gs : Nat) (f : Nat → Cs) : Prop where
  tn : Tn w.heap.size W D mb v t
  sd : Sd W gs f
  bel : Below w.heap.size w W
  lo : w.heap.size ≤ gs
  gD : gs ≠ D
  gm : gs ≠ mb
  gv : ∀ k, v.ownBlock = some k → k ≠ gs
  rd : ∀ n, n < 64 → Mi.Rd w w.heap.size (f n).R (f n).l
  hk : ∀ n p, n < 64 → t.heard n = some p → (f n).l.length = 64 ∧ ∀ d, d < 64 → p.c d = Mi.at_ (f n).l d
  ns : ∀ d, d < 64 → t.set d = -1
section
variable {w W W' : World} {D mb gs : Nat} {v : Value} {t t' : Tb} {f : Nat → Cs}
theorem Nr.below (h : Nr w W D mb v t gs f) (hb : Below W.heap.size W W') : Nr w W' D mb v t gs f :=
  ⟨h.tn.below hb, (hb.block gs h.sd.lt).trans h.sd, go_on h.bel hb, h.lo, h.gD, h.gm, h.gv, h.rd, h.hk, h.ns⟩
theorem Nr.drew (h : Nr w W D mb v t gs f) : Nr w W.drew D mb v t gs f := h.below (Below.refl _ _).drew
theorem Nr.bel' (h : Nr w W D mb v t gs f) (hb : But (DM D mb) W W') : Below w.heap.size w W' := h.bel.trans (hb.below h.bel.size (by have := h.tn.gD; have := h.tn.gm; rintro k (e | e) <;> omega))
theorem Nr.sd' (h : Nr w W D mb v t gs f) (hb : But (DM D mb) W W') : Sd W' gs f := (hb.same gs h.sd.lt (by have := h.gD; have := h.gm; rintro (e | e) <;> omega)).trans h.sd
theorem Nr.no (h : Nr w W D mb v t gs f) (hb : But (DM D mb) W W') (ht : Tn w.heap.size W' D mb v t) : Nr w W' D mb v t gs f :=
  ⟨ht, h.sd' hb, h.bel' hb, h.lo, h.gD, h.gm, h.gv, h.rd, h.hk, h.ns⟩
theorem Nr.tick (h : Nr w W D mb v t gs f) (hb : But (DM D mb) W W') (ht : Tn w.heap.size W' D mb v (tickT t)) : Nr w W' D mb v (tickT t) gs f :=
  ⟨ht, h.sd' hb, h.bel' hb, h.lo, h.gD, h.gm, h.gv, h.rd, (fun n p hn hp => by
    have hp' : tickK t.age t.heard n = some p := hp
    unfold tickK at hp'
    split at hp'
    · cases hp'
    · rename_i p0 h0
      split at hp'
      · cases hp'
        exact h.hk n p0 hn h0
      · cases hp'), h.ns⟩
theorem Nr.hear (h : Nr w W D mb v t gs f) (hb : But (DM D mb) W W') {m : Nat} (hm : m < 64) {l : List Int} {R : Option Addr} {c : Nat} (hE : hearE t (m : Int) l = 0) (ht : Tn w.heap.size W' D mb v (hearT t (m : Int) l)) (hr : Mi.Rd w w.heap.size R l) :
    Nr w (W'.setCell ⟨gs, m, none⟩ (.slice R l.length c)) D mb v (hearT t (m : Int) l) gs (updS f m ⟨R, l, c⟩) := by
  have hs := h.sd' hb
  have hbb : But (fun k => k = gs) W' (W'.setCell ⟨gs, m, none⟩ (.slice R l.length c)) := (But.refl (fun k => k = gs) W').set (p := ⟨gs, m, none⟩) (.inl rfl) _
  have e1 := h.gD
  have e2 := h.gm
  have hh : hearT t (m : Int) l = ⟨t.self, t.nbs, t.age, t.set, putK t.heard m (nwOf l)⟩ := by
    unfold hearT
    rw [if_pos hE, show ((m : Int)).toNat = m by omega]
  refine ⟨ht.but hbb (fun e => e1 e.symm) (fun e => e2 e.symm) fun k hk e => h.gv k hk e, hs.set hm ⟨R, l, c⟩, (h.bel' hb).setCell (p := ⟨gs, m, none⟩) h.lo _, h.lo, h.gD, h.gm, h.gv, fun n hn => ?_, fun n p hn hp => ?_, fun d hd => ?_⟩
  · unfold updS
    split
    · exact hr
    · exact h.rd n hn
  · rw [hh] at hp
    have hp' : putK t.heard m (nwOf l) n = some p := hp
    unfold putK at hp'
    unfold updS
    split at hp'
    · rename_i e
      cases hp'
      rw [if_pos e]
      exact ⟨(hearE_ok hE).2.1, fun d hd => rfl⟩
    · rename_i e
      rw [if_neg e]
      exact h.hk n p hn hp'
  · rw [hh]
    exact h.ns d hd
/-- What the law asks of a destination. -/
theorem near_some (ok : t.Ok) (hk : ∀ n p, n < 64 → t.heard n = some p → (f n).l.length = 64 ∧ ∀ d, d < 64 → p.c d = Mi.at_ (f n).l d) (ns : ∀ d, d < 64 → t.set d = -1) {d : Nat} (hd : d < 64) (hh : waysH t d ≠ -1) : ∃ n : Nat, n < 64 ∧ waysH t d = (n : Int) ∧ (f n).l.length = 64 ∧ 0 ≤ Mi.at_ (f n).l d ∧ Mi.at_ (f n).l d ≤ 16 ∧ Mi.at_ (f n).l d + 1 = waysC t d ∧ waysC t d < 16 := by
  have hs : d ≠ t.self := fun e => hh (by rw [e]; exact wH_self t)
  rw [wH_way hs (ns d hd)] at hh ⊢
  rw [wC_way hs (ns d hd)]
  obtain ⟨_, _, h3⟩ := ways_spec t.heard d
  rcases h3 with ⟨_, e⟩ | ⟨hC, n, hn, e1, e2, _⟩
  · exact absurd e hh
  · obtain ⟨hn1, hn2⟩ := mem_froms.1 hn
    obtain ⟨p, hp⟩ := Option.isSome_iff_exists.1 hn2
    obtain ⟨g1, g2⟩ := hk n p hn1 hp
    have g3 := (ok.heard n p hn1 hp).2.1 d hd
    rw [costsOf_some hp] at e2
    have g4 := g2 d hd
    exact ⟨n, hn1, e1, g1, by omega, by omega, by omega, hC⟩
theorem near_none (ns : ∀ d, d < 64 → t.set d = -1) {d : Nat} (hd : d < 64) (hh : waysH t d = -1) (hs : d ≠ t.self) : waysC t d = 16 := by
  rw [wH_way hs (ns d hd)] at hh
  rw [wC_way hs (ns d hd)]
  obtain ⟨_, _, h3⟩ := ways_spec t.heard d
  rcases h3 with ⟨e, _⟩ | ⟨_, n, _, e1, _⟩
  · exact e
  · omega
end
end Go.Proofs.Ytablejhajilpiaa.Rt
