/- The law SenderOrder: what the model keeps, what the law's own list holds. -/
import Derived.Test.YtdfjlhiliifapaaSnActs
import Derived.Test.YtdfjlhiliifapaaSnWoke
namespace Go.Proofs.Ytdfjlhiliifapaa.Sn
open Go.RowKit
open Go.Proofs.Ytdfjlhiliifapaa.Me Go.Proofs.Ytdfjlhiliifapaa.Hd
set_option linter.unusedVariables false
set_option linter.unusedSimpArgs false

/-- g payloads of ps are gone, the others are the sender's. -/
def Gone (s : Snd) (ps : List (List Nat)) (g : Nat) : Prop := g + s.l.length = ps.length ∧ s.l = ps.drop g ∧ s.base = g % 128
theorem Gone.new (n : Nat) : Gone (newS n) [] 0 := ⟨rfl, rfl, rfl⟩
theorem Gone.push {s : Snd} {ps : List (List Nat)} {g : Nat} (h : Gone s ps g) (p : List Nat) (he : pushE s p = 0) : Gone (pushS s p) (ps ++ [p]) g ∧ (pushS s p).size = s.size ∧ (pushS s p).under = s.under := by
  obtain ⟨h1, h2, h3⟩ := h
  unfold pushS
  rw [if_pos he]
  refine ⟨⟨by simp; omega, ?_, h3⟩, rfl, rfl⟩
  show s.l ++ [p] = (ps ++ [p]).drop g
  rw [List.drop_append_of_le_length (by omega), h2]
theorem Gone.keep {s : Snd} {p : List Nat} (he : pushE s p ≠ 0) : pushS s p = s := by unfold pushS; rw [if_neg he]
theorem Gone.ack {s : Snd} {ps : List (List Nat)} {g : Nat} (h : Gone s ps g) (ok : s.Ok) (n : Int) : Gone (ackS s n) ps (g + ackN s n) ∧ (ackS s n).size = s.size ∧ (ackS s n).under + ackN s n = s.under := by
  unfold ackS ackN
  by_cases he : ackE s n = 0
  · rw [if_pos he, if_pos he]
    obtain ⟨h1, h2, h3⟩ := h
    obtain ⟨e1, e2, e3⟩ := ack_ok he
    have hul := ok.ul
    refine ⟨⟨by simp only [List.length_drop]; omega, ?_, ?_⟩, rfl, by simp only; omega⟩
    · show s.l.drop (wayOf s n) = ps.drop (g + wayOf s n)
      rw [h2, List.drop_drop]
    · show n.toNat = (g + wayOf s n) % 128
      unfold wayOf at e3 ⊢
      rw [h3] at e3 ⊢
      omega
  · rw [if_neg he, if_neg he]
    exact ⟨h, rfl, rfl⟩
theorem Gone.send {s : Snd} {ps : List (List Nat)} {g : Nat} (h : Gone s ps g) : Gone (sendS s) ps g ∧ (sendS s).size = s.size ∧ (sendS s).under = s.under + (if sendOk s then 1 else 0) := by
  unfold sendS
  by_cases hs : sendOk s = true
  · rw [if_pos hs, if_pos hs]
    exact ⟨h, rfl, rfl⟩
  · rw [if_neg hs, if_neg hs]
    exact ⟨h, rfl, rfl⟩
theorem Gone.sent {s : Snd} {ps : List (List Nat)} {g : Nat} (h : Gone s ps g) (hs : sendOk s = true) : g + s.under < ps.length ∧ sendN s = (g + s.under) % 128 ∧ sendP s = lsAt ps (g + s.under) := by
  obtain ⟨h1, h2, h3⟩ := h
  have hlt := (of_decide_eq_true hs).2
  refine ⟨by omega, ?_, ?_⟩
  · unfold sendN; rw [if_pos hs, h3]; omega
  · unfold sendP; rw [if_pos hs, h2, lsAt_drop]
/-- The law's own list: slices that came in. -/
def PushedO (w0 wr : World) (v : Value) (ps : List (List Nat)) : Prop :=
  ∃ vs : List Value, wr.ownsRow 0 36 1 v ps.length vs ∧ (∀ k, v.ownBlock = some k → w0.heap.size ≤ k) ∧ ∀ j, j < ps.length → ∃ R cr, vs[j]? = some (.slice R (lsAt ps j).length cr) ∧ Me.Rd w0 w0.heap.size R (lsAt ps j) ∧ (R = none → (lsAt ps j).length = 0 ∧ cr = 0)
theorem PushedO.lit {w0 wr : World} (hb : w0.heap.size ≤ wr.heap.size) : PushedO w0 (wr.alloc (.cells #[] 36)) (.slice (some ⟨wr.heap.size, 0, none⟩) 0 0) [] :=
  ⟨[], World.ownsRow_made wr #[] 0 (Nat.zero_le _) (by unfold maxLen; omega) rfl, fun k e => by cases e; exact hb, fun j hj => absurd hj (by simp)⟩
theorem PushedO.but {w0 w w' : World} {v : Value} {ps : List (List Nat)} {S : Nat → Prop} (h : PushedO w0 w v ps) (hb : But S w w') (hS : ∀ k, v.ownBlock = some k → ¬ S k) : PushedO w0 w' v ps := by
  obtain ⟨vs, h1, h2, h3⟩ := h
  exact ⟨vs, own_same h1 fun k e hk => hb.same k hk (hS k e), h2, h3⟩
theorem PushedO.lt {w0 w : World} {v : Value} {ps : List (List Nat)} (h : PushedO w0 w v ps) : ∀ k, v.ownBlock = some k → k < w.heap.size := by
  obtain ⟨vs, h1, _, _⟩ := h
  exact own_lt h1
theorem PushedO.form {w0 w : World} {v : Value} {ps : List (List Nat)} (h : PushedO w0 w v ps) : ∃ A c, v = .slice A ps.length c := by
  obtain ⟨vs, h1, _, _⟩ := h
  rcases h1.2 with ⟨rfl, e⟩ | ⟨g, cap, cur, rfl, _⟩
  · exact ⟨none, 0, by rw [e]⟩
  · exact ⟨_, _, rfl⟩
theorem PushedO.elem {w0 w : World} {A : Option Addr} {n c : Nat} {ps : List (List Nat)} (h : PushedO w0 w (.slice A n c) ps) {j : Nat} (hj : j < ps.length) :
    ∃ g R cr, A = some ⟨g, 0, none⟩ ∧ w.cell? ⟨g, j, none⟩ = some (.slice R (lsAt ps j).length cr) ∧ Me.Rd w0 w0.heap.size R (lsAt ps j) ∧ (R = none → (lsAt ps j).length = 0 ∧ cr = 0) := by
  obtain ⟨vs, h1, h2, h3⟩ := h
  obtain ⟨R, cr, e, r1, r2⟩ := h3 j hj
  rcases h1.2 with ⟨_, e0⟩ | ⟨g, cap, cur, e1, _⟩
  · omega
  · simp only [Value.slice.injEq] at e1
    obtain ⟨rfl, rfl, rfl⟩ := e1
    exact ⟨g, R, cr, rfl, by rw [h1.cellAt j (by omega)]; exact e, r1, r2⟩
/-- One slice that came in appended to the law's own list. -/
theorem appO {w0 w wl : World} {ops : Array Oper} {rest : List Oper} {o : Oper} {a : Act} {Q : Exit → Act → World → Prop} (hgd : o.guard = none) (s x : Operand)
    (ho : o.op = .call { callee := .builtin .append, args := #[s, x], argTypes := #[27, 27] })
    (v : Value) (ps : List (List Nat)) (r : List Nat) (R : Option Addr) (cr : Nat) (hs : a.eval s = v) (hw : w = wl.alloc (.cells #[.slice R r.length cr] 36)) (hv : PushedO w0 wl v ps) (hr : Me.Rd w0 w0.heap.size R r) (hR : R = none → r.length = 0 ∧ cr = 0) (hb : w0.heap.size ≤ wl.heap.size)
    (hx : a.eval x = .slice (some ⟨wl.heap.size, 0, none⟩) 1 1) (hlen : (ps.length + 1) * 24 ≤ 140737488355328)
    (h : ∀ v' w', PushedO w0 w' v' (ps ++ [r]) → w.grownBy w' v.ownBlock → (∀ k, v'.ownBlock = some k → v.ownBlock = some k ∨ w.heap.size ≤ k) → wpList Try.prog ops Q rest (a.put o.dst v') w') : wpList Try.prog ops Q (o :: rest) a w := by
  obtain ⟨i0, hi, hz0, hz1, hz2⟩ := info_parts info24
  obtain ⟨vs, h1, h1p, h3⟩ := hv
  have hba : Below wl.heap.size wl w := by rw [hw]; exact (Below.refl _ _).alloc (Nat.le_refl _) _
  have h1' : w.ownsRow 0 36 1 v ps.length vs := own_same h1 fun k _ hk => hba.block k hk
  have hvl : vs.length = ps.length := by have := h1.1; omega
  refine wpList_append_own2 hgd s x 27 ho 36 i0 (.slice none 0 0) 24 Try.underlying27 hi hz0 hz1 hz2 rfl v ps.length vs hs h1' ⟨wl.heap.size, 0, none⟩ 1 1 [.slice R r.length cr] hx rfl
    (by
      intro j u hj
      rw [hw]
      obtain rfl : j = 0 := by
        apply Classical.byContradiction
        intro hn
        rw [List.getElem?_eq_none (by simp; omega)] at hj; cases hj
      rw [add_mk, cell_of_row _ wl.heap.size 0 _ 36 (0, 0) (heap_alloc_new wl _)]
      simpa using hj)
    (by simp [Value.oneCell']) (by unfold maxLen; omega) hlen ?_
  intro v' w' q1 q2 q3
  refine h v' w' ⟨vs ++ [.slice R r.length cr], by simpa using q1, fun k e => ?_, fun j hj => ?_⟩ q2 q3
  · rcases q3 k e with h' | h'
    · exact h1p k h'
    · exact Nat.le_trans hb (Nat.le_trans hba.size h')
  · simp only [List.length_append, List.length_singleton] at hj
    by_cases hlt : j < ps.length
    · obtain ⟨R', cr', e, r1, r2⟩ := h3 j hlt
      rw [lsAt_append_left hlt]
      exact ⟨R', cr', by rw [List.getElem?_append_left (by omega)]; exact e, r1, r2⟩
    · obtain rfl : j = ps.length := by omega
      rw [lsAt_append_right (by omega), Nat.sub_self, show lsAt [r] 0 = r from rfl]
      exact ⟨R, cr, by rw [List.getElem?_append_right (by omega), hvl, Nat.sub_self]; rfl, hr, hR⟩
/-- The sender behind an append to other memory. -/
theorem Sn.swap {M : Nat} {O O' : Nat → Prop} {w w' : World} {D : Nat} {s : Snd} {row : Option Nat} (h : Sn M O w D s) (hg : w.grownBy w' row) (hrow : ∀ k, row = some k → O k ∨ w.heap.size ≤ k) (hO' : ∀ k, O' k → O k ∨ w.heap.size ≤ k) : Sn M O' w' D s := by
  obtain ⟨F, A, c, hq, hF⟩ := h
  refine ⟨F, A, c, hq.kept fun k hk hf => ⟨hg.block k hk fun e => ?_, hf⟩, fun k hk => ⟨(hF k hk).1, Nat.lt_of_lt_of_le (hF k hk).2.1 hg.size, fun ho => ?_⟩⟩
  · rcases hrow k e.symm with h' | h'
    · exact (hF k hf).2.2 h'
    · omega
  · obtain ⟨f1, f2, f3⟩ := hF k hk
    rcases hO' k ho with h' | h'
    · exact f3 h'
    · omega
/-- What a round of SenderOrder holds. -/
def OrdI (w0 : World) (D n : Nat) (ps : List (List Nat)) (out k : Nat) (v : Value) (wr : World) : Prop :=
  ∃ s g, s.Ok ∧ s.size = n ∧ Gone s ps g ∧ out = g + s.under ∧ ps.length ≤ k ∧ Sn w0.heap.size (fun q => v.ownBlock = some q) wr D s ∧ PushedO w0 wr v ps ∧ Below w0.heap.size w0 wr
end Go.Proofs.Ytdfjlhiliifapaa.Sn
