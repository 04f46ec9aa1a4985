/- A line beside a law's own lists: what was put in, what came out, where the parts end. -/
import Derived.Test.YtcdpdijfgeeenaaLnStateB
import Derived.Test.YtcdpdijfgeeenaaLnWholeP
import Derived.Test.YtcdpdijfgeeenaaLnRows
namespace Go.Proofs.Ytcdpdijfgeeenaa.Li
open Go.RowKit
open Go.Proofs.Ytcdpdijfgeeenaa.Sb
set_option linter.unusedVariables false
set_option linter.unusedSimpArgs false

structure Wi (M : Nat) (F : Nat → Prop) (w0 W : World) (D : Nat) (s : Ln) (vi vo ve : Value) (a b : List Nat) (e : List Int) : Prop where
  ln : Lr M F W D s
  oi : Me.Own W 0 vi a
  oo : Me.Own W 0 vo b
  oe : Mi.Own W 0 ve e
  fi : ∀ k, vi.ownBlock = some k → F k
  fo : ∀ k, vo.ownBlock = some k → F k
  fe : ∀ k, ve.ownBlock = some k → F k
  ne : ∀ k, vi.ownBlock = some k → vo.ownBlock ≠ some k
  mf : ∀ k, F k → M ≤ k
  bel : Below M w0 W
theorem own_types {w : World} {B B' n n' T T' : Nat} {v v' : Value} {xs xs' : List Value} (h : w.ownsRow B T 1 v n xs) (h' : w.ownsRow B' T' 1 v' n' xs') (hT : T ≠ T') {k : Nat} (hk : v.ownBlock = some k) : v'.ownBlock ≠ some k := by
  rcases h.2 with ⟨rfl, _⟩ | ⟨g, cap, cur, rfl, _, h3, _⟩
  · cases hk
  · obtain rfl : g = k := by simpa [Value.ownBlock] using hk
    exact fun e => own_ne h' h3 (Ne.symm hT) e
theorem Lr.grown {M : Nat} {F : Nat → Prop} {w w' : World} {D : Nat} {s : Ln} {row : Option Nat} {v' : Value} (h : Lr M F w D s) (hg : w.grownBy w' row) (hrow : ∀ k, row = some k → F k) (hn : ∀ k, v'.ownBlock = some k → F k ∨ w.heap.size ≤ k) (hlt : ∀ k, v'.ownBlock = some k → k < w'.heap.size) :
    Lr M (fun k => F k ∨ v'.ownBlock = some k) w' D s := by
  have hb : But F w w' := (But.refl _ _).grown hg fun r e => .inl (hrow r e)
  have h1 := h.but hb fun k hk => .inl hk
  refine ⟨?_, h1.ok, h1.m, fun k hk => ?_⟩
  · obtain ⟨vb, vd, hq, hF⟩ := h.li
    refine ⟨vb, vd, hq.but hb fun k hk hs => (hF k hk).2 hs, fun k hk => ⟨(hF k hk).1, fun ho => ?_⟩⟩
    rcases ho with h2 | h2
    · exact (hF k hk).2 h2
    · rcases hn k h2 with h3 | h3
      · exact (hF k hk).2 h3
      · have := hq.ltF k hk; omega
  · rcases hk with h2 | h2
    · exact h1.o k h2
    · exact hlt k h2
theorem Wi.line {M : Nat} {F : Nat → Prop} {w0 W W' : World} {D : Nat} {s s' : Ln} {vi vo ve : Value} {a b : List Nat} {e : List Int} (h : Wi M F w0 W D s vi vo ve a b e) (hl : Lr M F W' D s') (hb : But (Out M F) W W') : Wi M F w0 W' D s' vi vo ve a b e :=
  ⟨hl, own_same h.oi fun k e hk => hb.same k hk fun hs => hs.2 (h.fi k e), own_same h.oo fun k e hk => hb.same k hk fun hs => hs.2 (h.fo k e), Mi.Own.same h.oe fun k e hk => hb.same k hk fun hs => hs.2 (h.fe k e), h.fi, h.fo, h.fe, h.ne, h.mf, h.bel.trans (but_out hb h.ln.m)⟩
theorem Wi.belo {M : Nat} {F : Nat → Prop} {w0 W W' : World} {D : Nat} {s : Ln} {vi vo ve : Value} {a b : List Nat} {e : List Int} (h : Wi M F w0 W D s vi vo ve a b e) (hb : Below W.heap.size W W') : Wi M F w0 W' D s vi vo ve a b e :=
  h.line (h.ln.below hb) (But.of_below hb)
theorem Wi.inn {M : Nat} {F : Nat → Prop} {w0 W W' : World} {D : Nat} {s : Ln} {vi vo ve v' : Value} {a a' b : List Nat} {e : List Int} (h : Wi M F w0 W D s vi vo ve a b e) (ho : Me.Own W' 0 v' a') (hg : W.grownBy W' vi.ownBlock) (hn : ∀ k, v'.ownBlock = some k → vi.ownBlock = some k ∨ W.heap.size ≤ k) :
    Wi M (fun k => F k ∨ v'.ownBlock = some k) w0 W' D s v' vo ve a' b e := by
  refine ⟨h.ln.grown hg h.fi (fun k e => (hn k e).imp (h.fi k) id) (own_lt ho), ho, ?_, ?_, fun k e => .inr e, fun k e => .inl (h.fo k e), fun k e => .inl (h.fe k e), fun k e1 e2 => ?_, fun k hk => ?_, h.bel.grown hg h.ln.m fun k e => h.mf k (h.fi k e)⟩
  · exact own_same h.oo fun k e hk => hg.block k hk fun e2 => h.ne k e2.symm e
  · exact Mi.Own.same h.oe fun k e hk => hg.block k hk fun e2 => own_types h.oi h.oe (by decide) e2.symm e
  · rcases hn k e1 with h1 | h1
    · exact h.ne k h1 e2
    · have := own_lt h.oo k e2; omega
  · rcases hk with h1 | h1
    · exact h.mf k h1
    · rcases hn k h1 with h2 | h2
      · exact h.mf k (h.fi k h2)
      · exact Nat.le_trans h.ln.m h2
theorem Wi.out {M : Nat} {F : Nat → Prop} {w0 W W' : World} {D : Nat} {s : Ln} {vi vo ve v' : Value} {a b b' : List Nat} {e : List Int} (h : Wi M F w0 W D s vi vo ve a b e) (ho : Me.Own W' 0 v' b') (hg : W.grownBy W' vo.ownBlock) (hn : ∀ k, v'.ownBlock = some k → vo.ownBlock = some k ∨ W.heap.size ≤ k) :
    Wi M (fun k => F k ∨ v'.ownBlock = some k) w0 W' D s vi v' ve a b' e := by
  refine ⟨h.ln.grown hg h.fo (fun k e => (hn k e).imp (h.fo k) id) (own_lt ho), ?_, ho, ?_, fun k e => .inl (h.fi k e), fun k e => .inr e, fun k e => .inl (h.fe k e), fun k e1 e2 => ?_, fun k hk => ?_, h.bel.grown hg h.ln.m fun k e => h.mf k (h.fo k e)⟩
  · exact own_same h.oi fun k e hk => hg.block k hk fun e2 => h.ne k e e2.symm
  · exact Mi.Own.same h.oe fun k e hk => hg.block k hk fun e2 => own_types h.oo h.oe (by decide) e2.symm e
  · rcases hn k e2 with h1 | h1
    · exact h.ne k e1 h1
    · have := own_lt h.oi k e1; omega
  · rcases hk with h1 | h1
    · exact h.mf k h1
    · rcases hn k h1 with h2 | h2
      · exact h.mf k (h.fo k h2)
      · exact Nat.le_trans h.ln.m h2
theorem Wi.end {M : Nat} {F : Nat → Prop} {w0 W W' : World} {D : Nat} {s : Ln} {vi vo ve v' : Value} {a b : List Nat} {e e' : List Int} (h : Wi M F w0 W D s vi vo ve a b e) (ho : Mi.Own W' 0 v' e') (hg : W.grownBy W' ve.ownBlock) (hn : ∀ k, v'.ownBlock = some k → ve.ownBlock = some k ∨ W.heap.size ≤ k) :
    Wi M (fun k => F k ∨ v'.ownBlock = some k) w0 W' D s vi vo v' a b e' := by
  refine ⟨h.ln.grown hg h.fe (fun k e => (hn k e).imp (h.fe k) id) (own_lt ho), ?_, ?_, ho, fun k e => .inl (h.fi k e), fun k e => .inl (h.fo k e), fun k e => .inr e, h.ne, fun k hk => ?_, h.bel.grown hg h.ln.m fun k e => h.mf k (h.fe k e)⟩
  · exact own_same h.oi fun k e hk => hg.block k hk fun e2 => own_types h.oi h.oe (by decide) e e2.symm
  · exact own_same h.oo fun k e hk => hg.block k hk fun e2 => own_types h.oo h.oe (by decide) e e2.symm
  · rcases hk with h1 | h1
    · exact h.mf k h1
    · rcases hn k h1 with h2 | h2
      · exact h.mf k (h.fe k h2)
      · exact Nat.le_trans h.ln.m h2
/-- Bytes of one's own, as they are read. -/
theorem own_read {W : World} {v : Value} {l : List Nat} (h : Me.Own W 0 v l) (hl : ∀ z ∈ l, z < 256) : ∃ A c, v = .slice A l.length c ∧ l.length ≤ c ∧ c ≤ 9223372036854775807 ∧ Me.Rd W W.heap.size A l ∧ (A = none → l.length = 0 ∧ c = 0) := by
  obtain ⟨A, c, e, h1, h2, h3⟩ := h.held hl
  exact ⟨A, c, e, h1, h2, h3.rd, h3.2.2⟩
theorem own_conv {W : World} {A : Option Addr} {n c : Nat} {l : List Nat} (h : Me.Own W 0 (.slice A n c) l) (hl : ∀ z ∈ l, z < 256) (hn : l.length = n) (m : Nat) : (convert 33 9 (.slice A n c)).run Try.prog (W.drewN m) = .ok (.string (Me.strOf l)) (W.drewN m) := by
  obtain ⟨A', c', e, _, _, h2, h3⟩ := own_read h hl
  injection e with e1 e2 e3
  subst e1 e2 e3
  exact Me.conv_rd (W.drewN m) _ A l c (h2.below (Me.below_drewN (Below.refl _ _) m)) h3
theorem own_conv_take {W : World} {A : Option Addr} {n c k : Nat} {l : List Nat} (h : Me.Own W 0 (.slice A n c) l) (hl : ∀ z ∈ l, z < 256) (hk : k ≤ l.length) (m : Nat) : (convert 33 9 (.slice A k c)).run Try.prog (W.drewN m) = .ok (.string (Me.strOf (l.take k))) (W.drewN m) := by
  obtain ⟨A', c', e, _, _, h2, h3⟩ := own_read h hl
  injection e with e1 e2 e3
  subst e1 e2 e3
  have := Me.conv_rd (W.drewN m) _ A (l.take k) c ((h2.below (Me.below_drewN (Below.refl _ _) m)).take k) (fun e => by have := h3 e; rw [List.length_take]; omega)
  rw [List.length_take, Nat.min_eq_left hk] at this
  exact this
/-- Where the first i parts end. -/
def endsL (P : List (List Nat)) (i : Nat) : List Int := (List.range i).map fun t => ((tot P (t + 1) : Nat) : Int)
theorem ends_succ (P : List (List Nat)) (i : Nat) : endsL P i ++ [((tot P (i + 1) : Nat) : Int)] = endsL P (i + 1) := by simp [endsL, List.range_succ]
theorem ends_len (P : List (List Nat)) (i : Nat) : (endsL P i).length = i := by simp [endsL]
theorem ends_at (P : List (List Nat)) (i t : Nat) (h : t < i) : Mi.at_ (endsL P i) t = ((tot P (t + 1) : Nat) : Int) := by simp [Mi.at_, endsL, h]
theorem flat_bytes {P : List (List Nat)} {n : Nat} (h : ∀ j, j < n → ∀ z ∈ Me.lsAt P j, z < 256) : ∀ i, i ≤ n → ∀ z ∈ flat P i, z < 256
  | 0, _, z, hz => by simp [flat] at hz
  | i + 1, hi, z, hz => by
    rw [flat_succ] at hz
    rcases List.mem_append.1 hz with hz | hz
    · exact flat_bytes h i (by omega) z hz
    · exact h i (by omega) z hz
end Go.Proofs.Ytcdpdijfgeeenaa.Li
