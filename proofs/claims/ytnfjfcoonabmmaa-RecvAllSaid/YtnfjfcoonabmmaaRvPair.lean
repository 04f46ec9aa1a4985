/- A sender and a receiver in memory, with the law's own lists. -/
import Derived.Test.YtnfjfcoonabmmaaRvPst
import Derived.Maps.AppendAt
namespace Go.Proofs.Ytnfjfcoonabmmaa.Sn
open Go.RowKit
open Go.Proofs.Ytnfjfcoonabmmaa.Me Go.Proofs.Ytnfjfcoonabmmaa.Hd
set_option linter.unusedVariables false
set_option linter.unusedSimpArgs false

/-- Bytes in blocks of G stay where T is none of them. -/
def No8 (G T : Nat → Prop) (w : World) : Prop := ∀ k cs, G k → w.heap[k]? = some (.cells cs 5 (0, 0)) → ¬ T k
theorem No8.of {G T : Nat → Prop} {w : World} (h : ∀ k, T k → ∃ o, w.heap[k]? = some o ∧ ∀ cs, o ≠ .cells cs 5 (0, 0)) : No8 G T w := fun k cs _ hc ht => by
  obtain ⟨o, h1, h2⟩ := h k ht
  rw [h1] at hc
  exact h2 cs (Option.some.inj hc)
theorem cells_ne {cs cs' : Array Value} {t t' : TypeId} (h : t ≠ t') : (.cells cs t (0, 0) : Obj) ≠ .cells cs' t' (0, 0) := fun e => by
  simp only [Obj.cells.injEq] at e
  exact h e.2.1
theorem El.turn {G G' T : Nat → Prop} {w w' : World} {u : Value} {l : List Nat} (h : El G w u l) (hb : But T w w') (h8 : No8 G T w) (hG : ∀ k, k < w.heap.size → G k → G' k) : El G' w' u l :=
  h.kept fun k cs hg hc => ⟨hb.same k (Array.getElem?_eq_some_iff.1 hc).1 (h8 k cs hg hc), hG k (Array.getElem?_eq_some_iff.1 hc).1 hg⟩
theorem Ls.turn {G G' T : Nat → Prop} {w w' : World} {A : Option Addr} {c : Nat} {ls : List (List Nat)} (h : Ls G w A c ls) (hb : But T w w') (h8 : No8 G T w) (h1 : ∀ k, bk A k → ¬ T k) (hG : ∀ k, k < w.heap.size → G k → G' k) : Ls G' w' A c ls := by
  rcases h with h | ⟨g, off, cur, e, e1, e2, e3, e4, e5, e6⟩
  · exact .inl h
  · have hg := (Array.getElem?_eq_some_iff.1 e2).1
    refine .inr ⟨g, off, cur, e, hG g hg e1, (hb.same g hg (h1 g ⟨_, e, rfl⟩)).trans e2, e3, e4, e5, fun j hj => ?_⟩
    obtain ⟨u, u1, u2⟩ := e6 j hj
    exact ⟨u, u1, u2.turn hb h8 hG⟩
theorem Ls.ne {G : Nat → Prop} {w : World} {A : Option Addr} {c q : Nat} {ls : List (List Nat)} {o : Obj} (h : Ls G w A c ls) (hq : w.heap[q]? = some o) (ho : ∀ cs, o ≠ .cells cs 32 (0, 0)) : ¬ bk A q := fun hk => by
  obtain ⟨_, _, cur, hc⟩ := h.blk q hk
  rw [hq] at hc
  exact ho cur (Option.some.inj hc)
theorem Sn.butG {M : Nat} {O O' T : Nat → Prop} {w w' : World} {D : Nat} {s : Snd} (h : Sn M O w D s) (hb : But T w w') (hT : ∀ k, T k → O k ∨ k < M ∨ w.heap.size ≤ k) (hO' : ∀ k, O' k → O k ∨ w.heap.size ≤ k) : Sn M O' w' D s := by
  obtain ⟨F, A, c, hq, hF⟩ := h
  refine ⟨F, A, c, hq.but hb fun k hk ht => ?_, fun k hk => ⟨(hF k hk).1, Nat.lt_of_lt_of_le (hF k hk).2.1 hb.size, fun ho => ?_⟩⟩
  · obtain ⟨f1, f2, f3⟩ := hF k hk
    rcases hT k ht with h' | h' | h'
    · exact f3 h'
    · omega
    · omega
  · obtain ⟨f1, f2, f3⟩ := hF k hk
    rcases hO' k ho with h' | h'
    · exact f3 h'
    · omega
end Go.Proofs.Ytnfjfcoonabmmaa.Sn
namespace Go.Proofs.Ytnfjfcoonabmmaa.Rv
open Go.RowKit
open Go.Proofs.Ytnfjfcoonabmmaa.Me Go.Proofs.Ytnfjfcoonabmmaa.Hd Go.Proofs.Ytnfjfcoonabmmaa.Sn
/-- What was sent, in order: its numbers, its bytes. -/
def Wy (G : Nat → Prop) (w : World) (v : Value) (S : Nat) (ps : List (List Nat)) : Prop :=
  ∃ xs, w.ownsRow 0 34 3 v S xs ∧ (∀ k, v.ownBlock = some k → G k) ∧
    ∀ j, j < S → xs[j * 3]? = some (.int .i64 0) ∧ xs[j * 3 + 1]? = some (.int .i64 ((j % 128 : Nat) : Int)) ∧ ∃ u, xs[j * 3 + 2]? = some u ∧ El G w u (lsAt ps j)
theorem Wy.nil (G : Nat → Prop) (w : World) (ps : List (List Nat)) : Wy G w (.slice none 0 0) 0 ps := ⟨[], World.ownsRow_nil w 0 _ 3, fun k e => (by cases e), fun j hj => absurd hj (by omega)⟩
theorem Wy.blk {G : Nat → Prop} {w : World} {v : Value} {S : Nat} {ps : List (List Nat)} (h : Wy G w v S ps) : ∀ k, v.ownBlock = some k → G k ∧ ∃ cur, w.heap[k]? = some (.cells cur 34 (0, 0)) := by
  obtain ⟨xs, h1, h2, _⟩ := h
  exact fun k e => ⟨h2 k e, own_type h1 k e⟩
theorem Wy.ne {G : Nat → Prop} {w : World} {v : Value} {S q : Nat} {ps : List (List Nat)} {o : Obj} (h : Wy G w v S ps) (hq : w.heap[q]? = some o) (ho : ∀ cs, o ≠ .cells cs 34 (0, 0)) : v.ownBlock ≠ some q := fun e => by
  obtain ⟨_, cur, hc⟩ := h.blk q e
  rw [hq] at hc
  exact ho cur (Option.some.inj hc)
theorem Wy.turn {G G' T : Nat → Prop} {w w' : World} {v : Value} {S : Nat} {ps ps' : List (List Nat)} (h : Wy G w v S ps) (hb : But T w w') (h8 : No8 G T w) (h1 : ∀ k, v.ownBlock = some k → ¬ T k) (hG : ∀ k, k < w.heap.size → G k → G' k) (hps : ∀ j, j < S → lsAt ps' j = lsAt ps j) : Wy G' w' v S ps' := by
  obtain ⟨xs, q1, q2, q3⟩ := h
  refine ⟨xs, own_same q1 fun k e hk => hb.same k hk (h1 k e), fun k e => hG k (own_lt q1 k e) (q2 k e), fun j hj => ?_⟩
  obtain ⟨r1, r2, u, r3, r4⟩ := q3 j hj
  exact ⟨r1, r2, u, r3, by rw [hps j hj]; exact r4.turn hb h8 hG⟩
def pcs (Ds D : Nat) (A1 : Option Addr) (n1 c1 : Nat) (v2 : Value) (A3 : Option Addr) (n3 c3 : Nat) : Array Value := #[.pointer (some ⟨Ds, 0, none⟩), .pointer (some ⟨D, 0, none⟩), .slice A1 n1 c1, v2, .slice A3 n3 c3]
/-- All of it: the law's block P, the sender at Ds, the receiver at D; its own things bear G. -/
structure Pm (M : Nat) (G : Nat → Prop) (w : World) (P Ds D mb : Nat) (s : Snd) (r : Rcv) (ps : List (List Nat)) (S : Nat) (tl : List (List Nat)) (A1 : Option Addr) (c1 : Nat) (v2 : Value) (A3 : Option Addr) (c3 : Nat) : Prop where
  blk : w.heap[P]? = some (.cells (pcs Ds D A1 ps.length c1 v2 A3 tl.length c3) 47 (0, 0))
  gP : G P
  sn : Sn M G w Ds s
  rv : Rv G w D mb r
  pu : Ls G w A1 c1 ps
  wy : Wy G w v2 S ps
  to : Ls G w A3 c3 tl
  ne : ∀ k, bk A1 k → ¬ bk A3 k
  gM : ∀ k, G k → M ≤ k ∧ k < w.heap.size
  hM : M ≤ w.heap.size
section
variable {M : Nat} {G : Nat → Prop} {w w' : World} {P Ds D mb : Nat} {s : Snd} {r : Rcv} {ps tl : List (List Nat)} {S : Nat} {A1 A3 : Option Addr} {c1 c3 : Nat} {v2 : Value}
theorem Pm.lt (h : Pm M G w P Ds D mb s r ps S tl A1 c1 v2 A3 c3) : P < w.heap.size := (Array.getElem?_eq_some_iff.1 h.blk).1
theorem Pm.cell (h : Pm M G w P Ds D mb s r ps S tl A1 c1 v2 A3 c3) (i : Nat) : w.cell? ⟨P, i, none⟩ = (pcs Ds D A1 ps.length c1 v2 A3 tl.length c3)[i]? := cell_of_row w P i _ _ (0, 0) h.blk
theorem Pm.frozen (h : Pm M G w P Ds D mb s r ps S tl A1 c1 v2 A3 c3) (i : Nat) : w.frozen? ⟨P, i, none⟩ = false := frozen_of_row w P i _ _ h.blk
theorem Pm.neD (h : Pm M G w P Ds D mb s r ps S tl A1 c1 v2 A3 c3) : P ≠ D := fun e => by
  have h1 := h.blk
  rw [e, h.rv.rq.blk] at h1
  exact cells_ne (by decide) (Option.some.inj h1)
theorem Pm.nem (h : Pm M G w P Ds D mb s r ps S tl A1 c1 v2 A3 c3) : P ≠ mb := fun e => by
  obtain ⟨es, c, hm⟩ := h.rv.rq.mp.isMap
  have h1 := h.blk
  rw [e, hm] at h1
  cases h1
/-- New blocks: some of them may be its own. -/
theorem Pm.grow (h : Pm M G w P Ds D mb s r ps S tl A1 c1 v2 A3 c3) (hb : Below w.heap.size w w') {G' : Nat → Prop} (hG : ∀ k, G k → G' k) (hG' : ∀ k, G' k → G k ∨ (w.heap.size ≤ k ∧ k < w'.heap.size)) : Pm M G' w' P Ds D mb s r ps S tl A1 c1 v2 A3 c3 := by
  have b := But.of_below (S := fun _ => False) hb
  have h8 : No8 G (fun _ => False) w := fun _ _ _ _ => id
  have hg : ∀ k, k < w.heap.size → G k → G' k := fun k _ => hG k
  exact ⟨(hb.block P h.lt).trans h.blk, hG P h.gP, Sn.butG h.sn b (fun _ h => h.elim) fun k hk => (hG' k hk).imp id And.left, (h.rv.below hb).mono fun k _ => hG k, h.pu.turn b h8 (fun _ _ => id) hg, h.wy.turn b h8 (fun _ _ => id) hg (fun _ _ => rfl), h.to.turn b h8 (fun _ _ => id) hg, h.ne,
    fun k hk => (hG' k hk).elim (fun q => ⟨(h.gM k q).1, Nat.lt_of_lt_of_le (h.gM k q).2 hb.size⟩) fun q => ⟨Nat.le_trans h.hM q.1, q.2⟩, Nat.le_trans h.hM hb.size⟩
theorem Pm.below (h : Pm M G w P Ds D mb s r ps S tl A1 c1 v2 A3 c3) (hb : Below w.heap.size w w') : Pm M G w' P Ds D mb s r ps S tl A1 c1 v2 A3 c3 := h.grow hb (fun _ => id) fun _ => .inl
/-- A call of the sender's. -/
theorem Pm.sender {s' : Snd} (h : Pm M G w P Ds D mb s r ps S tl A1 c1 v2 A3 c3) (hs : Sn M G w' Ds s') (hb : But (Out M G) w w') : Pm M G w' P Ds D mb s' r ps S tl A1 c1 v2 A3 c3 := by
  have h8 : No8 G (Out M G) w := fun k _ hg _ ht => ht.2 hg
  have hg : ∀ k, k < w.heap.size → G k → G k := fun k _ => id
  exact ⟨(hb.same P h.lt fun ht => ht.2 h.gP).trans h.blk, h.gP, hs, h.rv.but hb fun k hk ht => ht.2 hk, h.pu.turn hb h8 (fun k hk ht => ht.2 (h.pu.blk k hk).1) hg, h.wy.turn hb h8 (fun k hk ht => ht.2 (h.wy.blk k hk).1) hg (fun _ _ => rfl), h.to.turn hb h8 (fun k hk ht => ht.2 (h.to.blk k hk).1) hg, h.ne,
    fun k hk => ⟨(h.gM k hk).1, Nat.lt_of_lt_of_le (h.gM k hk).2 hb.size⟩, Nat.le_trans h.hM hb.size⟩
/-- A call of the receiver's. -/
theorem Pm.receiver {r' : Rcv} (h : Pm M G w P Ds D mb s r ps S tl A1 c1 v2 A3 c3) (hr : Rv (fun k => G k ∨ w.heap.size ≤ k) w' D mb r') (hb : But (fun k => k = D ∨ k = mb) w w') : Pm M (fun k => (G k ∨ w.heap.size ≤ k) ∧ k < w'.heap.size) w' P Ds D mb s r' ps S tl A1 c1 v2 A3 c3 := by
  obtain ⟨es, cm, hm⟩ := h.rv.rq.mp.isMap
  have hD := h.rv.rq.blk
  have hx : ∀ k, (k = D ∨ k = mb) → ∃ o, w.heap[k]? = some o ∧ ∀ t cs, t ≠ 57 → o ≠ .cells cs t (0, 0) := fun k hk => by
    rcases hk with rfl | rfl
    · exact ⟨_, hD, fun t cs ht => cells_ne fun e => ht e.symm⟩
    · exact ⟨_, hm, fun t cs _ e => by cases e⟩
  have h8 : No8 G (fun k => k = D ∨ k = mb) w := No8.of fun k hk => by
    obtain ⟨o, q1, q2⟩ := hx k hk
    exact ⟨o, q1, fun cs => q2 _ cs (by decide)⟩
  have hg : ∀ k, k < w.heap.size → G k → ((G k ∨ w.heap.size ≤ k) ∧ k < w'.heap.size) := fun k hk hk' => ⟨.inl hk', Nat.lt_of_lt_of_le hk hb.size⟩
  have hl : ∀ {A c ls}, Ls G w A c ls → ∀ k, bk A k → ¬ (k = D ∨ k = mb) := fun hA k hk ht => by
    obtain ⟨o, q1, q2⟩ := hx k ht
    exact hA.ne q1 (fun cs => q2 _ cs (by decide)) hk
  refine ⟨(hb.same P h.lt fun e => e.elim h.neD h.nem).trans h.blk, hg P h.lt h.gP, Sn.butG h.sn hb (fun k hk => .inl (by rcases hk with rfl | rfl; exact h.rv.gD; exact h.rv.gm)) fun k hk => hk.1, hr.mono fun k hk hk' => ⟨hk', hk⟩, h.pu.turn hb h8 (hl h.pu) hg, h.wy.turn hb h8 (fun k hk ht => ?_) hg (fun _ _ => rfl), h.to.turn hb h8 (hl h.to) hg, h.ne, fun k hk => ?_, Nat.le_trans h.hM hb.size⟩
  · obtain ⟨o, q1, q2⟩ := hx k ht
    exact h.wy.ne q1 (fun cs => q2 _ cs (by decide)) hk
  · exact ⟨hk.1.elim (fun q => (h.gM k q).1) fun q => Nat.le_trans h.hM q, hk.2⟩
end
end Go.Proofs.Ytnfjfcoonabmmaa.Rv
