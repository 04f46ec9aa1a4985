/- What lies in memory where one decoder was fed at once and another one, cloned again and again, is fed in parts. -/
import Derived.Test.YtoaffkmjobmhaaaHdInts
import Derived.Test.YtoaffkmjobmhaaaHdFinds
namespace Go.Proofs.Ytoaffkmjobmhaaa.Hd
open Go.RowKit
open Go.Proofs.Ytoaffkmjobmhaaa.Me Go.Proofs.Ytoaffkmjobmhaaa.St
open Go.Proofs.Ytoaffkmjobmhaaa.Cr (addL rightB)
set_option linter.unusedVariables false
set_option linter.unusedSimpArgs false

/-- Since Wa, where all was fed at once, only the block D0 has changed; the decoder in parts lies at D and is d, and what it told is v. -/
structure PS (Wa : World) (D0 : Nat) (D : Nat) (d : Dec) (A : Option Addr) (c : Nat) (ts : List (List Nat)) (v : Value) (W : World) : Prop where
  K : Dblk W D d (.slice A d.inn.length c)
  O : Me.Own W 0 (.slice A d.inn.length c) d.inn
  o : ∀ j, (Value.slice A d.inn.length c).ownBlock = some j → Wa.heap.size ≤ j
  n : D = D0 ∨ Wa.heap.size ≤ D
  R : Rws (fun k => Wa.heap.size ≤ k ∧ k ≠ D ∧ (Value.slice A d.inn.length c).ownBlock ≠ some k) W v ts
  B : But (fun j => j = D0) Wa W
  E : D0 < Wa.heap.size
/-- Behind Clone, the old one's Feed and the new one's: what the append of what it told wants. -/
theorem PS.step {Wa wr w1 w1a w2 w3 : World} {D0 D E c c1 : Nat} {d d1 d2 : Dec} {A A1 : Option Addr} {ts t1 t2 : List (List Nat)} {v v1 vr : Value} (h : PS Wa D0 D d A c ts v wr)
    (hE : wr.heap.size ≤ E) (hD1 : Dblk w1 E d (.slice A1 d.inn.length c1)) (hO1 : Me.Own w1 wr.heap.size (.slice A1 d.inn.length c1) d.inn) (h1 : Below wr.heap.size wr w1) (h1a : Below w1.heap.size w1 w1a)
    (h2 : FeedN w1a D (.slice A d.inn.length c) d1 t1 v1 w2) (h3 : FeedN w2 E (.slice A1 d.inn.length c1) d2 t2 vr w3) :
    ∃ A2 c2, Dblk w3 E d2 (.slice A2 d2.inn.length c2) ∧ Me.Own w3 0 (.slice A2 d2.inn.length c2) d2.inn ∧ (∀ j, (Value.slice A2 d2.inn.length c2).ownBlock = some j → Wa.heap.size ≤ j) ∧ Wa.heap.size ≤ E ∧
      Rws (fun k => Wa.heap.size ≤ k ∧ k ≠ E ∧ (Value.slice A2 d2.inn.length c2).ownBlock ≠ some k) w3 v ts ∧ Rws (fun k => Wa.heap.size ≤ k ∧ k ≠ E ∧ (Value.slice A2 d2.inn.length c2).ownBlock ≠ some k) w3 vr t2 ∧ But (fun j => j = D0) Wa w3 ∧ E < w3.heap.size ∧ (∀ j, (Value.slice A2 d2.inn.length c2).ownBlock = some j → j < w3.heap.size) := by
  obtain ⟨B1, b1, _, _, _, e4, _⟩ := h2
  obtain ⟨A2, c2, f1, f2, f3, f4, f5⟩ := h3
  have s0 := h.B.size
  have s1 := h1.size
  have s1a := h1a.size
  have s2 := e4.size
  have s3 := f4.size
  have hEl := hD1.lt
  have hOl : ∀ j, (Value.slice A1 d.inn.length c1).ownBlock = some j → wr.heap.size ≤ j ∧ j < w1.heap.size := hO1.lt
  have hA2 : ∀ j, (Value.slice A2 d2.inn.length c2).ownBlock = some j → j < w3.heap.size ∧ (wr.heap.size ≤ j) := fun j hj => ⟨own_lt f2 j hj, by
    rcases f3 j hj with h' | h'
    · exact (hOl j h').1
    · omega⟩
  have k13 : ∀ k, k < wr.heap.size → k ≠ D → (Value.slice A d.inn.length c).ownBlock ≠ some k → w3.heap[k]? = wr.heap[k]? := fun k hk n1 n2 =>
    (((f4.same k (by omega) fun hs => by
      rcases hs with hs | hs
      · omega
      · have := (hOl k hs).1; omega).trans (e4.same k (by omega) fun hs => by
        rcases hs with hs | hs
        · exact n1 hs
        · exact n2 hs)).trans (h1a.block k (by omega))).trans (h1.block k hk)
  refine ⟨A2, c2, f1, f2, fun j hj => Nat.le_trans s0 (hA2 j hj).2, by omega, ?_, ?_, ?_, f1.lt, fun j hj => (hA2 j hj).1⟩
  · refine (h.R.mono (P' := fun k => (Wa.heap.size ≤ k ∧ k ≠ D ∧ (Value.slice A d.inn.length c).ownBlock ≠ some k) ∧ k < wr.heap.size) fun k hk hp => ⟨hp, hk⟩).kept (fun k hp hk => k13 k hk hp.1.2.1 hp.1.2.2) |>.mono fun k _ hp => ⟨hp.1.1, by have := hp.2; omega, fun e => by have := (hA2 k e).2; have := hp.2; omega⟩
  · exact f5.mono fun k _ hp => ⟨by have := hp.1; omega, by have := hp.1; omega, hp.2⟩
  · have b1' : But (fun j => j = D0) Wa w1 := h.B.trans (But.of_below (S := fun _ => False) h1) fun _ _ h => h.elim
    have b1a : But (fun j => j = D0) Wa w1a := b1'.trans (But.of_below (S := fun _ => False) h1a) fun _ _ h => h.elim
    have b2 : But (fun j => j = D0) Wa w2 := b1a.trans e4 fun k hk hs => by
      rcases hs with rfl | hs
      · rcases h.n with h' | h'
        · exact h'
        · omega
      · have := h.o k hs; omega
    exact b2.trans f4 fun k hk hs => by
      rcases hs with hs | hs
      · omega
      · have := (hOl k hs).1; omega
/-- The last bytes: behind a Feed alone. -/
theorem PS.last {Wa wr w3 : World} {D0 D c : Nat} {d d2 : Dec} {A : Option Addr} {ts t2 : List (List Nat)} {v vr : Value} (h : PS Wa D0 D d A c ts v wr) (h3 : FeedN wr D (.slice A d.inn.length c) d2 t2 vr w3) :
    ∃ A2 c2, Dblk w3 D d2 (.slice A2 d2.inn.length c2) ∧ Rws (fun k => Wa.heap.size ≤ k ∧ k ≠ D) w3 v ts ∧ Rws (fun k => Wa.heap.size ≤ k ∧ k ≠ D) w3 vr t2 ∧ But (fun j => j = D0) Wa w3 := by
  obtain ⟨A2, c2, f1, f2, f3, f4, f5⟩ := h3
  have s0 := h.B.size
  have hDl := h.K.lt
  refine ⟨A2, c2, f1, ?_, f5.mono fun k _ hp => ⟨by have := hp.1; omega, by have := hp.1; omega⟩, h.B.trans f4 fun k hk hs => ?_⟩
  · refine (h.R.kept fun k hp hk => f4.same k hk fun hs => ?_).mono fun k _ hp => ⟨hp.1, hp.2.1⟩
    rcases hs with hs | hs
    · exact hp.2.1 hs
    · exact hp.2.2 hs
  · rcases hs with rfl | hs
    · rcases h.n with h' | h'
      · exact h'
      · omega
    · have := h.o k hs; omega
/-- Behind the append. -/
theorem PS.app {Wa w3 w4 : World} {D0 E c2 : Nat} {d2 : Dec} {A2 : Option Addr} {ts : List (List Nat)} {v v' : Value} {ts' : List (List Nat)} (hD : Dblk w3 E d2 (.slice A2 d2.inn.length c2)) (hO : Me.Own w3 0 (.slice A2 d2.inn.length c2) d2.inn) (ho : ∀ j, (Value.slice A2 d2.inn.length c2).ownBlock = some j → Wa.heap.size ≤ j) (hn : Wa.heap.size ≤ E) (hB : But (fun j => j = D0) Wa w3) (hE : D0 < Wa.heap.size)
    (hR : Rws (fun k => Wa.heap.size ≤ k ∧ k ≠ E ∧ (Value.slice A2 d2.inn.length c2).ownBlock ≠ some k) w3 v ts) (hR' : Rws (fun k => Wa.heap.size ≤ k ∧ k ≠ E ∧ (Value.slice A2 d2.inn.length c2).ownBlock ≠ some k) w4 v' ts') (hg : w3.grownBy w4 v.ownBlock) : PS Wa D0 E d2 A2 c2 ts' v' w4 := by
  obtain ⟨vs, r1, r2, _⟩ := hR
  refine ⟨(hg.block E hD.lt fun e => (r2 E e.symm).2.1 rfl).trans hD, own_same hO fun k hk hk' => hg.block k hk' fun e => (r2 k e.symm).2.2 hk, ho, .inr hn, hR', hB.grown hg fun r e => .inr (r2 r e).1, hE⟩
end Go.Proofs.Ytoaffkmjobmhaaa.Hd
