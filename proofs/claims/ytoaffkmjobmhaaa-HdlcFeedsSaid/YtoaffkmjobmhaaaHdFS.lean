/- What lies in memory where a decoder of the program and one of the reference are fed the same bytes. -/
import Derived.Test.YtoaffkmjobmhaaaHdThere
namespace Go.Proofs.Ytoaffkmjobmhaaa.Hd
open Go.RowKit
open Go.Proofs.Ytoaffkmjobmhaaa.Me Go.Proofs.Ytoaffkmjobmhaaa.St
open Go.Proofs.Ytoaffkmjobmhaaa.Cr (addL rightB)
set_option linter.unusedVariables false
set_option linter.unusedSimpArgs false

/-- The program's decoder in the first block behind w, the reference's in block E: both are d. -/
structure FS (w : World) (E : Nat) (d : Dec) (A1 : Option Addr) (c1 : Nat) (A2 : Option Addr) (c2 : Nat) (W : World) : Prop where
  D : Dblk W w.heap.size d (.slice A1 d.inn.length c1)
  O : Me.Own W 0 (.slice A1 d.inn.length c1) d.inn
  o : ∀ j, (Value.slice A1 d.inn.length c1).ownBlock = some j → w.heap.size < j ∧ j ≠ E
  R : W.heap[E]? = some (.cells (rcells d (.slice A2 d.inn.length c2)) 34 (0, 0))
  I : Me.Own W 0 (.slice A2 d.inn.length c2) d.inn
  i : ∀ a, A2 = some a → w.heap.size < a.block ∧ a.block ≠ E ∧ (Value.slice A1 d.inn.length c1).ownBlock ≠ some a.block
  B : Below w.heap.size w W
  E : w.heap.size < E
theorem FS.lt {w W : World} {E c1 c2 : Nat} {d : Dec} {A1 A2 : Option Addr} (h : FS w E d A1 c1 A2 c2 W) : E < W.heap.size := (Array.getElem?_eq_some_iff.1 h.R).1
theorem FS.below {w W W' : World} {E c1 c2 : Nat} {d : Dec} {A1 A2 : Option Addr} (h : FS w E d A1 c1 A2 c2 W) (hb : Below W.heap.size W W') : FS w E d A1 c1 A2 c2 W' :=
  ⟨(hb.block _ h.D.lt).trans h.D, own_same h.O fun k _ hk => hb.block k hk, h.o, (hb.block _ h.lt).trans h.R, own_same h.I fun k _ hk => hb.block k hk, h.i, h.B.trans (hb.mono h.B.size), h.E⟩
theorem FS.step {w wr w3 w4 w5 w5a w6 w7 : World} {E c1 c2 c2' : Nat} {d d' : Dec} {A1 A2 A2' : Option Addr} {ts : List (List Nat)} {vr vw : Value} {F : Nat → Prop} (h : FS w E d A1 c1 A2 c2 wr) (h3 : Below wr.heap.size wr w3)
    (hF : FeedN w3 w.heap.size (.slice A1 d.inn.length c1) d' ts vr w4) (hI : InP w4.heap.size A2 c2 d.inn A2' c2' d'.inn w5) (hW : Rws (fun k => w4.heap.size ≤ k) w5 vw ts) (h5 : Below w4.heap.size w4 w5)
    (h5a : Below w5.heap.size w5 w5a) (h6 : But (fun j => j = E) w5a w6) (hE : w6.heap[E]? = some (.cells (rcells d' (.slice A2' d'.inn.length c2')) 34 (0, 0)))
    (h7 : But F w6 w7) (hFb : ∀ k, F k → wr.heap.size ≤ k ∧ k < w3.heap.size) :
    ∃ A1' c1', FS w E d' A1' c1' A2' c2' w7 ∧ Rws (fun _ => True) w7 vr ts ∧ Rws (fun _ => True) w7 vw ts := by
  obtain ⟨A1', c1', e1, e2, e3, e4, e5⟩ := hF
  have s3 := h3.size
  have s4 := e4.size
  have s5 := h5.size
  have s5a := h5a.size
  have s6 := h6.size
  have s7 := h7.size
  have hD := h.D.lt
  have hElt := h.lt
  have hEw := h.E
  have nF : ∀ k, k < wr.heap.size ∨ w3.heap.size ≤ k → ¬ F k := fun k hk hf => by have := hFb k hf; omega
  have k57 : ∀ k, k < w5.heap.size → k ≠ E → ¬ F k → w7.heap[k]? = w5.heap[k]? := fun k hk hne hf => ((h7.same k (by omega) hf).trans (h6.same k (by omega) hne)).trans (h5a.block k hk)
  have k47 : ∀ k, k < w4.heap.size → k ≠ E → ¬ F k → w7.heap[k]? = w4.heap[k]? := fun k hk hne hf => (k57 k (by omega) hne hf).trans (h5.block k hk)
  have hA1 : ∀ j, (Value.slice A1 d.inn.length c1).ownBlock = some j → j < wr.heap.size := own_lt h.O
  have hA1' : ∀ j, (Value.slice A1' d'.inn.length c1').ownBlock = some j → j < w4.heap.size ∧ w.heap.size < j ∧ j ≠ E ∧ ¬ F j := fun j hj => by
    refine ⟨own_lt e2 j hj, ?_⟩
    rcases e3 j hj with h' | h'
    · have := h.o j h'
      exact ⟨this.1, this.2, nF j (.inl (hA1 j h'))⟩
    · exact ⟨by omega, by omega, nF j (.inr h')⟩
  have hI5 : Me.Own w5 0 (.slice A2' d'.inn.length c2') d'.inn ∧ ∀ a, A2' = some a → w.heap.size < a.block ∧ a.block ≠ E ∧ ¬ F a.block ∧ (Value.slice A1' d'.inn.length c1').ownBlock ≠ some a.block := by
    rcases hI.2.2 with ⟨rfl, rfl, e⟩ | ⟨ho, hn⟩
    · rw [e]
      have hblk : ∀ a, A2' = some a → a.block < wr.heap.size := fun a ha => own_lt h.I a.block (by rw [ha]; rfl)
      refine ⟨own_same h.I fun k hk hk' => ?_, fun a ha => ?_⟩
      · cases hA : A2' with
        | none => rw [hA] at hk; cases hk
        | some a =>
          rw [hA] at hk
          cases hk
          obtain ⟨i1, i2, i3⟩ := h.i a hA
          have hb := hblk a hA
          refine ((h5.block _ (by omega)).trans (e4.same _ (by omega) fun hs => ?_)).trans (h3.block _ hb)
          rcases hs with hs | hs
          · omega
          · exact i3 hs
      · obtain ⟨i1, i2, i3⟩ := h.i a ha
        have hb := hblk a ha
        refine ⟨i1, i2, nF _ (.inl hb), fun hs => ?_⟩
        rcases e3 _ (by rw [e]; exact hs) with h' | h'
        · exact i3 h'
        · omega
    · refine ⟨ho, fun a ha => ?_⟩
      have hb := hn a ha
      refine ⟨by omega, by omega, nF _ (.inr (by omega)), fun hs => ?_⟩
      have := (hA1' _ hs).1
      omega
  refine ⟨A1', c1', ⟨(k47 _ (by omega) (by omega) (nF _ (.inl hD))).trans e1, own_same e2 fun k hk hk' => k47 k hk' (hA1' k hk).2.2.1 (hA1' k hk).2.2.2, fun j hj => ⟨(hA1' j hj).2.1, (hA1' j hj).2.2.1⟩, (h7.same _ (by omega) (nF _ (.inl hElt))).trans hE, own_same hI5.1 fun k hk hk' => ?_, fun a ha => ?_, ?_, hEw⟩, ?_, ?_⟩
  · cases hA : A2' with
    | none => rw [hA] at hk; cases hk
    | some a =>
      rw [hA] at hk
      cases hk
      obtain ⟨i1, i2, i3, _⟩ := hI5.2 a hA
      exact k57 _ hk' i2 i3
  · obtain ⟨i1, i2, _, i4⟩ := hI5.2 a ha
    exact ⟨i1, i2, i4⟩
  · have b3 : Below w.heap.size w w3 := h.B.trans (h3.mono h.B.size)
    have b4 : Below w.heap.size w w4 := b3.trans (e4.below b3.size fun k hk => by
      rcases hk with hk | hk
      · omega
      · have := (h.o k hk).1; omega)
    have b5 : Below w.heap.size w w5 := b4.trans (h5.mono b4.size)
    have b5a : Below w.heap.size w w5a := b5.trans (h5a.mono b5.size)
    have b6 : Below w.heap.size w w6 := b5a.trans (h6.below b5a.size fun k hk => by omega)
    exact b6.trans (h7.below b6.size fun k hk => by have := hFb k hk; have := h.B.size; omega)
  · exact (e5.kept fun k hk hk' => k47 k hk' (by have := hk.1; omega) (nF _ (.inr hk.1))).mono fun _ _ _ => trivial
  · exact (hW.kept fun k hk hk' => k57 k hk' (by omega) (nF _ (.inr (by omega)))).mono fun _ _ _ => trivial
/-- Behind the program's Feed. -/
theorem FS.mid {w wr w3 w4 : World} {E c1 c2 : Nat} {d d' : Dec} {A1 A2 : Option Addr} {ts : List (List Nat)} {vr : Value} (h : FS w E d A1 c1 A2 c2 wr) (hg : Good d) (h3 : Below wr.heap.size wr w3) (hF : FeedN w3 w.heap.size (.slice A1 d.inn.length c1) d' ts vr w4) :
    Below w.heap.size w w4 ∧ w4.heap[E]? = some (.cells (rcells d (.slice A2 d.inn.length c2)) 34 (0, 0)) ∧ Rd w4 w4.heap.size A2 d.inn ∧ (A2 = none → d.inn.length = 0 ∧ c2 = 0) ∧ (∀ a, A2 = some a → a.block < w4.heap.size) := by
  obtain ⟨A1', c1', e1, e2, e3, e4, e5⟩ := hF
  have s3 := h3.size
  have s4 := e4.size
  have hElt := h.lt
  have hEw := h.E
  have k4 : ∀ k, k < wr.heap.size → k ≠ w.heap.size → (Value.slice A1 d.inn.length c1).ownBlock ≠ some k → w4.heap[k]? = wr.heap[k]? := fun k hk h1 h2 => (e4.same k (by omega) fun hs => by
    rcases hs with hs | hs
    · exact h1 hs
    · exact h2 hs).trans (h3.block k hk)
  have b3 : Below w.heap.size w w3 := h.B.trans (h3.mono h.B.size)
  have o4 : Me.Own w4 0 (.slice A2 d.inn.length c2) d.inn := own_same h.I fun k hk hk' => by
    cases hA : A2 with
    | none => rw [hA] at hk; cases hk
    | some a =>
      rw [hA] at hk
      cases hk
      obtain ⟨i1, i2, i3⟩ := h.i a hA
      exact k4 _ hk' (by omega) i3
  obtain ⟨r1, r2, _, _⟩ := own_rd o4 hg.bytes
  refine ⟨b3.trans (e4.below b3.size fun k hk => ?_), (k4 E hElt (by omega) fun e => (h.o E e).2 rfl).trans h.R, r1, r2, fun a ha => own_lt o4 a.block (by rw [ha]; rfl)⟩
  rcases hk with hk | hk
  · omega
  · have := (h.o k hk).1; omega
end Go.Proofs.Ytoaffkmjobmhaaa.Hd
