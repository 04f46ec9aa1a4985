/- The contract of Feed of hdlc's reference. -/
import Derived.Test.YtoaffkmjobmhaaaHdRef
namespace Go.Proofs.Ytoaffkmjobmhaaa.Hd
open Go.RowKit
open Go.Proofs.Ytoaffkmjobmhaaa.Me Go.Proofs.Ytoaffkmjobmhaaa.St
open Go.Proofs.Ytoaffkmjobmhaaa.Cr (addL rightB)
set_option linter.unusedVariables false
set_option linter.unusedSimpArgs false

/-- The gathered bytes of the reference's decoder: those that came (slice A0, capacity c0, bytes i0), or the call's own, in blocks from M on. -/
def InP (M : Nat) (A0 : Option Addr) (c0 : Nat) (i0 : List Nat) (A : Option Addr) (c : Nat) (i : List Nat) (w : World) : Prop :=
  Rd w w.heap.size A i ∧ (A = none → i.length = 0 ∧ c = 0) ∧ ((A = A0 ∧ c = c0 ∧ i = i0) ∨ (Me.Own w 0 (.slice A i.length c) i ∧ ∀ a, A = some a → M ≤ a.block))
/-- What the round holds. -/
def RFd (w : World) (A0 : Option Addr) (c0 : Nat) (i0 : List Nat) (d : Dec) (ts : List (List Nat)) (v : Value) (wr : World) : Prop :=
  ∃ A c, wr.heap[w.heap.size]? = some (.cells (rcells d (.slice A d.inn.length c)) 34 (0, 0)) ∧ wr.heap[w.heap.size + 1]? = some (.cells zcells 34 (0, 0)) ∧
    InP (w.heap.size + 2) A0 c0 i0 A c d.inn wr ∧ Rws (fun k => w.heap.size + 2 ≤ k) wr v ts ∧ Below w.heap.size w wr
theorem InP.same {M c0 c : Nat} {A0 A : Option Addr} {i0 i : List Nat} {w w' : World} (h : InP M A0 c0 i0 A c i w) (hs : w.heap.size ≤ w'.heap.size) (hA : ∀ a, A = some a → a.block < w.heap.size → w'.heap[a.block]? = w.heap[a.block]?) : InP M A0 c0 i0 A c i w' := by
  refine ⟨⟨h.1.1, fun hl => ?_⟩, h.2.1, h.2.2.imp id fun ⟨h1, h2⟩ => ⟨own_same h1 fun k e hk => ?_, h2⟩⟩
  · obtain ⟨b, off, e, hb, hc⟩ := h.1.2 hl
    exact ⟨b, off, e, by omega, fun j hj => (World.cell?_of_block (a := ⟨b, off + j, none⟩) (hA ⟨b, off, none⟩ e hb)).trans (hc j hj)⟩
  · cases A with
    | none => cases e
    | some a => cases e; exact hA a rfl hk
theorem InP.mono {M M' c0 c : Nat} {A0 A : Option Addr} {i0 i : List Nat} {w : World} (h : InP M A0 c0 i0 A c i w) (hM : M' ≤ M) : InP M' A0 c0 i0 A c i w :=
  ⟨h.1, h.2.1, h.2.2.imp id fun ⟨h1, h2⟩ => ⟨h1, fun a ha => Nat.le_trans hM (h2 a ha)⟩⟩
theorem InP.block {M c0 c : Nat} {A0 A : Option Addr} {i0 i : List Nat} {w : World} (h : InP M A0 c0 i0 A c i w) {B : Nat} (hA0 : ∀ a, A0 = some a → a.block < B) : ∀ a, A = some a → a.block < B ∨ M ≤ a.block := by
  intro a ha
  rcases h.2.2 with ⟨rfl, _, _⟩ | ⟨_, h2⟩
  · exact .inl (hA0 a ha)
  · exact .inr (h2 a ha)
/-- Behind an append to the contents. -/
theorem RFd.app {w w7 w' : World} {A0 : Option Addr} {c0 : Nat} {i0 : List Nat} {d : Dec} {ts ts' : List (List Nat)} {v v' : Value} {o : Obj} (h : RFd w A0 c0 i0 d ts v w7) (hA0 : ∀ a, A0 = some a → a.block < w.heap.size) (hr : Rws (fun k => w.heap.size + 2 ≤ k) w' v' ts') (hg : (w7.alloc o).grownBy w' v.ownBlock) : RFd w A0 c0 i0 d ts' v' w' := by
  obtain ⟨A, c, h1, h2, h3, h4, h5⟩ := h
  obtain ⟨vs, r1, r2, _⟩ := h4
  have hg2 : w7.grownBy w' v.ownBlock := ⟨hg.os, hg.tape, hg.output, Nat.le_trans (by simp) hg.size, fun b hb' hne => (hg.block b (by simp; omega) hne).trans (Below.heap_alloc _ o b hb')⟩
  have hlt : w.heap.size + 1 < w7.heap.size := (Array.getElem?_eq_some_iff.1 h2).1
  refine ⟨A, c, (hg2.block _ (by omega) fun e => by have := r2 _ e.symm; omega).trans h1, (hg2.block _ hlt fun e => by have := r2 _ e.symm; omega).trans h2, ?_, hr, h5.grown hg2 h5.size fun k e => by have := r2 k e; omega⟩
  refine h3.same hg2.size fun a ha hb => hg2.block _ hb fun e => ?_
  rcases h3.2.2 with ⟨rfl, _, _⟩ | ⟨ho, _⟩
  · have := hA0 a ha
    have := r2 _ e.symm
    omega
  · rcases two_types ho r1 (by decide) with h' | h'
    · rw [ha] at h'; cases h'
    · exact h' (by rw [ha]; exact e)
/-- What a region that draws its order holds of the decoder's box and of the byte. -/
def KeptF (g : Nat) (d : Dec) (v : Value) (q : Addr) (y : Nat) (w : World) : Prop :=
  w.cell? ⟨g, 0, none⟩ = some (.bool d.hunts) ∧ w.cell? ⟨g, 1, none⟩ = some v ∧ w.cell? ⟨g, 2, none⟩ = some (.int .i64 (d.met.good : Int)) ∧ w.cell? ⟨g, 3, none⟩ = some (.int .i64 (d.met.bad : Int)) ∧ w.cell? ⟨g, 4, none⟩ = some (.int .i64 (d.met.short : Int)) ∧ w.cell? ⟨g, 5, none⟩ = some (.int .i64 (d.met.long : Int)) ∧ w.cell? ⟨g, 6, none⟩ = some (.int .i64 (d.met.broken : Int)) ∧ w.cell? q = some (.int .u8 (y : Int))
theorem KeptF.mk {g : Nat} {d : Dec} {v : Value} {q : Addr} {y : Nat} {w : World} (h : w.heap[g]? = some (.cells (rcells d v) 34 (0, 0))) (hq : w.cell? q = some (.int .u8 (y : Int))) : KeptF g d v q y w := by
  obtain ⟨⟨h0, h1, h2, h3, h4, h5, h6⟩, _⟩ := cells7_all h
  exact ⟨h0, h1, h2, h3, h4, h5, h6, hq⟩
theorem KeptF.same {g : Nat} {d : Dec} {v : Value} {q : Addr} {y : Nat} {w w' : World} (k : KeptF g d v q y w) (hg : w'.heap[g]? = w.heap[g]?) (hq : w'.heap[q.block]? = w.heap[q.block]?) : KeptF g d v q y w' := by
  unfold KeptF at k ⊢
  have e : ∀ i, w'.cell? ⟨g, i, none⟩ = w.cell? ⟨g, i, none⟩ := fun i => World.cell?_of_block (a := ⟨g, i, none⟩) hg
  have e2 : w'.cell? q = w.cell? q := World.cell?_of_block hq
  simp only [e, e2]
  exact k
/-- All that stands behind Byte and the store of what it answers. -/
structure TailP (w : World) (A0 : Option Addr) (c0 : Nat) (i0 : List Nat) (d1 d2 : Dec) (tl : List Nat) (ts : List (List Nat)) (v : Value) (w6 : World) (E : Nat) (A1 : Option Addr) (c1 : Nat) (A2 : Option Addr) (c2 : Nat) (A3 : Option Addr) (c3 : Nat) : Prop where
  e : w6.heap[E]? = some (.cells (rcells d2 (.slice A2 d2.inn.length c2)) 34 (0, 0))
  x : w6.heap[w.heap.size]? = some (.cells (rcells d1 (.slice A1 d1.inn.length c1)) 34 (0, 0))
  z : w6.heap[w.heap.size + 1]? = some (.cells zcells 34 (0, 0))
  inp : InP (w.heap.size + 2) A0 c0 i0 A2 c2 d2.inn w6
  own : Me.Own w6 0 (.slice A3 tl.length c3) tl
  new : ∀ a, A3 = some a → w.heap.size + 2 ≤ a.block
  rows : Rws (fun k => w.heap.size + 2 ≤ k) w6 v ts
  below : Below w.heap.size w w6
theorem TailP.mk' {w wr W1 w5 w6 : World} {A0 A1 A2 A3 : Option Addr} {c0 c1 c2 c3 E : Nat} {i0 : List Nat} {d1 d2 : Dec} {tl : List Nat} {ts : List (List Nat)} {v : Value} (hA0 : ∀ a, A0 = some a → a.block < w.heap.size)
    (X1 : wr.heap[w.heap.size]? = some (.cells (rcells d1 (.slice A1 d1.inn.length c1)) 34 (0, 0))) (X2 : wr.heap[w.heap.size + 1]? = some (.cells zcells 34 (0, 0))) (I1 : InP (w.heap.size + 2) A0 c0 i0 A1 c1 d1.inn wr) (R1 : Rws (fun k => w.heap.size + 2 ≤ k) wr v ts) (B1 : Below w.heap.size w wr)
    (hW : Below wr.heap.size wr W1) (q1 : Rd w5 w5.heap.size A2 d2.inn) (q2 : A2 = none → d2.inn.length = 0 ∧ c2 = 0) (q3 : (A2 = A1 ∧ c2 = c1 ∧ d2.inn = d1.inn) ∨ Me.Own w5 W1.heap.size (.slice A2 d2.inn.length c2) d2.inn) (q4 : Me.Own w5 W1.heap.size (.slice A3 tl.length c3) tl) (q5 : Below W1.heap.size W1 w5)
    (hE : wr.heap.size ≤ E ∧ (E < W1.heap.size ∨ w5.heap.size ≤ E)) (h6 : But (fun j => j = E) w5 w6) (he : w6.heap[E]? = some (.cells (rcells d2 (.slice A2 d2.inn.length c2)) 34 (0, 0))) : TailP w A0 c0 i0 d1 d2 tl ts v w6 E A1 c1 A2 c2 A3 c3 := by
  have hlt : w.heap.size + 1 < wr.heap.size := (Array.getElem?_eq_some_iff.1 X2).1
  have s1 := hW.size
  have s5 := q5.size
  have s6 := h6.size
  have hwr : ∀ k, k < wr.heap.size → w6.heap[k]? = wr.heap[k]? := fun k hk => ((h6.same k (by omega) (by omega)).trans (q5.block k (by omega))).trans (hW.block k hk)
  have hown : ∀ {A : Option Addr} {n c : Nat} {l : List Nat}, Me.Own w5 W1.heap.size (.slice A n c) l → Me.Own w6 0 (.slice A n c) l ∧ ∀ a, A = some a → w.heap.size + 2 ≤ a.block := by
    intro A n c l ho
    refine ⟨own_base (B' := 0) (own_same ho fun k hk hk5 => h6.same k hk5 ?_) fun _ _ => Nat.zero_le _, fun a ha => ?_⟩
    · have := ho.lt k hk; omega
    · have := (ho.lt a.block (by rw [ha]; rfl)).1; omega
  refine ⟨he, (hwr _ (by omega)).trans X1, (hwr _ (by omega)).trans X2, ?_, (hown q4).1, (hown q4).2, R1.kept fun k _ hk => hwr k hk, B1.trans ⟨h6.os.trans (q5.os.trans hW.os), h6.tape.trans (q5.tape.trans hW.tape), h6.output.trans (q5.output.trans hW.output), by omega, fun k hk => hwr k (by omega)⟩⟩
  rcases q3 with ⟨rfl, rfl, e3⟩ | q3
  · rw [e3]
    have h1 : ∀ a, A2 = some a → a.block < wr.heap.size → w6.heap[a.block]? = wr.heap[a.block]? := fun a _ hb => hwr _ hb
    exact I1.same (by omega) h1
  · refine ⟨h6.rd q1 fun a ha e => ?_, q2, .inr (hown q3)⟩
    have := q3.lt a.block (by rw [ha]; rfl)
    omega
theorem but_set7 (w : World) (g : Nat) {u0 u1 u2 u3 u4 u5 u6 : Value} : But (fun j => j = g) w (((((((w.setCell ⟨g, 0, none⟩ u0).setCell ⟨g, 1, none⟩ u1).setCell ⟨g, 2, none⟩ u2).setCell ⟨g, 3, none⟩ u3).setCell ⟨g, 4, none⟩ u4).setCell ⟨g, 5, none⟩ u5).setCell ⟨g, 6, none⟩ u6) :=
  (((((((But.refl (fun j => j = g) w).set (p := ⟨g, 0, none⟩) (.inl rfl) u0).set (p := ⟨g, 1, none⟩) (.inl rfl) u1).set (p := ⟨g, 2, none⟩) (.inl rfl) u2).set (p := ⟨g, 3, none⟩) (.inl rfl) u3).set (p := ⟨g, 4, none⟩) (.inl rfl) u4).set (p := ⟨g, 5, none⟩) (.inl rfl) u5).set (p := ⟨g, 6, none⟩) (.inl rfl) u6
theorem rc_one (d : Dec) (A : Option Addr) (n c : Nat) : (rcells d (.slice A n c)).all (·.oneCell') = true := by simp [rcells, Value.oneCell']
theorem but_row (w : World) (g : Nat) (cs : Array Value) : But (fun j => j = g) w (w.setRow g cs) := ⟨rfl, rfl, rfl, by simp [World.setRow], fun k _ hk => setRow_other w g k cs hk⟩
/-- Behind the store into the decoder's own box. -/
theorem TailP.store {w w6 : World} {A0 A1 A2 A3 : Option Addr} {c0 c1 c2 c3 E : Nat} {i0 : List Nat} {d1 d2 : Dec} {tl : List Nat} {ts : List (List Nat)} {v : Value} (t : TailP w A0 c0 i0 d1 d2 tl ts v w6 E A1 c1 A2 c2 A3 c3) (hA0 : ∀ a, A0 = some a → a.block < w.heap.size) {w7 : World} (h7 : But (fun j => j = w.heap.size) w6 w7) (hX : w7.heap[w.heap.size]? = some (.cells (rcells d2 (.slice A2 d2.inn.length c2)) 34 (0, 0))) :
    RFd w A0 c0 i0 d2 ts v w7 ∧ Me.Own w7 0 (.slice A3 tl.length c3) tl ∧ Rws (fun k => w.heap.size + 2 ≤ k) w7 v ts ∧ w.heap.size + 2 ≤ w7.heap.size := by
  have hlt : w.heap.size + 1 < w6.heap.size := (Array.getElem?_eq_some_iff.1 t.z).1
  have s7 := h7.size
  have hrows : Rws (fun k => w.heap.size + 2 ≤ k) w7 v ts := t.rows.kept fun k hk hk6 => h7.same k hk6 (by omega)
  refine ⟨⟨A2, c2, hX, (h7.same _ hlt (by omega)).trans t.z, t.inp.same s7 fun a ha hb => h7.same _ hb ?_, hrows, t.below.trans ⟨h7.os, h7.tape, h7.output, s7, fun k hk => h7.same k (by omega) (by omega)⟩⟩, own_same t.own fun k hk hk6 => h7.same k hk6 ?_, hrows, by omega⟩
  · have := t.inp.block hA0 a ha
    omega
  · cases hA : A3 with
    | none => rw [hA] at hk; cases hk
    | some a =>
      have h1 := t.new a hA
      rw [hA] at hk
      simp only [Value.ownBlock, Option.some.injEq] at hk
      omega
set_option maxRecDepth 100000 in
set_option maxHeartbeats 1000000 in
theorem RFeed_any (w : World) (d : Dec) (A : Option Addr) (c : Nat) (hi : Hid (Rd w w.heap.size A d.inn)) (hA : Hid (A = none → d.inn.length = 0 ∧ c = 0)) (hAl : Hid (∀ a, A = some a → a.block < w.heap.size)) (hg : Good d) (Ap : Option Addr) (cp : Nat) (p : List Nat) (hr : Hid (Rd w w.heap.size Ap p))
    (ht : tot d.met + p.length ≤ 4611686018427387904) (hp : p.length * 24 ≤ 140737488355328) :
    Calls Try.prog 16 #[rval d (.slice A d.inn.length c), .slice Ap p.length cp] w fun e w' => ∃ A' c' vr, e = .returned (.tuple #[rval (feedD rightB d p).1 (.slice A' (feedD rightB d p).1.inn.length c'), vr]) ∧ Hid (InP w.heap.size A c d.inn A' c' (feedD rightB d p).1.inn w') ∧ Hid (Rws (fun k => w.heap.size ≤ k) w' vr (feedD rightB d p).2) ∧ Hid (Below w.heap.size w w') := by
  have HG := Lib.hid hg
  have HP := Lib.hid hp
  have HTt := Lib.hid ht
  have hpl : p.length ≤ 9223372036854775806 := by omega
  have h00 : RFd w A c d.inn (feedD rightB d (p.take 0)).1 (feedD rightB d (p.take 0)).2 (.slice (some ⟨w.heap.size + 1 + 1, 0, none⟩) 0 0) (((w.alloc (.cells (rcells d (.slice A d.inn.length c)) 34)).alloc (.cells zcells 34)).alloc (.cells #[] 22)) := by
    have hb2 : Below w.heap.size w ((w.alloc (.cells (rcells d (.slice A d.inn.length c)) 34)).alloc (.cells zcells 34)) := below_alloc (below_alloc (Below.refl _ _))
    have hb3 : Below w.heap.size w (((w.alloc (.cells (rcells d (.slice A d.inn.length c)) 34)).alloc (.cells zcells 34)).alloc (.cells #[] 22)) := below_alloc hb2
    have hs2 : ((w.alloc (.cells (rcells d (.slice A d.inn.length c)) 34)).alloc (.cells zcells 34)).heap.size = w.heap.size + 1 + 1 := by simp
    refine ⟨A, c, ?_, ?_, ⟨(hi.out.below hb3).more hb3.size, hA.out, .inl ⟨rfl, rfl, rfl⟩⟩, ?_, hb3⟩
    · exact (Below.heap_alloc _ _ _ (by simp; omega)).trans (heap_alloc2_old _ _ _)
    · exact (Below.heap_alloc _ _ _ (by simp)).trans (heap_alloc2_new _ _ _)
    · have := Rws.lit (fun k => w.heap.size + 2 ≤ k) ((w.alloc (.cells (rcells d (.slice A d.inn.length c)) 34)).alloc (.cells zcells 34)) (by simp)
      rw [hs2] at this
      exact this
  have H00 := Lib.hid h00
  unfold rval
  clear hg h00 hp ht
  go_enter Try.func16, Try.ntmps16
  go_wp2
  go_loopw [6, 7] (fun v i wr => ∃ k : Nat, k ≤ p.length ∧ i = .int .i64 k ∧ RFd w A c d.inn (feedD rightB d (p.take k)).1 (feedD rightB d (p.take k)).2 v wr) (fun _ i _ => p.length - (intOf i).toNat)
  case atStart => exact ⟨0, Nat.zero_le _, rfl, H00.out⟩
  case round =>
    obtain ⟨k, hk, rfl, hF⟩ := hrel
    have HF := Lib.hid hF
    clear hF
    by_cases hlt : k < p.length
    · have hy8 := hr.out.lt hlt
      have HS := Lib.hid (feed_take_succ rightB d hlt)
      obtain ⟨hG1, hT1, hL1⟩ := HG.out.feed (p.take k) (take_lt hr.out.1 k)
      have htk : (p.take k).length = k := by simp; omega
      have hTT := HTt.out
      have hPP := HP.out
      rw [htk] at hT1 hL1
      obtain ⟨b, off, rfl, hbB, hcs⟩ := hr.out.2 (by omega)
      have hpc := hcs k hlt
      obtain ⟨y, hy⟩ : ∃ y, by_ p k = y := ⟨_, rfl⟩
      obtain ⟨d1, hd1⟩ : ∃ d1, (feedD rightB d (p.take k)).1 = d1 := ⟨_, rfl⟩
      obtain ⟨ts, hts⟩ : ∃ ts, (feedD rightB d (p.take k)).2 = ts := ⟨_, rfl⟩
      rw [hy] at hpc HS hy8
      rw [hd1, hts] at HS
      rw [hd1] at hG1 hT1 HF
      rw [hts] at hL1 HF
      have HFIN : Hid (∀ d3 tl wz vz, byteD rightB d1 y = (d3, tl) → RFd w A c d.inn d3 (ts ++ told tl) vz wz → RFd w A c d.inn (feedD rightB d (p.take (k + 1))).1 (feedD rightB d (p.take (k + 1))).2 vz wz) := by
        intro d3 tl wz vz e hf
        rw [HS.out, e]; exact hf
      obtain ⟨A1, c1, X1, X2, I1, R1, B1⟩ := HF.out
      have hcell := (B1.cell (p := ⟨b, off + k, none⟩) hbB).trans hpc
      have hX1lt : w.heap.size < wr.heap.size := (Array.getElem?_eq_some_iff.1 X1).1
      have HXlt := Lib.hid hX1lt
      have HbB := Lib.hid hbB
      have HBY := fun (W1 : World) (hW : Below wr.heap.size wr W1) => Byte_any W1 d1 A1 c1 y ((I1.1.below hW).more hW.size) I1.2.1 hy8 hG1.len (by omega)
      have hbg := hG1.byte hy8
      have hts24 : Hid ((ts.length + 1) * 24 ≤ 140737488355328) := by show _ ≤ _; omega
      have S0 : KeptF w.heap.size d1 (.slice A1 d1.inn.length c1) ⟨b, off + k, none⟩ y wr.drew := KeptF.mk (w := wr.drew) X1 hcell
      have HT := Lib.hid (fun (W1 w5 w6 : World) (E : Nat) (d2 : Dec) (tl : List Nat) (A2 : Option Addr) (c2 : Nat) (A3 : Option Addr) (c3 : Nat) (hW : Below wr.heap.size wr W1) => TailP.mk' (w := w) (wr := wr) (W1 := W1) (w5 := w5) (w6 := w6) (E := E) (d2 := d2) (tl := tl) (A2 := A2) (c2 := c2) (A3 := A3) (c3 := c3) (v := u6) (ts := ts) hAl.out X1 X2 I1 R1 B1 hW)
      obtain ⟨⟨d2, tl⟩, hby⟩ : ∃ r, byteD rightB d1 y = r := ⟨_, rfl⟩
      have HBYE := Lib.hid hby
      simp only [hby] at HBY
      have HBY := Lib.hid HBY
      have hIT : Hid (True) := trivial
      clear hd1 hts hcs hpc X1 X2 I1 R1 B1 hT1 htk hTT hPP hL1 hy hby hX1lt hbB
      go_wp2
      refine wp_region_held_drew (S := KeptF w.heap.size d1 (.slice A1 d1.inn.length c1) ⟨b, off + k, none⟩ y) (by kernel_rfl) S0 (fun hHeld => ?_)
      refine wpAnyH_take (i := 0) (v := ?v0) rfl (by kernel_rfl) (by kernel_rfl) (by kernel_rfl) (fun _ _ _ h => h) (Or.inl ⟨by rfl, ?hy0⟩) (by assumption) ?rest0
      case hy0 => intro W hSW; obtain ⟨n0, n1, n2, n3, n4, n5, n6, n7⟩ := hSW; go_simp; try (with_reducible rfl)
      simp only [Act.put, List.getElem_toArray, List.getElem_cons_succ, List.getElem_cons_zero, List.setIfInBounds_toArray, List.set_cons_zero, List.set_cons_succ]
      refine wpAnyH_take (i := 1) (v := ?v1) rfl (by kernel_rfl) (by kernel_rfl) (by kernel_rfl) (fun _ _ _ h => h) (Or.inl ⟨by rfl, ?hy1⟩) (by assumption) ?rest1
      case hy1 => intro W hSW; go_simp; try (with_reducible rfl)
      simp only [Act.put, List.getElem_toArray, List.getElem_cons_succ, List.getElem_cons_zero, List.setIfInBounds_toArray, List.set_cons_zero, List.set_cons_succ]
      refine wpAnyH_take (i := 2) (v := ?v2) rfl (by kernel_rfl) (by kernel_rfl) (by kernel_rfl) (fun _ _ _ h => h) (Or.inl ⟨by rfl, ?hy2⟩) (by assumption) ?rest2
      case hy2 => intro W hSW; go_simp; try (with_reducible rfl)
      simp only [Act.put, List.getElem_toArray, List.getElem_cons_succ, List.getElem_cons_zero, List.setIfInBounds_toArray, List.set_cons_zero, List.set_cons_succ]
      refine wpAnyH_take (i := 3) (v := ?v3) rfl (by kernel_rfl) (by kernel_rfl) (by kernel_rfl) (fun _ _ _ h => h) (Or.inl ⟨by rfl, ?hy3⟩) (by assumption) ?rest3
      case hy3 => intro W hSW; go_simp; try (with_reducible rfl)
      simp only [Act.put, List.getElem_toArray, List.getElem_cons_succ, List.getElem_cons_zero, List.setIfInBounds_toArray, List.set_cons_zero, List.set_cons_succ]
      refine wpAnyH_take (i := 4) (v := ?v4) rfl (by kernel_rfl) (by kernel_rfl) (by kernel_rfl) (fun _ _ _ h => h) (Or.inl ⟨by rfl, ?hy4⟩) (by assumption) ?rest4
      case hy4 => intro W hSW; obtain ⟨n0, n1, n2, n3, n4, n5, n6, n7⟩ := hSW; go_simp; try (with_reducible rfl)
      simp only [Act.put, List.getElem_toArray, List.getElem_cons_succ, List.getElem_cons_zero, List.setIfInBounds_toArray, List.set_cons_zero, List.set_cons_succ]
      refine wpAnyH_ready (rs := [5, 9]) (by kernel_rfl) (by simp) ?_
      refine AllReadyH.cons rfl (fun K hK => ?pa) (AllReadyH.cons rfl (fun K hK => ?pb) AllReadyH.nil)
      case' pa =>
        go_simp
        go_wp2_with (go_at_call 29; refine (HBY.out wr.drew (Below.refl _ _).drew).mono ?_; rintro e w5 ⟨A2, c2, A3, c3, he, q1, q2, q3, q4, q5⟩; unfold rval at he; subst he)
        have S5 : KeptF w.heap.size d1 (.slice A1 d1.inn.length c1) ⟨b, off + k, none⟩ y w5 := S0.same (q5.out.block _ HXlt.out) (q5.out.block _ (Nat.lt_trans HbB.out HXlt.out))
        refine hK.out _ _ S5 (fun hHeld => ?_)
        clear hK K
        refine wpAnyH_take (i := 6) (v := ?v6) rfl (by kernel_rfl) (by kernel_rfl) (by kernel_rfl) (fun _ _ _ h => h) (Or.inl ⟨by rfl, ?hy6⟩) (by assumption) ?rest6
        case hy6 => intro W hSW; go_simp; try (with_reducible rfl)
        simp only [Act.put, List.getElem_toArray, List.getElem_cons_succ, List.getElem_cons_zero, List.setIfInBounds_toArray, List.set_cons_zero, List.set_cons_succ]
        refine wpAnyH_take (i := 7) (v := ?v7) rfl (by kernel_rfl) (by kernel_rfl) (by kernel_rfl) (fun _ _ _ h => h) (Or.inl ⟨by rfl, ?hy7⟩) (by assumption) ?rest7
        case hy7 => intro W hSW; go_simp; try (with_reducible rfl)
        simp only [Act.put, List.getElem_toArray, List.getElem_cons_succ, List.getElem_cons_zero, List.setIfInBounds_toArray, List.set_cons_zero, List.set_cons_succ]
        refine wpAnyH_take (i := 8) (v := ?v8) rfl (by kernel_rfl) (by kernel_rfl) (by kernel_rfl) (fun _ _ _ h => h) (Or.inl ⟨by rfl, ?hy8⟩) (by assumption) ?rest8
        case hy8 => intro W hSW; go_simp; try (with_reducible rfl)
        simp only [Act.put, List.getElem_toArray, List.getElem_cons_succ, List.getElem_cons_zero, List.setIfInBounds_toArray, List.set_cons_zero, List.set_cons_succ]
        refine wpAnyH_ready (rs := [9]) (by kernel_rfl) (by simp) ?_
        refine AllReadyH.cons rfl (fun K hK => ?_) AllReadyH.nil
        go_simp
        have S6 : KeptF w.heap.size d1 (.slice A1 d1.inn.length c1) ⟨b, off + k, none⟩ y (w5.alloc (.cells zcells 34)) := S5.same (Below.heap_alloc _ _ _ (Nat.lt_of_lt_of_le HXlt.out q5.out.size)) (Below.heap_alloc _ _ _ (Nat.lt_of_lt_of_le (Nat.lt_trans HbB.out HXlt.out) q5.out.size))
        refine hK.out _ _ S6 (fun hHeld => ?_)
        clear hK K
        refine wpAnyH_ready (rs := [10]) (by kernel_rfl) (by simp) ?_
        refine AllReadyH.cons rfl (fun K hK => ?_) AllReadyH.nil
        go_simp
        have S7 : KeptF w.heap.size d1 (.slice A1 d1.inn.length c1) ⟨b, off + k, none⟩ y (w5.alloc (.cells #[.bool d2.hunts, .slice A2 d2.inn.length c2, .int .i64 (d2.met.good : Int), .int .i64 (d2.met.bad : Int), .int .i64 (d2.met.short : Int), .int .i64 (d2.met.long : Int), .int .i64 (d2.met.broken : Int)] 34)) := S5.same (Below.heap_alloc _ _ _ (Nat.lt_of_lt_of_le HXlt.out q5.out.size)) (Below.heap_alloc _ _ _ (Nat.lt_of_lt_of_le (Nat.lt_trans HbB.out HXlt.out) q5.out.size))
        refine hK.out _ _ S7 (fun hHeld => ?_)
        clear hK K
        refine wpAnyH_take (i := 11) (v := ?v11) rfl (by kernel_rfl) (by kernel_rfl) (by kernel_rfl) (fun _ _ _ h => h) (Or.inl ⟨by rfl, ?hy11⟩) (by assumption) ?rest11
        case hy11 => intro W hSW; go_simp; try (with_reducible rfl)
        simp only [Act.put, List.getElem_toArray, List.getElem_cons_succ, List.getElem_cons_zero, List.setIfInBounds_toArray, List.set_cons_zero, List.set_cons_succ]
        refine wpAnyH_done (by kernel_rfl) ?_ _
        have HTL := Lib.hid (HT.out wr.drew w5 (w5.alloc (.cells #[.bool d2.hunts, .slice A2 d2.inn.length c2, .int .i64 (d2.met.good : Int), .int .i64 (d2.met.bad : Int), .int .i64 (d2.met.short : Int), .int .i64 (d2.met.long : Int), .int .i64 (d2.met.broken : Int)] 34)) w5.heap.size d2 tl A2 c2 A3 c3 (Below.refl _ _).drew q1.out q2 q3.out q4.out q5.out ⟨q5.out.size, .inr (Nat.le_refl _)⟩ ((But.refl _ w5).alloc _) (heap_alloc_new w5 _))
        obtain ⟨w6, hw6⟩ : ∃ w6, w5.alloc (.cells #[.bool d2.hunts, .slice A2 d2.inn.length c2, .int .i64 (d2.met.good : Int), .int .i64 (d2.met.bad : Int), .int .i64 (d2.met.short : Int), .int .i64 (d2.met.long : Int), .int .i64 (d2.met.broken : Int)] 34) = w6 := ⟨_, rfl⟩
        obtain ⟨E, hE⟩ : ∃ E, w5.heap.size = E := ⟨_, rfl⟩
        rw [hw6, hE] at HTL ⊢
        clear hw6 hE q1 q2 q3 q4 q5 S5 S6 S7 HT HBY hHeld
      case' pb =>
        go_simp
        have hB1 : Below wr.heap.size wr (wr.alloc (.cells zcells 34)).drew := (below_alloc (Below.refl _ _)).drew
        have S1 : KeptF w.heap.size d1 (.slice A1 d1.inn.length c1) ⟨b, off + k, none⟩ y (wr.alloc (.cells zcells 34)).drew := S0.same (hB1.block _ HXlt.out) (hB1.block _ (Nat.lt_trans HbB.out HXlt.out))
        refine hK.out _ _ S1 (fun hHeld => ?_)
        clear hK K
        refine wpAnyH_ready (rs := [5]) (by kernel_rfl) (by simp) ?_
        refine AllReadyH.cons rfl (fun K hK => ?_) AllReadyH.nil
        go_simp
        go_wp2_with (go_at_call 29; refine (HBY.out (wr.alloc (.cells zcells 34)).drew hB1).mono ?_; rintro e w5 ⟨A2, c2, A3, c3, he, q1, q2, q3, q4, q5⟩; unfold rval at he; subst he)
        have hs1 : (wr.alloc (.cells zcells 34)).drew.heap.size = wr.heap.size + 1 := by show (wr.alloc (.cells zcells 34)).heap.size = _; simp
        have HS1 := Lib.hid hs1
        have HZ := Lib.hid ((q5.out.block wr.heap.size (by rw [hs1]; omega)).trans (heap_alloc_new wr (.cells zcells 34)))
        obtain ⟨⟨z0, z1, z2, z3, z4, z5, z6⟩, y0, y1, y2, y3, y4, y5, y6⟩ := zcells_all HZ.out
        have S5 : KeptF w.heap.size d1 (.slice A1 d1.inn.length c1) ⟨b, off + k, none⟩ y w5 := S1.same (q5.out.block _ (by have := HXlt.out; omega)) (q5.out.block _ (by have := HXlt.out; have := HbB.out; simp only; omega))
        clear hs1
        refine hK.out _ _ S5 (fun hHeld => ?_)
        clear hK K
        refine wpAnyH_take (i := 6) (v := ?vb6) rfl (by kernel_rfl) (by kernel_rfl) (by kernel_rfl) (fun _ _ _ h => h) (Or.inl ⟨by rfl, ?hyb6⟩) (by assumption) ?restb6
        case hyb6 => intro W hSW; go_simp; try (with_reducible rfl)
        simp only [Act.put, List.getElem_toArray, List.getElem_cons_succ, List.getElem_cons_zero, List.setIfInBounds_toArray, List.set_cons_zero, List.set_cons_succ]
        refine wpAnyH_take (i := 7) (v := ?vb7) rfl (by kernel_rfl) (by kernel_rfl) (by kernel_rfl) (fun _ _ _ h => h) (Or.inl ⟨by rfl, ?hyb7⟩) (by assumption) ?restb7
        case hyb7 => intro W hSW; go_simp; try (with_reducible rfl)
        simp only [Act.put, List.getElem_toArray, List.getElem_cons_succ, List.getElem_cons_zero, List.setIfInBounds_toArray, List.set_cons_zero, List.set_cons_succ]
        refine wpAnyH_take (i := 8) (v := ?vb8) rfl (by kernel_rfl) (by kernel_rfl) (by kernel_rfl) (fun _ _ _ h => h) (Or.inl ⟨by rfl, ?hyb8⟩) (by assumption) ?restb8
        case hyb8 => intro W hSW; go_simp; try (with_reducible rfl)
        simp only [Act.put, List.getElem_toArray, List.getElem_cons_succ, List.getElem_cons_zero, List.setIfInBounds_toArray, List.set_cons_zero, List.set_cons_succ]
        refine wpAnyH_ready (rs := [10]) (by kernel_rfl) (by simp) ?_
        refine AllReadyH.cons rfl (fun K hK => ?_) AllReadyH.nil
        go_simp
        have S7 : KeptF w.heap.size d1 (.slice A1 d1.inn.length c1) ⟨b, off + k, none⟩ y (((((((w5.setCell ⟨wr.heap.size, 0, none⟩ (.bool d2.hunts)).setCell ⟨wr.heap.size, 1, none⟩ (.slice A2 d2.inn.length c2)).setCell ⟨wr.heap.size, 2, none⟩ (.int .i64 (d2.met.good : Int))).setCell ⟨wr.heap.size, 3, none⟩ (.int .i64 (d2.met.bad : Int))).setCell ⟨wr.heap.size, 4, none⟩ (.int .i64 (d2.met.short : Int))).setCell ⟨wr.heap.size, 5, none⟩ (.int .i64 (d2.met.long : Int))).setCell ⟨wr.heap.size, 6, none⟩ (.int .i64 (d2.met.broken : Int))) := S5.same (other_set7 (Nat.ne_of_lt HXlt.out)) (other_set7 (Nat.ne_of_lt (Nat.lt_trans HbB.out HXlt.out)))
        refine hK.out _ _ S7 (fun hHeld => ?_)
        clear hK K
        refine wpAnyH_take (i := 11) (v := ?vb11) rfl (by kernel_rfl) (by kernel_rfl) (by kernel_rfl) (fun _ _ _ h => h) (Or.inl ⟨by rfl, ?hyb11⟩) (by assumption) ?restb11
        case hyb11 => intro W hSW; go_simp; try (with_reducible rfl)
        simp only [Act.put, List.getElem_toArray, List.getElem_cons_succ, List.getElem_cons_zero, List.setIfInBounds_toArray, List.set_cons_zero, List.set_cons_succ]
        refine wpAnyH_done (by kernel_rfl) ?_ _
        have HTL := Lib.hid (HT.out (wr.alloc (.cells zcells 34)).drew w5 (((((((w5.setCell ⟨wr.heap.size, 0, none⟩ (.bool d2.hunts)).setCell ⟨wr.heap.size, 1, none⟩ (.slice A2 d2.inn.length c2)).setCell ⟨wr.heap.size, 2, none⟩ (.int .i64 (d2.met.good : Int))).setCell ⟨wr.heap.size, 3, none⟩ (.int .i64 (d2.met.bad : Int))).setCell ⟨wr.heap.size, 4, none⟩ (.int .i64 (d2.met.short : Int))).setCell ⟨wr.heap.size, 5, none⟩ (.int .i64 (d2.met.long : Int))).setCell ⟨wr.heap.size, 6, none⟩ (.int .i64 (d2.met.broken : Int))) wr.heap.size d2 tl A2 c2 A3 c3 hB1 q1.out q2 q3.out q4.out q5.out ⟨Nat.le_refl _, .inl (by rw [HS1.out]; omega)⟩ (but_set7 w5 wr.heap.size) (set7_heap HZ.out))
        obtain ⟨w6, hw6⟩ : ∃ w6, (((((((w5.setCell ⟨wr.heap.size, 0, none⟩ (.bool d2.hunts)).setCell ⟨wr.heap.size, 1, none⟩ (.slice A2 d2.inn.length c2)).setCell ⟨wr.heap.size, 2, none⟩ (.int .i64 (d2.met.good : Int))).setCell ⟨wr.heap.size, 3, none⟩ (.int .i64 (d2.met.bad : Int))).setCell ⟨wr.heap.size, 4, none⟩ (.int .i64 (d2.met.short : Int))).setCell ⟨wr.heap.size, 5, none⟩ (.int .i64 (d2.met.long : Int))).setCell ⟨wr.heap.size, 6, none⟩ (.int .i64 (d2.met.broken : Int))) = w6 := ⟨_, rfl⟩
        obtain ⟨E, hE⟩ : ∃ E, wr.heap.size = E := ⟨_, rfl⟩
        rw [hw6, hE] at HTL ⊢
        clear hw6 hE q1 q2 q3 q4 q5 S1 S5 S7 HT HBY hHeld HZ z0 z1 z2 z3 z4 z5 z6 y0 y1 y2 y3 y4 y5 y6
      all_goals
        have HST := HTL.out.store hAl.out (but_row w6 w.heap.size (rcells d2 (.slice A2 d2.inn.length c2))) (setRow_heap w6 w.heap.size _ _ _ _ HTL.out.x)
        obtain ⟨hs1, hs2, hs3, hs4⟩ := HST
        have HS1 := Lib.hid hs1
        have HS2 := Lib.hid hs2
        have HS3 := Lib.hid hs3
        have HS4 := Lib.hid hs4
        have HNW := Lib.hid HTL.out.new
        clear hs1 hs2 hs3 hs4
        have kS := fun (y : Operand) => y
        by_cases h0 : tl = []
        · subst h0
          have HB : Hid (byteD rightB d1 y = (d2, [])) := HBYE.out
          go_wp2_with (first
            | (refine wpList_load_row rfl 34 (.tmp 8) rfl E rfl 34 _ (0, 0) _ HTL.out.e Try.underlying34 rfl (by kernel_rfl) ?_)
            | (refine wpList_store_row rfl 34 (.tmp 2) (.tmp 26) rfl w.heap.size (rcells d2 (.slice A2 d2.inn.length c2)) rfl rfl 34 _ HTL.out.x (by kernel_rfl) rfl (rc_one _ _ _ _) ?_))
          go_roundw
          case rel => exact ⟨k + 1, by omega, by go_num, HFIN.out _ _ _ _ HB.out (by rw [show told [] = [] from rfl, List.append_nil]; exact HS1.out)⟩
          case measure => simp [intOf]; omega
        · have hpos : (0 : Int) < (tl.length : Int) := by have := List.length_pos_iff.mpr h0; omega
          have HTO : Hid (told tl = [tl]) := told_some (List.length_pos_iff.mpr h0)
          clear h0
          go_wp2_with (first
            | (refine wpList_load_row rfl 34 (.tmp 8) rfl E rfl 34 _ (0, 0) _ HTL.out.e Try.underlying34 rfl (by kernel_rfl) ?_)
            | (refine wpList_store_row rfl 34 (.tmp 2) (.tmp 26) rfl w.heap.size (rcells d2 (.slice A2 d2.inn.length c2)) rfl rfl 34 _ HTL.out.x (by kernel_rfl) rfl (rc_one _ _ _ _) ?_)
            | (at_builtin; refine appQ rfl (.tmp 30) (.tmp 32) rfl (fun k => w.heap.size + 2 ≤ k) u6 ts tl A3 tl.length c3 rfl rfl (w6.setRow w.heap.size (rcells d2 (.slice A2 d2.inn.length c2))) rfl HS3.out HS2.out HNW.out (fun k h => Nat.le_trans HS4.out h) w6.heap.size (by simp) rfl hts24.out ?_; intro v' w' hr' hg' hf'; have HEND := Lib.hid (HS1.out.app hAl.out hr' hg')))
          go_roundw
          case rel => exact ⟨k + 1, by omega, by go_num, HFIN.out _ _ _ _ HBYE.out (by rw [HTO.out]; exact HEND.out)⟩
          case measure => simp [intOf]; omega
    · have HE : Hid (p.take k = p) := by show p.take k = p; exact List.take_of_length_le (by omega)
      obtain ⟨A1, c1, X1, X2, I1, R1, B1⟩ := HF.out
      rw [HE.out] at X1 I1 R1
      have HX1 := Lib.hid X1
      have HX2 := Lib.hid X2
      clear X1 X2 HF
      go_wp2_with (first
        | (refine wpList_load_row rfl 34 (.tmp 2) rfl w.heap.size rfl 34 _ (0, 0) _ HX1.out Try.underlying34 rfl (by kernel_rfl) ?_)
        | (refine wpList_store_row rfl 34 (.tmp 4) (.tmp 34) rfl (w.heap.size + 1) (rcells (feedD rightB d p).1 (.slice A1 (feedD rightB d p).1.inn.length c1)) rfl rfl 34 _ HX2.out (by kernel_rfl) rfl (rc_one _ _ _ _) ?_))
      have hlt : w.heap.size + 1 < wr.heap.size := (Array.getElem?_eq_some_iff.1 HX2.out).1
      have h7 := but_row wr (w.heap.size + 1) (rcells (feedD rightB d p).1 (.slice A1 (feedD rightB d p).1.inn.length c1))
      refine ret_cell rfl rfl (setRow_heap _ _ _ _ _ _ HX2.out) rfl Try.underlying34 (by kernel_rfl) rfl ?_
      refine ⟨A1, c1, _, rfl, (I1.mono (by omega)).same h7.size fun a ha hb => h7.same _ hb fun e => ?_, (R1.kept fun k hk hk' => h7.same k hk' (by omega)).mono fun k _ hk => by omega, B1.trans (h7.below (by omega) fun k e => by omega)⟩
      have := I1.block hAl.out a ha
      omega
end Go.Proofs.Ytoaffkmjobmhaaa.Hd
