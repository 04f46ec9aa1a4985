/- The contract of the decoder's Feed. -/
import Derived.Test.YtoaffkmjobmhaaaHdDec
import Derived.Test.YtoaffkmjobmhaaaRight
namespace Go.Proofs.Ytoaffkmjobmhaaa.Hd
open Go.RowKit
open Go.Proofs.Ytoaffkmjobmhaaa.Me Go.Proofs.Ytoaffkmjobmhaaa.St Go.Proofs.Ytoaffkmjobmhaaa.Cr
set_option linter.unusedVariables false

theorem sums : Sums rightB addL where
  take := fun c => by simp [addL]
  len := length_add
  lt := fun c h => add_bytes h
  right := fun c h => right_add c h
  back := fun q h h2 hr => by
    unfold rightB at hr
    rw [decide_eq_true h2, Bool.true_and, beq_iff_eq] at hr
    exact (right_iff q h h2).mpr hr
/-- All that was met. -/
def tot (m : Met) : Nat := m.good + m.bad + m.short + m.long + m.broken
theorem tot_more (m : Met) (k : Nat) : tot (metMore m k) ≤ tot m + 1 := by
  unfold metMore tot
  split <;> simp <;> omega
theorem tot_each {m : Met} {n : Nat} (h : tot m ≤ n) : m.good ≤ n ∧ m.bad ≤ n ∧ m.short ≤ n ∧ m.long ≤ n ∧ m.broken ≤ n := by
  unfold tot at h; omega
theorem byte_take {d : Dec} {b : Nat} (hh : d.hunts = true → d.inn = []) (hl : d.inn.length ≤ 260) {d' : Dec} {o : List Nat} (ht : takeD d b = (d', o)) :
    byteD rightB d b = if o = [] then (d', []) else if 260 < o.length then (⟨d'.hunts, d'.inn, metMore d'.met 4⟩, []) else (⟨d'.hunts, d'.inn, metMore d'.met (kindL rightB o).1⟩, (kindL rightB o).2) := by
  unfold takeD at ht
  unfold byteD
  by_cases h1 : b = 126
  · rw [if_pos h1] at ht ⊢
    injection ht with e1 e2
    subst e1 e2
    by_cases hi : d.inn = []
    · rw [if_pos (.inr hi), if_pos hi]
    · have hn : ¬ (d.hunts = true ∨ d.inn = []) := fun h => h.elim (fun h => hi (hh h)) hi
      rw [if_neg hn, if_neg hi, if_neg (by omega)]
  · rw [if_neg h1] at ht ⊢
    by_cases h2 : d.hunts = true
    · rw [if_pos h2] at ht ⊢
      injection ht with e1 e2
      subst e1 e2
      rw [if_pos rfl]
    · rw [if_neg h2] at ht ⊢
      by_cases h3 : 260 ≤ d.inn.length
      · rw [if_pos h3] at ht ⊢
        injection ht with e1 e2
        subst e1 e2
        rw [if_neg (by simp), if_pos (by simp; omega)]
      · rw [if_neg h3] at ht ⊢
        injection ht with e1 e2
        subst e1 e2
        rw [if_pos rfl]
theorem take_tot (d : Dec) (b : Nat) : (takeD d b).1.met = d.met := by
  unfold takeD
  split
  · rfl
  · split
    · rfl
    · split <;> rfl
/-- A decoder as it may be. -/
structure Good (d : Dec) : Prop where
  bytes : ∀ z ∈ d.inn, z < 256
  len : d.inn.length ≤ 260
  hunt : d.hunts = true → d.inn = []
theorem Good.new : Good newD := ⟨by simp [newD], by simp [newD], fun _ => rfl⟩
theorem Good.byte {d : Dec} (h : Good d) {b : Nat} (hb : b < 256) : Good (byteD rightB d b).1 ∧ tot (byteD rightB d b).1.met ≤ tot d.met + 1 := by
  unfold byteD
  split
  · split
    · exact ⟨⟨by simp, by simp, by simp⟩, by simp⟩
    · exact ⟨⟨by simp, by simp, by simp⟩, tot_more _ _⟩
  · split
    · exact ⟨h, by simp⟩
    · split
      · exact ⟨⟨by simp, by simp, by simp⟩, tot_more _ _⟩
      · exact ⟨⟨hb2 h.bytes hb, by simp; omega, by simp⟩, by simp⟩
theorem Good.feed {d : Dec} (h : Good d) (p : List Nat) (hp : ∀ z ∈ p, z < 256) : Good (feedD rightB d p).1 ∧ tot (feedD rightB d p).1.met ≤ tot d.met + p.length ∧ (feedD rightB d p).2.length ≤ p.length := by
  induction p generalizing d with
  | nil => exact ⟨h, by simp [feedD], by simp [feedD]⟩
  | cons b p ih =>
    obtain ⟨g1, g2⟩ := h.byte (hp b (by simp))
    obtain ⟨g3, g4, g5⟩ := ih g1 fun z hz => hp z (by simp [hz])
    have g6 := told_len (byteD rightB d b).2
    simp only [feedD, List.length_cons, List.length_append]
    exact ⟨g3, by omega, by omega⟩
theorem Good.takeB {d : Dec} (h : Good d) {b : Nat} (hb : b < 256) : (∀ z ∈ (takeD d b).2, z < 256) ∧ (takeD d b).2.length ≤ 261 := by
  have h1 := h.len
  unfold takeD
  split
  · exact ⟨h.bytes, by simp; omega⟩
  · split
    · exact ⟨by simp, by simp⟩
    · split
      · exact ⟨hb2 h.bytes hb, by simp; omega⟩
      · exact ⟨by simp, by simp⟩
/-- What lies in memory behind bytes that were fed to a decoder that lay at D in w with the gathered slice v0: it is d now, and what it told is vr. -/
def FeedN (w : World) (D : Nat) (v0 : Value) (d : Dec) (ts : List (List Nat)) (vr : Value) (wr : World) : Prop :=
  ∃ A c, Dblk wr D d (.slice A d.inn.length c) ∧ Me.Own wr 0 (.slice A d.inn.length c) d.inn ∧
    (∀ j, (Value.slice A d.inn.length c).ownBlock = some j → v0.ownBlock = some j ∨ w.heap.size ≤ j) ∧ But (fun j => j = D ∨ v0.ownBlock = some j) w wr ∧
    Rws (fun j => w.heap.size ≤ j ∧ (Value.slice A d.inn.length c).ownBlock ≠ some j) wr vr ts
/-- Behind a byte that was taken. -/
theorem FeedN.take {w wr w2 : World} {D : Nat} {v0 vr u : Value} {d' : Dec} {ts : List (List Nat)} (hD : D < w.heap.size)
    (h : ∀ j, u.ownBlock = some j → v0.ownBlock = some j ∨ w.heap.size ≤ j) (hB : But (fun j => j = D ∨ v0.ownBlock = some j) w wr) (hR : Rws (fun j => w.heap.size ≤ j ∧ u.ownBlock ≠ some j) wr vr ts)
    (A' : Option Addr) (c' : Nat) (h1 : Dblk w2 D d' (.slice A' d'.inn.length c')) (h2 : Me.Own w2 0 (.slice A' d'.inn.length c') d'.inn) (h3 : ∀ k, (Value.slice A' d'.inn.length c').ownBlock = some k → u.ownBlock = some k ∨ wr.heap.size ≤ k) (h4 : But (fun k => k = D ∨ u.ownBlock = some k) wr w2) :
    FeedN w D v0 d' ts vr w2 := by
  refine ⟨A', c', h1, h2, fun j e => ?_, hB.trans h4 fun b hb hs => ?_, ?_⟩
  · rcases h3 j e with h' | h'
    · exact h j h'
    · exact .inr (Nat.le_trans hB.size h')
  · rcases hs with h' | h'
    · exact .inl h'
    · rcases h b h' with h'' | h''
      · exact .inr h''
      · omega
  · refine (hR.mono (P' := fun j => (w.heap.size ≤ j ∧ u.ownBlock ≠ some j) ∧ (Value.slice A' d'.inn.length c').ownBlock ≠ some j) fun k hk hp => ⟨hp, fun e => ?_⟩).but h4 (fun k hp hs => ?_) |>.mono fun k _ hp => ⟨hp.1.1, hp.2⟩
    · rcases h3 k e with h' | h'
      · exact hp.2 h'
      · omega
    · rcases hs with h' | h'
      · subst h'; have := hp.1.1; omega
      · exact hp.1.2 h'
/-- Behind a call that makes memory. -/
theorem FeedN.below {w wr w2 : World} {D : Nat} {v0 vr : Value} {d : Dec} {ts : List (List Nat)} (h : FeedN w D v0 d ts vr wr) (hb : Below wr.heap.size wr w2) : FeedN w D v0 d ts vr w2 := by
  obtain ⟨A, c, h1, h2, h3, h4, h5⟩ := h
  exact ⟨A, c, (hb.block D h1.lt).trans h1, own_same h2 fun k _ hk => hb.block k hk, h3, h4.trans (But.of_below (S := fun _ => False) hb) (fun _ _ h => h.elim), h5.below hb⟩
/-- Behind a count. -/
theorem FeedN.count {w wr : World} {D i k : Nat} {v0 vr u : Value} {d : Dec} {ts : List (List Nat)} (h : FeedN w D v0 d ts vr wr) (hD : D < w.heap.size) (hi : ∀ v, (dcells d v).setIfInBounds i u = dcells ⟨d.hunts, d.inn, metMore d.met k⟩ v) :
    FeedN w D v0 ⟨d.hunts, d.inn, metMore d.met k⟩ ts vr (wr.setCell ⟨D, i, none⟩ u) := by
  obtain ⟨A, c, h1, h2, h3, h4, h5⟩ := h
  refine ⟨A, c, h1.set i u (hi _), own_put h1 h2, h3, h4.set (.inl (.inl rfl)) _, h5.kept fun j hp _ => Below.heap_setCell wr _ _ j (fun e => ?_)⟩
  have := hp.1
  simp only at e
  omega
theorem FeedN.cells {w wr : World} {D : Nat} {v0 vr : Value} {d : Dec} {ts : List (List Nat)} (h : FeedN w D v0 d ts vr wr) : wr.cell? ⟨D, 2, none⟩ = some (.int .i64 (d.met.good : Int)) ∧ wr.cell? ⟨D, 3, none⟩ = some (.int .i64 (d.met.bad : Int)) ∧ wr.cell? ⟨D, 4, none⟩ = some (.int .i64 (d.met.short : Int)) ∧ wr.cell? ⟨D, 5, none⟩ = some (.int .i64 (d.met.long : Int)) ∧ wr.cell? ⟨D, 6, none⟩ = some (.int .i64 (d.met.broken : Int)) ∧
    wr.frozen? ⟨D, 2, none⟩ = false ∧ wr.frozen? ⟨D, 3, none⟩ = false ∧ wr.frozen? ⟨D, 4, none⟩ = false ∧ wr.frozen? ⟨D, 5, none⟩ = false ∧ wr.frozen? ⟨D, 6, none⟩ = false := by
  obtain ⟨A, c, h1, _⟩ := h
  exact ⟨h1.cell 2, h1.cell 3, h1.cell 4, h1.cell 5, h1.cell 6, h1.frozen 2, h1.frozen 3, h1.frozen 4, h1.frozen 5, h1.frozen 6⟩
/-- Behind a good one: what the append of the content wants, and what is so behind it. -/
theorem FeedN.good {w w2 w4 : World} {D i n c4 k : Nat} {v0 vr u : Value} {d d' : Dec} {ts : List (List Nat)} {A4 : Option Addr} {q : List Nat} (h : FeedN w D v0 d ts vr w2) (hD : D < w.heap.size) (hb : Below w2.heap.size w2 w4) (hi : ∀ v, (dcells d v).setIfInBounds i u = dcells d' v) (hin : d'.inn = d.inn) (ho : Me.Own w4 w2.heap.size (.slice A4 n c4) q) (hk : k ≤ q.length) :
    ∃ P : Nat → Prop, Hid (Rws P (w4.setCell ⟨D, i, none⟩ u) vr ts) ∧ Hid (Me.Own (w4.setCell ⟨D, i, none⟩ u) 0 (.slice A4 k c4) (q.take k)) ∧ Hid (∀ a, A4 = some a → P a.block) ∧ Hid (∀ j, (w4.setCell ⟨D, i, none⟩ u).heap.size ≤ j → P j) ∧
      Hid (∀ v' w' o, Rws P w' v' (ts ++ [q.take k]) → ((w4.setCell ⟨D, i, none⟩ u).alloc o).grownBy w' vr.ownBlock → FeedN w D v0 d' (ts ++ [q.take k]) v' w') := by
  have h4 := h.below hb
  obtain ⟨A, c, e1, e2, e3, e4, e5⟩ := h
  have hgl := own_lt e2
  have k1 : Dblk w4 D d (.slice A d.inn.length c) := (hb.block D e1.lt).trans e1
  have k2 : Me.Own w4 0 (.slice A d.inn.length c) d.inn := own_same e2 fun k _ hk => hb.block k hk
  have k4 : But (fun j => j = D ∨ v0.ownBlock = some j) w w4 := e4.trans (But.of_below (S := fun _ => False) hb) (fun _ _ h => h.elim)
  have k5 := e5.below hb
  have b1 : Dblk (w4.setCell ⟨D, i, none⟩ u) D d' (.slice A d.inn.length c) := k1.set i u (hi _)
  have b2 : Me.Own (w4.setCell ⟨D, i, none⟩ u) 0 (.slice A d.inn.length c) d.inn := own_put k1 k2
  have b5 : Rws (fun j => w.heap.size ≤ j ∧ (Value.slice A d.inn.length c).ownBlock ≠ some j) (w4.setCell ⟨D, i, none⟩ u) vr ts := k5.kept fun j hp _ => Below.heap_setCell w4 _ _ j (fun e => by have := hp.1; simp only at e; omega)
  refine ⟨fun j => w.heap.size ≤ j ∧ (Value.slice A d.inn.length c).ownBlock ≠ some j, b5, ?_, ?_, ?_, ?_⟩
  · refine Own.cut (own_base (B' := 0) (own_put k1 ho) (fun _ _ => Nat.zero_le _)) hk
  · intro a ha
    have h1 := (ho.lt a.block (by rw [ha]; rfl)).1
    refine ⟨Nat.le_trans e4.size h1, fun e => ?_⟩
    have := hgl _ e
    omega
  · intro j hj
    have hs : (w4.setCell ⟨D, i, none⟩ u).heap.size = w4.heap.size := by simp
    rw [hs] at hj
    have h1 := hb.size
    have h2 := e4.size
    refine ⟨by omega, fun e => ?_⟩
    have := hgl _ e
    omega
  · intro v' w' o hr hg
    obtain ⟨vs, r1, r2, _⟩ := b5
    have hvr : ∀ j, vr.ownBlock = some j → w.heap.size ≤ j ∧ (Value.slice A d.inn.length c).ownBlock ≠ some j := r2
    have hg2 : (w4.setCell ⟨D, i, none⟩ u).grownBy w' vr.ownBlock :=
      ⟨hg.os, hg.tape, hg.output, Nat.le_trans (by simp) hg.size, fun b hb' hne => (hg.block b (by simp at hb' ⊢; omega) hne).trans (Below.heap_alloc _ o b hb')⟩
    have d1 : Dblk w' D d' (.slice A d.inn.length c) := (hg2.block D b1.lt (fun e => by have := (hvr D e.symm).1; omega)).trans b1
    have d2 : Me.Own w' 0 (.slice A d.inn.length c) d.inn := own_same b2 fun j ej hj => hg2.block j hj (fun e => (hvr j e.symm).2 ej)
    unfold FeedN
    rw [hin]
    exact ⟨A, c, d1, d2, e3, (k4.set (.inl (.inl rfl)) _).grown hg2 (fun r e => .inr (hvr r e).1), hr⟩
theorem FeedN.good0 {w w2 w3 w4 : World} {D n c4 k : Nat} {v0 vr : Value} {d : Dec} {ts : List (List Nat)} {A4 : Option Addr} {q : List Nat} (h : FeedN w D v0 d ts vr w2) (hD : D < w.heap.size) (hb : Below w2.heap.size w2 w3) (hb' : Below w3.heap.size w3 w4) (ho : Me.Own w3 w2.heap.size (.slice A4 n c4) q) (hk : k ≤ q.length) :
    ∃ P : Nat → Prop, Hid (Rws P (w4.setCell ⟨D, 2, none⟩ (.int .i64 ((d.met.good : Int) + 1))) vr ts) ∧ Hid (Me.Own (w4.setCell ⟨D, 2, none⟩ (.int .i64 ((d.met.good : Int) + 1))) 0 (.slice A4 k c4) (q.take k)) ∧ Hid (∀ a, A4 = some a → P a.block) ∧ Hid (∀ j, (w4.setCell ⟨D, 2, none⟩ (.int .i64 ((d.met.good : Int) + 1))).heap.size ≤ j → P j) ∧
      Hid (∀ v' w' o, Rws P w' v' (ts ++ [q.take k]) → ((w4.setCell ⟨D, 2, none⟩ (.int .i64 ((d.met.good : Int) + 1))).alloc o).grownBy w' vr.ownBlock → FeedN w D v0 ⟨d.hunts, d.inn, metMore d.met 0⟩ (ts ++ [q.take k]) v' w') :=
  FeedN.good h hD (hb.trans (hb'.mono hb.size)) (fun _ => rfl) rfl (own_same ho fun j _ hj => hb'.block j hj) hk
theorem FeedN.reads {w wr : World} {D n c0 : Nat} {A0 Ap : Option Addr} {vr : Value} {d0 d : Dec} {ts : List (List Nat)} {p : List Nat} (h0 : Dblk w D d0 (.slice A0 n c0)) (hr : Rd w w.heap.size Ap p) (hne : ∀ a, Ap = some a → (Value.slice A0 n c0).ownBlock ≠ some a.block)
    (h : FeedN w D (.slice A0 n c0) d ts vr wr) {k : Nat} (hk : k < p.length) : ∃ b off, Ap = some ⟨b, off, none⟩ ∧ wr.cell? ⟨b, off + k, none⟩ = some (.int .u8 (by_ p k : Int)) := by
  obtain ⟨A, c, h1, h2, h3, h4, h5⟩ := h
  have hr2 := h4.rd hr (fun a ha hs => by
    rcases hs with h' | h'
    · exact h0.not_rd ⟨_, _, _, rfl⟩ hr (by omega) a ha h'
    · exact hne a ha h')
  obtain ⟨b, off, e, _, hc⟩ := hr2.2 (by omega)
  exact ⟨b, off, e, hc k hk⟩
set_option maxRecDepth 100000 in
set_option maxHeartbeats 4000000 in
theorem Feed_any (w : World) (D : Nat) (d : Dec) (A : Option Addr) (c : Nat) (h : Hid (Dblk w D d (.slice A d.inn.length c))) (ho : Hid (Me.Own w 0 (.slice A d.inn.length c) d.inn)) (hg : Good d) (Ap : Option Addr) (cp : Nat) (p : List Nat) (hr : Hid (Rd w w.heap.size Ap p))
    (hne : Hid (∀ a, Ap = some a → (Value.slice A d.inn.length c).ownBlock ≠ some a.block)) (ht : tot d.met + p.length ≤ 4611686018427387904) (hp : p.length * 24 ≤ 140737488355328) :
    Calls Try.prog 15 #[.pointer (some ⟨D, 0, none⟩), .slice Ap p.length cp] w fun e w' => ∃ vr, e = .returned vr ∧ Hid (FeedN w D (.slice A d.inn.length c) (feedD rightB d p).1 (feedD rightB d p).2 vr w') := by
  have HG := Lib.hid hg
  have HP := Lib.hid hp
  have HTt := Lib.hid ht
  have h00 : FeedN w D (.slice A d.inn.length c) (feedD rightB d (p.take 0)).1 (feedD rightB d (p.take 0)).2 (.slice none 0 0) w :=
    ⟨A, c, h.out, ho.out, fun j e => .inl e, But.refl _ _, Rws.nil _ _⟩
  have H00 := Lib.hid h00
  have hpl : p.length ≤ 9223372036854775806 := by omega
  clear hg h00 hp ht
  go_enter Try.func15, Try.ntmps15
  go_wp2
  go_step3
  go_wp2
  go_step3
  go_wp2
  go_loopw [5, 18] (fun v i wr => ∃ k : Nat, k ≤ p.length ∧ i = .int .i64 k ∧ FeedN w D (.slice A d.inn.length c) (feedD rightB d (p.take k)).1 (feedD rightB d (p.take k)).2 v wr) (fun _ i _ => p.length - (intOf i).toNat)
  case atStart => exact ⟨0, Nat.zero_le _, rfl, H00.out⟩
  case round =>
    obtain ⟨k, hk, rfl, hF⟩ := hrel
    have HF := Lib.hid hF
    clear hF
    by_cases hlt : k < p.length
    · obtain ⟨b, off, rfl, hcell⟩ := HF.out.reads h.out hr.out hne.out hlt
      have hy8 := hr.out.lt hlt
      have HS := Lib.hid (feed_take_succ rightB d hlt)
      obtain ⟨hG1, hT1, _⟩ := HG.out.feed (p.take k) (take_lt hr.out.1 k)
      have htk : (p.take k).length = k := by simp; omega
      have hTT := HTt.out
      have hPP := HP.out
      have hL1 := (HG.out.feed (p.take k) (take_lt hr.out.1 k)).2.2
      rw [htk] at hT1 hL1
      obtain ⟨y, hy⟩ : ∃ y, by_ p k = y := ⟨_, rfl⟩
      obtain ⟨d1, hd1⟩ : ∃ d1, (feedD rightB d (p.take k)).1 = d1 := ⟨_, rfl⟩
      obtain ⟨ts, hts⟩ : ∃ ts, (feedD rightB d (p.take k)).2 = ts := ⟨_, rfl⟩
      rw [hy] at hcell HS hy8
      rw [hd1, hts] at HS
      rw [hd1] at hG1 hT1 HF
      rw [hts] at hL1 HF
      obtain ⟨A1, c1, D1, O1, F1, B1, R1⟩ := HF.out
      have HT := take_any wr D d1 A1 c1 y D1 O1 hG1.bytes hy8 hG1.len
      have HBT := byte_take (b := y) hG1.hunt hG1.len (d' := (takeD d1 y).1) (o := (takeD d1 y).2) rfl
      have hM := take_tot d1 y
      obtain ⟨hob, hol⟩ := hG1.takeB hy8
      obtain ⟨d2, hd2⟩ : ∃ d2, (takeD d1 y).1 = d2 := ⟨_, rfl⟩
      obtain ⟨out, hout⟩ : ∃ out, (takeD d1 y).2 = out := ⟨_, rfl⟩
      rw [hd2] at HT HBT hM
      rw [hout] at HT HBT hob hol
      have HDl : Hid (D < w.heap.size) := h.out.lt
      have HB1 := Lib.hid B1
      have HF1 := Lib.hid F1
      have HR1 := Lib.hid R1
      have HTK := Lib.hid HT
      have HBY := Lib.hid HBT
      have HOB := Lib.hid hob
      rw [← hM] at hT1
      obtain ⟨hm1, hm2, hm3, hm4, hm5⟩ : d2.met.good ≤ 4611686018427387904 ∧ d2.met.bad ≤ 4611686018427387904 ∧ d2.met.short ≤ 4611686018427387904 ∧ d2.met.long ≤ 4611686018427387904 ∧ d2.met.broken ≤ 4611686018427387904 := tot_each (Nat.le_trans hT1 (by omega))
      have hts24 : (ts.length + 1) * 24 ≤ 140737488355328 := by omega
      clear hd1 hts hd2 hout HT HBT hM B1 F1 R1 D1 O1 hT1 htk hTT hPP hL1 hob hy
      have HFIN : Hid (∀ d3 tl wz vz, byteD rightB d1 y = (d3, tl) → FeedN w D (.slice A d.inn.length c) d3 (ts ++ told tl) vz wz → FeedN w D (.slice A d.inn.length c) (feedD rightB d (p.take (k + 1))).1 (feedD rightB d (p.take (k + 1))).2 vz wz) := by
        intro d3 tl wz vz e hf
        rw [HS.out, e]; exact hf
      by_cases h0 : out = []
      · subst h0
        have HB : Hid (byteD rightB d1 y = (d2, [])) := HBY.out
        go_wp2_with (go_at_call 26; refine HTK.out.mono ?_; rintro e w2 ⟨A2, c2, A3, c3, rfl, q1, q2, q3, q4, q5, q6, q7, q8⟩; have HN := Lib.hid (FeedN.take HDl.out HF1.out HB1.out HR1.out A3 c3 q5.out q6.out q7.out q8.out))
        go_roundw
        case rel => exact ⟨k + 1, by omega, by go_num, HFIN.out _ _ _ _ HB.out (by rw [show told [] = [] from rfl, List.append_nil]; exact HN.out)⟩
        case measure => simp [intOf]; omega
      · have HBY2 := HBY.out
        rw [if_neg h0] at HBY2
        have hpos : 0 < out.length := List.length_pos_iff.mpr h0
        have hne0 : ((out.length : Int) == 0) = false := by simp; omega
        clear HBY h0
        by_cases hbig : 260 < out.length
        · rw [if_pos hbig] at HBY2
          have HB := Lib.hid HBY2
          have hgt : (260 : Int) < (out.length : Int) := by omega
          clear HBY2 hbig
          go_wp2_with (go_at_call 26; refine HTK.out.mono ?_; rintro e w2 ⟨A2, c2, A3, c3, rfl, q1, q2, q3, q4, q5, q6, q7, q8⟩; have HN := Lib.hid (FeedN.take HDl.out HF1.out HB1.out HR1.out A3 c3 q5.out q6.out q7.out q8.out); obtain ⟨g1, g2, g3, g4, g5, f1, f2, f3, f4, f5⟩ := HN.out.cells; clear q1 q5 q6 q7 q8)
          go_roundw
          case rel => exact ⟨k + 1, by omega, by go_num, HFIN.out _ _ _ _ HB.out (by rw [show told [] = [] from rfl, List.append_nil]; exact HN.out.count HDl.out (k := 4) (fun _ => rfl))⟩
          case measure => simp [intOf]; omega
        · rw [if_neg hbig] at HBY2
          have hgt : ¬ (260 : Int) < (out.length : Int) := by omega
          have hl47 : out.length ≤ 140737488355328 := by omega
          have HKd : Hid (kindL rightB out = match unstuffL out with
            | none => (1, [])
            | some q => if q.length < 3 then (2, []) else if rightB q = false then (3, []) else if 128 < q.length - 2 then (4, []) else (0, q.take (q.length - 2))) := rfl
          have HB := Lib.hid HBY2
          clear HBY2 hbig
          have U := fun (w2 : World) (A2 : Option Addr) (c2 : Nat) (q1 : Hid (Rd w2 w2.heap.size A2 out)) => Unstuff_own A2 c2 w2.heap.size out w2 q1 (Nat.le_refl _) hl47
          cases hu : unstuffL out with
          | none =>
            rw [hu] at U
            have HU := Lib.hid U
            have HK2 : Hid (kindL rightB out = (1, [])) := by show _ = _; rw [HKd.out, hu]
            have HB2 : Hid (byteD rightB d1 y = (⟨d2.hunts, d2.inn, metMore d2.met 1⟩, [])) := by show _ = _; rw [HB.out, HK2.out]
            clear U hu HKd HB
            go_wp2_with (first
              | (go_at_call 26; refine HTK.out.mono ?_; rintro e w2 ⟨A2, c2, A3, c3, rfl, q1, q2, q3, q4, q5, q6, q7, q8⟩; have HN := Lib.hid (FeedN.take HDl.out HF1.out HB1.out HR1.out A3 c3 q5.out q6.out q7.out q8.out); clear q5 q6 q7 q8)
              | (go_at_call 27; refine (HU.out w2 A2 c2 q1).mono ?_; rintro e w3 ⟨rfl, hb3⟩; have HN3 := Lib.hid (HN.out.below hb3.out); obtain ⟨g1, g2, g3, g4, g5, f1, f2, f3, f4, f5⟩ := HN3.out.cells))
            go_roundw
            case rel => exact ⟨k + 1, by omega, by go_num, HFIN.out _ _ _ _ HB2.out (by rw [show told [] = [] from rfl, List.append_nil]; exact HN3.out.count HDl.out (k := 1) (fun _ => rfl))⟩
            case measure => simp [intOf]; omega
          | some q =>
            rw [hu] at U
            have HU := Lib.hid U
            have hqo : q.length ≤ out.length := (stuff_unstuff HOB.out hu).2.2
            have HK2 : Hid (kindL rightB out = if q.length < 3 then (2, []) else if rightB q = false then (3, []) else if 128 < q.length - 2 then (4, []) else (0, q.take (q.length - 2))) := by show _ = _; rw [HKd.out, hu]
            clear U hu HKd
            by_cases h3 : q.length < 3
            · have HB2 : Hid (byteD rightB d1 y = (⟨d2.hunts, d2.inn, metMore d2.met 2⟩, [])) := by show _ = _; rw [HB.out, HK2.out, if_pos h3]
              have h3' : (q.length : Int) < 3 := by omega
              clear HB HK2 h3
              go_wp2_with (first
                | (go_at_call 26; refine HTK.out.mono ?_; rintro e w2 ⟨A2, c2, A3, c3, rfl, q1, q2, q3, q4, q5, q6, q7, q8⟩; have HN := Lib.hid (FeedN.take HDl.out HF1.out HB1.out HR1.out A3 c3 q5.out q6.out q7.out q8.out); clear q5 q6 q7 q8)
                | (go_at_call 27; refine (HU.out w2 A2 c2 q1).mono ?_; rintro e w3 ⟨A4, c4, rfl, ho4, hb4, hb3⟩; have HN3 := Lib.hid (HN.out.below hb3.out); obtain ⟨g1, g2, g3, g4, g5, f1, f2, f3, f4, f5⟩ := HN3.out.cells))
              go_roundw
              case rel => exact ⟨k + 1, by omega, by go_num, HFIN.out _ _ _ _ HB2.out (by rw [show told [] = [] from rfl, List.append_nil]; exact HN3.out.count HDl.out (k := 2) (fun _ => rfl))⟩
              case measure => simp [intOf]; omega
            · have h3' : ¬ (q.length : Int) < 3 := by omega
              have hK3 := HK2.out
              rw [if_neg h3] at hK3
              cases hrb : rightB q with
              | false =>
                have HRB := Lib.hid hrb
                have HB2 : Hid (byteD rightB d1 y = (⟨d2.hunts, d2.inn, metMore d2.met 3⟩, [])) := by show _ = _; rw [HB.out, hK3, if_pos hrb]
                clear HB HK2 h3 hK3 hrb
                go_wp2_with (first
                | (go_at_call 26; refine HTK.out.mono ?_; rintro e w2 ⟨A2, c2, A3, c3, rfl, q1, q2, q3, q4, q5, q6, q7, q8⟩; have HN := Lib.hid (FeedN.take HDl.out HF1.out HB1.out HR1.out A3 c3 q5.out q6.out q7.out q8.out); clear q5 q6 q7 q8)
                | (go_at_call 27; refine (HU.out w2 A2 c2 q1).mono ?_; rintro e w3 ⟨A4, c4, rfl, ho4, hb4, hb3⟩; obtain ⟨r1, r2, r3, r4⟩ := own_rd ho4.out hb4)
                | (go_at_call 28; refine (Right_any A4 c4 w3.heap.size q w3 r1 (Nat.le_refl _) r3 r4).mono ?_; rintro e w4 ⟨he, hb5⟩; rw [HRB.out] at he; subst he; have HN5 := Lib.hid ((HN.out.below hb3.out).below hb5.out); obtain ⟨g1, g2, g3, g4, g5, f1, f2, f3, f4, f5⟩ := HN5.out.cells))
                go_roundw
                case rel => exact ⟨k + 1, by omega, by go_num, HFIN.out _ _ _ _ HB2.out (by rw [show told [] = [] from rfl, List.append_nil]; exact HN5.out.count HDl.out (k := 3) (fun _ => rfl))⟩
                case measure => simp [intOf]; omega
              | true =>
                have HRB := Lib.hid hrb
                rw [if_neg (by rw [hrb]; decide)] at hK3
                by_cases h130 : 128 < q.length - 2
                · have HB2 : Hid (byteD rightB d1 y = (⟨d2.hunts, d2.inn, metMore d2.met 4⟩, [])) := by show _ = _; rw [HB.out, hK3, if_pos h130]
                  have h131 : (130 : Int) < (q.length : Int) := by omega
                  clear HB HK2 h3 hK3 hrb h130
                  go_wp2_with (first
                | (go_at_call 26; refine HTK.out.mono ?_; rintro e w2 ⟨A2, c2, A3, c3, rfl, q1, q2, q3, q4, q5, q6, q7, q8⟩; have HN := Lib.hid (FeedN.take HDl.out HF1.out HB1.out HR1.out A3 c3 q5.out q6.out q7.out q8.out); clear q5 q6 q7 q8)
                | (go_at_call 27; refine (HU.out w2 A2 c2 q1).mono ?_; rintro e w3 ⟨A4, c4, rfl, ho4, hb4, hb3⟩; obtain ⟨r1, r2, r3, r4⟩ := own_rd ho4.out hb4)
                | (go_at_call 28; refine (Right_any A4 c4 w3.heap.size q w3 r1 (Nat.le_refl _) r3 r4).mono ?_; rintro e w4 ⟨he, hb5⟩; rw [HRB.out] at he; subst he; have HN5 := Lib.hid ((HN.out.below hb3.out).below hb5.out); obtain ⟨g1, g2, g3, g4, g5, f1, f2, f3, f4, f5⟩ := HN5.out.cells))
                  go_roundw
                  case rel => exact ⟨k + 1, by omega, by go_num, HFIN.out _ _ _ _ HB2.out (by rw [show told [] = [] from rfl, List.append_nil]; exact HN5.out.count HDl.out (k := 4) (fun _ => rfl))⟩
                  case measure => simp [intOf]; omega
                · have HB2 : Hid (byteD rightB d1 y = (⟨d2.hunts, d2.inn, metMore d2.met 0⟩, q.take (q.length - 2))) := by show _ = _; rw [HB.out, hK3, if_neg h130]
                  have h131 : ¬ (130 : Int) < (q.length : Int) := by omega
                  have s1 : IntKind.i64.wrap ((q.length : Int) - 2) = (q.length : Int) - 2 := IntWalk.i64_in _ (by omega)
                  have s2 : (0 : Int) ≤ (q.length : Int) - 2 := by omega
                  have s3 : ((q.length : Int) - 2).toNat = q.length - 2 := by omega
                  have hql : (q.take (q.length - 2)).length = q.length - 2 := by simp
                  have HQL := Lib.hid hql
                  have HTO : Hid (told (q.take (q.length - 2)) = [q.take (q.length - 2)]) := told_some (by rw [hql]; omega)
                  have h24 : Hid ((ts.length + 1) * 24 ≤ 140737488355328) := hts24
                  clear HB HK2 h3 hK3 hrb h130 hql hts24
                  go_wp2_with (first
                | (go_at_call 26; refine HTK.out.mono ?_; rintro e w2 ⟨A2, c2, A3, c3, rfl, q1, q2, q3, q4, q5, q6, q7, q8⟩; have HN := Lib.hid (FeedN.take HDl.out HF1.out HB1.out HR1.out A3 c3 q5.out q6.out q7.out q8.out); clear q5 q6 q7 q8)
                | (go_at_call 27; refine (HU.out w2 A2 c2 q1).mono ?_; rintro e w3 ⟨A4, c4, rfl, ho4, hb4, hb3⟩; obtain ⟨r1, r2, r3, r4⟩ := own_rd ho4.out hb4)
                | (go_at_call 28; refine (Right_any A4 c4 w3.heap.size q w3 r1 (Nat.le_refl _) r3 r4).mono ?_; rintro e w4 ⟨he, hb5⟩; rw [HRB.out] at he; subst he; have HN5 := Lib.hid ((HN.out.below hb3.out).below hb5.out); obtain ⟨g1, g2, g3, g4, g5, f1, f2, f3, f4, f5⟩ := HN5.out.cells; have s4 : (q.length : Int) - 2 ≤ (c4 : Int) := (by omega); obtain ⟨PP, hp1, hp2, hp3, hp4, hp5⟩ := FeedN.good0 (k := q.length - 2) HN.out HDl.out hb3.out hb5.out ho4.out (Nat.sub_le _ _))
                    | (at_builtin; refine appQ rfl (.tmp 105) (.tmp 111) rfl PP u5 ts (q.take (q.length - 2)) A4 (q.length - 2) c4 HQL.out.symm rfl (w4.setCell ⟨D, 2, none⟩ (.int .i64 ((d2.met.good : Int) + 1))) rfl hp1.out hp2.out hp3.out hp4.out w4.heap.size (by simp) rfl h24.out ?_; intro v' w' hr' hg' hf'; have HEND := Lib.hid (hp5.out v' w' _ hr' hg')))
                  go_roundw
                  case rel => exact ⟨k + 1, by omega, by go_num, HFIN.out _ _ _ _ HB2.out (by rw [HTO.out]; exact HEND.out)⟩
                  case measure => simp [intOf]; omega
    · have HE : Hid (p.take k = p) := by show p.take k = p; exact List.take_of_length_le (by omega)
      go_wp2
      rw [Exit.noGoto_ret]
      go_ret
      have hf := HF.out
      rw [HE.out] at hf
      exact ⟨_, rfl, hf⟩
end Go.Proofs.Ytoaffkmjobmhaaa.Hd
