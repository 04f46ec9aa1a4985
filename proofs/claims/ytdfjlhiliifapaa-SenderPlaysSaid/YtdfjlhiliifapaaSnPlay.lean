/- The contract of play: a call of both. -/
import Derived.Test.YtdfjlhiliifapaaSnPl
namespace Go.Proofs.Ytdfjlhiliifapaa.Sn
open Go.RowKit
open Go.Proofs.Ytdfjlhiliifapaa.Me Go.Proofs.Ytdfjlhiliifapaa.Hd
set_option linter.unusedVariables false
set_option linter.unusedSimpArgs false

/-- The blocks from N on, ahead of L. -/
def Mid (N L q : Nat) : Prop := N ≤ q ∧ q < L
/-- Those, and the blocks of X. -/
def MidX (X : Nat → Prop) (N L q : Nat) : Prop := X q ∨ (N ≤ q ∧ q < L)
theorem but_more {S : Nat → Prop} {w w1 w2 : World} (h : But S w w1) (hb : Below w1.heap.size w1 w2) : But S w w2 := h.trans (But.of_below (S := fun _ => False) hb) fun k _ hk => hk.elim
/-- The boxes' world. -/
structure Bt (w : World) (s : Snd) (A : Option Addr) (c : Nat) (kd an : Int) (R : Option Addr) (m cr : Nat) (W : World) : Prop where
  x : Bx w.heap.size s A c kd an R m cr W
  b : Below w.heap.size w W
  n : w.heap.size + 1 + 1 + 1 = W.heap.size
theorem Bt.new (w : World) (s : Snd) (A : Option Addr) (c : Nat) (kd an : Int) (R : Option Addr) (m cr : Nat) : Bt w s A c kd an R m cr (((w.alloc (.cells (rcells s A c) 29)).alloc (.cells #[.int .i64 kd, .int .i64 an, .slice R m cr] 38)).alloc (.cells zcells 29)) :=
  ⟨Bx.new w s A c kd an R m cr, Me.below_alloc (Me.below_alloc (Me.below_alloc (Below.refl _ _))), by simp⟩
theorem lit3 {W0 : World} {g : Nat} (hg : g = W0.heap.size) : Me.Own (W0.alloc (.cells #[] 5)) W0.heap.size (.slice (some ⟨g, 0, none⟩) 0 0) [] := by
  subst hg; exact Me.Own.lit (Below.refl _ _)
/-- What play answers. -/
def PlayP (M : Nat) (X0 : Nat → Prop) (D : Nat) (w : World) (e : Ending) (w' : World) : Prop :=
  ∃ s' A' c', e = .returned (.tuple #[rval s' A' c', .bool true]) ∧ Hid s'.Ok ∧ Hid (Pl M X0 w' D s' s'.l A' c' (.slice none 0 0) []) ∧ Hid (But (Out M X0) w w')
/-- In a world that has grown: all that play's calls ask. -/
theorem play_at {M : Nat} {X0 : Nat → Prop} {w w1 : World} {D : Nat} {s : Snd} {A : Option Addr} {c : Nat} {u : Value} {r : List Nat} (h : Pl M X0 w D s s.l A c u r) (hX0 : ∀ q, X0 q → q < w.heap.size) (hb : Below w.heap.size w w1) : Pl M (MidX X0 w.heap.size w1.heap.size) w1 D s s.l A c u r ∧ But (Out M X0) w w1 ∧ ∀ q, MidX X0 w.heap.size w1.heap.size q → q < w1.heap.size :=
  ⟨h.grow hb fun q hq => hq.imp id fun h => h.1, But.of_below hb, fun q hq => hq.elim (fun h => Nat.lt_of_lt_of_le (hX0 q h) hb.size) fun h => h.2⟩
/-- Behind a call of the reference's, and its box. -/
theorem Pl.mid {M N L : Nat} {X0 : Nat → Prop} {w w' : World} {D : Nat} {s : Snd} {l : List (List Nat)} {A : Option Addr} {c : Nat} {u : Value} {r : List Nat} (h : Pl M (MidX X0 N L) w D s l A c u r) (hX : ∀ q, MidX X0 N L q → q < L) (hb : Below w.heap.size w w') (hL : L ≤ w.heap.size) :
    Pl M (fun q => MidX X0 N L q ∨ Mid w.heap.size w'.heap.size q) w' D s l A c u r ∧ ∀ q, MidX X0 N L q ∨ Mid w.heap.size w'.heap.size q → q < w'.heap.size :=
  ⟨h.grow hb fun q hq => hq.imp id fun h => h.1, fun q hq => by
    have := hb.size
    rcases hq with h | ⟨_, h⟩
    · have := hX q h; omega
    · omega⟩
theorem play_fin {M : Nat} {X X0 : Nat → Prop} {w wr : World} {D g : Nat} {s' : Snd} {A2 : Option Addr} {c2 : Nat} {u : Value} {r : List Nat} (P : Pl M X wr D s' s'.l A2 c2 u r) (hX : X g) (hX0 : ∀ q, X0 q → X q) (hlt : ∀ q, X0 q → q < g) (hz : wr.heap[g]? = some (.cells zcells 29 (0, 0))) (B : But (Out M X0) w wr) (hM : M ≤ g) :
    (wr.setRow g (rcells s' A2 c2)).heap[g]? = some (.cells (rcells s' A2 c2) 29 (0, 0)) ∧ Hid (Pl M X0 (wr.setRow g (rcells s' A2 c2)) D s' s'.l A2 c2 (.slice none 0 0) []) ∧ Hid (But (Out M X0) w (wr.setRow g (rcells s' A2 c2))) := by
  have hb : But (fun k => k = g) wr (wr.setRow g (rcells s' A2 c2)) := ⟨rfl, rfl, rfl, by simp [World.setRow], fun k _ hk => setRow_other _ _ k _ hk⟩
  exact ⟨setRow_heap _ _ _ _ _ _ hz, ((P.but hb fun q hq => by subst hq; exact hX).noel).less hX0, B.trans hb fun k _ hk => by subst hk; exact ⟨hM, fun h => Nat.lt_irrefl _ (hlt _ h)⟩⟩
/-- A box laid beside: what stands in it, what the sender's call finds. -/
theorem play_box {M N L : Nat} {X0 : Nat → Prop} {w w2 : World} {D : Nat} {s s' : Snd} {l : List (List Nat)} {A A2 : Option Addr} {c c2 : Nat} {u : Value} {r : List Nat} {kd an : Int} {R : Option Addr} {m cr : Nat} (P : Pl M (MidX X0 N L) w2 D s l A2 c2 u r) (hX : ∀ q, MidX X0 N L q → q < L) (hL : L ≤ w2.heap.size) (B : But (Out M X0) w w2) (x : Bx N s' A c kd an R m cr w2) (cs : Array Value) :
    Hid (Pl M (fun q => MidX X0 N L q ∨ Mid w2.heap.size (w2.alloc (.cells cs 29)).heap.size q) (w2.alloc (.cells cs 29)) D s l A2 c2 u r) ∧ Hid (∀ q, MidX X0 N L q ∨ Mid w2.heap.size (w2.alloc (.cells cs 29)).heap.size q → q < (w2.alloc (.cells cs 29)).heap.size) ∧
    Hid (But (Out M X0) w (w2.alloc (.cells cs 29))) ∧ Hid (Bx N s' A c kd an R m cr (w2.alloc (.cells cs 29))) ∧ Hid ((w2.alloc (.cells cs 29)).heap[w2.heap.size]? = some (.cells cs 29 (0, 0))) ∧ Hid (w2.heap.size < (w2.alloc (.cells cs 29)).heap.size) := by
  have hb : Below w2.heap.size w2 (w2.alloc (.cells cs 29)) := Me.below_alloc (Below.refl _ _)
  obtain ⟨p1, p2⟩ := P.mid hX hb hL
  exact ⟨p1, p2, but_more B hb, x.below hb, heap_alloc_new w2 _, by show _ < _; simp⟩
/-- A sender's call leaves the boxes alone. -/
theorem play_keep {M N L : Nat} {X0 : Nat → Prop} {w w2 w3 w4 : World} {s' s2 : Snd} {A A2 : Option Addr} {c c2 : Nat} {kd an : Int} {R : Option Addr} {m cr : Nat} (hb : But (Out M (fun q => MidX X0 N L q ∨ Mid w2.heap.size w3.heap.size q)) w3 w4) (x : Bx N s' A c kd an R m cr w3) (t : w3.heap[w2.heap.size]? = some (.cells (rcells s2 A2 c2) 29 (0, 0))) (hlt : w2.heap.size < w3.heap.size) (hL : N + 3 ≤ L) (B : But (Out M X0) w w3) :
    Hid (Bx N s' A c kd an R m cr w4) ∧ Hid (w4.heap[w2.heap.size]? = some (.cells (rcells s2 A2 c2) 29 (0, 0))) ∧ Hid (But (Out M X0) w w4) :=
  ⟨x.but hb fun k h1 h2 h => h.2 (.inl (.inr ⟨h1, by omega⟩)), (hb.same _ hlt fun h => h.2 (.inr ⟨Nat.le_refl _, hlt⟩)).trans t, B.trans hb fun k _ hk => ⟨hk.1, fun h => hk.2 (.inl (.inl h))⟩⟩
theorem rrow {W : World} {g : Nat} {s : Snd} {A : Option Addr} {c : Nat} (h : W.heap[g]? = some (.cells (rcells s A c) 29 (0, 0))) : W.cell? ⟨g, 0, none⟩ = some (.int .i64 (s.size : Int)) ∧ W.cell? ⟨g, 1, none⟩ = some (.int .i64 (s.base : Int)) ∧ W.cell? ⟨g, 2, none⟩ = some (.slice A s.l.length c) ∧ W.cell? ⟨g, 3, none⟩ = some (.int .i64 (s.under : Int)) := KeptX.row h
set_option maxRecDepth 100000 in
set_option maxHeartbeats 4000000 in
theorem play0 (M D : Nat) (w : World) (s : Snd) (A : Option Addr) (c : Nat) (an : Int) (R : Option Addr) (cr : Nat) (p : List Nat) (X0 : Nat → Prop) (hX0 : Hid (∀ q, X0 q → q < w.heap.size)) (h : Hid (Pl M X0 w D s s.l A c (.slice none 0 0) [])) (ok : Hid s.Ok) (hM : Hid (M ≤ w.heap.size)) (hr : Hid (Me.Rd w M R p)) (hR : Hid (R = none → p.length = 0 ∧ cr = 0)) (hpl : p.length ≤ 140737488351232) :
    Calls Try.prog 13 #[.pointer (some ⟨D, 0, none⟩), rval s A c, .agg #[.int .i64 0, .int .i64 an, .slice R p.length cr]] w (PlayP M X0 D w) := by
  rw [show rval s A c = .agg #[.int .i64 (s.size : Int), .int .i64 (s.base : Int), .slice A s.l.length c, .int .i64 (s.under : Int)] from rfl]
  have HT0 : Bt w s A c 0 an R p.length cr (((w.alloc (.cells #[.int .i64 (s.size : Int), .int .i64 (s.base : Int), .slice A s.l.length c, .int .i64 (s.under : Int)] 29)).alloc (.cells #[.int .i64 0, .int .i64 an, .slice R p.length cr] 38)).alloc (.cells #[.int .i64 0, .int .i64 0, .slice none 0 0, .int .i64 0] 29)) := Bt.new w s A c 0 an R p.length cr
  have HPLL := Lib.hid (show ([] : List Nat).length + p.length ≤ 140737488355328 by simp; omega)
  have HPL := Lib.hid (show p.length ≤ 140737488355328 by omega)
  obtain ⟨s', hs'⟩ : ∃ s', pushS s p = s' := ⟨_, rfl⟩
  obtain ⟨ee, hee⟩ : ∃ ee, pushE s p = ee := ⟨_, rfl⟩
  have HS' := Lib.hid hs'
  have HEE := Lib.hid hee
  have HOK' : Hid s'.Ok := by rw [← hs']; exact ok.out.push hr.out.1
  have RP := fun (W : World) (X : Nat → Prop) (P1 : Hid (Pl M X W D s s.l A c (.slice none 0 0) [])) (hX : Hid (∀ q, X q → q < W.heap.size)) (hp1 : Hid (Me.Rd W W.heap.size R p)) => RPush_p P1 ok hX R cr p hp1 hR s' hs'
  have PP := fun (W : World) (X : Nat → Prop) (l : List (List Nat)) (A2 : Option Addr) (c2 : Nat) (P1 : Hid (Pl M X W D s l A2 c2 (.slice none 0 0) [])) (hX : Hid (∀ q, X q → q < W.heap.size)) (A1 : Option Addr) (c1 : Nat) (hp1 : Hid (Me.Rd W W.heap.size A1 p)) (hA1 : Hid (A1 = none → p.length = 0 ∧ c1 = 0)) => Push_p P1 ok hX A1 c1 p hp1 hA1 HPL.out s' hs'
  rw [hee] at RP PP
  have HRP := Lib.hid RP
  have HPP := Lib.hid PP
  clear hs' hee RP PP hpl
  go_enter Try.func13, Try.ntmps13
  go_wp2_with (first
    | (at_builtin; generalize (((w.alloc (.cells #[.int .i64 (s.size : Int), .int .i64 (s.base : Int), .slice A s.l.length c, .int .i64 (s.under : Int)] 29)).alloc (.cells #[.int .i64 0, .int .i64 an, .slice R p.length cr] 38)).alloc (.cells #[.int .i64 0, .int .i64 0, .slice none 0 0, .int .i64 0] 29)) = W0 at HT0 ⊢; refine app8 rfl (.tmp 35) (.tmp 37) rfl W0.heap.size M _ [] p rfl (lit3 HT0.n) (Me.below_alloc (Below.refl _ W0)) (by simp) R cr rfl (hr.out.below (Below.mono (Me.below_alloc HT0.b) hM.out)) hR.out HPLL.out ?_; intro v1 w1 ho1 hb1 _; rw [List.nil_append] at ho1; obtain ⟨A1, c1, rfl, _, _, _⟩ := ho1.held hr.out.1; have b1 : Hid (Below w.heap.size w w1) := HT0.b.trans (hb1.mono HT0.b.size); have BX1 := Lib.hid (HT0.x.below hb1); have HN1 := Lib.hid HT0.n; have HO1 := Lib.hid ho1; obtain ⟨p1, m1, l1⟩ := play_at h.out hX0.out b1.out; have P1 := Lib.hid p1; have B1 := Lib.hid m1; have L1 := Lib.hid l1; have R1 : Hid (Me.Rd w1 w1.heap.size R p) := (hr.out.below (but_out B1.out hM.out)).more (Nat.le_trans hM.out b1.out.size); obtain ⟨x0, x1, x2, x3⟩ := BX1.out.row; obtain ⟨a0, a1, a2⟩ := BX1.out.act; clear ho1 hb1 HT0 p1 m1 l1)
    | (go_at_call 26; refine (HRP.out w1 _ P1 L1 R1).mono ?_; rintro e w2 ⟨A2, c2, he, P2, b2⟩; unfold rval rcells at he; subst he)
    | (go_at_call 19; obtain ⟨P3, L3, B3, X3, T3, Q3⟩ := play_box P2.out L1.out b2.out.size (but_more B1.out b2.out) (BX1.out.below b2.out) (rcells s' A2 c2); have O3 : Hid (Me.Own (w2.alloc (.cells #[.int .i64 (s'.size : Int), .int .i64 (s'.base : Int), .slice A2 s'.l.length c2, .int .i64 (s'.under : Int)] 29)) W0.heap.size (.slice A1 p.length c1) p) := own_same HO1.out fun k _ hk => (Me.below_alloc b2.out).block k hk; obtain ⟨r3, n3, _, _⟩ := own_rd O3.out hr.out.1; refine (HPP.out (w2.alloc (.cells #[.int .i64 (s'.size : Int), .int .i64 (s'.base : Int), .slice A2 s'.l.length c2, .int .i64 (s'.under : Int)] 29)) _ s'.l A2 c2 P3 L3 A1 c1 r3 n3).mono ?_; rintro e w4 ⟨rfl, P4, b4⟩; obtain ⟨X4, T4, B4⟩ := play_keep b4.out X3.out T3.out Q3.out (by have := HN1.out; have := BX1.out.lt; omega) B3.out; clear r3 n3))
  have HOW : Hid (∀ q, (Value.slice A1 p.length c1).ownBlock = some q → W0.heap.size ≤ q ∧ q < w1.heap.size) := fun q hq => World.ownsRow.lt HO1.out q hq
  have GV : Hid (Giv w4 (.slice A1 p.length c1) p.length) := ⟨p, rfl, hr.out.1, own_base (B' := 0) (own_same O3.out fun k hk hk3 => b4.out.same k hk3 fun hh => hh.2 (.inl (.inr ⟨by have := (HOW.out k hk).1; have := HN1.out; omega, (HOW.out k hk).2⟩))) fun _ _ => Nat.zero_le _⟩
  have HLE : Hid (w1.heap.size ≤ w2.heap.size) := b2.out.size
  clear HRP HPP P1 P2 P3
  go_loopw [12] (fun i wr => ∃ j : Nat, j ≤ p.length ∧ i = .int .i64 j ∧ Giv wr (.slice A1 p.length c1) p.length ∧ But (fun q => (Value.slice A1 p.length c1).ownBlock = some q) w4 wr) (fun i _ => p.length - (intOf i).toNat)
  case atStart => exact ⟨0, Nat.zero_le _, rfl, GV.out, But.refl _ _⟩
  case round =>
    obtain ⟨j, hj, rfl, hgv, hbt⟩ := hrel
    have HGV := Lib.hid hgv
    have HBT := Lib.hid hbt
    clear hgv hbt
    by_cases hjl : j < p.length
    · obtain ⟨g, y, rfl, hy, hc1, hf1, hob⟩ := HGV.out.cell hjl
      have HOB := Lib.hid hob
      have HY : Hid (255 - y < 256) := by show _ < _; omega
      have HT := Lib.hid (turn8 hy)
      clear hob
      go_wp2
      go_roundw
      case rel =>
        refine ⟨j + 1, by omega, by go_num, ?_⟩
        have e : (255 : Int) - (y : Int) = ((255 - y : Nat) : Int) := by omega
        first
          | exact ⟨by rw [e]; exact HGV.out.put HY.out, HBT.out.set (.inl HOB.out) _⟩
          | exact ⟨by rw [HT.out]; exact HGV.out.put HY.out, HBT.out.set (.inl HOB.out) _⟩
          | exact ⟨HGV.out.put HY.out, HBT.out.set (.inl HOB.out) _⟩
      case measure => simp [intOf]; omega
    · have hjn : ¬ (j : Int) < (p.length : Int) := by omega
      have nO : ∀ k, k < W0.heap.size ∨ w1.heap.size ≤ k → ¬ (Value.slice A1 p.length c1).ownBlock = some k := fun k hk hq => by have := HOW.out k hq; omega
      have T5 : wr.heap[w2.heap.size]? = some (.cells (rcells s' A2 c2) 29 (0, 0)) := HBT.out.at_ T4.out (nO _ (.inr HLE.out))
      have HZ : Hid (wr.heap[w.heap.size + 1 + 1]? = some (.cells zcells 29 (0, 0))) := HBT.out.at_ X4.out.z (nO _ (.inl (by have := HN1.out; omega)))
      have P5 := P4.out.but HBT.out fun q hq => .inl (.inr ⟨by have := (HOW.out q hq).1; have := HN1.out; omega, (HOW.out q hq).2⟩)
      have B5 : But (Out M X0) w wr := B4.out.trans HBT.out fun q hlt hq => by have := (HOW.out q hq).1; have := HN1.out; omega
      have FIN := Lib.hid (play_fin P5 (.inl (.inr ⟨by omega, by have := BX1.out.lt; omega⟩)) (fun q hq => .inl (.inl hq)) (fun q hq => by have := hX0.out q hq; omega) HZ.out B5 (by have := hM.out; omega))
      obtain ⟨y0, y1, y2, y3⟩ := rrow T5
      clear T5 P5 B5 nO
      go_wp2_with (refine wpList_store_row rfl 29 (.tmp 6) (.tmp 63) rfl (w.heap.size + 1 + 1) (rcells s' A2 c2) rfl rfl 29 _ HZ.out (by kernel_rfl) rfl (rc_one _ _ _) ?_)
      refine ret_cell rfl rfl FIN.out.1 rfl Try.underlying29 (by kernel_rfl) rfl ?_
      exact ⟨s', A2, c2, rfl, HOK', FIN.out.2.1, FIN.out.2.2⟩
end Go.Proofs.Ytdfjlhiliifapaa.Sn
