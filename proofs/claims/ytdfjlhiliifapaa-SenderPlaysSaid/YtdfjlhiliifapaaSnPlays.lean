/- The walk of the law SenderPlays. -/
import Derived.Test.YtdfjlhiliifapaaSnPlayB
import Derived.Test.YtdfjlhiliifapaaSnPlayC
import Derived.Test.YtdfjlhiliifapaaSnPlayD
import Derived.Test.YtdfjlhiliifapaaSnPlayE
import Derived.Test.YtdfjlhiliifapaaSnActs
import Derived.Test.YtdfjlhiliifapaaSnOrder
namespace Go.Proofs.Ytdfjlhiliifapaa.Sn
open Go.RowKit
open Go.Proofs.Ytdfjlhiliifapaa.Me Go.Proofs.Ytdfjlhiliifapaa.Hd
set_option linter.unusedVariables false
set_option linter.unusedSimpArgs false

/-- A call of both, whichever. -/
theorem Play_any (M D : Nat) (w : World) (s : Snd) (A : Option Addr) (c : Nat) (kd an : Int) (R : Option Addr) (cr : Nat) (p : List Nat) (X0 : Nat → Prop) (hX0 : Hid (∀ q, X0 q → q < w.heap.size)) (h : Hid (Pl M X0 w D s s.l A c (.slice none 0 0) [])) (ok : Hid s.Ok) (hM : Hid (M ≤ w.heap.size)) (hr : Hid (Me.Rd w M R p)) (hR : Hid (R = none → p.length = 0 ∧ cr = 0)) (hpl : p.length ≤ 140737488351232) :
    Calls Try.prog 13 #[.pointer (some ⟨D, 0, none⟩), rval s A c, .agg #[.int .i64 kd, .int .i64 an, .slice R p.length cr]] w (PlayP M X0 D w) := by
  by_cases h0 : kd = 0
  · subst h0; exact play0 M D w s A c an R cr p X0 hX0 h ok hM hr hR hpl
  by_cases h1 : kd = 1
  · subst h1; exact play1 M D w s A c an R cr p X0 hX0 h ok hM
  by_cases h2 : kd = 2
  · subst h2; exact play2 M D w s A c an R cr p X0 hX0 h ok hM
  by_cases h3 : kd = 3
  · subst h3; exact play3 M D w s A c an R cr p X0 hX0 h ok hM
  by_cases h4 : kd = 4
  · subst h4; exact play4 M D w s A c an R cr p X0 hX0 h ok hM
  exact playx M D w s A c kd an R cr p X0 hX0 h ok hM (beq_eq_false_iff_ne.mpr h0) (beq_eq_false_iff_ne.mpr h1) (beq_eq_false_iff_ne.mpr h2) (beq_eq_false_iff_ne.mpr h3) (beq_eq_false_iff_ne.mpr h4)
/-- A round of SenderPlays: both are s; the reference's row lies in block gb. -/
def PlI (w0 : World) (gb : Nat) (s : Snd) (A : Option Addr) (c : Nat) (wr : World) : Prop :=
  s.Ok ∧ Pl w0.heap.size (fun q => q = gb) wr w0.heap.size s s.l A c (.slice none 0 0) [] ∧ KeptX gb s A c wr ∧ Below w0.heap.size w0 wr ∧ w0.heap.size ≤ gb
theorem PlI.new {w w1 w2 : World} {n : Nat} (ok : (newS n).Ok) (h : Sn w.heap.size no w1 w.heap.size (newS n)) (b1 : Below w.heap.size w w1) (b2 : Below w1.heap.size w1 w2) : PlI w w2.heap.size (newS n) none 0 (w2.alloc (.cells #[.int .i64 (n : Int), .int .i64 0, .slice none 0 0, .int .i64 0] 29)) := by
  have b3 : Below w1.heap.size w1 (w2.alloc (.cells #[.int .i64 (n : Int), .int .i64 0, .slice none 0 0, .int .i64 0] 29)) := b2.alloc b2.size _
  refine ⟨ok, ⟨fun _ => False, h.grow' b3 fun q hq => ?_, Ls.nil _ _, El.nil _ _, fun q hq => hq.elim, Nat.le_trans b1.size b3.size⟩, heap_alloc_new w2 _, b1.trans (b3.mono b1.size), Nat.le_trans b1.size b2.size⟩
  rcases hq with hq | hq
  · exact hq.elim
  · subst hq; exact .inr b2.size
/-- Behind play, called in the world W. -/
structure PlO (w0 : World) (gb : Nat) (wr W : World) (s : Snd) (A : Option Addr) (c : Nat) (s' : Snd) (A' : Option Addr) (c' : Nat) (w' : World) : Prop where
  ok : s'.Ok
  pl : Pl w0.heap.size (fun q => q = gb ∨ (wr.heap.size ≤ q ∧ q < W.heap.size)) w' w0.heap.size s' s'.l A' c' (.slice none 0 0) []
  x : KeptX gb s A c w'
  b : Below w0.heap.size w0 w'
  m : w0.heap.size ≤ gb
  g : gb < wr.heap.size
  r : w0.heap.size ≤ wr.heap.size
  k : ∀ q, wr.heap.size ≤ q → q < W.heap.size → w'.heap[q]? = W.heap[q]?
  z : wr.heap.size ≤ w'.heap.size
theorem PlI.play {w0 : World} {gb : Nat} {s : Snd} {A : Option Addr} {c : Nat} {wr : World} (h : PlI w0 gb s A c wr) (kd an : Int) (R : Option Addr) (cr : Nat) (p : List Nat) (hr : Me.Rd w0 w0.heap.size R p) (hR : R = none → p.length = 0 ∧ cr = 0) (hpl : p.length ≤ 140737488351232) (W : World) (hb : Below wr.heap.size wr W) :
    Calls Try.prog 13 #[.pointer (some ⟨w0.heap.size, 0, none⟩), rval s A c, .agg #[.int .i64 kd, .int .i64 an, .slice R p.length cr]] W fun e w' => ∃ s' A' c', e = .returned (.tuple #[rval s' A' c', .bool true]) ∧ Hid (PlO w0 gb wr W s A c s' A' c' w') := by
  obtain ⟨ok, pl, x, b, m⟩ := h
  have hg : gb < wr.heap.size := (Array.getElem?_eq_some_iff.1 x).1
  have hbW : Below w0.heap.size w0 W := b.trans (hb.mono b.size)
  have hX0 : ∀ q, (q = gb ∨ (wr.heap.size ≤ q ∧ q < W.heap.size)) → q < W.heap.size := fun q hq => by
    have := hb.size
    rcases hq with rfl | hq
    · omega
    · exact hq.2
  refine (Play_any w0.heap.size w0.heap.size W s A c kd an R cr p _ (Lib.hid hX0) (Lib.hid (pl.grow hb fun q hq => hq.imp id fun h => h.1)) (Lib.hid ok) (Lib.hid hbW.size) (Lib.hid (hr.below hbW)) (Lib.hid hR) hpl).mono ?_
  rintro e w' ⟨s', A', c', rfl, ok', pl', b'⟩
  refine ⟨s', A', c', rfl, ok'.out, pl'.out, ?_, hbW.trans (but_out b'.out hbW.size), m, hg, b.size, fun q h1 h2 => b'.out.same q h2 fun hq => hq.2 (.inr ⟨h1, h2⟩), Nat.le_trans hb.size b'.out.size⟩
  exact (b'.out.same gb (by have := hb.size; omega) fun hq => hq.2 (.inl rfl)).trans ((hb.block gb hg).trans x)
/-- Behind play and the new box g1, which is still empty. -/
structure PlV (w0 : World) (gb g1 : Nat) (s : Snd) (A : Option Addr) (c : Nat) (s' : Snd) (A' : Option Addr) (c' : Nat) (row : Array Value) (V : World) : Prop where
  ok : s'.Ok
  pl : Pl w0.heap.size (fun q => q = gb ∨ q = g1) V w0.heap.size s' s'.l A' c' (.slice none 0 0) []
  x : KeptX gb s A c V
  y : V.heap[g1]? = some (.cells row 29 (0, 0))
  b : Below w0.heap.size w0 V
  m : w0.heap.size ≤ gb
  m1 : w0.heap.size ≤ g1
  n : gb ≠ g1
theorem PlO.one {w0 : World} {gb : Nat} {wr W : World} {s : Snd} {A : Option Addr} {c : Nat} {s' : Snd} {A' : Option Addr} {c' : Nat} {w' : World} (h : PlO w0 gb wr W s A c s' A' c' w') : PlV w0 gb w'.heap.size s A c s' A' c' zcells (w'.alloc (.cells zcells 29)) := by
  have hb : Below w'.heap.size w' (w'.alloc (.cells zcells 29)) := Me.below_alloc (Below.refl _ _)
  have hg := h.g
  have hz := h.z
  exact ⟨h.ok, h.pl.grow hb fun q hq => hq.elim (fun e => .inl (.inl e)) fun e => .inr (Nat.le_of_eq e.symm), (hb.block gb (by omega)).trans h.x, heap_alloc_new w' _, h.b.trans (hb.mono h.b.size), h.m, h.b.size, by omega⟩
theorem PlO.two {w0 : World} {gb : Nat} {wr W : World} {s : Snd} {A : Option Addr} {c : Nat} {s' : Snd} {A' : Option Addr} {c' : Nat} {w' : World} (h : PlO w0 gb wr W s A c s' A' c' w') (hW : W.heap[wr.heap.size]? = some (.cells zcells 29 (0, 0))) : PlV w0 gb wr.heap.size s A c s' A' c' zcells w' := by
  have hl : wr.heap.size < W.heap.size := (Array.getElem?_eq_some_iff.1 hW).1
  have hg := h.g
  exact ⟨h.ok, h.pl.less fun q hq => hq.elim .inl fun e => .inr ⟨Nat.le_of_eq e.symm, by omega⟩, h.x, (h.k _ (Nat.le_refl _) hl).trans hW, h.b, h.m, h.r, by omega⟩
theorem PlV.put {w0 : World} {gb g1 : Nat} {s : Snd} {A : Option Addr} {c : Nat} {s' : Snd} {A' : Option Addr} {c' : Nat} {row : Array Value} {V : World} (h : PlV w0 gb g1 s A c s' A' c' row V) (row' : Array Value) : PlV w0 gb g1 s A c s' A' c' row' (V.setRow g1 row') := by
  have hb : But (fun k => k = g1) V (V.setRow g1 row') := ⟨rfl, rfl, rfl, by simp [World.setRow], fun k _ hk => setRow_other _ _ k _ hk⟩
  exact ⟨h.ok, h.pl.but hb fun q hq => .inr hq, (setRow_other _ _ _ _ h.n).trans h.x, setRow_heap _ _ _ _ _ _ h.y, h.b.trans (hb.below h.b.size fun q hq => by subst hq; exact h.m1), h.m, h.m1, h.n⟩
theorem PlV.done {w0 : World} {gb g1 : Nat} {s : Snd} {A : Option Addr} {c : Nat} {s' : Snd} {A' : Option Addr} {c' : Nat} {row : Array Value} {V : World} (h : PlV w0 gb g1 s A c s' A' c' row V) : PlI w0 gb s' A' c' (V.setRow gb (rcells s' A' c')) := by
  have hb : But (fun k => k = gb) V (V.setRow gb (rcells s' A' c')) := ⟨rfl, rfl, rfl, by simp [World.setRow], fun k _ hk => setRow_other _ _ k _ hk⟩
  exact ⟨h.ok, (h.pl.but hb fun q hq => .inl hq).less fun q hq => .inl hq, setRow_heap _ _ _ _ _ _ h.x, h.b.trans (hb.below h.b.size fun q hq => by subst hq; exact h.m), h.m⟩
/-- What play's region reads. -/
def Held (w0 : World) (gb : Nat) (s : Snd) (A : Option Addr) (c : Nat) (W : World) : Prop := KeptX gb s A c W ∧ Below w0.heap.size w0 W
theorem PlI.below {w0 : World} {gb : Nat} {s : Snd} {A : Option Addr} {c : Nat} {wq W : World} (h : PlI w0 gb s A c wq) (hb : Below wq.heap.size wq W) : PlI w0 gb s A c W := by
  obtain ⟨ok, pl, x, b, m⟩ := h
  exact ⟨ok, pl.grow hb fun q hq => .inl hq, (hb.block gb (Array.getElem?_eq_some_iff.1 x).1).trans x, b.trans (hb.mono b.size), m⟩
/-- What the law asks behind each call. -/
theorem PlI.ends {w0 : World} {gb : Nat} {s : Snd} {A : Option Addr} {c : Nat} {wq : World} (h : PlI w0 gb s A c wq) :
    Hid (∀ W, (W.cell? ⟨gb, 0, none⟩ = some (.int .i64 (s.size : Int)) ∧ W.cell? ⟨gb, 1, none⟩ = some (.int .i64 (s.base : Int)) ∧ W.cell? ⟨gb, 2, none⟩ = some (.slice A s.l.length c) ∧ W.cell? ⟨gb, 3, none⟩ = some (.int .i64 (s.under : Int)) ∧ Below wq.heap.size wq W) → Calls Try.prog 15 #[.pointer (some ⟨w0.heap.size, 0, none⟩)] W fun e w1 => ∃ A1 c1, e = .returned (.slice A1 s.under c1) ∧ (w1.cell? ⟨gb, 0, none⟩ = some (.int .i64 (s.size : Int)) ∧ w1.cell? ⟨gb, 1, none⟩ = some (.int .i64 (s.base : Int)) ∧ w1.cell? ⟨gb, 2, none⟩ = some (.slice A s.l.length c) ∧ w1.cell? ⟨gb, 3, none⟩ = some (.int .i64 (s.under : Int)) ∧ Below wq.heap.size wq w1) ∧ Hid (Mi.Rd w1 w1.heap.size A1 (Wn.goes (s.base : Int) s.under))) ∧
    Hid (∀ W, (W.cell? ⟨gb, 0, none⟩ = some (.int .i64 (s.size : Int)) ∧ W.cell? ⟨gb, 1, none⟩ = some (.int .i64 (s.base : Int)) ∧ W.cell? ⟨gb, 2, none⟩ = some (.slice A s.l.length c) ∧ W.cell? ⟨gb, 3, none⟩ = some (.int .i64 (s.under : Int)) ∧ Below wq.heap.size wq W) → Calls Try.prog 16 #[rval s A c] W fun e w1 => ∃ A1 c1, e = .returned (.slice A1 s.under c1) ∧ (w1.cell? ⟨gb, 0, none⟩ = some (.int .i64 (s.size : Int)) ∧ w1.cell? ⟨gb, 1, none⟩ = some (.int .i64 (s.base : Int)) ∧ w1.cell? ⟨gb, 2, none⟩ = some (.slice A s.l.length c) ∧ w1.cell? ⟨gb, 3, none⟩ = some (.int .i64 (s.under : Int)) ∧ Below wq.heap.size wq w1) ∧ Hid (Mi.Rd w1 w1.heap.size A1 (Wn.goes (s.base : Int) s.under)) ∧ Hid (Below W.heap.size W w1)) ∧
    Hid (∀ W, (W.cell? ⟨gb, 0, none⟩ = some (.int .i64 (s.size : Int)) ∧ W.cell? ⟨gb, 1, none⟩ = some (.int .i64 (s.base : Int)) ∧ W.cell? ⟨gb, 2, none⟩ = some (.slice A s.l.length c) ∧ W.cell? ⟨gb, 3, none⟩ = some (.int .i64 (s.under : Int)) ∧ Below wq.heap.size wq W) → ∀ A1 A2 c1 c2, Hid (Mi.Rd W W.heap.size A1 (Wn.goes (s.base : Int) s.under)) → Hid (Mi.Rd W W.heap.size A2 (Wn.goes (s.base : Int) s.under)) → Calls Try.prog 14 #[.slice A1 s.under c1, .slice A2 s.under c2] W fun e w1 => e = .returned (.bool true) ∧ (w1.cell? ⟨gb, 0, none⟩ = some (.int .i64 (s.size : Int)) ∧ w1.cell? ⟨gb, 1, none⟩ = some (.int .i64 (s.base : Int)) ∧ w1.cell? ⟨gb, 2, none⟩ = some (.slice A s.l.length c) ∧ w1.cell? ⟨gb, 3, none⟩ = some (.int .i64 (s.under : Int)) ∧ Below wq.heap.size wq w1)) ∧
    Hid (∀ W, (W.cell? ⟨gb, 0, none⟩ = some (.int .i64 (s.size : Int)) ∧ W.cell? ⟨gb, 1, none⟩ = some (.int .i64 (s.base : Int)) ∧ W.cell? ⟨gb, 2, none⟩ = some (.slice A s.l.length c) ∧ W.cell? ⟨gb, 3, none⟩ = some (.int .i64 (s.under : Int)) ∧ Below wq.heap.size wq W) → Calls Try.prog 17 #[.pointer (some ⟨w0.heap.size, 0, none⟩)] W fun e w1 => e = .returned (.int .i64 (s.base : Int)) ∧ W = w1) ∧
    Hid (∀ W, (W.cell? ⟨gb, 0, none⟩ = some (.int .i64 (s.size : Int)) ∧ W.cell? ⟨gb, 1, none⟩ = some (.int .i64 (s.base : Int)) ∧ W.cell? ⟨gb, 2, none⟩ = some (.slice A s.l.length c) ∧ W.cell? ⟨gb, 3, none⟩ = some (.int .i64 (s.under : Int)) ∧ Below wq.heap.size wq W) → Calls Try.prog 18 #[.pointer (some ⟨w0.heap.size, 0, none⟩)] W fun e w1 => e = .returned (.int .i64 (s.l.length : Int)) ∧ W = w1) ∧
    Hid (wq.drew.cell? ⟨gb, 0, none⟩ = some (.int .i64 (s.size : Int)) ∧ wq.drew.cell? ⟨gb, 1, none⟩ = some (.int .i64 (s.base : Int)) ∧ wq.drew.cell? ⟨gb, 2, none⟩ = some (.slice A s.l.length c) ∧ wq.drew.cell? ⟨gb, 3, none⟩ = some (.int .i64 (s.under : Int)) ∧ Below wq.heap.size wq wq.drew) := by
  have keep : ∀ W w1 : World, (W.cell? ⟨gb, 0, none⟩ = some (.int .i64 (s.size : Int)) ∧ W.cell? ⟨gb, 1, none⟩ = some (.int .i64 (s.base : Int)) ∧ W.cell? ⟨gb, 2, none⟩ = some (.slice A s.l.length c) ∧ W.cell? ⟨gb, 3, none⟩ = some (.int .i64 (s.under : Int)) ∧ Below wq.heap.size wq W) → Below W.heap.size W w1 → (w1.cell? ⟨gb, 0, none⟩ = some (.int .i64 (s.size : Int)) ∧ w1.cell? ⟨gb, 1, none⟩ = some (.int .i64 (s.base : Int)) ∧ w1.cell? ⟨gb, 2, none⟩ = some (.slice A s.l.length c) ∧ w1.cell? ⟨gb, 3, none⟩ = some (.int .i64 (s.under : Int)) ∧ Below wq.heap.size wq w1) := fun W w1 ⟨a0, a1, a2, a3, hq⟩ hb =>
    ⟨(hb.cell (World.block_lt_of_cell? W _ a0)).trans a0, (hb.cell (World.block_lt_of_cell? W _ a1)).trans a1, (hb.cell (World.block_lt_of_cell? W _ a2)).trans a2, (hb.cell (World.block_lt_of_cell? W _ a3)).trans a3, hq.trans (hb.mono hq.size)⟩
  have own : ∀ (w1 : World) (B : Nat) (v : Value), Mi.Own w1 B v (Wn.goes (s.base : Int) s.under) → ∃ A1 c1, v = .slice A1 s.under c1 ∧ Mi.Rd w1 w1.heap.size A1 (Wn.goes (s.base : Int) s.under) := by
    intro w1 B v ho
    obtain ⟨A1, c1, e, _, _, g, _, _⟩ := Mi.Own.form ho
    rw [Wn.goes_length] at e
    exact ⟨A1, c1, e, g⟩
  have sn : ∀ W, Below wq.heap.size wq W → ∃ O, Sn w0.heap.size O W w0.heap.size s := fun W hb => by
    obtain ⟨_, ⟨G, h1, _⟩, _⟩ := h.below hb
    exact ⟨_, h1⟩
  have ok := h.1
  obtain ⟨k0, k1, k2, k3⟩ := KeptX.row h.2.2.1
  refine ⟨fun W hS => ?_, fun W hS => ?_, fun W hS A1 A2 c1 c2 r1 r2 => ?_, fun W hS => ?_, fun W hS => ?_, ⟨k0, k1, k2, k3, (Below.refl _ _).drew⟩⟩
  · obtain ⟨O, hO⟩ := sn W hS.2.2.2.2
    refine (Under_s _ O W _ s hO ok).mono ?_
    rintro e w1 ⟨v, rfl, ho, hb⟩
    obtain ⟨A1, c1, rfl, hr⟩ := own w1 _ v ho.out
    exact ⟨A1, c1, rfl, keep W w1 hS hb.out, hr⟩
  · refine (RUnder_any W s A c ok).mono ?_
    rintro e w1 ⟨v, rfl, ho, hb⟩
    obtain ⟨A1, c1, rfl, hr⟩ := own w1 _ v ho.out
    exact ⟨A1, c1, rfl, keep W w1 hS hb.out, hr, hb⟩
  · refine (Wn.Same_one A1 A2 s.under s.under c1 c2 _ W r1 r2 (Wn.goes_length _ _).symm (Wn.goes_length _ _).symm (by rw [Wn.goes_length]; have := ok.u; have := ok.s63; omega)).mono ?_
    rintro e w1 ⟨rfl, hb⟩
    exact ⟨rfl, keep W w1 hS hb.out⟩
  · obtain ⟨O, hO⟩ := sn W hS.2.2.2.2
    exact Base_s _ O W _ s hO
  · obtain ⟨O, hO⟩ := sn W hS.2.2.2.2
    exact Len_s _ O W _ s hO
set_option maxRecDepth 100000 in
set_option maxHeartbeats 4000000 in
theorem plays (size : Int) (Al : Option Addr) (len cap : Nat) (ls0 : List Ac) (w : World) (w0 : (Lit.int .i64 size).wf = true) (w1 : len = ls0.length ∧ len ≤ cap ∧ cap ≤ 9223372036854775807 ∧ Acts w Al ls0) :
    Calls Try.prog 3 #[.int .i64 size, .slice Al len cap] w fun e w' => e = .returned (.bool true) ∧ Below w.heap.size w w' := by
  obtain ⟨rfl, hlc, hm, hacts⟩ := w1
  by_cases hbad : size < 1 ∨ 63 < size
  · have N := Lib.hid (New_bad size hbad w)
    have NR := Lib.hid (RNew_bad size hbad w)
    clear hbad w0 hacts
    go_enter Try.func3, Try.ntmps3
    go_wp2_with (first
      | (go_at_call 9; refine N.out.mono ?_; rintro e w' ⟨rfl, rfl⟩)
      | (go_at_call 10; refine NR.out.mono ?_; rintro e w2 ⟨he, b2⟩; unfold zcells at he; subst he)
      | (go_at_call 11; refine (awake_any _).mono ?_; rintro e w9 ⟨rfl, hb9⟩))
    go_ret
    exact ⟨rfl, (b2.out.alloc b2.out.size _).trans (hb9.out.mono (Nat.le_trans b2.out.size (by simp)))⟩
  · obtain ⟨n, rfl⟩ : ∃ n : Nat, size = (n : Int) := ⟨size.toNat, by omega⟩
    have hn1 : 1 ≤ n := by omega
    have hn2 : n ≤ 63 := by omega
    have N := Lib.hid (New_s w.heap.size no n hn1 hn2 w (Nat.le_refl _) (fun k hk => hk.elim))
    have NR := Lib.hid (fun W => RNew_ok n hn1 hn2 W)
    obtain ⟨ls, hls⟩ : ∃ ls, ls0.take 300 = ls := ⟨_, rfl⟩
    have HC := Lib.hid (fun W => cutA_any Al cap ls0 W hlc hm ls.length (by rw [hls]))
    have HA : Hid (Acts w Al ls) := by rw [← hls]; exact hacts.take 300
    have h300 : ls.length ≤ 300 := by rw [← hls]; simp; omega
    have H300 := Lib.hid h300
    have HNEW : Hid ((newS n).Ok) := Snd.Ok.new hn1 hn2
    obtain ⟨L0, hL0⟩ : ∃ L0, ls0.length = L0 := ⟨_, rfl⟩
    rw [hL0] at HC ⊢
    clear hbad hn1 hn2 w0 hls hlc hm hacts h300 hL0
    go_enter Try.func3, Try.ntmps3
    go_wp2_with (first
      | (go_at_call 9; refine N.out.mono ?_; rintro e w1 ⟨rfl, H1, B1⟩)
      | (go_at_call 10; refine (NR.out _).mono ?_; rintro e w2 ⟨he, b2⟩; unfold rval rcells newS at he; subst he)
      | (go_at_call 12; refine (HC.out _).mono ?_; rintro e w' ⟨rfl, rfl⟩))
    have HI0 : Hid (PlI w w2.heap.size (newS n) none 0 (w2.alloc (.cells #[.int .i64 (n : Int), .int .i64 0, .slice none 0 0, .int .i64 0] 29))) := PlI.new HNEW.out H1.out B1.out b2.out
    clear H1 B1 N NR HC b2
    generalize w2.alloc (.cells #[.int .i64 (n : Int), .int .i64 0, .slice none 0 0, .int .i64 0] 29) = W0 at HI0 ⊢
    obtain ⟨gb, hgb⟩ : ∃ gb, w2.heap.size = gb := ⟨_, rfl⟩
    rw [hgb] at HI0 ⊢
    clear hgb
    go_loopw [9] (fun i wr => ∃ (k : Nat) (s : Snd) (A : Option Addr) (c : Nat), k ≤ ls.length ∧ i = .int .i64 k ∧ PlI w gb s A c wr) (fun i _ => ls.length - (intOf i).toNat)
    case atStart => exact ⟨0, newS n, none, 0, Nat.zero_le _, rfl, HI0.out⟩
    case round =>
      obtain ⟨k, s, A, c, hk, rfl, ok, hpl, hkx, hbl, hgb⟩ := hrel
      have OK := Lib.hid ok
      have HPL := Lib.hid hpl
      have HKX := Lib.hid hkx
      have HBL := Lib.hid hbl
      have HGB := Lib.hid hgb
      clear ok hpl hkx hbl hgb HI0
      by_cases hlt : k < ls.length
      · obtain ⟨b, off, R, cr, rfl, hbb, c0, c1, c2, r1, r2, r3, r4⟩ := HA.out k hlt
        have hk300 : (k : Int) < 300 := by have := H300.out; omega
        obtain ⟨⟨kd, an, p⟩, hac⟩ : ∃ a, acAt ls k = a := ⟨_, rfl⟩
        rw [hac] at c0 c1 c2 r1 r3 r4
        simp only at c0 c1 c2 r1 r3 r4
        have C0 := Lib.hid c0
        have C1 := Lib.hid c1
        have C2 := Lib.hid c2
        have HBB := Lib.hid hbb
        have hPy := PlI.play ⟨OK.out, HPL.out, HKX.out, HBL.out, HGB.out⟩ kd an R cr p r3 r4 (Nat.le_trans r1 r2)
        have HPY := Lib.hid hPy
        clear c0 c1 c2 hac r1 r2 r3 r4 hPy
        go_wp2
        have S0 : Held w gb s A c wr.drew := ⟨HKX.out, HBL.out.drew⟩
        refine wp_region_held_drew (S := Held w gb s A c) (by kernel_rfl) S0 (fun hHeld => ?_)
        refine wpAnyH_take (i := 0) (v := ?vz1) rfl (by kernel_rfl) (by kernel_rfl) (by kernel_rfl) (fun _ _ _ h => h) (Or.inl ⟨by rfl, ?hyz1⟩) (by first | assumption | exact trivial) ?restz1
        case hyz1 => intro W hSW; go_simp; try (with_reducible rfl)
        simp only [Act.put, List.getElem_toArray, List.getElem_cons_succ, List.getElem_cons_zero, List.setIfInBounds_toArray, List.set_cons_zero, List.set_cons_succ]
        refine wpAnyH_take (i := 1) (v := ?vz2) rfl (by kernel_rfl) (by kernel_rfl) (by kernel_rfl) (fun _ _ _ h => h) (Or.inl ⟨by rfl, ?hyz2⟩) (by first | assumption | exact trivial) ?restz2
        case hyz2 => intro W hSW; obtain ⟨n0, n1, n2, n3⟩ := KeptX.row hSW.1; go_simp; try (with_reducible rfl)
        simp only [Act.put, List.getElem_toArray, List.getElem_cons_succ, List.getElem_cons_zero, List.setIfInBounds_toArray, List.set_cons_zero, List.set_cons_succ]
        refine wpAnyH_take (i := 2) (v := ?vz3) rfl (by kernel_rfl) (by kernel_rfl) (by kernel_rfl) (fun _ _ _ h => h) (Or.inl ⟨by rfl, ?hyz3⟩) (by first | assumption | exact trivial) ?restz3
        case hyz3 => intro W hSW; go_simp; try (with_reducible rfl)
        simp only [Act.put, List.getElem_toArray, List.getElem_cons_succ, List.getElem_cons_zero, List.setIfInBounds_toArray, List.set_cons_zero, List.set_cons_succ]
        refine wpAnyH_take (i := 3) (v := ?vz4) rfl (by kernel_rfl) (by kernel_rfl) (by kernel_rfl) (fun _ _ _ h => h) (Or.inl ⟨by rfl, ?hyz4⟩) (by first | assumption | exact trivial) ?restz4
        case hyz4 => intro W hSW; go_simp; try (with_reducible rfl)
        simp only [Act.put, List.getElem_toArray, List.getElem_cons_succ, List.getElem_cons_zero, List.setIfInBounds_toArray, List.set_cons_zero, List.set_cons_succ]
        refine wpAnyH_take (i := 4) (v := ?vz5) rfl (by kernel_rfl) (by kernel_rfl) (by kernel_rfl) (fun _ _ _ h => h) (Or.inl ⟨by rfl, ?hyz5⟩) (by first | assumption | exact trivial) ?restz5
        case hyz5 => intro W hSW; go_simp; try (with_reducible rfl)
        simp only [Act.put, List.getElem_toArray, List.getElem_cons_succ, List.getElem_cons_zero, List.setIfInBounds_toArray, List.set_cons_zero, List.set_cons_succ]
        refine wpAnyH_take (i := 5) (v := ?vz6) rfl (by kernel_rfl) (by kernel_rfl) (by kernel_rfl) (fun _ _ _ h => h) (Or.inl ⟨by rfl, ?hyz6⟩) (by first | assumption | exact trivial) ?restz6
        case hyz6 => intro W hSW; have d0 := (hSW.2.cell (p := ⟨b, off + k * 3, none⟩) HBB.out).trans C0.out; have d1 := (hSW.2.cell (p := ⟨b, off + k * 3 + 1, none⟩) HBB.out).trans C1.out; have d2 := (hSW.2.cell (p := ⟨b, off + k * 3 + 2, none⟩) HBB.out).trans C2.out; go_simp; try (with_reducible rfl)
        simp only [Act.put, List.getElem_toArray, List.getElem_cons_succ, List.getElem_cons_zero, List.setIfInBounds_toArray, List.set_cons_zero, List.set_cons_succ]
        refine wpAnyH_ready (rs := [6, 10]) (by kernel_rfl) (by simp) ?_
        refine AllReadyH.cons rfl (fun K hK => ?pa) (AllReadyH.cons rfl (fun K hK => ?pb) AllReadyH.nil)
        case' pa =>
          go_simp
          go_wp2_with (go_at_call 13; refine (HPY.out wr.drew (Below.refl _ _).drew).mono ?_; rintro e w5 ⟨s', A', c', he, HO⟩; unfold rval rcells at he; subst he)
          have S1 : Held w gb s A c w5 := ⟨HO.out.x, HO.out.b⟩
          refine hK.out _ _ (S1) (fun hHeld => ?_)
          clear hK K
          refine wpAnyH_take (i := 7) (v := ?vz7) rfl (by kernel_rfl) (by kernel_rfl) (by kernel_rfl) (fun _ _ _ h => h) (Or.inl ⟨by rfl, ?hyz7⟩) (by first | assumption | exact trivial) ?restz7
          case hyz7 => intro W hSW; go_simp; try (with_reducible rfl)
          simp only [Act.put, List.getElem_toArray, List.getElem_cons_succ, List.getElem_cons_zero, List.setIfInBounds_toArray, List.set_cons_zero, List.set_cons_succ]
          refine wpAnyH_take (i := 8) (v := ?vz8) rfl (by kernel_rfl) (by kernel_rfl) (by kernel_rfl) (fun _ _ _ h => h) (Or.inl ⟨by rfl, ?hyz8⟩) (by first | assumption | exact trivial) ?restz8
          case hyz8 => intro W hSW; go_simp; try (with_reducible rfl)
          simp only [Act.put, List.getElem_toArray, List.getElem_cons_succ, List.getElem_cons_zero, List.setIfInBounds_toArray, List.set_cons_zero, List.set_cons_succ]
          refine wpAnyH_take (i := 9) (v := ?vz9) rfl (by kernel_rfl) (by kernel_rfl) (by kernel_rfl) (fun _ _ _ h => h) (Or.inl ⟨by rfl, ?hyz9⟩) (by first | assumption | exact trivial) ?restz9
          case hyz9 => intro W hSW; go_simp; try (with_reducible rfl)
          simp only [Act.put, List.getElem_toArray, List.getElem_cons_succ, List.getElem_cons_zero, List.setIfInBounds_toArray, List.set_cons_zero, List.set_cons_succ]
          refine wpAnyH_ready (rs := [10]) (by kernel_rfl) (by simp) ?_
          refine AllReadyH.cons rfl (fun K hK => ?_) AllReadyH.nil
          go_simp
          have HV : Hid (PlV w gb w5.heap.size s A c s' A' c' zcells (w5.alloc (.cells #[.int .i64 0, .int .i64 0, .slice none 0 0, .int .i64 0] 29))) := HO.out.one
          have S2 : Held w gb s A c _ := ⟨HV.out.x, HV.out.b⟩
          refine hK.out _ _ (S2) (fun hHeld => ?_)
          clear hK K
          generalize w5.alloc (.cells #[.int .i64 0, .int .i64 0, .slice none 0 0, .int .i64 0] 29) = V at HV ⊢
          generalize w5.heap.size = g1 at HV ⊢
        case' pb =>
          go_simp
          have S1 : Held w gb s A c (wr.drew.alloc (.cells zcells 29)) := ⟨(Below.heap_alloc wr.drew _ gb (Array.getElem?_eq_some_iff.1 HKX.out).1).trans HKX.out, HBL.out.drew.alloc HBL.out.size _⟩
          refine hK.out _ _ (S1) (fun hHeld => ?_)
          clear hK K
          refine wpAnyH_ready (rs := [6]) (by kernel_rfl) (by simp) ?_
          refine AllReadyH.cons rfl (fun K hK => ?_) AllReadyH.nil
          go_simp
          go_wp2_with (go_at_call 13; refine (HPY.out _ ((Below.refl wr.heap.size wr).drew.alloc (Nat.le_refl _) _)).mono ?_; rintro e V ⟨s', A', c', he, HO⟩; unfold rval rcells at he; subst he)
          have HV := Lib.hid (HO.out.two (heap_alloc_new wr.drew _))
          have S2 : Held w gb s A c V := ⟨HO.out.x, HO.out.b⟩
          refine hK.out _ _ (S2) (fun hHeld => ?_)
          clear hK K
          refine wpAnyH_take (i := 7) (v := ?vz10) rfl (by kernel_rfl) (by kernel_rfl) (by kernel_rfl) (fun _ _ _ h => h) (Or.inl ⟨by rfl, ?hyz10⟩) (by first | assumption | exact trivial) ?restz10
          case hyz10 => intro W hSW; go_simp; try (with_reducible rfl)
          simp only [Act.put, List.getElem_toArray, List.getElem_cons_succ, List.getElem_cons_zero, List.setIfInBounds_toArray, List.set_cons_zero, List.set_cons_succ]
          refine wpAnyH_take (i := 8) (v := ?vz11) rfl (by kernel_rfl) (by kernel_rfl) (by kernel_rfl) (fun _ _ _ h => h) (Or.inl ⟨by rfl, ?hyz11⟩) (by first | assumption | exact trivial) ?restz11
          case hyz11 => intro W hSW; go_simp; try (with_reducible rfl)
          simp only [Act.put, List.getElem_toArray, List.getElem_cons_succ, List.getElem_cons_zero, List.setIfInBounds_toArray, List.set_cons_zero, List.set_cons_succ]
          refine wpAnyH_take (i := 9) (v := ?vz12) rfl (by kernel_rfl) (by kernel_rfl) (by kernel_rfl) (fun _ _ _ h => h) (Or.inl ⟨by rfl, ?hyz12⟩) (by first | assumption | exact trivial) ?restz12
          case hyz12 => intro W hSW; go_simp; try (with_reducible rfl)
          simp only [Act.put, List.getElem_toArray, List.getElem_cons_succ, List.getElem_cons_zero, List.setIfInBounds_toArray, List.set_cons_zero, List.set_cons_succ]
          generalize wr.heap.size = g1 at HV ⊢
        all_goals
          clear S0 HO
          refine wpAnyH_ready (rs := [11]) (by kernel_rfl) (by simp) ?_
          refine AllReadyH.cons rfl (fun K hK => ?_) AllReadyH.nil
          rw [if_pos (by kernel_rfl)]
          refine wp_store_row 29 (.tmp 10) (.tmp 51) rfl g1 (rcells s' A' c') rfl (by rfl) 29 _ HV.out.y (by kernel_rfl) rfl (rc_one _ _ _) ?_
          simp only [Act.put, List.getElem_toArray, List.getElem_cons_succ, List.getElem_cons_zero, List.setIfInBounds_toArray, List.set_cons_zero, List.set_cons_succ]
          have HJ := Lib.hid (HV.out.put (rcells s' A' c'))
          have S3 : Held w gb s A c _ := ⟨HJ.out.x, HJ.out.b⟩
          refine hK.out _ _ (S3) (fun hHeld => ?_)
          clear hK K
          refine wpAnyH_take (i := 12) (v := .bool true) rfl (by kernel_rfl) (by kernel_rfl) (by kernel_rfl) (fun _ _ _ h => h) (Or.inl ⟨by rfl, ?_⟩) (by first | assumption | exact trivial) ?_
          · intro W hSW; go_simp; try (with_reducible rfl)
          simp only [Act.put, List.getElem_toArray, List.getElem_cons_succ, List.getElem_cons_zero, List.setIfInBounds_toArray, List.set_cons_zero, List.set_cons_succ]
          refine wpAnyH_done (by kernel_rfl) ?_ _
          generalize V.setRow g1 (rcells s' A' c') = V2 at HJ ⊢
          obtain ⟨y0, y1, y2, y3⟩ := KeptX.row HJ.out.y
          go_wp2_with (refine wpList_store_row rfl 29 (.tmp 7) (.tmp 53) rfl gb (rcells s' A' c') rfl rfl 29 _ HJ.out.x (by kernel_rfl) rfl (rc_one _ _ _) ?_)
          have HI := Lib.hid HJ.out.done
          clear y0 y1 y2 y3
          generalize V2.setRow gb (rcells s' A' c') = wq at HI ⊢
          clear HPL HKX HBL HGB HV HJ OK HPY
          obtain ⟨E1, E2, E3, E4, E5, E6⟩ := HI.out.ends
          go_region_held (fun W => (W.cell? ⟨gb, 0, none⟩ = some (.int .i64 (s'.size : Int)) ∧ W.cell? ⟨gb, 1, none⟩ = some (.int .i64 (s'.base : Int)) ∧ W.cell? ⟨gb, 2, none⟩ = some (.slice A' s'.l.length c') ∧ W.cell? ⟨gb, 3, none⟩ = some (.int .i64 (s'.under : Int)) ∧ Below wq.heap.size wq W))
            (first | assumption | exact E6.out)
            (first
              | (go_at_call 15; refine (E1.out _ (by assumption)).mono ?_; rintro e w6 ⟨A6, c6, rfl, hS6, R6⟩)
              | (go_at_call 16; refine (E2.out _ (by assumption)).mono ?_; rintro e w7 ⟨A7, c7, rfl, hS7, R7, b7⟩; have R67 := Lib.hid ((R6.out.below b7.out).more b7.out.size))
              | (go_at_call 14; refine (E3.out _ (by assumption) _ _ _ _ R67 R7).mono ?_; rintro e w8 ⟨rfl, hS8⟩)
              | (go_at_call 17; refine (E4.out _ (by assumption)).mono ?_; rintro e w9 ⟨rfl, rfl⟩)
              | (go_at_call 18; refine (E5.out _ (by assumption)).mono ?_; rintro e w9 ⟨rfl, rfl⟩))
          rename_i hfin
          go_wp2
          go_roundw
          case rel => exact ⟨k + 1, s', A', c', by omega, by go_num, HI.out.below hfin.2.2.2.2⟩
          case measure => simp [intOf]; omega
      · have hjn : ¬ (k : Int) < (ls.length : Int) := by omega
        go_wp2_with (go_at_call 11; refine (awake_below HBL).mono ?_; rintro e w9 ⟨rfl, hb9⟩)
        go_ret
        exact ⟨rfl, hb9.out⟩
end Go.Proofs.Ytdfjlhiliifapaa.Sn
