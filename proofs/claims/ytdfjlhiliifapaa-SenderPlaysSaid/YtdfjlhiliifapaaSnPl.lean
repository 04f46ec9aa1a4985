/- A sender beside the reference's: what both hold, call by call. -/
import Derived.Test.YtdfjlhiliifapaaSnOrder
import Derived.Test.YtdfjlhiliifapaaSameL
namespace Go.Proofs.Ytdfjlhiliifapaa.Sn
open Go.RowKit
open Go.Proofs.Ytdfjlhiliifapaa.Me Go.Proofs.Ytdfjlhiliifapaa.Hd
set_option linter.unusedVariables false
set_option linter.unusedSimpArgs false

theorem Sn.grow' {M : Nat} {O O' : Nat → Prop} {w w' : World} {D : Nat} {s : Snd} (h : Sn M O w D s) (hb : Below w.heap.size w w') (hO' : ∀ k, O' k → O k ∨ w.heap.size ≤ k) : Sn M O' w' D s :=
  h.swap (row := none) ⟨hb.os, hb.tape, hb.output, hb.size, fun k hk _ => hb.block k hk⟩ (fun k e => by cases e) hO'
/-- Block D is the sender s; a list of the reference's lies at A; u is one of its payloads; all of it in blocks from M on, none of X, none shared. -/
def Pl (M : Nat) (X : Nat → Prop) (w : World) (D : Nat) (s : Snd) (l : List (List Nat)) (A : Option Addr) (c : Nat) (u : Value) (r : List Nat) : Prop :=
  ∃ G, Sn M (fun q => G q ∨ X q) w D s ∧ Ls G w A c l ∧ El G w u r ∧ (∀ q, G q → M ≤ q ∧ q < w.heap.size ∧ ¬ X q) ∧ M ≤ w.heap.size
theorem El.of {G G' : Nat → Prop} {w w' : World} {u : Value} {r : List Nat} (h : El G w u r) (hk : ∀ k, k < w.heap.size → G k → w'.heap[k]? = w.heap[k]? ∧ G' k) : El G' w' u r := h.kept fun k cs hF hc => hk k (Array.getElem?_eq_some_iff.1 hc).1 hF
theorem Pl.grow {M : Nat} {X X' : Nat → Prop} {w w' : World} {D : Nat} {s : Snd} {l : List (List Nat)} {A : Option Addr} {c : Nat} {u : Value} {r : List Nat} (h : Pl M X w D s l A c u r) (hb : Below w.heap.size w w') (hX : ∀ q, X' q → X q ∨ w.heap.size ≤ q) : Pl M X' w' D s l A c u r := by
  obtain ⟨G, h1, h2, h3, h4, h5⟩ := h
  refine ⟨G, h1.grow' hb (fun q hq => ?_), h2.below hb, h3.of fun k hk hg => ⟨hb.block k hk, hg⟩, fun q hq => ⟨(h4 q hq).1, Nat.lt_of_lt_of_le (h4 q hq).2.1 hb.size, fun hx => ?_⟩, Nat.le_trans h5 hb.size⟩
  · rcases hq with hq | hq
    · exact .inl (.inl hq)
    · exact (hX q hq).imp (fun h => .inr h) id
  · rcases hX q hx with h' | h'
    · exact (h4 q hq).2.2 h'
    · have := (h4 q hq).2.1; omega
theorem Pl.but {M : Nat} {X S : Nat → Prop} {w w' : World} {D : Nat} {s : Snd} {l : List (List Nat)} {A : Option Addr} {c : Nat} {u : Value} {r : List Nat} (h : Pl M X w D s l A c u r) (hb : But S w w') (hS : ∀ q, S q → X q) : Pl M X w' D s l A c u r := by
  obtain ⟨G, h1, h2, h3, h4, h5⟩ := h
  refine ⟨G, h1.but hb fun q hq => .inl (.inr (hS q hq)), h2.but hb fun q hq hs => (h4 q hq).2.2 (hS q hs), h3.of fun k hk hg => ⟨hb.same k hk fun hs => (h4 k hg).2.2 (hS k hs), hg⟩, fun q hq => ⟨(h4 q hq).1, Nat.lt_of_lt_of_le (h4 q hq).2.1 hb.size, (h4 q hq).2.2⟩, Nat.le_trans h5 hb.size⟩
theorem Pl.less {M : Nat} {X X' : Nat → Prop} {w : World} {D : Nat} {s : Snd} {l : List (List Nat)} {A : Option Addr} {c : Nat} {u : Value} {r : List Nat} (h : Pl M X w D s l A c u r) (hX : ∀ q, X' q → X q) : Pl M X' w D s l A c u r := by
  obtain ⟨G, h1, h2, h3, h4, h5⟩ := h
  exact ⟨G, h1.other fun q _ hq => hq.imp id (hX q), h2, h3, fun q hq => ⟨(h4 q hq).1, (h4 q hq).2.1, fun hx => (h4 q hq).2.2 (hX q hx)⟩, h5⟩
theorem Pl.noel {M : Nat} {X : Nat → Prop} {w : World} {D : Nat} {s : Snd} {l : List (List Nat)} {A : Option Addr} {c : Nat} {u : Value} {r : List Nat} (h : Pl M X w D s l A c u r) : Pl M X w D s l A c (.slice none 0 0) [] := by
  obtain ⟨G, h1, h2, h3, h4, h5⟩ := h
  exact ⟨G, h1, h2, El.nil _ _, h4, h5⟩
/-- A sender's call: the reference's list stands. -/
theorem Pl.call {M : Nat} {X G : Nat → Prop} {w w' : World} {D : Nat} {s' : Snd} {l : List (List Nat)} {A : Option Addr} {c : Nat} {u : Value} {r : List Nat} (h2 : Ls G w A c l) (h3 : El G w u r) (h4 : ∀ q, G q → M ≤ q ∧ q < w.heap.size ∧ ¬ X q) (h5 : M ≤ w.heap.size)
    (hs : Sn M (fun q => G q ∨ X q) w' D s') (hb : But (Out M (fun q => G q ∨ X q)) w w') : Pl M X w' D s' l A c u r ∧ But (Out M X) w w' :=
  ⟨⟨G, hs, h2.but hb fun q hq h => h.2 (.inl hq), h3.of fun k hk hg => ⟨hb.same k hk fun h => h.2 (.inl hg), hg⟩, fun q hq => ⟨(h4 q hq).1, Nat.lt_of_lt_of_le (h4 q hq).2.1 hb.size, (h4 q hq).2.2⟩, Nat.le_trans h5 hb.size⟩, hb.mono fun k _ h => ⟨h.1, fun hx => h.2 (.inr hx)⟩⟩
theorem Push_p {M : Nat} {X : Nat → Prop} {w : World} {D : Nat} {s : Snd} {l : List (List Nat)} {A : Option Addr} {c : Nat} {u : Value} {r : List Nat} (h : Hid (Pl M X w D s l A c u r)) (ok : Hid s.Ok) (hX : Hid (∀ q, X q → q < w.heap.size)) (Ap : Option Addr) (cp : Nat) (p : List Nat) (hp : Hid (Me.Rd w w.heap.size Ap p)) (hA : Hid (Ap = none → p.length = 0 ∧ cp = 0)) (hl : p.length ≤ 140737488355328) (s' : Snd) (hs : pushS s p = s') :
    Calls Try.prog 19 #[.pointer (some ⟨D, 0, none⟩), .slice Ap p.length cp] w fun e w' => e = .returned (.int .i64 (pushE s p : Int)) ∧ Hid (Pl M X w' D s' l A c u r) ∧ Hid (But (Out M X) w w') := by
  subst hs
  obtain ⟨G, h1, h2, h3, h4, h5⟩ := h.out
  refine (Push_s M _ w D s h1 ok h5 (fun q hq => hq.elim (fun h => (h4 q h).2.1) (hX.out q)) Ap cp p hp hA hl).mono ?_
  rintro e w' ⟨rfl, a1, a2⟩
  exact ⟨rfl, (Pl.call h2 h3 h4 h5 a1.out a2.out).1, (Pl.call h2 h3 h4 h5 a1.out a2.out).2⟩
theorem Send_p {M : Nat} {X : Nat → Prop} {w : World} {D : Nat} {s : Snd} {l : List (List Nat)} {A : Option Addr} {c : Nat} {u : Value} {r : List Nat} (h : Hid (Pl M X w D s l A c u r)) (ok : Hid s.Ok) (hX : Hid (∀ q, X q → q < w.heap.size)) (s' : Snd) (hs : sendS s = s') :
    Calls Try.prog 21 #[.pointer (some ⟨D, 0, none⟩)] w fun e w' => ∃ Aq cq, e = .returned (.tuple #[.int .i64 (sendN s : Int), .slice Aq (sendP s).length cq, .bool (sendOk s)]) ∧ Hid (Me.Own w' w.heap.size (.slice Aq (sendP s).length cq) (sendP s)) ∧
      Hid (Pl M (fun q => X q ∨ w.heap.size ≤ q) w' D s' l A c u r) ∧ Hid (But (Out M X) w w') := by
  subst hs
  obtain ⟨G, h1, h2, h3, h4, h5⟩ := h.out
  refine (Send_s M _ w D s h1 ok h5 (fun q hq => hq.elim (fun h => (h4 q h).2.1) (hX.out q))).mono ?_
  rintro e w' ⟨Aq, cq, rfl, o1, a1, a2⟩
  refine ⟨Aq, cq, rfl, o1, ⟨G, a1.out.other fun q _ hq => ?_, h2.but a2.out fun q hq h => h.2 (.inl hq), h3.of fun k hk hg => ⟨a2.out.same k hk fun h => h.2 (.inl hg), hg⟩, fun q hq => ⟨(h4 q hq).1, Nat.lt_of_lt_of_le (h4 q hq).2.1 a2.out.size, fun hx => ?_⟩, Nat.le_trans h5 a2.out.size⟩, a2.out.mono fun k _ h => ⟨h.1, fun hx => h.2 (.inr hx)⟩⟩
  · rcases hq with hq | hq | hq
    · exact .inl (.inl hq)
    · exact .inl (.inr hq)
    · exact .inr hq
  · rcases hx with hx | hx
    · exact (h4 q hq).2.2 hx
    · have := (h4 q hq).2.1; omega
theorem Ack_p {M : Nat} {X : Nat → Prop} {w : World} {D : Nat} {s : Snd} {l : List (List Nat)} {A : Option Addr} {c : Nat} {u : Value} {r : List Nat} (h : Hid (Pl M X w D s l A c u r)) (ok : Hid s.Ok) (hX : Hid (∀ q, X q → q < w.heap.size)) (n : Int) (s' : Snd) (hs : ackS s n = s') :
    Calls Try.prog 20 #[.pointer (some ⟨D, 0, none⟩), .int .i64 n] w fun e w' => e = .returned (.tuple #[.int .i64 (ackN s n : Int), .int .i64 (ackE s n : Int)]) ∧ Hid (Pl M X w' D s' l A c u r) ∧ Hid (But (Out M X) w w') := by
  subst hs
  obtain ⟨G, h1, h2, h3, h4, h5⟩ := h.out
  refine (Ack_s M _ w D s h1 ok h5 (fun q hq => hq.elim (fun h => (h4 q h).2.1) (hX.out q)) n).mono ?_
  rintro e w' ⟨rfl, a1, a2⟩
  exact ⟨rfl, (Pl.call h2 h3 h4 h5 a1.out a2.out).1, (Pl.call h2 h3 h4 h5 a1.out a2.out).2⟩
theorem Again_p {M : Nat} {X : Nat → Prop} {w : World} {D : Nat} {s : Snd} {l : List (List Nat)} {A : Option Addr} {c : Nat} {u : Value} {r : List Nat} (h : Hid (Pl M X w D s l A c u r)) (ok : Hid s.Ok) (n : Int) :
    Calls Try.prog 24 #[.pointer (some ⟨D, 0, none⟩), .int .i64 n] w fun e w' => ∃ Aq cq, e = .returned (.tuple #[.slice Aq (againP s n).length cq, .int .i64 (againE s n : Int)]) ∧ Hid (Me.Own w' w.heap.size (.slice Aq (againP s n).length cq) (againP s n)) ∧ Hid (Below w.heap.size w w') := by
  obtain ⟨G, h1, h2, h3, h4, h5⟩ := h.out
  exact Again_s M _ w D s h1 ok n
theorem Reset_p {M : Nat} {X : Nat → Prop} {w : World} {D : Nat} {s : Snd} {l : List (List Nat)} {A : Option Addr} {c : Nat} {u : Value} {r : List Nat} (h : Hid (Pl M X w D s l A c u r)) (ok : Hid s.Ok) :
    Calls Try.prog 22 #[.pointer (some ⟨D, 0, none⟩)] w fun e w' => ∃ Aq, e = .returned (.slice Aq s.l.length s.l.length) ∧ Hid (Lst w' w'.heap.size Aq s.l) ∧ Hid (Nils w' Aq s.l) ∧ Hid (Pl M X w' D (newS s.size) l A c u r) ∧ Hid (But (Out M X) w w') := by
  obtain ⟨G, h1, h2, h3, h4, h5⟩ := h.out
  refine (Reset_s M _ w D s h1 ok.out.bytes).mono ?_
  rintro e w' ⟨Aq, rfl, l1, l2, a1, a2, f1, f2⟩
  have hb : But (Out M (fun q => G q ∨ X q)) w w' := a2.out.mono fun k _ hk => by subst hk; exact ⟨f1, f2⟩
  exact ⟨Aq, rfl, l1, l2, (Pl.call h2 h3 h4 h5 a1.out hb).1, (Pl.call h2 h3 h4 h5 a1.out hb).2⟩
/-- A call of the reference's that makes a new list. -/
theorem Pl.ref {M : Nat} {X G : Nat → Prop} {w w' : World} {D : Nat} {s : Snd} {l' : List (List Nat)} {A' : Option Addr} {c' : Nat} (h1 : Sn M (fun q => G q ∨ X q) w D s) (h4 : ∀ q, G q → M ≤ q ∧ q < w.heap.size ∧ ¬ X q) (h5 : M ≤ w.heap.size) (hX : ∀ q, X q → q < w.heap.size)
    (hl : Ls (fun k => G k ∨ w.heap.size ≤ k) w' A' c' l') (hb : Below w.heap.size w w') : Pl M X w' D s l' A' c' (.slice none 0 0) [] := by
  refine ⟨fun q => (G q ∨ w.heap.size ≤ q) ∧ q < w'.heap.size, h1.grow' hb fun q hq => ?_, hl.mono fun k hk h => ⟨h, hk⟩, El.nil _ _, fun q hq => ?_, Nat.le_trans h5 hb.size⟩
  · rcases hq with hq | hq
    · exact hq.1.imp (fun h => .inl h) id
    · exact .inl (.inr hq)
  · rcases hq.1 with h | h
    · exact ⟨(h4 q h).1, hq.2, (h4 q h).2.2⟩
    · exact ⟨Nat.le_trans h5 h, hq.2, fun hx => by have := hX q hx; omega⟩
theorem RPush_p {M : Nat} {X : Nat → Prop} {w : World} {D : Nat} {s : Snd} {A : Option Addr} {c : Nat} {u : Value} {r : List Nat} (h : Hid (Pl M X w D s s.l A c u r)) (ok : Hid s.Ok) (hX : Hid (∀ q, X q → q < w.heap.size)) (Ap : Option Addr) (cp : Nat) (p : List Nat) (hp : Hid (Me.Rd w w.heap.size Ap p)) (hA : Hid (Ap = none → p.length = 0 ∧ cp = 0)) (s' : Snd) (hs : pushS s p = s') :
    Calls Try.prog 26 #[rval s A c, .slice Ap p.length cp] w fun e w' => ∃ A' c', e = .returned (.tuple #[rval s' A' c', .int .i64 (pushE s p : Int)]) ∧ Hid (Pl M X w' D s s'.l A' c' (.slice none 0 0) []) ∧ Hid (Below w.heap.size w w') := by
  subst hs
  obtain ⟨G, h1, h2, h3, h4, h5⟩ := h.out
  refine (RPush_any w s A c (Lib.hid h2) ok Ap cp p hp hA).mono ?_
  rintro e w' ⟨A', c', rfl, hr⟩
  exact ⟨A', c', rfl, Pl.ref h1 h4 h5 hX.out hr.out.1 hr.out.2, hr.out.2⟩
theorem RSend_p {M : Nat} {X : Nat → Prop} {w : World} {D : Nat} {s : Snd} {A : Option Addr} {c : Nat} {u : Value} {r : List Nat} (h : Hid (Pl M X w D s s.l A c u r)) (ok : Hid s.Ok) (s' : Snd) (hs : sendS s = s') :
    Calls Try.prog 27 #[rval s A c] w fun e w' => ∃ R cr, e = .returned (.tuple #[rval s' A c, .int .i64 (sendN s : Int), .slice R (sendP s).length cr, .bool (sendOk s)]) ∧ Hid (Pl M X w' D s s'.l A c (.slice R (sendP s).length cr) (sendP s)) ∧ Hid (Below w.heap.size w w') := by
  have hl : s'.l = s.l := by subst hs; unfold sendS; split <;> rfl
  subst hs
  obtain ⟨G, h1, h2, h3, h4, h5⟩ := h.out
  refine (RSend_any w s A c (Lib.hid h2) ok).mono ?_
  rintro e w' ⟨R, cr, rfl, he, hb⟩
  exact ⟨R, cr, rfl, ⟨G, h1.below hb.out, by rw [hl]; exact h2.below hb.out, he.out.of fun k hk hg => ⟨hb.out.block k hk, hg⟩, fun q hq => ⟨(h4 q hq).1, Nat.lt_of_lt_of_le (h4 q hq).2.1 hb.out.size, (h4 q hq).2.2⟩, Nat.le_trans h5 hb.out.size⟩, hb⟩
theorem RAck_p {M : Nat} {X : Nat → Prop} {w : World} {D : Nat} {s : Snd} {A : Option Addr} {c : Nat} {u : Value} {r : List Nat} (h : Hid (Pl M X w D s s.l A c u r)) (ok : Hid s.Ok) (n : Int) (s' : Snd) (hs : ackS s n = s') :
    Calls Try.prog 28 #[rval s A c, .int .i64 n] w fun e w' => ∃ A' c', e = .returned (.tuple #[rval s' A' c', .int .i64 (ackN s n : Int), .int .i64 (ackE s n : Int)]) ∧ Hid (Pl M X w' D s s'.l A' c' (.slice none 0 0) []) ∧ Hid (Below w.heap.size w w') := by
  subst hs
  obtain ⟨G, h1, h2, h3, h4, h5⟩ := h.out
  refine (RAck_any w s A c (Lib.hid h2) ok n).mono ?_
  rintro e w' ⟨A', c', rfl, hl, hb⟩
  exact ⟨A', c', rfl, ⟨G, h1.below hb.out, hl.out.below hb.out, El.nil _ _, fun q hq => ⟨(h4 q hq).1, Nat.lt_of_lt_of_le (h4 q hq).2.1 hb.out.size, (h4 q hq).2.2⟩, Nat.le_trans h5 hb.out.size⟩, hb⟩
theorem RAgain_p {M : Nat} {X : Nat → Prop} {w : World} {D : Nat} {s : Snd} {A : Option Addr} {c : Nat} {u : Value} {r : List Nat} (h : Hid (Pl M X w D s s.l A c u r)) (ok : Hid s.Ok) (n : Int) :
    Calls Try.prog 29 #[rval s A c, .int .i64 n] w fun e w' => ∃ R cr, e = .returned (.tuple #[.slice R (againP s n).length cr, .int .i64 (againE s n : Int)]) ∧ Hid (Pl M X w' D s s.l A c (.slice R (againP s n).length cr) (againP s n)) ∧ Hid (Below w.heap.size w w') := by
  obtain ⟨G, h1, h2, h3, h4, h5⟩ := h.out
  refine (RAgain_any w s A c (Lib.hid h2) ok n).mono ?_
  rintro e w' ⟨R, cr, rfl, he, hb⟩
  exact ⟨R, cr, rfl, ⟨G, h1.below hb.out, h2.below hb.out, he.out.of fun k hk hg => ⟨hb.out.block k hk, hg⟩, fun q hq => ⟨(h4 q hq).1, Nat.lt_of_lt_of_le (h4 q hq).2.1 hb.out.size, (h4 q hq).2.2⟩, Nat.le_trans h5 hb.out.size⟩, hb⟩
/-- The payload that the reference told, read. -/
theorem Pl.conv {M : Nat} {X : Nat → Prop} {w : World} {D : Nat} {s : Snd} {l : List (List Nat)} {A : Option Addr} {c : Nat} {R : Option Addr} {n cr : Nat} {r : List Nat} (h : Pl M X w D s l A c (.slice R n cr) r) (hn : n = r.length) (hb : ∀ z ∈ r, z < 256) (m : Nat) :
    (convert 36 9 (.slice R n cr)).run Try.prog (w.drewN m) = .ok (.string (strOf r)) (w.drewN m) := by
  subst hn
  obtain ⟨G, h1, h2, ⟨A1, c1, e1, e2, e3⟩, h4, h5⟩ := h
  simp only [Value.slice.injEq] at e1
  obtain ⟨rfl, _, rfl⟩ := e1
  obtain ⟨z1, z2, _, _⟩ := own_rd e2 hb
  exact conv_rd (w.drewN m) w.heap.size R r cr (z1.below (Me.below_drewN (Below.refl _ _) m)) z2
theorem own_conv {w : World} {B n c : Nat} {A : Option Addr} {r : List Nat} (h : Me.Own w B (.slice A n c) r) (hn : n = r.length) (hb : ∀ z ∈ r, z < 256) (m : Nat) :
    (convert 36 9 (.slice A n c)).run Try.prog (w.drewN m) = .ok (.string (strOf r)) (w.drewN m) := by
  subst hn
  obtain ⟨z1, z2, _, _⟩ := own_rd h hb
  exact conv_rd (w.drewN m) w.heap.size A r c (z1.below (Me.below_drewN (Below.refl _ _) m)) z2
/-- The list of the reference's, read. -/
theorem Pl.lst {M : Nat} {X : Nat → Prop} {w : World} {D : Nat} {s : Snd} {l : List (List Nat)} {A : Option Addr} {c : Nat} {u : Value} {r : List Nat} (h : Pl M X w D s l A c u r) (hb : ∀ r ∈ l, ∀ z ∈ r, z < 256) : Lst w w.heap.size A l ∧ Nils w A l := by
  obtain ⟨G, h1, h2, h3, h4, h5⟩ := h
  exact h2.lst hb
/-- The law's own copy: n bytes, whatever they are. -/
def Giv (w : World) (v : Value) (n : Nat) : Prop := ∃ ys : List Nat, ys.length = n ∧ (∀ y ∈ ys, y < 256) ∧ Me.Own w 0 v ys
theorem Giv.cell {w : World} {A : Option Addr} {n c k : Nat} (h : Giv w (.slice A n c) n) (hk : k < n) : ∃ g y : Nat, A = some ⟨g, 0, none⟩ ∧ y ≤ 255 ∧ w.cell? ⟨g, k, none⟩ = some (.int .u8 (y : Int)) ∧ w.frozen? ⟨g, k, none⟩ = false ∧ (Value.slice A n c).ownBlock = some g := by
  obtain ⟨ys, h1, h2, h3⟩ := h
  obtain ⟨g, c', e, _, _⟩ := h3.form (by omega)
  simp only [Value.slice.injEq] at e
  obtain ⟨rfl, _, rfl⟩ := e
  obtain ⟨a, b⟩ := h3.cell (i := k) (by omega)
  have := h2 (by_ ys k) (by rw [by_get (by omega)]; exact List.getElem_mem _)
  exact ⟨g, by_ ys k, rfl, by omega, a, b, rfl⟩
theorem Giv.put {w : World} {g n c k y : Nat} (h : Giv w (.slice (some ⟨g, 0, none⟩) n c) n) (hy : y < 256) : Giv (w.setCell ⟨g, k, none⟩ (.int .u8 (y : Int))) (.slice (some ⟨g, 0, none⟩) n c) n := by
  obtain ⟨ys, h1, h2, h3⟩ := h
  refine ⟨ys.set k y, by simpa using h1, ?_, h3.store k y⟩
  intro z hz
  rcases List.mem_or_eq_of_mem_set hz with h | h
  · exact h2 z h
  · omega
theorem turn8 {y : Nat} (h : y ≤ 255) : IntKind.u8.wrap (255 - (y : Int)) = ((255 - y : Nat) : Int) := by
  have e : (255 : Int) - (y : Int) = ((255 - y : Nat) : Int) := by omega
  rw [e]; exact wrap8 (by unfold U8; omega)
/-- The three boxes of play: the reference's sender, the call, the result. -/
structure Bx (N : Nat) (s : Snd) (A : Option Addr) (c : Nat) (kd an : Int) (R : Option Addr) (m cr : Nat) (W : World) : Prop where
  x : W.heap[N]? = some (.cells (rcells s A c) 29 (0, 0))
  a : W.heap[N + 1]? = some (.cells #[.int .i64 kd, .int .i64 an, .slice R m cr] 38 (0, 0))
  z : W.heap[N + 1 + 1]? = some (.cells zcells 29 (0, 0))
theorem Bx.lt {N : Nat} {s : Snd} {A : Option Addr} {c : Nat} {kd an : Int} {R : Option Addr} {m cr : Nat} {W : World} (h : Bx N s A c kd an R m cr W) : N + 1 + 1 < W.heap.size := (Array.getElem?_eq_some_iff.1 h.z).1
theorem Bx.below {N : Nat} {s : Snd} {A : Option Addr} {c : Nat} {kd an : Int} {R : Option Addr} {m cr : Nat} {W W' : World} (h : Bx N s A c kd an R m cr W) (hb : Below W.heap.size W W') : Bx N s A c kd an R m cr W' :=
  ⟨(hb.block _ (by have := h.lt; omega)).trans h.x, (hb.block _ (by have := h.lt; omega)).trans h.a, (hb.block _ h.lt).trans h.z⟩
theorem Bx.but {N : Nat} {s : Snd} {A : Option Addr} {c : Nat} {kd an : Int} {R : Option Addr} {m cr : Nat} {W W' : World} {S : Nat → Prop} (h : Bx N s A c kd an R m cr W) (hb : But S W W') (hS : ∀ k, N ≤ k → k < N + 3 → ¬ S k) : Bx N s A c kd an R m cr W' :=
  ⟨(hb.same _ (by have := h.lt; omega) (hS _ (by omega) (by omega))).trans h.x, (hb.same _ (by have := h.lt; omega) (hS _ (by omega) (by omega))).trans h.a, (hb.same _ h.lt (hS _ (by omega) (by omega))).trans h.z⟩
theorem Bx.row {N : Nat} {s : Snd} {A : Option Addr} {c : Nat} {kd an : Int} {R : Option Addr} {m cr : Nat} {W : World} (h : Bx N s A c kd an R m cr W) : W.cell? ⟨N, 0, none⟩ = some (.int .i64 (s.size : Int)) ∧ W.cell? ⟨N, 1, none⟩ = some (.int .i64 (s.base : Int)) ∧ W.cell? ⟨N, 2, none⟩ = some (.slice A s.l.length c) ∧ W.cell? ⟨N, 3, none⟩ = some (.int .i64 (s.under : Int)) :=
  ⟨by rw [cell_of_row W N 0 _ _ (0, 0) h.x]; rfl, by rw [cell_of_row W N 1 _ _ (0, 0) h.x]; rfl, by rw [cell_of_row W N 2 _ _ (0, 0) h.x]; rfl, by rw [cell_of_row W N 3 _ _ (0, 0) h.x]; rfl⟩
theorem Bx.act {N : Nat} {s : Snd} {A : Option Addr} {c : Nat} {kd an : Int} {R : Option Addr} {m cr : Nat} {W : World} (h : Bx N s A c kd an R m cr W) : W.cell? ⟨N + 1, 0, none⟩ = some (.int .i64 kd) ∧ W.cell? ⟨N + 1, 1, none⟩ = some (.int .i64 an) ∧ W.cell? ⟨N + 1, 2, none⟩ = some (.slice R m cr) :=
  ⟨by rw [cell_of_row W (N + 1) 0 _ _ (0, 0) h.a]; rfl, by rw [cell_of_row W (N + 1) 1 _ _ (0, 0) h.a]; rfl, by rw [cell_of_row W (N + 1) 2 _ _ (0, 0) h.a]; rfl⟩
theorem Bx.new (w : World) (s : Snd) (A : Option Addr) (c : Nat) (kd an : Int) (R : Option Addr) (m cr : Nat) : Bx w.heap.size s A c kd an R m cr (((w.alloc (.cells (rcells s A c) 29)).alloc (.cells #[.int .i64 kd, .int .i64 an, .slice R m cr] 38)).alloc (.cells zcells 29)) := by
  refine ⟨(Below.heap_alloc _ _ _ (by simp; omega)).trans ((Below.heap_alloc _ _ _ (by simp)).trans (heap_alloc_new w _)), (Below.heap_alloc _ _ _ (by simp)).trans ?_, ?_⟩
  · have := heap_alloc_new (w.alloc (.cells (rcells s A c) 29)) (.cells #[.int .i64 kd, .int .i64 an, .slice R m cr] 38)
    rw [World.size_alloc] at this
    exact this
  · have := heap_alloc_new ((w.alloc (.cells (rcells s A c) 29)).alloc (.cells #[.int .i64 kd, .int .i64 an, .slice R m cr] 38)) (.cells zcells 29)
    rw [World.size_alloc, World.size_alloc] at this
    exact this
end Go.Proofs.Ytdfjlhiliifapaa.Sn
