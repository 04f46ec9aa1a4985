/- A sender beside other memory: its calls once more, in a form for laws. -/
import Derived.Test.YtnfjfcoonabmmaaSnUnder
namespace Go.Proofs.Ytnfjfcoonabmmaa.Sn
open Go.RowKit
open Go.Proofs.Ytnfjfcoonabmmaa.Me Go.Proofs.Ytnfjfcoonabmmaa.Hd
set_option linter.unusedVariables false
set_option linter.unusedSimpArgs false

/-- Block D is the sender s; its blocks are from M on, and none of O. -/
def Sn (M : Nat) (O : Nat → Prop) (w : World) (D : Nat) (s : Snd) : Prop := ∃ F A c, Sq F w D s A c ∧ ∀ k, F k → M ≤ k ∧ k < w.heap.size ∧ ¬ O k
/-- Blocks from M on, none of O. -/
def Out (M : Nat) (O : Nat → Prop) (k : Nat) : Prop := M ≤ k ∧ ¬ O k
theorem Sn.after {M : Nat} {O F : Nat → Prop} {w w' : World} {D : Nat} {s' : Snd} (hF : ∀ k, F k → M ≤ k ∧ k < w.heap.size ∧ ¬ O k) (hM : M ≤ w.heap.size) (hO : ∀ k, O k → k < w.heap.size) (h : After F w D s' w') : Sn M O w' D s' ∧ But (Out M O) w w' := by
  obtain ⟨⟨A, c, hq⟩, hb⟩ := h
  refine ⟨⟨fun k => (F k ∨ w.heap.size ≤ k) ∧ k < w'.heap.size, A, c, hq.mono fun k hk h => ⟨h, hk⟩, fun k ⟨hk, hlt⟩ => ?_⟩, hb.mono fun k _ hk => ⟨(hF k hk).1, (hF k hk).2.2⟩⟩
  rcases hk with hk | hk
  · exact ⟨(hF k hk).1, hlt, (hF k hk).2.2⟩
  · exact ⟨Nat.le_trans hM hk, hlt, fun ho => by have := hO k ho; omega⟩
theorem Sn.but {M : Nat} {O S : Nat → Prop} {w w' : World} {D : Nat} {s : Snd} (h : Sn M O w D s) (hb : But S w w') (hS : ∀ k, S k → O k ∨ k < M ∨ w.heap.size ≤ k) : Sn M O w' D s := by
  obtain ⟨F, A, c, hq, hF⟩ := h
  refine ⟨F, A, c, hq.but hb fun k hk hs => ?_, fun k hk => ⟨(hF k hk).1, Nat.lt_of_lt_of_le (hF k hk).2.1 hb.size, (hF k hk).2.2⟩⟩
  obtain ⟨h1, h2, h3⟩ := hF k hk
  rcases hS k hs with h | h | h
  · exact h3 h
  · omega
  · omega
theorem Sn.below {M : Nat} {O : Nat → Prop} {w w' : World} {D : Nat} {s : Snd} (h : Sn M O w D s) (hb : Below w.heap.size w w') : Sn M O w' D s := h.but (S := fun _ => False) (But.of_below hb) fun _ h => h.elim
theorem Sn.other {M : Nat} {O O' : Nat → Prop} {w : World} {D : Nat} {s : Snd} (h : Sn M O w D s) (hO : ∀ k, k < w.heap.size → O' k → O k) : Sn M O' w D s := by
  obtain ⟨F, A, c, hq, hF⟩ := h
  exact ⟨F, A, c, hq, fun k hk => ⟨(hF k hk).1, (hF k hk).2.1, fun ho => (hF k hk).2.2 (hO k (hF k hk).2.1 ho)⟩⟩
theorem Sn.lt {M : Nat} {O : Nat → Prop} {w : World} {D : Nat} {s : Snd} (h : Sn M O w D s) : D < w.heap.size := by
  obtain ⟨F, A, c, hq, hF⟩ := h
  exact hq.lt
theorem but_out {M : Nat} {O : Nat → Prop} {w w' : World} (h : But (Out M O) w w') (hM : M ≤ w.heap.size) : Below M w w' := h.below hM fun k hk => hk.1
theorem New_s (M : Nat) (O : Nat → Prop) (n : Nat) (h1 : 1 ≤ n) (h2 : n ≤ 63) (w : World) (hM : M ≤ w.heap.size) (hO : ∀ k, O k → k < w.heap.size) :
    Calls Try.prog 31 #[.int .i64 n] w fun e w' => e = .returned (.tuple #[.pointer (some ⟨w.heap.size, 0, none⟩), .int .i64 0]) ∧ Hid (Sn M O w' w.heap.size (newS n)) ∧ Hid (Below w.heap.size w w') := by
  refine (New_ok n h1 h2 w).mono ?_
  rintro e w' ⟨rfl, h, hb⟩
  refine ⟨rfl, ⟨fun k => k = w.heap.size, none, 0, h.out, ?_⟩, hb⟩
  rintro k rfl
  exact ⟨hM, h.out.lt, fun ho => by have := hO _ ho; omega⟩
theorem Push_s (M : Nat) (O : Nat → Prop) (w : World) (D : Nat) (s : Snd) (h : Hid (Sn M O w D s)) (ok : Hid s.Ok) (hM : Hid (M ≤ w.heap.size)) (hO : Hid (∀ k, O k → k < w.heap.size)) (Ap : Option Addr) (cp : Nat) (p : List Nat) (hp : Hid (Me.Rd w w.heap.size Ap p)) (hA : Hid (Ap = none → p.length = 0 ∧ cp = 0)) (hl : p.length ≤ 140737488355328) :
    Calls Try.prog 32 #[.pointer (some ⟨D, 0, none⟩), .slice Ap p.length cp] w fun e w' => e = .returned (.int .i64 (pushE s p : Int)) ∧ Hid (Sn M O w' D (pushS s p)) ∧ Hid (But (Out M O) w w') := by
  obtain ⟨F, A, c, hq, hF⟩ := h.out
  refine (Push_any w D s A c (Lib.hid hq) ok Ap cp p hp hA hl).mono ?_
  rintro e w' ⟨rfl, ha⟩
  obtain ⟨a1, a2⟩ := Sn.after hF hM.out hO.out ha.out
  exact ⟨rfl, a1, a2⟩
theorem Send_s (M : Nat) (O : Nat → Prop) (w : World) (D : Nat) (s : Snd) (h : Hid (Sn M O w D s)) (ok : Hid s.Ok) (hM : Hid (M ≤ w.heap.size)) (hO : Hid (∀ k, O k → k < w.heap.size)) :
    Calls Try.prog 33 #[.pointer (some ⟨D, 0, none⟩)] w fun e w' => ∃ A c, e = .returned (.tuple #[.int .i64 (sendN s : Int), .slice A (sendP s).length c, .bool (sendOk s)]) ∧
      Hid (Me.Own w' w.heap.size (.slice A (sendP s).length c) (sendP s)) ∧ Hid (Sn M (fun k => O k ∨ w.heap.size ≤ k) w' D (sendS s)) ∧ Hid (But (Out M O) w w') := by
  obtain ⟨F, A, c, hq, hF⟩ := h.out
  refine (Send_any w D s A c (Lib.hid hq) ok).mono ?_
  rintro e w' ⟨A1, c1, rfl, ho, ⟨A2, c2, hq2⟩, hb⟩
  refine ⟨A1, c1, rfl, ho, ⟨F, A2, c2, hq2, fun k hk => ?_⟩, hb.mono fun k _ hk => ⟨(hF k hk).1, (hF k hk).2.2⟩⟩
  obtain ⟨f1, f2, f3⟩ := hF k hk
  refine ⟨f1, Nat.lt_of_lt_of_le f2 hb.size, fun e => ?_⟩
  rcases e with e | e
  · exact f3 e
  · omega
/-- Send, its answers let go. -/
theorem Send_v (M : Nat) (O : Nat → Prop) (w : World) (D : Nat) (s : Snd) (h : Hid (Sn M O w D s)) (ok : Hid s.Ok) (hM : Hid (M ≤ w.heap.size)) (hO : Hid (∀ k, O k → k < w.heap.size)) (s' : Snd) (hs : sendS s = s') :
    Calls Try.prog 33 #[.pointer (some ⟨D, 0, none⟩)] w fun e w' => ∃ v, e = .returned v ∧ Hid (Sn M O w' D s') ∧ Hid (But (Out M O) w w') := by
  subst hs
  refine (Send_s M O w D s h ok hM hO).mono ?_
  rintro e w' ⟨A, c, rfl, _, h1, h2⟩
  exact ⟨_, rfl, h1.out.other fun _ _ h => .inl h, h2⟩
theorem Ack_s (M : Nat) (O : Nat → Prop) (w : World) (D : Nat) (s : Snd) (h : Hid (Sn M O w D s)) (ok : Hid s.Ok) (hM : Hid (M ≤ w.heap.size)) (hO : Hid (∀ k, O k → k < w.heap.size)) (n : Int) :
    Calls Try.prog 34 #[.pointer (some ⟨D, 0, none⟩), .int .i64 n] w fun e w' => e = .returned (.tuple #[.int .i64 (ackN s n : Int), .int .i64 (ackE s n : Int)]) ∧ Hid (Sn M O w' D (ackS s n)) ∧ Hid (But (Out M O) w w') := by
  obtain ⟨F, A, c, hq, hF⟩ := h.out
  refine (Ack_any w D s A c (Lib.hid hq) ok n).mono ?_
  rintro e w' ⟨rfl, ha⟩
  obtain ⟨a1, a2⟩ := Sn.after hF hM.out hO.out ha.out
  exact ⟨rfl, a1, a2⟩
theorem Again_s (M : Nat) (O : Nat → Prop) (w : World) (D : Nat) (s : Snd) (h : Hid (Sn M O w D s)) (ok : Hid s.Ok) (n : Int) :
    Calls Try.prog 17 #[.pointer (some ⟨D, 0, none⟩), .int .i64 n] w fun e w' => ∃ A c, e = .returned (.tuple #[.slice A (againP s n).length c, .int .i64 (againE s n : Int)]) ∧
      Hid (Me.Own w' w.heap.size (.slice A (againP s n).length c) (againP s n)) ∧ Hid (Below w.heap.size w w') := by
  obtain ⟨F, A, c, hq, hF⟩ := h.out
  refine (Again_any w D s A c (Lib.hid hq) ok n).mono ?_
  rintro e w' ⟨A1, c1, rfl, ho, hb⟩
  exact ⟨A1, c1, rfl, ho, hb⟩
theorem Under_s (M : Nat) (O : Nat → Prop) (w : World) (D : Nat) (s : Snd) (h : Hid (Sn M O w D s)) (ok : Hid s.Ok) : Calls Try.prog 16 #[.pointer (some ⟨D, 0, none⟩)] w (Wn.NewI w (Wn.goes (s.base : Int) s.under)) := by
  obtain ⟨F, A, c, hq, hF⟩ := h.out
  exact Under_any w D s A c (Lib.hid hq) ok
theorem Len_s (M : Nat) (O : Nat → Prop) (w : World) (D : Nat) (s : Snd) (h : Hid (Sn M O w D s)) : Calls Try.prog 15 #[.pointer (some ⟨D, 0, none⟩)] w fun e w' => e = .returned (.int .i64 (s.l.length : Int)) ∧ w = w' := by
  obtain ⟨F, A, c, hq, hF⟩ := h.out
  exact Len_any w D s A c (Lib.hid hq)
end Go.Proofs.Ytnfjfcoonabmmaa.Sn
