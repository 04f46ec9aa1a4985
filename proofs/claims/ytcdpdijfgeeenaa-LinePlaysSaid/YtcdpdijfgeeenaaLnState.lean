/- A line beside other memory: its calls once more, in a form for laws. -/
import Derived.Test.YtcdpdijfgeeenaaLnTake
import Derived.Test.YtcdpdijfgeeenaaLnFlip
namespace Go.Proofs.Ytcdpdijfgeeenaa.Li
open Go.RowKit
open Go.Proofs.Ytcdpdijfgeeenaa.Sb
set_option linter.unusedVariables false
set_option linter.unusedSimpArgs false

/-- A line that is right, at D; its blocks are from M on, none of O. -/
structure Lr (M : Nat) (O : Nat → Prop) (w : World) (D : Nat) (s : Ln) : Prop where
  li : Li M O w D s
  ok : s.Ok
  m : M ≤ w.heap.size
  o : ∀ k, O k → k < w.heap.size
theorem Lr.below {M : Nat} {O : Nat → Prop} {w w' : World} {D : Nat} {s : Ln} (h : Lr M O w D s) (hb : Below w.heap.size w w') : Lr M O w' D s := ⟨h.li.below hb, h.ok, Nat.le_trans h.m hb.size, fun k hk => Nat.lt_of_lt_of_le (h.o k hk) hb.size⟩
theorem Lr.but {M : Nat} {O S : Nat → Prop} {w w' : World} {D : Nat} {s : Ln} (h : Lr M O w D s) (hb : But S w w') (hS : ∀ k, S k → O k ∨ k < M ∨ w.heap.size ≤ k) : Lr M O w' D s := ⟨h.li.but hb hS, h.ok, Nat.le_trans h.m hb.size, fun k hk => Nat.lt_of_lt_of_le (h.o k hk) hb.size⟩
theorem Lr.other {M : Nat} {O O' : Nat → Prop} {w : World} {D : Nat} {s : Ln} (h : Lr M O w D s) (hO : ∀ k, O' k → O k) : Lr M O' w D s := ⟨h.li.other fun k _ hk => hO k hk, h.ok, h.m, fun k hk => h.o k (hO k hk)⟩
/-- New blocks that the line has none of. -/
theorem Lr.wider {M : Nat} {O O' : Nat → Prop} {w w' : World} {D : Nat} {s : Ln} (h : Lr M O w D s) (hb : Below w.heap.size w w') (hO : ∀ k, O' k → O k ∨ (w.heap.size ≤ k ∧ k < w'.heap.size)) : Lr M O' w' D s := by
  refine ⟨?_, h.ok, Nat.le_trans h.m hb.size, fun k hk => ?_⟩
  · obtain ⟨vb, vd, hq, hF⟩ := h.li
    refine ⟨vb, vd, hq.below hb, fun k hk => ⟨(hF k hk).1, fun ho => ?_⟩⟩
    rcases hO k ho with h1 | ⟨h1, _⟩
    · exact (hF k hk).2 h1
    · have := hq.ltF k hk; omega
  · rcases hO k hk with h1 | h1
    · exact Nat.lt_of_lt_of_le (h.o k h1) hb.size
    · exact h1.2
theorem Lr.lt {M : Nat} {O : Nat → Prop} {w : World} {D : Nat} {s : Ln} (h : Lr M O w D s) : D < w.heap.size ∧ M ≤ D ∧ ¬ O D := by
  obtain ⟨vb, vd, hq, hF⟩ := h.li
  exact ⟨hq.lt, (hF D (.inl rfl)).1, (hF D (.inl rfl)).2⟩
theorem Lr.aft {M : Nat} {O : Nat → Prop} {w w' : World} {D : Nat} {s s' : Ln} {vb vd : Value} (h : Lr M O w D s) (hF : ∀ k, LF D vb vd k → M ≤ k ∧ ¬ O k) (ok : s'.Ok) (ha : Aft w D vb vd s' w') : Hid (Lr M O w' D s') ∧ Hid (But (Out M O) w w') := by
  obtain ⟨h1, h2⟩ := Li.after hF h.m h.o ha
  exact ⟨⟨h1, ok, Nat.le_trans h.m h2.size, fun k hk => Nat.lt_of_lt_of_le (h.o k hk) h2.size⟩, h2⟩
theorem New_s (M : Nat) (O : Nat → Prop) (n : Nat) (h2 : n ≤ 64) (w : World) (hM : M ≤ w.heap.size) (hO : ∀ k, O k → k < w.heap.size) :
    Calls Try.prog 7 #[.int .i64 n] w fun e w' => e = .returned (.tuple #[.pointer (some ⟨w.heap.size, 0, none⟩), .int .i64 0]) ∧ Hid (Lr M O w' w.heap.size (newL n)) ∧ Hid (Below w.heap.size w w') := by
  refine (New_ok n h2 w).mono ?_
  rintro e w' ⟨rfl, h, hb⟩
  refine ⟨rfl, ⟨⟨_, _, h.out, ?_⟩, newL_ok h2, Nat.le_trans hM hb.out.size, fun k hk => Nat.lt_of_lt_of_le (hO k hk) hb.out.size⟩, hb⟩
  rintro k (rfl | e | e)
  · exact ⟨hM, fun ho => by have := hO _ ho; omega⟩
  · cases e
  · cases e
theorem Put_s {M : Nat} {O : Nat → Prop} {w : World} {D : Nat} {s : Ln} (h : Hid (Lr M O w D s)) (A : Option Addr) (n c : Nat) (p : List Nat) (hn : n = p.length) (hr : Hid (Me.Rd w w.heap.size A p)) (hA : Hid (A = none → p.length = 0 ∧ c = 0)) (hl : p.length ≤ 140737488355328) :
    Calls Try.prog 14 #[.pointer (some ⟨D, 0, none⟩), .slice A n c] w fun e w' => e = .returned (.int .i64 (putN s p : Int)) ∧ Hid (Lr M O w' D (putL s p)) ∧ Hid (But (Out M O) w w') := by
  subst hn
  obtain ⟨vb, vd, hq, hF⟩ := h.out.li
  have hok := putL_ok (p := p) h.out.ok hr.out.1
  by_cases hp : 65536 < s.bs.length + p.length
  · have e1 : putN s p = 6 := by unfold putN; rw [if_pos hp]
    have e2 : putL s p = s := by unfold putL; rw [if_pos hp]
    rw [e1, e2]
    refine (Put_full w D s vb vd (Lib.hid hq) (Lib.hid h.out.ok) A c p hp hl).mono ?_
    rintro e w' ⟨rfl, rfl⟩
    exact ⟨rfl, h, But.refl _ _⟩
  · have e1 : putN s p = 0 := by unfold putN; rw [if_neg hp]
    have e2 : putL s p = ⟨s.delay, s.passed, s.bs ++ p, s.due ++ List.replicate p.length ((s.passed + s.delay : Nat) : Int)⟩ := by unfold putL; rw [if_neg hp]
    rw [e2] at hok
    rw [e1, e2]
    refine (Put_ok w D s vb vd (Lib.hid hq) (Lib.hid h.out.ok) A c p hp hr hA).mono ?_
    rintro e w' ⟨rfl, ha⟩
    obtain ⟨h1, h2⟩ := h.out.aft hF hok ha.out
    exact ⟨rfl, h1, h2⟩
theorem Tick_s {M : Nat} {O : Nat → Prop} {w : World} {D : Nat} {s : Ln} (h : Hid (Lr M O w D s)) (hp : s.passed < 1000000) :
    Calls Try.prog 16 #[.pointer (some ⟨D, 0, none⟩)] w fun e w' => e = .returned (.int .i64 0) ∧ Hid (Lr M O w' D (tickL s)) ∧ Hid (But (Out M O) w w') := by
  obtain ⟨vb, vd, hq, hF⟩ := h.out.li
  refine (Tick_any w D s vb vd (Lib.hid hq) hp).mono ?_
  rintro e w' ⟨rfl, ha⟩
  obtain ⟨h1, h2⟩ := h.out.aft hF (tickL_ok h.out.ok hp) ha.out
  exact ⟨rfl, h1, h2⟩
theorem Take_s {M : Nat} {O : Nat → Prop} {w : World} {D : Nat} {s : Ln} (h : Hid (Lr M O w D s)) :
    Calls Try.prog 15 #[.pointer (some ⟨D, 0, none⟩)] w fun e w' => ∃ A, e = .returned (.slice A (comeN s) (comeN s)) ∧ Hid (Me.Rd w' w'.heap.size A (s.bs.take (comeN s))) ∧ Hid (A = none → comeN s = 0) ∧ Hid (Lr M O w' D (takeL s)) ∧ Hid (But (Out M O) w w') := by
  obtain ⟨vb, vd, hq, hF⟩ := h.out.li
  refine (Take_any w D s vb vd (Lib.hid hq) (Lib.hid h.out.ok)).mono ?_
  rintro e w' ⟨A, rfl, hr, hA, ha⟩
  obtain ⟨h1, h2⟩ := h.out.aft hF (takeL_ok h.out.ok) ha.out
  exact ⟨A, rfl, hr, hA, h1, h2⟩
theorem Len_s {M : Nat} {O : Nat → Prop} {w : World} {D : Nat} {s : Ln} (h : Hid (Lr M O w D s)) : Calls Try.prog 13 #[.pointer (some ⟨D, 0, none⟩)] w fun e w' => e = .returned (.int .i64 (s.bs.length : Int)) ∧ w = w' := by
  obtain ⟨vb, vd, hq, hF⟩ := h.out.li
  exact Len_any w D s vb vd (Lib.hid hq)
theorem Bytes_s {M : Nat} {O : Nat → Prop} {w : World} {D : Nat} {s : Ln} (h : Hid (Lr M O w D s)) : Calls Try.prog 11 #[.pointer (some ⟨D, 0, none⟩)] w fun e w' => e = .returned (.slice (some ⟨w.heap.size, 0, none⟩) s.bs.length s.bs.length) ∧ Hid (Me.Own w' w.heap.size (.slice (some ⟨w.heap.size, 0, none⟩) s.bs.length s.bs.length) s.bs) ∧ Hid (Below w.heap.size w w') := by
  obtain ⟨vb, vd, hq, hF⟩ := h.out.li
  exact Bytes_any w D s vb vd (Lib.hid hq) (Lib.hid h.out.ok)
theorem Flip_s {M : Nat} {O : Nat → Prop} {w : World} {D : Nat} {s : Ln} (h : Hid (Lr M O w D s)) (k : Nat) (n : Int) (hk : k < s.bs.length) (hz : low8 n ≠ 0) :
    Calls Try.prog 19 #[.pointer (some ⟨D, 0, none⟩), .int .i64 (k : Int), .int .i64 n] w fun e w' => e = .returned (.int .i64 0) ∧ Hid (Lr M O w' D (flipL s k (low8 n))) ∧ Hid (But (Out M O) w w') := by
  obtain ⟨vb, vd, hq, hF⟩ := h.out.li
  refine (Flip_ok w D s vb vd (Lib.hid hq) (Lib.hid h.out.ok) k n hk hz).mono ?_
  rintro e w' ⟨rfl, ha⟩
  obtain ⟨h1, h2⟩ := h.out.aft hF (flipL_ok h.out.ok (low8_lt n)) ha.out
  exact ⟨rfl, h1, h2⟩
end Go.Proofs.Ytcdpdijfgeeenaa.Li
