/- A line: its numbers, its bytes and when they are due; what its calls make of it, and what lies where. -/
import Derived.Test.YtcdpdijfgeeenaaSeBut
import Derived.Test.YtcdpdijfgeeenaaMemB
import Derived.Deep.RegionHeld
namespace Go.Proofs.Ytcdpdijfgeeenaa.Li
open Go.RowKit
open Go.Proofs.Ytcdpdijfgeeenaa.Sb
set_option linter.unusedVariables false
set_option linter.unusedSimpArgs false

structure Ln where
  delay : Nat
  passed : Nat
  bs : List Nat
  due : List Int
/-- What keeps a line right. -/
structure Ln.Ok (s : Ln) : Prop where
  len : s.due.length = s.bs.length
  room : s.bs.length ≤ 65536
  byte : ∀ z ∈ s.bs, z < 256
  dl : s.delay ≤ 64
  ps : s.passed ≤ 1000000
  due : ∀ d ∈ s.due, 0 ≤ d ∧ d ≤ 2000000
def newL (d : Nat) : Ln := ⟨d, 0, [], []⟩
def putN (s : Ln) (p : List Nat) : Nat := if 65536 < s.bs.length + p.length then 6 else 0
def putL (s : Ln) (p : List Nat) : Ln := if 65536 < s.bs.length + p.length then s else ⟨s.delay, s.passed, s.bs ++ p, s.due ++ List.replicate p.length ((s.passed + s.delay : Nat) : Int)⟩
def tickL (s : Ln) : Ln := ⟨s.delay, s.passed + 1, s.bs, s.due⟩
/-- How many of the first bytes need no tick any more. -/
def comeN (s : Ln) : Nat := (s.due.takeWhile fun d => decide (d ≤ (s.passed : Int))).length
def takeL (s : Ln) : Ln := ⟨s.delay, s.passed, s.bs.drop (comeN s), s.due.drop (comeN s)⟩
def dropB (s : Ln) (k n : Int) : Bool := decide (k < 0) || decide (n < 0) || decide ((s.bs.length : Int) - k < n)
def cutL (s : Ln) (k n : Nat) : Ln := ⟨s.delay, s.passed, s.bs.take k ++ s.bs.drop (k + n), s.due.take k ++ s.due.drop (k + n)⟩
def dueAt (s : Ln) (k : Nat) : Int := if s.due.length = 0 then ((s.passed + s.delay : Nat) : Int) else if k = s.due.length then Mi.at_ s.due (k - 1) else Mi.at_ s.due k
def insL (s : Ln) (k b : Nat) : Ln := ⟨s.delay, s.passed, s.bs.take k ++ b :: s.bs.drop k, s.due.take k ++ dueAt s k :: s.due.drop k⟩
def flipL (s : Ln) (k m : Nat) : Ln := ⟨s.delay, s.passed, s.bs.set k (Me.by_ s.bs k ^^^ m), s.due⟩
theorem newL_ok {d : Nat} (h : d ≤ 64) : (newL d).Ok := ⟨rfl, Nat.zero_le _, by simp [newL], h, Nat.zero_le _, by simp [newL]⟩
theorem comeN_le (s : Ln) : comeN s ≤ s.due.length := List.IsPrefix.length_le (List.takeWhile_prefix _)
theorem takeL_ok {s : Ln} (h : s.Ok) : (takeL s).Ok :=
  ⟨by simp [takeL, h.len], by simp only [takeL, List.length_drop]; have := h.room; omega, fun z hz => h.byte z (List.mem_of_mem_drop hz), h.dl, h.ps, fun d hd => h.due d (List.mem_of_mem_drop hd)⟩
theorem tickL_ok {s : Ln} (h : s.Ok) (hp : s.passed < 1000000) : (tickL s).Ok := ⟨h.len, h.room, h.byte, h.dl, hp, h.due⟩
theorem putL_ok {s : Ln} {p : List Nat} (h : s.Ok) (hp : ∀ z ∈ p, z < 256) : (putL s p).Ok := by
  unfold putL
  split
  · exact h
  · refine ⟨by simp [h.len], by simp only [List.length_append]; omega, fun z hz => ?_, h.dl, h.ps, fun d hd => ?_⟩
    · rcases List.mem_append.1 hz with hz | hz
      · exact h.byte z hz
      · exact hp z hz
    · rcases List.mem_append.1 hd with hd | hd
      · exact h.due d hd
      · have := List.eq_of_mem_replicate hd
        have h1 := h.dl; have h2 := h.ps
        omega
theorem cutL_ok {s : Ln} (h : s.Ok) (k n : Nat) : (cutL s k n).Ok := by
  refine ⟨by simp [cutL, h.len], by simp only [cutL, List.length_append, List.length_take, List.length_drop]; have := h.room; omega, fun z hz => ?_, h.dl, h.ps, fun d hd => ?_⟩
  · rcases List.mem_append.1 hz with hz | hz
    · exact h.byte z (List.mem_of_mem_take hz)
    · exact h.byte z (List.mem_of_mem_drop hz)
  · rcases List.mem_append.1 hd with hd | hd
    · exact h.due d (List.mem_of_mem_take hd)
    · exact h.due d (List.mem_of_mem_drop hd)
theorem dueAt_in {s : Ln} (h : s.Ok) {k : Nat} (hk : k ≤ s.due.length) : 0 ≤ dueAt s k ∧ dueAt s k ≤ 2000000 := by
  unfold dueAt
  split
  · have h1 := h.dl; have h2 := h.ps; omega
  · split
    · rw [Mi.at_get (by omega)]; exact h.due _ (List.getElem_mem _)
    · rw [Mi.at_get (by omega)]; exact h.due _ (List.getElem_mem _)
theorem insL_ok {s : Ln} (h : s.Ok) {k b : Nat} (hk : k ≤ s.bs.length) (hb : b < 256) (hr : s.bs.length < 65536) : (insL s k b).Ok := by
  refine ⟨by simp [insL, h.len], by simp only [insL, List.length_append, List.length_take, List.length_drop, List.length_cons]; omega, fun z hz => ?_, h.dl, h.ps, fun d hd => ?_⟩
  · rcases List.mem_append.1 hz with hz | hz
    · exact h.byte z (List.mem_of_mem_take hz)
    · rcases List.mem_cons.1 hz with rfl | hz
      · exact hb
      · exact h.byte z (List.mem_of_mem_drop hz)
  · rcases List.mem_append.1 hd with hd | hd
    · exact h.due d (List.mem_of_mem_take hd)
    · rcases List.mem_cons.1 hd with rfl | hd
      · exact dueAt_in h (by rw [h.len]; exact hk)
      · exact h.due d (List.mem_of_mem_drop hd)
theorem flipL_ok {s : Ln} (h : s.Ok) {k m : Nat} (hm : m < 256) : (flipL s k m).Ok := by
  refine ⟨by simp [flipL, h.len], by simpa [flipL] using h.room, fun z hz => ?_, h.dl, h.ps, h.due⟩
  rcases List.mem_or_eq_of_mem_set hz with hz | rfl
  · exact h.byte z hz
  · have h1 : Me.by_ s.bs k < 2 ^ 8 := by
      unfold Me.by_
      rw [List.getD_eq_getElem?_getD]
      cases hx : s.bs[k]? with
      | none => simp
      | some x => exact h.byte x (List.mem_of_getElem? hx)
    exact Nat.xor_lt_two_pow h1 (by simpa using hm)
/-! ### Where a line lies -/
/-- Block D is the line s, with its bytes at vb and its ticks at vd. -/
structure Lq (w : World) (D : Nat) (s : Ln) (vb vd : Value) : Prop where
  box : w.heap[D]? = some (.cells #[.int .i64 (s.delay : Int), .int .i64 (s.passed : Int), vb, vd] 53 (0, 0))
  ob : Me.Own w 0 vb s.bs
  od : Mi.Own w 0 vd s.due
/-- Its blocks. -/
def LF (D : Nat) (vb vd : Value) (k : Nat) : Prop := k = D ∨ vb.ownBlock = some k ∨ vd.ownBlock = some k
/-- What a call leaves: the line s' at D, what is none of its own as it was. -/
def Aft (w : World) (D : Nat) (vb vd : Value) (s' : Ln) (w' : World) : Prop :=
  ∃ vb' vd', Lq w' D s' vb' vd' ∧ But (LF D vb vd) w w' ∧ ∀ k, LF D vb' vd' k → LF D vb vd k ∨ w.heap.size ≤ k
theorem Lq.lt {w : World} {D : Nat} {s : Ln} {vb vd : Value} (h : Lq w D s vb vd) : D < w.heap.size := (Array.getElem?_eq_some_iff.1 h.box).1
theorem Lq.cells {w : World} {D : Nat} {s : Ln} {vb vd : Value} (h : Lq w D s vb vd) : w.cell? ⟨D, 0, none⟩ = some (.int .i64 (s.delay : Int)) ∧ w.cell? ⟨D, 1, none⟩ = some (.int .i64 (s.passed : Int)) ∧ w.cell? ⟨D, 2, none⟩ = some vb ∧ w.cell? ⟨D, 3, none⟩ = some vd := by
  refine ⟨?_, ?_, ?_, ?_⟩
  all_goals
    rw [cell_of_row _ D _ _ _ (0, 0) h.box]
    rfl
theorem Lq.frozen {w : World} {D : Nat} {s : Ln} {vb vd : Value} (h : Lq w D s vb vd) (i : Nat) : w.frozen? ⟨D, i, none⟩ = false := frozen_of_row w D i _ _ h.box
theorem Lq.formB {w : World} {D : Nat} {s : Ln} {vb vd : Value} (h : Lq w D s vb vd) : ∃ A c, vb = .slice A s.bs.length c ∧ s.bs.length ≤ c ∧ c ≤ 9223372036854775807 ∧ (A = none → s.bs.length = 0 ∧ c = 0) ∧ (∀ a, A = some a → ∃ g, a = ⟨g, 0, none⟩ ∧ g < w.heap.size) := by
  rcases h.ob.2 with ⟨h1, h2⟩ | ⟨g, cap, cur, h1, h2, h3, h4, h5, h6, h7⟩
  · exact ⟨none, 0, by rw [h1, h2], by omega, by omega, fun _ => ⟨h2, rfl⟩, fun a e => by cases e⟩
  · exact ⟨some ⟨g, 0, none⟩, cap, h1, h4, by unfold maxLen at h5; omega, (fun e => by cases e), fun a e => by cases e; exact ⟨g, rfl, (Array.getElem?_eq_some_iff.1 h3).1⟩⟩
theorem Lq.formD {w : World} {D : Nat} {s : Ln} {vb vd : Value} (h : Lq w D s vb vd) : ∃ A c, vd = .slice A s.due.length c ∧ s.due.length ≤ c ∧ c ≤ 9223372036854775807 ∧ (A = none → s.due.length = 0 ∧ c = 0) ∧ (∀ a, A = some a → ∃ g, a = ⟨g, 0, none⟩ ∧ g < w.heap.size) := by
  rcases h.od.2 with ⟨h1, h2⟩ | ⟨g, cap, cur, h1, h2, h3, h4, h5, h6, h7⟩
  · exact ⟨none, 0, by rw [h1, h2], by omega, by omega, fun _ => ⟨h2, rfl⟩, fun a e => by cases e⟩
  · exact ⟨some ⟨g, 0, none⟩, cap, h1, h4, by unfold maxLen at h5; omega, (fun e => by cases e), fun a e => by cases e; exact ⟨g, rfl, (Array.getElem?_eq_some_iff.1 h3).1⟩⟩
theorem own_ne {w : World} {B T n D : Nat} {v : Value} {xs : List Value} {cs : Array Value} {T' : TypeId} {fr : Nat × Nat} (h : w.ownsRow B T 1 v n xs) (hD : w.heap[D]? = some (.cells cs T' fr)) (hT : T ≠ T') : v.ownBlock ≠ some D := by
  intro e
  rcases h.2 with ⟨rfl, _⟩ | ⟨g, cap, cur, rfl, _, h3, _⟩
  · cases e
  · obtain rfl : g = D := by simpa [Value.ownBlock] using e
    rw [h3] at hD
    injection hD with hD
    injection hD with _ hD
    exact hT hD
theorem Lq.neB {w : World} {D : Nat} {s : Ln} {vb vd : Value} (h : Lq w D s vb vd) : vb.ownBlock ≠ some D := own_ne h.ob h.box (by decide)
theorem Lq.neD {w : World} {D : Nat} {s : Ln} {vb vd : Value} (h : Lq w D s vb vd) : vd.ownBlock ≠ some D := own_ne h.od h.box (by decide)
theorem Lq.neBD {w : World} {D : Nat} {s : Ln} {vb vd : Value} (h : Lq w D s vb vd) {k : Nat} (hb : vb.ownBlock = some k) : vd.ownBlock ≠ some k := by
  rcases h.ob.2 with ⟨rfl, _⟩ | ⟨g, cap, cur, rfl, _, h3, _⟩
  · cases hb
  · obtain rfl : g = k := by simpa [Value.ownBlock] using hb
    exact own_ne h.od h3 (by decide)
theorem Lq.but {w w' : World} {D : Nat} {s : Ln} {vb vd : Value} {S : Nat → Prop} (h : Lq w D s vb vd) (hb : But S w w') (hS : ∀ k, LF D vb vd k → ¬ S k) : Lq w' D s vb vd :=
  ⟨hb.at_ h.box (hS D (.inl rfl)), own_same h.ob fun k e hk => hb.same k hk (hS k (.inr (.inl e))), Mi.Own.same h.od fun k e hk => hb.same k hk (hS k (.inr (.inr e)))⟩
theorem Lq.below {w w' : World} {D : Nat} {s : Ln} {vb vd : Value} (h : Lq w D s vb vd) (hb : Below w.heap.size w w') : Lq w' D s vb vd := h.but (S := fun _ => False) (But.of_below hb) fun _ _ h => h
theorem Lq.ltF {w : World} {D : Nat} {s : Ln} {vb vd : Value} (h : Lq w D s vb vd) : ∀ k, LF D vb vd k → k < w.heap.size := by
  rintro k (rfl | e | e)
  · exact h.lt
  · exact own_lt h.ob k e
  · exact own_lt h.od k e
theorem Aft.same {w w' : World} {D : Nat} {s : Ln} {vb vd : Value} (h : Lq w D s vb vd) (hb : Below w.heap.size w w') : Aft w D vb vd s w' := ⟨vb, vd, h.below hb, But.of_below hb, fun k hk => .inl hk⟩
/-! ### The form for laws -/
/-- The line s at D: its blocks are from M on, none of O. -/
def Li (M : Nat) (O : Nat → Prop) (w : World) (D : Nat) (s : Ln) : Prop := ∃ vb vd, Lq w D s vb vd ∧ ∀ k, LF D vb vd k → M ≤ k ∧ ¬ O k
/-- Blocks from M on, none of O. -/
def Out (M : Nat) (O : Nat → Prop) (k : Nat) : Prop := M ≤ k ∧ ¬ O k
theorem Li.after {M : Nat} {O : Nat → Prop} {w w' : World} {D : Nat} {vb vd : Value} {s' : Ln} (hF : ∀ k, LF D vb vd k → M ≤ k ∧ ¬ O k) (hM : M ≤ w.heap.size) (hO : ∀ k, O k → k < w.heap.size) (h : Aft w D vb vd s' w') : Li M O w' D s' ∧ But (Out M O) w w' := by
  obtain ⟨vb', vd', h1, h2, h3⟩ := h
  refine ⟨⟨vb', vd', h1, fun k hk => ?_⟩, h2.mono fun k _ hk => hF k hk⟩
  rcases h3 k hk with h | h
  · exact hF k h
  · exact ⟨Nat.le_trans hM h, fun ho => by have := hO k ho; omega⟩
theorem Li.but {M : Nat} {O S : Nat → Prop} {w w' : World} {D : Nat} {s : Ln} (h : Li M O w D s) (hb : But S w w') (hS : ∀ k, S k → O k ∨ k < M ∨ w.heap.size ≤ k) : Li M O w' D s := by
  obtain ⟨vb, vd, hq, hF⟩ := h
  refine ⟨vb, vd, hq.but hb fun k hk hs => ?_, hF⟩
  obtain ⟨h1, h3⟩ := hF k hk
  have h2 := hq.ltF k hk
  rcases hS k hs with h | h | h
  · exact h3 h
  · omega
  · omega
theorem Li.below {M : Nat} {O : Nat → Prop} {w w' : World} {D : Nat} {s : Ln} (h : Li M O w D s) (hb : Below w.heap.size w w') : Li M O w' D s := h.but (S := fun _ => False) (But.of_below hb) fun _ h => h.elim
theorem Li.other {M : Nat} {O O' : Nat → Prop} {w : World} {D : Nat} {s : Ln} (h : Li M O w D s) (hO : ∀ k, k < w.heap.size → O' k → O k) : Li M O' w D s := by
  obtain ⟨vb, vd, hq, hF⟩ := h
  exact ⟨vb, vd, hq, fun k hk => ⟨(hF k hk).1, fun ho => (hF k hk).2 (hO k (hq.ltF k hk) ho)⟩⟩
theorem but_out {M : Nat} {O : Nat → Prop} {w w' : World} (h : But (Out M O) w w') (hM : M ≤ w.heap.size) : Below M w w' := h.below hM fun k hk => hk.1
end Go.Proofs.Ytcdpdijfgeeenaa.Li
