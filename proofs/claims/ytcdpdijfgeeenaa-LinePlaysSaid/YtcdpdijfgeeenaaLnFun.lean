/- A line's small calls. -/
import Derived.Test.YtcdpdijfgeeenaaLnCopy
import Derived.Handy
namespace Go.Proofs.Ytcdpdijfgeeenaa.Li
open Go.RowKit
open Go.Proofs.Ytcdpdijfgeeenaa.Sb
set_option linter.unusedVariables false
set_option linter.unusedSimpArgs false

theorem New_bad (n : Int) (h : n < 0 ∨ 64 < n) (w : World) : Calls Try.prog 7 #[.int .i64 n] w fun e w' => e = .returned (.tuple #[.pointer none, .int .i64 1]) ∧ w = w' := by
  by_cases h1 : n < 0
  · go_enter Try.func7, Try.ntmps7
    go_wp2
    go_returns
    exact ⟨rfl, rfl⟩
  · have h2 : 64 < n := by omega
    go_enter Try.func7, Try.ntmps7
    go_wp2
    go_returns
    exact ⟨rfl, rfl⟩
theorem New_ok (n : Nat) (h2 : n ≤ 64) (w : World) : Calls Try.prog 7 #[.int .i64 n] w fun e w' => e = .returned (.tuple #[.pointer (some ⟨w.heap.size, 0, none⟩), .int .i64 0]) ∧ Hid (Lq w' w.heap.size (newL n) (.slice none 0 0) (.slice none 0 0)) ∧ Hid (Below w.heap.size w w') := by
  have g1 : ¬ (n : Int) < 0 := by omega
  have g2 : ¬ 64 < (n : Int) := by omega
  go_enter Try.func7, Try.ntmps7
  go_wp2
  go_returns
  exact ⟨rfl, ⟨heap_alloc_new w _, Me.Own.nil _ _, Mi.Own.nil _ _⟩, Me.below_alloc (Below.refl _ _)⟩
theorem Tick_nil (w : World) : Calls Try.prog 16 #[.pointer none] w fun e w' => e = .returned (.int .i64 7) ∧ w = w' := by
  go_enter Try.func16, Try.ntmps16
  go_wp2
  go_ret
  exact ⟨rfl, rfl⟩
theorem box_set {w : World} {D : Nat} {s s' : Ln} {vb vd : Value} (h : Lq w D s vb vd) (vb' vd' : Value) (hb : Me.Own w 0 vb' s'.bs) (hd : Mi.Own w 0 vd' s'.due) :
    Lq (w.setRow D #[.int .i64 (s'.delay : Int), .int .i64 (s'.passed : Int), vb', vd']) D s' vb' vd' :=
  ⟨setRow_heap w D _ _ _ (0, 0) h.box, own_same hb fun k e _ => setRow_other _ _ k _ fun e2 => own_ne hb h.box (by decide) (e2 ▸ e), Mi.Own.same hd fun k e _ => setRow_other _ _ k _ fun e2 => own_ne hd h.box (by decide) (e2 ▸ e)⟩
theorem set_row1 {w : World} {D : Nat} {s : Ln} {vb vd : Value} (h : Lq w D s vb vd) (u : Value) (hu : u.oneCell' = true) : w.setCell ⟨D, 1, none⟩ u = w.setRow D #[.int .i64 (s.delay : Int), u, vb, vd] := by
  rw [setCell_eq_setRow w D 1 _ _ (0, 0) _ h.box]
  rfl
theorem set_row2 {w : World} {D : Nat} {s : Ln} {vb vd : Value} (h : Lq w D s vb vd) (u : Value) : w.setCell ⟨D, 2, none⟩ u = w.setRow D #[.int .i64 (s.delay : Int), .int .i64 (s.passed : Int), u, vd] := by
  rw [setCell_eq_setRow w D 2 _ _ (0, 0) _ h.box]
  rfl
theorem set_row3 {w : World} {D : Nat} {s : Ln} {vb vd : Value} (h : Lq w D s vb vd) (u : Value) : w.setCell ⟨D, 3, none⟩ u = w.setRow D #[.int .i64 (s.delay : Int), .int .i64 (s.passed : Int), vb, u] := by
  rw [setCell_eq_setRow w D 3 _ _ (0, 0) _ h.box]
  rfl
theorem Aft.set {w w1 : World} {D : Nat} {vb vd : Value} {s s' : Ln} {vb' vd' : Value} (hD : w1.heap[D]? = some (.cells #[.int .i64 (s.delay : Int), .int .i64 (s.passed : Int), vb, vd] 53 (0, 0))) (hb : But (LF D vb vd) w w1) (ob : Me.Own w1 0 vb' s'.bs) (od : Mi.Own w1 0 vd' s'.due)
    (h1 : ∀ k, vb'.ownBlock = some k → LF D vb vd k ∨ w.heap.size ≤ k) (h2 : ∀ k, vd'.ownBlock = some k → LF D vb vd k ∨ w.heap.size ≤ k) :
    Aft w D vb vd s' (w1.setRow D #[.int .i64 (s'.delay : Int), .int .i64 (s'.passed : Int), vb', vd']) :=
  ⟨vb', vd', ⟨setRow_heap w1 D _ _ _ (0, 0) hD, own_same ob fun k e _ => setRow_other _ _ k _ fun e2 => own_ne ob hD (by decide) (e2 ▸ e), Mi.Own.same od fun k e _ => setRow_other _ _ k _ fun e2 => own_ne od hD (by decide) (e2 ▸ e)⟩,
    hb.setRow (.inl (.inl rfl)) _, fun k hk => by
      rcases hk with rfl | e | e
      · exact .inl (.inl rfl)
      · exact h1 k e
      · exact h2 k e⟩
theorem Tick_any (w : World) (D : Nat) (s : Ln) (vb vd : Value) (h : Hid (Lq w D s vb vd)) (hp : s.passed < 1000000) : Calls Try.prog 16 #[.pointer (some ⟨D, 0, none⟩)] w fun e w' => e = .returned (.int .i64 0) ∧ Hid (Aft w D vb vd (tickL s) w') := by
  obtain ⟨c0, c1, c2, c3⟩ := h.out.cells
  have f1 := h.out.frozen 1
  have HW : Hid (wrap64 ((s.passed : Int) + 1) = ((s.passed + 1 : Nat) : Int)) := by show _ = _; rw [Mi.fits (by unfold Mi.I64; omega)]; omega
  have q := HW.out
  have hp2 : (s.passed : Int) < 1000000 := by omega
  go_enter Try.func16, Try.ntmps16
  go_wp2
  go_ret
  refine ⟨rfl, ?_⟩
  have e : (s.passed : Int) + 1 = ((s.passed + 1 : Nat) : Int) := by omega
  first | rw [e] | skip
  rw [set_row1 h.out _ rfl]
  exact Aft.set (s := s) (s' := tickL s) h.out.box (But.refl _ _) h.out.ob h.out.od (fun k e => .inl (.inr (.inl e))) (fun k e => .inl (.inr (.inr e)))
theorem Len_nil (w : World) : Calls Try.prog 13 #[.pointer none] w fun e w' => e = .returned (.int .i64 0) ∧ w = w' := by
  go_enter Try.func13, Try.ntmps13
  go_wp2
  go_ret
  exact ⟨rfl, rfl⟩
theorem Len_any (w : World) (D : Nat) (s : Ln) (vb vd : Value) (h : Hid (Lq w D s vb vd)) : Calls Try.prog 13 #[.pointer (some ⟨D, 0, none⟩)] w fun e w' => e = .returned (.int .i64 (s.bs.length : Int)) ∧ w = w' := by
  obtain ⟨A, c, rfl, _⟩ := h.out.formB
  obtain ⟨c0, c1, c2, c3⟩ := h.out.cells
  obtain ⟨n, hn⟩ : ∃ n, s.bs.length = n := ⟨_, rfl⟩
  rw [hn] at c2 ⊢
  go_enter Try.func13, Try.ntmps13
  go_wp2
  go_ret
  exact ⟨rfl, rfl⟩
theorem Bytes_nil (w : World) : Calls Try.prog 11 #[.pointer none] w fun e w' => e = .returned (.slice none 0 0) ∧ w = w' := by
  go_enter Try.func11, Try.ntmps11
  go_wp2
  go_ret
  exact ⟨rfl, rfl⟩
theorem Lq.rdB {w : World} {D : Nat} {s : Ln} {A : Option Addr} {c : Nat} {vd : Value} (h : Lq w D s (.slice A s.bs.length c) vd) (ok : s.Ok) : Me.Rd w w.heap.size A s.bs := by
  obtain ⟨A', c', e, _, _, h2⟩ := Me.Own.held h.ob ok.byte
  injection e with e1 e2 e3
  subst e1
  exact h2.rd
theorem Lq.rdD {w : World} {D : Nat} {s : Ln} {vb : Value} {A : Option Addr} {c : Nat} (h : Lq w D s vb (.slice A s.due.length c)) : Mi.Rd w w.heap.size A s.due := by
  obtain ⟨A', c', e, _, _, h2, _⟩ := Mi.Own.form h.od
  injection e with e1 e2 e3
  subst e1
  exact h2
theorem Bytes_any (w : World) (D : Nat) (s : Ln) (vb vd : Value) (h : Hid (Lq w D s vb vd)) (ok : Hid s.Ok) : Calls Try.prog 11 #[.pointer (some ⟨D, 0, none⟩)] w fun e w' => e = .returned (.slice (some ⟨w.heap.size, 0, none⟩) s.bs.length s.bs.length) ∧ Hid (Me.Own w' w.heap.size (.slice (some ⟨w.heap.size, 0, none⟩) s.bs.length s.bs.length) s.bs) ∧ Hid (Below w.heap.size w w') := by
  obtain ⟨A, c, rfl, _⟩ := h.out.formB
  obtain ⟨c0, c1, c2, c3⟩ := h.out.cells
  have hC := Copied_b A c w.heap.size s.bs w (h.out.rdB ok.out) (Nat.le_refl _) (by have := ok.out.room; omega)
  have HC := Lib.hid hC
  clear hC
  go_enter Try.func11, Try.ntmps11
  go_wp2_with (go_at_call 26; refine HC.out.mono ?_; rintro e w2 ⟨rfl, HO, HB⟩)
  go_ret
  exact ⟨rfl, HO, HB⟩
end Go.Proofs.Ytcdpdijfgeeenaa.Li
