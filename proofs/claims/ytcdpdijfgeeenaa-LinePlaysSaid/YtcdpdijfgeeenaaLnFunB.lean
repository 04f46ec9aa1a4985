/- How many bytes have come; when one is due that is inserted; a byte turned. -/
import Derived.Test.YtcdpdijfgeeenaaLnFun
import Derived.Deep.QuietTactic
import Derived.BigQuiet
namespace Go.Proofs.Ytcdpdijfgeeenaa.Li
open Go.RowKit
open Go.Proofs.Ytcdpdijfgeeenaa.Sb
set_option linter.unusedVariables false
set_option linter.unusedSimpArgs false

theorem tw_lt (p : Int) : ∀ (l : List Int) (i : Nat), i < (l.takeWhile fun d => decide (d ≤ p)).length → Mi.at_ l i ≤ p
  | [], i, h => by simp at h
  | a :: l, i, h => by
    by_cases ha : a ≤ p
    · rw [List.takeWhile_cons_of_pos (by simpa using ha)] at h
      cases i with
      | zero => simpa [Mi.at_] using ha
      | succ i =>
        have := tw_lt p l i (by simpa using h)
        simpa [Mi.at_] using this
    · rw [List.takeWhile_cons_of_neg (by simpa using ha)] at h
      simp at h
theorem tw_end (p : Int) : ∀ (l : List Int), (l.takeWhile fun d => decide (d ≤ p)).length < l.length → ¬ Mi.at_ l (l.takeWhile fun d => decide (d ≤ p)).length ≤ p
  | [], h => by simp at h
  | a :: l, h => by
    by_cases ha : a ≤ p
    · rw [List.takeWhile_cons_of_pos (by simpa using ha)] at h ⊢
      have := tw_end p l (by simpa using h)
      simpa [Mi.at_] using this
    · rw [List.takeWhile_cons_of_neg (by simpa using ha)] at h ⊢
      simpa [Mi.at_] using ha
theorem come_any (w : World) (D : Nat) (s : Ln) (vb vd : Value) (h : Hid (Lq w D s vb vd)) (ok : Hid s.Ok) : Calls Try.prog 27 #[.pointer (some ⟨D, 0, none⟩)] w fun e w' => e = .returned (.int .i64 (comeN s : Int)) ∧ Hid (Below w.heap.size w w') := by
  obtain ⟨A, c, rfl, g1, g2, g3, g4⟩ := h.out.formD
  have HL := Lib.hid (tw_lt (s.passed : Int) s.due)
  have HE := Lib.hid (tw_end (s.passed : Int) s.due)
  have hmn : comeN s ≤ s.due.length := comeN_le s
  have hn6 : s.due.length ≤ 65536 := by rw [ok.out.len]; exact ok.out.room
  have e0 : (s.due.takeWhile fun d => decide (d ≤ (s.passed : Int))).length = comeN s := rfl
  rw [e0] at HL HE
  clear e0
  have HC : Hid (∀ W, Below w.heap.size w W → W.cell? ⟨D, 1, none⟩ = some (.int .i64 (s.passed : Int)) ∧ W.cell? ⟨D, 3, none⟩ = some (.slice A s.due.length c) ∧ Mi.Rd W w.heap.size A s.due) := fun W hW =>
    ⟨(h.out.below hW).cells.2.1, (h.out.below hW).cells.2.2.2, (h.out.rdD).below hW⟩
  obtain ⟨m, hm⟩ : ∃ m, comeN s = m := ⟨_, rfl⟩
  obtain ⟨n, hn⟩ : ∃ n, s.due.length = n := ⟨_, rfl⟩
  rw [hm] at HL HE hmn ⊢
  have HN : Hid (s.due.length = n) := hn
  rw [hn] at HE HC hmn hn6 g1
  clear hm hn g3 g4 h
  go_enter Try.func27, Try.ntmps27
  go_wp2
  go_loopw [3] (fun u wr => ∃ i : Nat, i ≤ m ∧ u = .int .i64 (i : Int) ∧ Hid (Below w.heap.size w wr)) (fun u _ => n - (intOf u).toNat)
  case atStart => exact ⟨0, Nat.zero_le _, rfl, Below.refl _ _⟩
  case round =>
    obtain ⟨i, hi, rfl, HB⟩ := hrel
    obtain ⟨c1, c3, hr⟩ := HC.out wr HB.out
    have HR := Lib.hid hr
    clear hr
    by_cases hin : i < n
    · have q1 : (i : Int) < (n : Int) := by omega
      have q2 : decide ((i : Int) < (n : Int)) = true := decide_eq_true q1
      obtain ⟨b, off, rfl, hb, hc⟩ := HR.out (by have := HN.out; omega)
      have hx := hc i (by have := HN.out; omega)
      obtain ⟨x, hX⟩ : ∃ x, Mi.at_ s.due i = x := ⟨_, rfl⟩
      rw [hX] at hx
      clear hc
      by_cases him : i < m
      · have q3 : x ≤ (s.passed : Int) := by have := HL.out i him; omega
        have q4 : decide (x ≤ (s.passed : Int)) = true := decide_eq_true q3
        clear hX
        go_wp2
        go_quiet (fail)
        go_wp2
        go_roundw
        case rel => exact ⟨i + 1, by omega, by go_num, Me.below_drewN HB.out nq⟩
        case measure => simp [intOf]; omega
      · obtain rfl : i = m := by omega
        have q3 : ¬ x ≤ (s.passed : Int) := by have := HE.out hin; omega
        have q4 : decide (x ≤ (s.passed : Int)) = false := decide_eq_false q3
        clear hX
        go_wp2
        go_quiet (fail)
        go_wp2
        go_ret
        exact ⟨rfl, Me.below_drewN HB.out nq⟩
    · obtain rfl : i = n := by omega
      obtain rfl : m = i := by omega
      have q1 : ¬ (m : Int) < (m : Int) := by omega
      have q2 : decide ((m : Int) < (m : Int)) = false := decide_eq_false q1
      go_wp2
      go_quiet (fail)
      go_wp2
      go_ret
      exact ⟨rfl, Me.below_drewN HB.out nq⟩
theorem dueAt_any (w : World) (D : Nat) (s : Ln) (vb vd : Value) (h : Hid (Lq w D s vb vd)) (ok : Hid s.Ok) (k : Nat) (hk : k ≤ s.due.length) : Calls Try.prog 29 #[.pointer (some ⟨D, 0, none⟩), .int .i64 (k : Int)] w fun e w' => e = .returned (.int .i64 (dueAt s k)) ∧ Hid (Below w.heap.size w w') := by
  obtain ⟨A, c, rfl, g1, g2, g3, g4⟩ := h.out.formD
  obtain ⟨c0, c1, c2, c3⟩ := h.out.cells
  have HR := Lib.hid h.out.rdD
  have hn6 : s.due.length ≤ 65536 := by rw [ok.out.len]; exact ok.out.room
  have hps := ok.out.ps
  have hdl := ok.out.dl
  have HW : Hid (wrap64 ((s.passed : Int) + (s.delay : Int)) = ((s.passed + s.delay : Nat) : Int)) := by show _ = _; rw [Mi.fits (by unfold Mi.I64; omega)]; omega
  obtain ⟨x, hx⟩ : ∃ x, dueAt s k = x := ⟨_, rfl⟩
  have HX : Hid (dueAt s k = x) := hx
  rw [hx]
  clear hx
  by_cases h0 : s.due.length = 0
  · have HX2 : Hid (((s.passed + s.delay : Nat) : Int) = x) := by have := HX.out; unfold dueAt at this; rw [if_pos h0] at this; exact this
    have p1 : (s.passed : Int) ≤ 1000000 := by omega
    have p2 : (s.delay : Int) ≤ 64 := by omega
    rw [h0] at c3
    clear g1 g2 g3 g4 hn6 hk h0
    go_enter Try.func29, Try.ntmps29
    go_wp2
    go_quiet (fail)
    go_wp2
    go_ret
    refine ⟨?_, Me.below_drewN (Below.refl _ _) nq⟩
    rw [← HX2.out]
    congr 2
    try omega
  · obtain ⟨b, off, rfl, hb, hc⟩ := HR.out (by omega)
    have q0 : ((s.due.length : Int) == 0) = false := beq_eq_false_iff_ne.mpr (by omega)
    by_cases h1 : k = s.due.length
    · have HX2 : Hid (Mi.at_ s.due (k - 1) = x) := by have := HX.out; unfold dueAt at this; rw [if_neg h0, if_pos h1] at this; exact this
      have hx := hc (k - 1) (by omega)
      rw [HX2.out] at hx
      obtain ⟨k1, hk1⟩ : ∃ k1, k = k1 + 1 := ⟨k - 1, by omega⟩
      subst hk1
      rw [Nat.add_sub_cancel] at hx
      rw [← h1] at c3 q0 g1
      have hk6 : k1 + 1 ≤ 65536 := by omega
      have t1 : ((k1 + 1 : Nat) : Int) = (k1 : Int) + 1 := by omega
      have t2 : (k1 : Int) + 1 - 1 = (k1 : Int) := by omega
      clear hc g2 g3 g4 hn6 hk h0 h1
      go_enter Try.func29, Try.ntmps29
      go_wp2
      go_ret
      exact ⟨rfl, Below.refl _ _⟩
    · have HX2 : Hid (Mi.at_ s.due k = x) := by have := HX.out; unfold dueAt at this; rw [if_neg h0, if_neg h1] at this; exact this
      have hx := hc k (by omega)
      rw [HX2.out] at hx
      have q1 : ((k : Int) == (s.due.length : Int)) = false := beq_eq_false_iff_ne.mpr (by omega)
      have q2 : k < s.due.length := by omega
      obtain ⟨n, hn⟩ : ∃ n, s.due.length = n := ⟨_, rfl⟩
      rw [hn] at c3 q0 q1 q2
      clear hc g1 g2 g3 g4 hn6 hk h0 h1 hn
      go_enter Try.func29, Try.ntmps29
      go_wp2
      go_ret
      exact ⟨rfl, Below.refl _ _⟩
end Go.Proofs.Ytcdpdijfgeeenaa.Li
