/- A byte that comes in. -/
import Derived.Test.YtcdpdijfgeeenaaLnOps
namespace Go.Proofs.Ytcdpdijfgeeenaa.Li
open Go.RowKit
open Go.Proofs.Ytcdpdijfgeeenaa.Sb
set_option linter.unusedVariables false
set_option linter.unusedSimpArgs false

theorem Insert_bad (w : World) (D : Nat) (s : Ln) (vb vd : Value) (h : Hid (Lq w D s vb vd)) (k : Int) (b : Value) (hk : k < 0 ∨ (s.bs.length : Int) < k) : Calls Try.prog 17 #[.pointer (some ⟨D, 0, none⟩), .int .i64 k, b] w fun e w' => e = .returned (.int .i64 1) ∧ w = w' := by
  obtain ⟨A, c, rfl, _⟩ := h.out.formB
  obtain ⟨c0, c1, c2, c3⟩ := h.out.cells
  obtain ⟨l, hl⟩ : ∃ l, s.bs.length = l := ⟨_, rfl⟩
  rw [hl] at c2 hk
  by_cases h0 : k < 0
  · clear hk
    go_enter Try.func17, Try.ntmps17
    go_wp2
    go_ret
    exact ⟨rfl, rfl⟩
  · have h1 : (l : Int) < k := by omega
    clear hk
    go_enter Try.func17, Try.ntmps17
    go_wp2
    go_ret
    exact ⟨rfl, rfl⟩
theorem Insert_full (w : World) (D : Nat) (s : Ln) (vb vd : Value) (h : Hid (Lq w D s vb vd)) (k : Nat) (b : Value) (hk : k ≤ s.bs.length) (hf : s.bs.length = 65536) : Calls Try.prog 17 #[.pointer (some ⟨D, 0, none⟩), .int .i64 (k : Int), b] w fun e w' => e = .returned (.int .i64 6) ∧ w = w' := by
  obtain ⟨A, c, rfl, _⟩ := h.out.formB
  obtain ⟨c0, c1, c2, c3⟩ := h.out.cells
  rw [hf] at c2 hk
  have h1 : ¬ (65536 : Int) < (k : Int) := by omega
  have h2 : ((65536 : Nat) : Int) = 65536 := rfl
  go_enter Try.func17, Try.ntmps17
  go_wp2
  go_ret
  exact ⟨rfl, rfl⟩
theorem Insert_ok (w : World) (D : Nat) (s : Ln) (vb vd : Value) (h : Hid (Lq w D s vb vd)) (ok : Hid s.Ok) (k b : Nat) (hk : k ≤ s.bs.length) (hb : b < 256) (hf : s.bs.length < 65536) : Calls Try.prog 17 #[.pointer (some ⟨D, 0, none⟩), .int .i64 (k : Int), .int .u8 (b : Int)] w fun e w' => e = .returned (.int .i64 0) ∧ Hid (Aft w D vb vd (insL s k b) w') := by
  have hlen := ok.out.len
  have HDu := Lib.hid (dueAt_any w D s vb vd h ok k (by omega))
  obtain ⟨A, c, e1, _⟩ := h.out.formB
  obtain ⟨A4, c4, e4, _⟩ := h.out.formD
  obtain ⟨x, hx⟩ : ∃ x, dueAt s k = x := ⟨_, rfl⟩
  have HIn : Hid (insL s k b = ⟨s.delay, s.passed, s.bs.take k ++ b :: s.bs.drop k, s.due.take k ++ x :: s.due.drop k⟩) := by show _ = _; unfold insL; rw [hx]
  rw [HIn.out]
  rw [hx] at HDu
  have HF := Lib.hid h.out.ltF
  have HCl : Hid (∀ W, Below w.heap.size w W → Lq (W.alloc (.cells #[.int .u8 (b : Int)] 5)) D s vb vd ∧ W.cell? ⟨D, 2, none⟩ = some vb ∧ W.heap.size < (W.alloc (.cells #[.int .u8 (b : Int)] 5)).heap.size) := fun W hW => ⟨h.out.below (Me.below_alloc hW), (h.out.below hW).cells.2.2.1, by simp⟩
  have HIb : Hid (∀ W, Below w.heap.size w W → Calls Try.prog 30 #[vb, .int .i64 (k : Int), .slice (some ⟨W.heap.size, 0, none⟩) 1 1] (W.alloc (.cells #[.int .u8 (b : Int)] 5)) fun e w' => ∃ v', e = .returned v' ∧ Hid (Me.Own w' 0 v' (s.bs.take k ++ b :: s.bs.drop k)) ∧ Hid ((W.alloc (.cells #[.int .u8 (b : Int)] 5)).grownBy w' vb.ownBlock) ∧ Hid (∀ q, v'.ownBlock = some q → vb.ownBlock = some q ∨ (W.alloc (.cells #[.int .u8 (b : Int)] 5)).heap.size ≤ q)) := fun W hW =>
    Ins_b _ vb s.bs W.heap.size b k (h.out.below (Me.below_alloc hW)).ob hb (heap_alloc_new W _) (fun e => by have := h.out.ltF _ (.inr (.inl e)); have := hW.size; omega) (by omega) hk
  have HIi : Hid (∀ W vd' g, g = W.heap.size → Mi.Own W 0 vd' s.due → Calls Try.prog 31 #[vd', .int .i64 (k : Int), .slice (some ⟨g, 0, none⟩) 1 1] (W.alloc (.cells #[.int .i64 x] 3)) fun e w' => ∃ v', e = .returned v' ∧ Hid (Mi.Own w' 0 v' (s.due.take k ++ x :: s.due.drop k)) ∧ Hid ((W.alloc (.cells #[.int .i64 x] 3)).grownBy w' vd'.ownBlock) ∧ Hid (∀ q, v'.ownBlock = some q → vd'.ownBlock = some q ∨ (W.alloc (.cells #[.int .i64 x] 3)).heap.size ≤ q)) := fun W vd' g hg hW => by
    subst hg
    exact Ins_i _ vd' s.due W.heap.size x k (hW.alloc _) (heap_alloc_new W _) (fun e => by have := own_lt hW _ e; omega) (by omega) (by omega)
  have HKn : Hid (∀ W, Below w.heap.size w W → W.cell? ⟨D, 2, none⟩ = some vb) := fun W hW => (h.out.below hW).cells.2.2.1
  obtain ⟨c0, c1, c2, c3⟩ := h.out.cells
  have q1 : ¬ (s.bs.length : Int) < (k : Int) := by omega
  have q3 : ((s.bs.length : Int) == 65536) = false := beq_eq_false_iff_ne.mpr (by omega)
  subst e1 e4
  obtain ⟨l, hl⟩ : ∃ l, s.bs.length = l := ⟨_, rfl⟩
  rw [hlen] at c3 HF HCl ⊢
  rw [hl] at c2 c3 q1 q3 HCl HIb HKn HF ⊢
  clear h hl hlen hx hk hf hb
  go_enter Try.func17, Try.ntmps17
  go_wp2_with (first
    | (go_at_call 29; refine HDu.out.mono ?_; rintro e w1 ⟨rfl, HB1⟩; have k1 := HKn.out w1 HB1.out)
    | (go_at_call 30; refine (HIb.out w1 HB1.out).mono ?_; rintro e w3 ⟨v3, rfl, HO3, HG3, HN3⟩; obtain ⟨hq1, hb1, k2, f2', k3⟩ := (HCl.out w1 HB1.out).1.reB HO3.out HG3.out HN3.out; have HQ1 := Lib.hid hq1; have HB3 := Lib.hid hb1; clear hq1 hb1 k1; obtain ⟨B1, n1, b1, hv1⟩ := own_form HO3.out; subst hv1)
    | (go_at_call 31; refine (HIi.out _ _ _ (World.size_setCell _ _ _).symm HQ1.out.od).mono ?_; rintro e w5 ⟨v5, rfl, HO5, HG5, HN5⟩; obtain ⟨hq3, hb3, k5, f5⟩ := (HQ1.out.below (Mi.below_alloc (Below.refl _ _))).reD HO5.out HG5.out HN5.out; have HQ5 := Lib.hid hq3; have HB5 := Lib.hid hb3; clear hq3 hb3 k2 k3 f2'; obtain ⟨B3, n3, b3, hv3⟩ := own_form HO5.out; subst hv3))
  go_ret
  have hB1 : Below w.heap.size w (w1.alloc (.cells #[.int .u8 (b : Int)] 5)) := Me.below_alloc HB1.out
  have hB2 := ((But.of_below (S := LF D (.slice A l c) (.slice A4 l c4)) hB1).trans HB3.out fun _ _ h => h)
  have hB3 := hB2.alloc (.cells #[.int .i64 x] 3)
  refine ⟨rfl, _, _, HQ5.out, hB3.trans HB5.out fun q hq hs => ?_, fun q hs => ?_⟩
  · rcases hs with e | e | e
    · exact .inl e
    · rcases HN3.out q e with h | h
      · exact .inr (.inl h)
      · have := hB1.size; omega
    · exact .inr (.inr e)
  · rcases hs with e | e | e
    · exact .inl (.inl e)
    · rcases HN3.out q e with h | h
      · exact .inl (.inr (.inl h))
      · exact .inr (Nat.le_trans hB1.size h)
    · rcases HN5.out q e with h | h
      · exact .inl (.inr (.inr h))
      · exact .inr (Nat.le_trans hB3.size h)
end Go.Proofs.Ytcdpdijfgeeenaa.Li
