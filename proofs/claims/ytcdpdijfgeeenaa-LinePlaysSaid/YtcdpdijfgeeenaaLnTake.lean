/- What has come is taken off. -/
import Derived.Test.YtcdpdijfgeeenaaLnFunB
import Derived.Test.YtcdpdijfgeeenaaLnPut
namespace Go.Proofs.Ytcdpdijfgeeenaa.Li
open Go.RowKit
open Go.Proofs.Ytcdpdijfgeeenaa.Sb
set_option linter.unusedVariables false
set_option linter.unusedSimpArgs false

theorem Lq.setB {w W : World} {D : Nat} {s : Ln} {vb vd v' : Value} {l : List Nat} (h : Lq w D s vb vd) (hW : Below w.heap.size w W) (ho : Me.Own W 0 v' l) :
    Lq (W.setCell ⟨D, 2, none⟩ v') D ⟨s.delay, s.passed, l, s.due⟩ v' vd ∧ But (fun k => k = D) w (W.setCell ⟨D, 2, none⟩ v') ∧ W.cell? ⟨D, 2, none⟩ = some vb ∧ W.frozen? ⟨D, 2, none⟩ = false := by
  have hq := h.below hW
  have hD := hq.box
  refine ⟨?_, (But.of_below (S := fun k => k = D) hW).set (p := ⟨D, 2, none⟩) (.inl rfl) _, ?_, frozen_of_row W D 2 _ _ hD⟩
  · rw [setCell_eq_setRow W D 2 _ _ (0, 0) _ hD]
    exact box_set hq (s' := ⟨s.delay, s.passed, l, s.due⟩) v' vd ho hq.od
  · rw [cell_of_row _ D _ _ _ (0, 0) hD]; rfl
theorem Lq.setD {w W : World} {D : Nat} {s : Ln} {vb vd v' : Value} {l : List Int} (h : Lq w D s vb vd) (hW : Below w.heap.size w W) (ho : Mi.Own W 0 v' l) :
    Lq (W.setCell ⟨D, 3, none⟩ v') D ⟨s.delay, s.passed, s.bs, l⟩ vb v' ∧ But (fun k => k = D) w (W.setCell ⟨D, 3, none⟩ v') ∧ W.cell? ⟨D, 3, none⟩ = some vd ∧ W.frozen? ⟨D, 3, none⟩ = false := by
  have hq := h.below hW
  have hD := hq.box
  refine ⟨?_, (But.of_below (S := fun k => k = D) hW).set (p := ⟨D, 3, none⟩) (.inl rfl) _, ?_, frozen_of_row W D 3 _ _ hD⟩
  · rw [setCell_eq_setRow W D 3 _ _ (0, 0) _ hD]
    exact box_set hq (s' := ⟨s.delay, s.passed, s.bs, l⟩) vb v' hq.ob ho
  · rw [cell_of_row _ D _ _ _ (0, 0) hD]; rfl
theorem cutA (g c n : Nat) : ∃ A2 : Option Addr, (if c = n then some (⟨g, 0, none⟩ : Addr) else some ⟨g, n, none⟩) = A2 := ⟨_, rfl⟩
theorem cut_rdB {w : World} {B g c n : Nat} {l : List Nat} {A2 : Option Addr} (h : Me.Rd w B (some ⟨g, 0, none⟩) l) (hl : l.length ≤ c) (hA : (if c = n then some (⟨g, 0, none⟩ : Addr) else some ⟨g, n, none⟩) = A2) : Me.Rd w B A2 (l.drop n) := by
  subst hA
  split
  · rename_i e
    have : l.drop n = [] := List.drop_eq_nil_of_le (by omega)
    rw [this]
    exact ⟨by simp, fun h => by simp at h⟩
  · have := h.drop n
    rw [Nat.zero_add] at this
    exact this
theorem cut_rdI {w : World} {B g c n : Nat} {l : List Int} {A2 : Option Addr} (h : Mi.Rd w B (some ⟨g, 0, none⟩) l) (hl : l.length ≤ c) (hA : (if c = n then some (⟨g, 0, none⟩ : Addr) else some ⟨g, n, none⟩) = A2) : Mi.Rd w B A2 (l.drop n) := by
  subst hA
  intro hp
  rw [List.length_drop] at hp
  obtain ⟨b, off, e, hb, hc⟩ := h (by omega)
  injection e with e
  injection e with e1 e2 e3
  subst e1 e2
  rw [if_neg (by omega)]
  refine ⟨g, n, rfl, hb, fun i hi => ?_⟩
  rw [List.length_drop] at hi
  have := hc (n + i) (by omega)
  rw [Nat.zero_add] at this
  rw [this]
  simp [Mi.at_]
theorem Take_nil (w : World) : Calls Try.prog 15 #[.pointer none] w fun e w' => e = .returned (.slice none 0 0) ∧ w = w' := by
  go_enter Try.func15, Try.ntmps15
  go_wp2
  go_ret
  exact ⟨rfl, rfl⟩
theorem Take_any (w : World) (D : Nat) (s : Ln) (vb vd : Value) (h : Hid (Lq w D s vb vd)) (ok : Hid s.Ok) : Calls Try.prog 15 #[.pointer (some ⟨D, 0, none⟩)] w fun e w' =>
    ∃ A, e = .returned (.slice A (comeN s) (comeN s)) ∧ Hid (Me.Rd w' w'.heap.size A (s.bs.take (comeN s))) ∧ Hid (A = none → comeN s = 0) ∧ Hid (Aft w D vb vd (takeL s) w') := by
  have HCm := Lib.hid (come_any w D s vb vd h ok)
  by_cases h0 : comeN s = 0
  · have HS : Hid (takeL s = s) := by show _ = _; unfold takeL; rw [h0]; rfl
    have HR : Hid (∀ W : World, Me.Rd W W.heap.size none (s.bs.take (comeN s))) := fun W => by rw [h0, List.take_zero]; exact ⟨by simp, fun h => by simp at h⟩
    rw [HS.out]
    rw [h0] at HCm HR ⊢
    have q : ((0 : Nat) : Int) = 0 := rfl
    rw [q] at HCm
    clear h0 q HS
    go_enter Try.func15, Try.ntmps15
    go_wp2_with (go_at_call 27; refine HCm.out.mono ?_; rintro e w1 ⟨rfl, HB1⟩)
    go_ret
    exact ⟨none, rfl, HR.out _, (fun _ => trivial), Aft.same h.out HB1.out⟩
  · have hle : comeN s ≤ s.due.length := comeN_le s
    have hlen := ok.out.len
    have hrm := ok.out.room
    obtain ⟨g, c, e, _, hlt⟩ := Me.Own.form h.out.ob (by omega)
    subst e
    obtain ⟨A4, c4, e4, m1, m2, m3, m4⟩ := h.out.formD
    subst e4
    cases A4 with
    | none => exact absurd (m3 rfl).1 (by omega)
    | some a4 =>
    obtain ⟨g4, rfl, hlt4⟩ := m4 _ rfl
    obtain ⟨A', c', e', n1, n2, _⟩ := h.out.formB
    injection e' with e1 e2 e3
    subst e1 e3
    obtain ⟨A2, hA2⟩ := cutA g c (comeN s)
    obtain ⟨A5, hA5⟩ := cutA g4 c4 (comeN s)
    have HRB : Hid (Me.Rd w w.heap.size A2 (s.bs.drop (comeN s))) := cut_rdB (h.out.rdB ok.out) n1 hA2
    have HRD : Hid (Mi.Rd w w.heap.size A5 (s.due.drop (comeN s))) := cut_rdI h.out.rdD m1 hA5
    have HRT : Hid (∀ W : World, W.heap[g]? = w.heap[g]? → w.heap.size ≤ W.heap.size → Me.Rd W W.heap.size (some ⟨g, 0, none⟩) (s.bs.take (comeN s))) := fun W hW hs => by
      have hr := (h.out.rdB ok.out).take (comeN s)
      refine ⟨hr.1, fun hp => ?_⟩
      obtain ⟨b, off, e, hb, hc⟩ := hr.2 hp
      injection e with e
      injection e with e1 e2 e3
      subst e1 e2
      exact ⟨g, 0, rfl, Nat.lt_of_lt_of_le hb hs, fun i hi => (World.cell?_of_block (w := w) (a := ⟨g, 0 + i, none⟩) hW).trans (hc i hi)⟩
    have HC2 : Hid (∀ W, Below w.heap.size w W → Calls Try.prog 26 #[.slice A2 (s.bs.length - comeN s) (c - comeN s)] W fun e w' => e = .returned (.slice (some ⟨W.heap.size, 0, none⟩) (s.bs.length - comeN s) (s.bs.length - comeN s)) ∧ Hid (Me.Own w' W.heap.size (.slice (some ⟨W.heap.size, 0, none⟩) (s.bs.length - comeN s) (s.bs.length - comeN s)) (s.bs.drop (comeN s))) ∧ Hid (Below W.heap.size W w')) := fun W hW => by
      have := Copied_b A2 (c - comeN s) w.heap.size (s.bs.drop (comeN s)) W (HRB.out.below hW) hW.size (by rw [List.length_drop]; omega)
      rw [List.length_drop] at this
      exact this
    have HC3 : Hid (∀ W, Mi.Rd W W.heap.size A5 (s.due.drop (comeN s)) → Calls Try.prog 28 #[.slice A5 (s.due.length - comeN s) (c4 - comeN s)] W fun e w' => e = .returned (.slice (some ⟨W.heap.size, 0, none⟩) (s.due.length - comeN s) (s.due.length - comeN s)) ∧ Hid (Mi.Own w' W.heap.size (.slice (some ⟨W.heap.size, 0, none⟩) (s.due.length - comeN s) (s.due.length - comeN s)) (s.due.drop (comeN s))) ∧ Hid (Below W.heap.size W w')) := fun W hW => by
      have := Copied_i A5 (c4 - comeN s) W.heap.size (s.due.drop (comeN s)) W hW (Nat.le_refl _) (by rw [List.length_drop]; omega)
      rw [List.length_drop] at this
      exact this
    have HR5 : Hid (∀ W : World, W.heap[g4]? = w.heap[g4]? → w.heap.size ≤ W.heap.size → Mi.Rd W W.heap.size A5 (s.due.drop (comeN s))) := fun W hW hs hp => by
      obtain ⟨b, off, e, hb, hc⟩ := HRD.out hp
      have hbg : b = g4 := by
        rw [← hA5] at e
        split at e
        · injection e with e; injection e with e1; exact e1.symm
        · injection e with e; injection e with e1; exact e1.symm
      subst hbg
      exact ⟨b, off, e, Nat.lt_of_lt_of_le hb hs, fun i hi => (World.cell?_of_block (w := w) (a := ⟨b, off + i, none⟩) hW).trans (hc i hi)⟩
    have HgD : Hid (g ≠ D ∧ g4 ≠ D) := ⟨fun e => h.out.neB (by rw [← e]; rfl), fun e => h.out.neD (by rw [← e]; rfl)⟩
    have HLT4 := Lib.hid hlt4
    have HLT := Lib.hid hlt
    have HK : Hid (∀ W, Below w.heap.size w W → W.cell? ⟨D, 2, none⟩ = some (.slice (some ⟨g, 0, none⟩) s.bs.length c) ∧ W.frozen? ⟨D, 2, none⟩ = false) := fun W hW => ⟨(h.out.below hW).cells.2.2.1, (h.out.below hW).frozen 2⟩
    have HL2 : Hid (s.due.length = s.bs.length) := hlen
    have HTK : Hid (takeL s = ⟨s.delay, s.passed, s.bs.drop (comeN s), s.due.drop (comeN s)⟩) := rfl
    rw [HTK.out]
    obtain ⟨n, hn⟩ : ∃ n, comeN s = n := ⟨_, rfl⟩
    rw [hn] at h0 hle HCm hA2 hA5 HRB HRD HRT HC2 HC3 HR5 ⊢
    rw [hlen] at hle HC3 m1
    obtain ⟨L, hL⟩ : ∃ L, s.bs.length = L := ⟨_, rfl⟩
    have HL : Hid (s.bs.length = L) := hL
    rw [hL] at hle hrm n1 HC2 HC3 HK HL2 m1
    have h' : Hid (Lq w D s (.slice (some ⟨g, 0, none⟩) L c) (.slice (some ⟨g4, 0, none⟩) L c4)) := by
      have := h.out
      rw [hlen, hL] at this
      exact this
    have q0 : ((n : Int) == 0) = false := beq_eq_false_iff_ne.mpr (by omega)
    have q1 : n ≤ L := hle
    have q2 : n ≤ c := Nat.le_trans hle n1
    have q3 : n ≤ c4 := by omega
    have q4 : (n : Int) ≤ (L : Int) := by omega
    rw [hlen, hL]
    clear h hlt hlt4 hL hn hlen m4 m3 h0 HTK
    go_enter Try.func15, Try.ntmps15
    go_wp2_with (first
      | (go_at_call 27; refine HCm.out.mono ?_; rintro e w1 ⟨rfl, HB1⟩; obtain ⟨k2, f2⟩ := HK.out w1 HB1.out)
      | (go_at_call 26; refine (HC2.out w1 HB1.out).mono ?_; rintro e w2 ⟨rfl, HO2, HB2⟩; obtain ⟨hq3, hb3, k2', f2'⟩ := (h'.out.below HB1.out).setB HB2.out (Sb.own_base HO2.out fun _ _ => Nat.zero_le _); have HQ3 := Lib.hid hq3; have HB3 := Lib.hid hb3; obtain ⟨_, _, _, k3⟩ := ((h'.out.below HB1.out).below HB2.out).cells; obtain ⟨W3, hW3⟩ : ∃ W3, w2.setCell ⟨D, 2, none⟩ (.slice (some ⟨w1.heap.size, 0, none⟩) (L - n) (L - n)) = W3 := ⟨_, rfl⟩; rw [hW3] at HQ3 HB3; have HW3 := Lib.hid hW3; clear hW3 hq3 hb3 k2)
      | (go_at_call 28; rw [HW3.out]; clear k2' f2'; refine (HC3.out W3 (HR5.out W3 ((HB3.out.same g4 (Nat.lt_of_lt_of_le HLT4.out HB1.out.size) HgD.out.2).trans (HB1.out.block g4 HLT4.out)) (Nat.le_trans HB1.out.size HB3.out.size))).mono ?_; rintro e w4 ⟨rfl, HO4, HB4⟩; obtain ⟨hq5, hb5, k5, f5⟩ := HQ3.out.setD HB4.out (Mi.Own.zero HO4.out); have HQ5 := Lib.hid hq5; have HB5 := Lib.hid hb5; clear hq5 hb5))
    go_ret
    have HBw := ((But.of_below (S := fun k => k = D) HB1.out).trans HB3.out fun _ _ h => h).trans HB5.out fun _ _ h => h
    refine ⟨some ⟨g, 0, none⟩, rfl, HRT.out _ (HBw.same g HLT.out HgD.out.1) HBw.size, (fun e => by cases e), ⟨_, _, HQ5.out, HBw.mono fun _ _ e => .inl e, fun k hk => ?_⟩⟩
    rcases hk with e | e | e
    · exact .inl (.inl e)
    · cases e; exact .inr HB1.out.size
    · cases e; exact .inr (Nat.le_trans HB1.out.size HB3.out.size)
end Go.Proofs.Ytcdpdijfgeeenaa.Li
