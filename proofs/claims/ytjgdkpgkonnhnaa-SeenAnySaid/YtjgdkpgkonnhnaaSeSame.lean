/- SameMarks of two lists that are the same. -/
import Derived.Test.YtjgdkpgkonnhnaaSeMw
namespace Go.Proofs.Ytjgdkpgkonnhnaa.Se
open Go.RowKit
open Go.Proofs.Ytjgdkpgkonnhnaa.Me Go.Proofs.Ytjgdkpgkonnhnaa.Sb
set_option linter.unusedVariables false
set_option linter.unusedSimpArgs false

/-- Marks that are read. -/
def Mv (w : World) (v : Value) (P : List Pm) : Prop :=
  ∃ A c, v = .slice A P.length c ∧ P.length ≤ c ∧ c ≤ 9223372036854775807 ∧ ∀ (j : Nat) (p : Pm), P[j]? = some p → ∃ g off, A = some ⟨g, off, none⟩ ∧ g < w.heap.size ∧
    (w.cell? ⟨g, off + j * 4, none⟩ = some (.int .i64 p.m.o) ∧ w.cell? ⟨g, off + j * 4 + 1, none⟩ = some (.int .i64 p.m.e) ∧ w.cell? ⟨g, off + j * 4 + 2, none⟩ = some (.int .i64 p.m.up) ∧ w.cell? ⟨g, off + j * 4 + 3, none⟩ = some p.v) ∧
    p.m.more.length ≤ p.c ∧ p.c ≤ 9223372036854775807 ∧ Mi.Rd w w.heap.size p.A p.m.more
theorem Mv.below {w w' : World} {v : Value} {P : List Pm} (h : Mv w v P) (hb : Below w.heap.size w w') : Mv w' v P := by
  obtain ⟨A, c, e, h1, h2, h3⟩ := h
  refine ⟨A, c, e, h1, h2, fun j p hj => ?_⟩
  obtain ⟨g, off, e1, e2, ⟨c0, c1, c2, c3⟩, e4, e5, e6⟩ := h3 j p hj
  exact ⟨g, off, e1, Nat.lt_of_lt_of_le e2 hb.size, ⟨(hb.cell e2).trans c0, (hb.cell e2).trans c1, (hb.cell e2).trans c2, (hb.cell e2).trans c3⟩, e4, e5, (e6.below hb).more hb.size⟩
theorem Mw.mv {w : World} {B : Nat} {v : Value} {P : List Pm} (h : Mw w B v P) : Mv w v P := by
  obtain ⟨A, c, rfl, h1, h2⟩ := h.form
  refine ⟨A, c, rfl, h1, h2, fun j p hj => ?_⟩
  obtain ⟨g, e1, e2, e3, e4⟩ := h.at_ hj
  obtain ⟨c0, c1, c2, c3, _⟩ := e4 w rfl
  obtain ⟨A', c', e5, h3, h4, h5, _⟩ := (h.each p (List.mem_of_getElem? hj)).form
  unfold Pm.v at e5
  cases e5
  exact ⟨g, 0, e1, e3, ⟨by rw [Nat.zero_add]; exact c0, by rw [Nat.zero_add]; exact c1, by rw [Nat.zero_add]; exact c2, by rw [Nat.zero_add]; exact c3⟩, h3, h4, h5⟩
set_option maxRecDepth 100000 in
set_option maxHeartbeats 8000000 in
theorem Same_eq (v1 v2 : Value) (P1 P2 : List Pm) (w : World) (h1 : Hid (Mv w v1 P1)) (h2 : Hid (Mv w v2 P2)) (he : Hid (P1.map Pm.m = P2.map Pm.m)) (hl : P1.length ≤ 100000) : Calls Try.prog 19 #[v1, v2] w fun e w' => e = .returned (.bool true) ∧ Hid (Below w.heap.size w w') := by
  obtain ⟨A1, c1, rfl, hc1, hc1', hr1⟩ := h1.out
  obtain ⟨A2, c2, rfl, hc2, hc2', hr2⟩ := h2.out
  have hlen : P2.length = P1.length := by have := congrArg List.length he.out; simpa using this.symm
  obtain ⟨N, hN⟩ : ∃ N, P1.length = N := ⟨_, rfl⟩
  rw [hlen, hN]
  have HN := Lib.hid hN
  have HN2 : Hid (P2.length = N) := hlen.trans hN
  rw [hN] at hl
  clear hc1 hc1' hr1 hc2 hc2' hr2 hlen hN
  go_enter Try.func19, Try.ntmps19
  go_wp2
  go_loopw [5] (fun v5 wr => ∃ j : Nat, j ≤ N ∧ v5 = .int .i64 (j : Int) ∧ Hid (Below w.heap.size w wr)) (fun v5 _ => N - (intOf v5).toNat)
  case atStart => exact ⟨0, by omega, rfl, Below.refl _ _⟩
  case round =>
    obtain ⟨j, hj, rfl, HB⟩ := hrel
    by_cases hlt : j < N
    · obtain ⟨p1, hp1⟩ : ∃ p, P1[j]? = some p := ⟨_, List.getElem?_eq_getElem (by have := HN.out; omega)⟩
      obtain ⟨p2, hp2⟩ : ∃ p, P2[j]? = some p := ⟨_, List.getElem?_eq_getElem (by have := HN2.out; omega)⟩
      have hm : p1.m = p2.m := by
        have := congrArg (fun l => l[j]?) he.out
        simpa [hp1, hp2] using this
      obtain ⟨A1', c1', e1, _, _, hr1⟩ := h1.out
      injection e1 with e1 _ e1'
      subst e1 e1'
      obtain ⟨A2', c2', e2, _, _, hr2⟩ := h2.out
      injection e2 with e2 _ e2'
      subst e2 e2'
      obtain ⟨g1, o1, rfl, hg1, ⟨a0, a1, a2, a3⟩, hk1, hk1', hrd1⟩ := hr1 j p1 hp1
      obtain ⟨g2, o2, rfl, hg2, ⟨b0, b1, b2, b3⟩, hk2, hk2', hrd2⟩ := hr2 j p2 hp2
      obtain ⟨m1, B1, d1⟩ := p1
      obtain ⟨m2, B2, d2⟩ := p2
      simp only at hm
      subst hm
      obtain ⟨o, e, u, ml⟩ := m1
      simp only [Pm.v] at a0 a1 a2 a3 b0 b1 b2 b3 hk1 hk1' hk2 hk2' hrd1 hrd2
      obtain ⟨M, hM⟩ : ∃ M, ml.length = M := ⟨_, rfl⟩
      rw [hM] at a3 b3 hk1 hk2
      have HM := Lib.hid hM
      have HR1 := Lib.hid hrd1
      have HR2 := Lib.hid hrd2
      have HC : Hid (∀ W, Below w.heap.size w W → (W.cell? ⟨g1, o1 + j * 4, none⟩ = some (.int .i64 o) ∧ W.cell? ⟨g1, o1 + j * 4 + 1, none⟩ = some (.int .i64 e) ∧ W.cell? ⟨g1, o1 + j * 4 + 2, none⟩ = some (.int .i64 u) ∧ W.cell? ⟨g1, o1 + j * 4 + 3, none⟩ = some (.slice B1 M d1)) ∧ (W.cell? ⟨g2, o2 + j * 4, none⟩ = some (.int .i64 o) ∧ W.cell? ⟨g2, o2 + j * 4 + 1, none⟩ = some (.int .i64 e) ∧ W.cell? ⟨g2, o2 + j * 4 + 2, none⟩ = some (.int .i64 u) ∧ W.cell? ⟨g2, o2 + j * 4 + 3, none⟩ = some (.slice B2 M d2))) := fun W hb =>
        ⟨⟨(hb.cell hg1).trans a0, (hb.cell hg1).trans a1, (hb.cell hg1).trans a2, (hb.cell hg1).trans a3⟩, ⟨(hb.cell hg2).trans b0, (hb.cell hg2).trans b1, (hb.cell hg2).trans b2, (hb.cell hg2).trans b3⟩⟩
      clear hr1 hr2 hM hrd1 hrd2 a0 a1 a2 a3 b0 b1 b2 b3 hp1 hp2 hg1 hg2
      obtain ⟨⟨a0, a1, a2, a3⟩, ⟨b0, b1, b2, b3⟩⟩ := HC.out wr HB.out
      have q1 : (j : Int) < (N : Int) := by omega
      have q2 : ¬ ((N : Int) ≤ (j : Int)) := by omega
      go_wp2
      go_quiet (fail)
      go_wp2
      have HBd : Hid (Below w.heap.size w (wr.drewN nq)) := Me.below_drewN HB.out nq
      clear a0 a1 a2 a3 b0 b1 b2 b3
      obtain ⟨W0, hW0⟩ : ∃ W0, wr.drewN nq = W0 := ⟨_, rfl⟩
      rw [hW0] at HBd ⊢
      clear hW0
      go_loopw [6] (fun v6 wx => ∃ k : Nat, k ≤ M ∧ v6 = .int .i64 (k : Int) ∧ Hid (Below w.heap.size w wx)) (fun v6 _ => M - (intOf v6).toNat)
      case atStart => exact ⟨0, by omega, rfl, HBd⟩
      case round =>
        obtain ⟨k, hk, rfl, HBk⟩ := hrel
        obtain ⟨⟨a0, a1, a2, a3⟩, ⟨b0, b1, b2, b3⟩⟩ := HC.out wr HBk.out
        by_cases hkl : k < M
        · obtain ⟨f1, r1, rfl, hf1, s1⟩ := HR1.out (by have := HM.out; omega)
          obtain ⟨f2, r2, rfl, hf2, s2⟩ := HR2.out (by have := HM.out; omega)
          have z1 := (HBk.out.cell (p := ⟨f1, r1 + k, none⟩) hf1).trans (s1 k (by have := HM.out; omega))
          have z2 := (HBk.out.cell (p := ⟨f2, r2 + k, none⟩) hf2).trans (s2 k (by have := HM.out; omega))
          obtain ⟨z, hz⟩ : ∃ z, Mi.at_ ml k = z := ⟨_, rfl⟩
          rw [hz] at z1 z2
          have q3 : (k : Int) < (M : Int) := by omega
          have q4 : ¬ ((M : Int) ≤ (k : Int)) := by omega
          clear s1 s2 hz
          go_wp2
          go_quiet (fail)
          go_wp2
          go_roundw
          case rel => exact ⟨k + 1, hkl, by go_num, Me.below_drewN HBk.out _⟩
          case measure => simp [intOf]; omega
        · obtain rfl : k = M := by omega
          have q3 : ¬ (k : Int) < (k : Int) := by omega
          go_wp2
          go_roundw
          case rel => exact ⟨j + 1, hlt, by go_num, HBk⟩
          case measure => simp [intOf]; omega
    · obtain rfl : j = N := by omega
      have g1 : ¬ (j : Int) < (j : Int) := by omega
      go_wp2
      go_ret
      exact ⟨rfl, HB.out⟩
end Go.Proofs.Ytjgdkpgkonnhnaa.Se
