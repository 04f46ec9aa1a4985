/- The walk of the law RecvAll. -/
import Derived.Test.YtnfjfcoonabmmaaRvWays
namespace Go.Proofs.Ytnfjfcoonabmmaa.Rv
open Go.RowKit
open Go.Proofs.Ytnfjfcoonabmmaa.Me Go.Proofs.Ytnfjfcoonabmmaa.Hd Go.Proofs.Ytnfjfcoonabmmaa.Sn
set_option linter.unusedVariables false
set_option linter.unusedSimpArgs false

theorem send_l (s : Snd) : (sendS s).l = s.l := by unfold sendS; split <;> rfl
theorem send_u {n : Nat} {x : Pr} (h : Pst n x) (hl : 1 ≤ x.s.l.length) : 1 ≤ (sendS x.s).under := by
  have h1 := h.sok.s1
  unfold sendS
  split
  · show 1 ≤ x.s.under + 1; omega
  · rename_i hn
    have : ¬ (x.s.under < x.s.size ∧ x.s.under < x.s.l.length) := fun hc => hn (decide_eq_true hc)
    omega
theorem PM.hM {M : Nat} {w : World} {P Ds D mb n : Nat} {x : Pr} (h : PM M w P Ds D mb n x) : M ≤ w.heap.size := by obtain ⟨_, _, _, _, _, _, _, hp⟩ := h; exact hp.hM
theorem own_quiet {P B : Nat} {w w' : World} {v : Value} {l : List Int} (h : Mi.Own w B v l) (hq : Quiet P w w') : Mi.Own w' B v l := h.same fun k hk _ => by
  obtain ⟨cur, hc⟩ := own_type h k hk
  exact hq.2 k cur _ (.inr (.inr rfl)) hc
theorem own_at {w : World} {B n c j : Nat} {A : Option Addr} {l : List Int} (h : Mi.Own w B (.slice A n c) l) (hj : j < l.length) : ∃ b off, A = some ⟨b, off, none⟩ ∧ b < w.heap.size ∧ w.cell? ⟨b, off + j, none⟩ = some (.int .i64 (Mi.at_ l j)) := by
  obtain ⟨A', c', e, _, _, hr, _, _⟩ := Mi.Own.form h
  simp only [Value.slice.injEq] at e
  obtain ⟨rfl, rfl, rfl⟩ := e
  obtain ⟨b, off, e1, e2, e3⟩ := hr (by omega)
  exact ⟨b, off, e1, e2, e3 j hj⟩
/-- One that is under way, sent once more and come. -/
theorem Pst.more {n W' : Nat} {x : Pr} {j : Nat} (hW : x.g + j ≤ x.W) (h1 : x.W ≤ W') (h2 : x.g + j = x.W → x.W + 1 ≤ W') : x.g + (j + 1) ≤ W' := by omega
/-- The sender's length, read through the pair. -/
theorem Len_p {M : Nat} {w : World} {P Ds D mb n : Nat} {x : Pr} (h : Hid (PM M w P Ds D mb n x)) : w.cell? ⟨P, 0, none⟩ = some (.pointer (some ⟨Ds, 0, none⟩)) ∧ (Calls Try.prog 15 #[.pointer (some ⟨Ds, 0, none⟩)] w fun e w' => e = .returned (.int .i64 (x.s.l.length : Int)) ∧ w = w') := by
  obtain ⟨hst, G, A1, c1, v2, A3, c3, hpm⟩ := h.out
  exact ⟨hpm.cell 0, Len_s M G w Ds x.s (Lib.hid hpm.sn)⟩
theorem Under_p {M : Nat} {w : World} {P Ds D mb n : Nat} {x : Pr} (h : Hid (PM M w P Ds D mb n x)) : w.cell? ⟨P, 0, none⟩ = some (.pointer (some ⟨Ds, 0, none⟩)) ∧ Calls Try.prog 16 #[.pointer (some ⟨Ds, 0, none⟩)] w (Wn.NewI w (Wn.goes (x.s.base : Int) x.s.under)) := by
  obtain ⟨hst, G, A1, c1, v2, A3, c3, hpm⟩ := h.out
  exact ⟨hpm.cell 0, Under_s M G w Ds x.s (Lib.hid hpm.sn) (Lib.hid hst.sok)⟩
theorem Again_p {M : Nat} {w : World} {P Ds D mb n t : Nat} {x : Pr} (h : Hid (PM M w P Ds D mb n x)) (ht : t < x.s.under) : w.cell? ⟨P, 0, none⟩ = some (.pointer (some ⟨Ds, 0, none⟩)) ∧ Calls Try.prog 17 #[.pointer (some ⟨Ds, 0, none⟩), .int .i64 (((x.g + t) % 128 : Nat) : Int)] w.drew fun e w' =>
    ∃ A c, e = .returned (.tuple #[.slice A 2 c, .int .i64 0]) ∧ Hid (Me.Rd w' w'.heap.size A (lsAt x.ps (x.g + t))) ∧ Hid (A = none → (lsAt x.ps (x.g + t)).length = 0 ∧ c = 0) ∧ Hid (Below w.heap.size w w') := by
  obtain ⟨hst, G, A1, c1, v2, A3, c3, hpm⟩ := h.out
  obtain ⟨g1, g2⟩ := hst.again ht
  obtain ⟨a1, a2⟩ := hst.at_ (m := x.g + t) (by have := hst.Sle; unfold Pr.S at this; omega)
  have hd : Below w.heap.size w w.drew := (Below.refl _ w).drew
  refine ⟨hpm.cell 0, ?_⟩
  have hA := Again_s M G w.drew Ds x.s (Lib.hid (hpm.below hd).sn) (Lib.hid hst.sok) (((x.g + t) % 128 : Nat) : Int)
  rw [g1, g2] at hA
  refine hA.mono ?_
  rintro e w' ⟨A, c, rfl, ho, hb⟩
  obtain ⟨z1, z2, _, _⟩ := own_rd ho.out a2
  exact ⟨A, c, by rw [a1]; rfl, z1, z2, hd.trans hb.out⟩
/-- The end: what was told is what was pushed, nothing is kept. -/
theorem end_p {M : Nat} {w : World} {P Ds D mb n : Nat} {x : Pr} (h : Hid (PM M w P Ds D mb n x)) (h300 : Hid (x.ps.length ≤ 300)) (h0 : x.s.l.length = 0) :
    ∃ A1 c1 A3 c3, w.cell? ⟨P, 0, none⟩ = some (.pointer (some ⟨Ds, 0, none⟩)) ∧ w.cell? ⟨P, 1, none⟩ = some (.pointer (some ⟨D, 0, none⟩)) ∧ w.cell? ⟨P, 2, none⟩ = some (.slice A1 x.ps.length c1) ∧ w.cell? ⟨P, 4, none⟩ = some (.slice A3 x.ps.length c3) ∧
      (∀ W, Below w.heap.size w W → Calls Try.prog 19 #[.slice A3 x.ps.length c3, .slice A1 x.ps.length c1] W fun e w' => e = .returned (.bool true) ∧ Hid (Below W.heap.size W w')) ∧
      (∀ W, Below w.heap.size w W → Calls Try.prog 20 #[.pointer (some ⟨D, 0, none⟩)] W (Wn.NewI W [])) ∧
      (∀ W, Below w.heap.size w W → Calls Try.prog 15 #[.pointer (some ⟨Ds, 0, none⟩)] W fun e w' => e = .returned (.int .i64 0) ∧ W = w') := by
  obtain ⟨hst, G, A1, c1, v2, A3, c3, hpm⟩ := h.out
  obtain ⟨d1, d2⟩ := hst.done h0
  have ht : x.ps.take x.W = x.ps := by rw [d1, List.take_length]
  have hby : ∀ l ∈ x.ps, ∀ z ∈ l, z < 256 := fun l hl => (hst.by_ l hl).2
  rw [ht] at hpm
  refine ⟨A1, c1, A3, c3, hpm.cell 0, hpm.cell 1, hpm.cell 2, hpm.cell 4, fun W hW => ?_, fun W hW => ?_, fun W hW => ?_⟩
  · have := Same_any W A3 A1 c3 c1 x.ps x.ps (Lib.hid ((hpm.below hW).to.lst hby).1) (Lib.hid ((hpm.below hW).to.lst hby).2) (Lib.hid ((hpm.below hW).pu.lst hby).1) (Lib.hid ((hpm.below hW).pu.lst hby).2) (by have := h300.out; omega)
    simpa only [decide_true] using this
  · have := Kept_any W D mb x.r (Lib.hid (hpm.below hW).rv.rq)
    rw [d2] at this
    exact this
  · have := Len_s M G W Ds x.s (Lib.hid (hpm.below hW).sn)
    rw [h0] at this
    exact this
end Go.Proofs.Ytnfjfcoonabmmaa.Rv
