/- The document's May, of a store. -/
import Derived.Test.YtfnlhfelpdkieaaGreatSoRMay
namespace Go.Proofs.YtfnlhfelpdkieaaGreat.So
open Go.RowKit Go.Deep
open Go.Proofs.YtfnlhfelpdkieaaGreat.Me Go.Proofs.YtfnlhfelpdkieaaGreat.Sb
set_option linter.unusedVariables false
set_option linter.unusedSimpArgs false

set_option maxHeartbeats 4000000 in
theorem RMay_s (Q : Nat → Prop) (w : World) (s : Sto) (K : Se.Ks) (vU vL vK : Value) (P : List Pq) (k : Int) (i : Mg.Id4) (A : Option Addr) (n c : Nat) (h : Hid (Rf Q w s K vU vL vK P)) (hK : K.length ≤ 900) : Calls Tryz.prog 29 #[.agg (rsv s vU vL vK), .agg (evC k i A n c)] w fun e w' => e = .returned (.int .i64 (mayE s k i n : Int)) ∧ Hid (Below w.heap.size w w') := by
  obtain ⟨l1, l2, l3⟩ := h.out.len
  have HF := fun W => RForm_any k i A n c W
  have HH : ∀ W, Below w.heap.size w W → Calls Tryz.prog 63 #[vL, .agg (Mg.idC i)] W fun e w' => e = .returned (.bool (hasH s.held i)) ∧ Hid (Below W.heap.size W w') := fun W hW => by
    have := RHasM_any Q vL P i W (h.out.ml.below hW) (by omega)
    rw [h.out.mp] at this
    exact this
  have HBy : ∀ W, Below w.heap.size w W → Calls Tryz.prog 41 #[.agg (rsv s vU vL vK)] W fun e w' => e = .returned (.int .i64 (bytesOf s.held)) ∧ Hid (Below W.heap.size W w') := fun W hW => by
    have := RBytes_any Q s.self s.qh s.qb s.qg s.epoch s.qg vU vK vL P W (h.out.ml.below hW) (by omega) l3
    rw [h.out.mp] at this
    exact this
  have HM : ∀ W, Below w.heap.size w W → Calls Tryz.prog 64 #[.agg #[.int .i64 s.qg, vK], .agg (Mg.idC i)] W fun e w' => e = .returned (.int .i64 (Se.mayN s.seen i : Int)) ∧ Hid (Below W.heap.size W w') := fun W hW => by
    have := Se.RMay_any Q s.seen.room vK K i W (h.out.kv.below hW) hK
    rw [h.out.rel.may, h.out.ok.room] at this
    exact this
  obtain ⟨aL, cL, rfl, _, _, _⟩ := h.out.ml.form
  have hn48 : chkE 2 i n = 0 → n ≤ 48 := fun h0 => (msgN_zero (by rw [show chkE 2 i n = Mg.msgN i n by unfold chkE; rw [if_neg (by decide), if_pos rfl]] at h0; exact h0)).2.2
  have hbt : 0 ≤ bytesOf s.held ∧ bytesOf s.held ≤ 1048576 := ⟨bytesOf_nonneg _, by rw [← h.out.mp]; exact l3⟩
  have he := h.out.ok.e1
  have hfit : fitsB i s.self s.epoch = decide (i.d ≠ s.self ∧ (i.o ≠ s.self ∨ i.e ≤ s.epoch)) := rfl
  obtain ⟨o, d, ee, cc⟩ := i
  simp only [rsv, rsc, evC, Mg.idC] at HF HH HBy HM ⊢
  unfold mayE
  by_cases h0 : chkE k ⟨o, d, ee, cc⟩ n = 0
  · rw [if_neg (fun e => e h0)]
    rw [h0] at HF
    by_cases k1 : k = 1
    · subst k1
      rw [if_pos rfl]
      unfold mayB
      exact may_boot s.self s.qh s.qb s.qg s.epoch o d ee cc vU vK aL A P.length cL n c w he HF
    · rw [if_neg k1]
      by_cases k2 : k = 2
      · subst k2
        rw [if_pos rfl]
        unfold mayH
        rw [← l1]
        exact may_hold s.self s.qh s.qb s.qg s.epoch o d ee cc vU vK aL A P.length cL n c w (hasH s.held ⟨o, d, ee, cc⟩) (fitsB ⟨o, d, ee, cc⟩ s.self s.epoch) (bytesOf s.held) hfit hbt (hn48 h0) HF HH HBy
      · rw [if_neg k2]
        by_cases k3 : k = 3
        · subst k3
          rw [if_pos rfl]
          unfold mayR
          exact may_rel s.self s.qh s.qb s.qg s.epoch o d ee cc vU vK aL A P.length cL n c w (hasH s.held ⟨o, d, ee, cc⟩) HF HH
        · rw [if_neg k3]
          have k4 : k = 4 := by
            unfold chkE at h0
            rw [if_neg k1, if_neg k2] at h0
            by_cases hk : k = 3 ∨ k = 4
            · exact hk.elim (fun e => absurd e k3) id
            · rw [if_neg hk] at h0; cases h0
          subst k4
          unfold mayD
          exact may_del s.self s.qh s.qb s.qg s.epoch o d ee cc vU vK aL A P.length cL n c w (Se.mayN s.seen ⟨o, d, ee, cc⟩) HF HM
  · rw [if_pos h0]
    exact may_no s.self s.qh s.qb s.qg s.epoch k o d ee cc vU vK aL A P.length cL n c w (chkE k ⟨o, d, ee, cc⟩ n) (by simpa using h0) HF
end Go.Proofs.YtfnlhfelpdkieaaGreat.So
