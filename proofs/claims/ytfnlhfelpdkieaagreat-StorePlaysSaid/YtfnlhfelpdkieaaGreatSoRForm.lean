/- The document's form of an event. -/
import Derived.Test.YtfnlhfelpdkieaaGreatZ13
namespace Go.Proofs.YtfnlhfelpdkieaaGreat.So
open Go.RowKit
open Go.Proofs.YtfnlhfelpdkieaaGreat.Me Go.Proofs.YtfnlhfelpdkieaaGreat.Sb
set_option linter.unusedVariables false
set_option linter.unusedSimpArgs false

set_option maxRecDepth 100000 in
set_option maxHeartbeats 8000000 in
theorem zero_any (i : Mg.Id4) (w : World) : Calls Tryz.prog 87 #[.agg (Mg.idC i)] w fun e w' => e = .returned (.bool (decide (i = zeroI))) ∧ Hid (Below w.heap.size w w') := by
  have HB : Hid (Below w.heap.size w (w.alloc (.cells (Mg.idC i) 43))) := Me.below_alloc (Below.refl _ _)
  by_cases hi : i = zeroI
  · subst hi
    rw [decide_eq_true rfl]
    simp only [zeroI, Mg.idC] at HB ⊢
    go_enter Tryz.func87, Tryz.ntmps87
    go_wp2
    go_ret
    exact ⟨rfl, HB.out⟩
  · rw [decide_eq_false hi]
    obtain ⟨o, d, ee, cc⟩ := i
    have hne : (o == 0) = false ∨ (o = 0 ∧ (d == 0) = false) ∨ (o = 0 ∧ d = 0 ∧ (ee == 0) = false) ∨ (o = 0 ∧ d = 0 ∧ ee = 0 ∧ (cc == 0) = false) := by
      by_cases a0 : o = 0
      · by_cases a1 : d = 0
        · by_cases a2 : ee = 0
          · exact .inr (.inr (.inr ⟨a0, a1, a2, by simpa using fun h : cc = 0 => hi (by rw [a0, a1, a2, h]; rfl)⟩))
          · exact .inr (.inr (.inl ⟨a0, a1, by simpa using a2⟩))
        · exact .inr (.inl ⟨a0, by simpa using a1⟩)
      · exact .inl (by simpa using a0)
    clear hi
    simp only [Mg.idC] at HB ⊢
    rcases hne with h | ⟨rfl, h⟩ | ⟨rfl, rfl, h⟩ | ⟨rfl, rfl, rfl, h⟩
    all_goals
      go_enter Tryz.func87, Tryz.ntmps87
      go_wp2
      go_ret
      exact ⟨rfl, HB.out⟩
set_option maxRecDepth 100000 in
set_option maxHeartbeats 8000000 in
theorem RForm_any (k : Int) (i : Mg.Id4) (A : Option Addr) (n q : Nat) (w : World) : Calls Tryz.prog 62 #[.agg (evC k i A n q)] w fun e w' => e = .returned (.int .i64 (chkE k i n : Int)) ∧ Hid (Below w.heap.size w w') := by
  have HB : Hid (Below w.heap.size w (w.alloc (.cells (evC k i A n q) 48))) := Me.below_alloc (Below.refl _ _)
  have HR : Hid (∀ W, Below (w.alloc (.cells (evC k i A n q) 48)).heap.size (w.alloc (.cells (evC k i A n q) 48)) W → W.heap[w.heap.size]? = some (.cells (evC k i A n q) 48 (0, 0))) := fun W hW => (hW.block _ (by simp)).trans (heap_alloc_new w _)
  have HK := Lib.hid (fun W => Mg.RCheck_any i W)
  have HM := Lib.hid (fun W => Mg.RCheckMsg_any i A n q W)
  have HZ := Lib.hid (fun W => zero_any i W)
  obtain ⟨c, hc⟩ : ∃ c, Mg.chkN i = c := ⟨_, rfl⟩
  obtain ⟨z, hz⟩ : ∃ z, Mg.msgN i n = z := ⟨_, rfl⟩
  obtain ⟨b, hb⟩ : ∃ b, decide (i = zeroI) = b := ⟨_, rfl⟩
  have hb' : (i = zeroI) ↔ b = true := by rw [← hb]; simp
  unfold chkE
  rw [hc, hz]
  rw [hc] at HK
  rw [hz] at HM
  rw [hb] at HZ
  clear hb
  by_cases k1 : k = 1
  · subst k1
    rw [if_pos rfl]
    clear HK HM hc hz
    obtain ⟨o, d, ee, cc⟩ := i
    simp only [evC, Mg.idC] at HB HR HZ ⊢
    by_cases hi : b = true
    · by_cases hn : n = 0
      · rw [if_pos ⟨hb'.2 hi, hn⟩]
        subst hi hn
        clear hb'
        go_enter Tryz.func62, Tryz.ntmps62
        go_wp2_with (go_at_call 87; refine (HZ.out _).mono ?_; rintro e w2 ⟨rfl, b2⟩; obtain ⟨x0, x1, x2, x3, x4, x5⟩ := ev_cells (HR.out w2 b2.out))
        go_ret
        exact ⟨rfl, go_on HB.out b2.out⟩
      · rw [if_neg (fun h => hn h.2)]
        subst hi
        have e1 : decide ((0 : Int) < (n : Int)) = true := by simp; omega
        have e2 : (0 : Int) < (n : Int) := by omega
        clear hb'
        go_enter Tryz.func62, Tryz.ntmps62
        go_wp2_with (go_at_call 87; refine (HZ.out _).mono ?_; rintro e w2 ⟨rfl, b2⟩; obtain ⟨x0, x1, x2, x3, x4, x5⟩ := ev_cells (HR.out w2 b2.out))
        go_ret
        exact ⟨rfl, go_on HB.out b2.out⟩
    · rw [if_neg (fun h => hi (hb'.1 h.1))]
      obtain rfl : b = false := by simpa using hi
      clear hb' hi
      go_enter Tryz.func62, Tryz.ntmps62
      go_wp2_with (go_at_call 87; refine (HZ.out _).mono ?_; rintro e w2 ⟨rfl, b2⟩; obtain ⟨x0, x1, x2, x3, x4, x5⟩ := ev_cells (HR.out w2 b2.out))
      go_ret
      exact ⟨rfl, go_on HB.out b2.out⟩
  · rw [if_neg k1]
    have g1 : (k == 1) = false := by simpa using k1
    clear HZ hb'
    by_cases k2 : k = 2
    · subst k2
      rw [if_pos rfl]
      obtain ⟨o, d, ee, cc⟩ := i
      simp only [evC, Mg.msgC] at HB HR HM ⊢
      go_enter Tryz.func62, Tryz.ntmps62
      go_wp2_with (go_at_call 86; refine (HM.out _).mono ?_; rintro e w2 ⟨rfl, b2⟩)
      go_ret
      exact ⟨rfl, go_on HB.out b2.out⟩
    · rw [if_neg k2]
      have g2 : (k == 2) = false := by simpa using k2
      by_cases k3 : k = 3 ∨ k = 4
      · rw [if_pos k3]
        have l1 : ¬ k < 1 := by omega
        have l2 : ¬ 4 < k := by omega
        obtain ⟨o, d, ee, cc⟩ := i
        simp only [evC, Mg.idC] at HB HR HK ⊢
        by_cases h0 : c = 0
        · subst h0
          rw [if_neg (by simp)]
          simp only [show ((0 : Nat) : Int) = 0 from rfl] at HK
          by_cases hn : n = 0
          · subst hn
            rw [if_pos rfl]
            clear k3 hc hz HM k1 k2
            go_enter Tryz.func62, Tryz.ntmps62
            go_wp2_with (go_at_call 88; refine (HK.out _).mono ?_; rintro e w2 ⟨rfl, b2⟩; obtain ⟨x0, x1, x2, x3, x4, x5⟩ := ev_cells (HR.out w2 b2.out))
            go_ret
            exact ⟨rfl, go_on HB.out b2.out⟩
          · rw [if_neg hn]
            have hn1 : (0 : Int) < (n : Int) := by omega
            clear k3 hc hz HM k1 k2 hn
            go_enter Tryz.func62, Tryz.ntmps62
            go_wp2_with (go_at_call 88; refine (HK.out _).mono ?_; rintro e w2 ⟨rfl, b2⟩; obtain ⟨x0, x1, x2, x3, x4, x5⟩ := ev_cells (HR.out w2 b2.out))
            go_ret
            exact ⟨rfl, go_on HB.out b2.out⟩
        · rw [if_pos h0]
          have hc2 : ((c : Int) == 0) = false := Mg.nz h0
          clear k3 hc hz HM k1 k2 h0
          go_enter Tryz.func62, Tryz.ntmps62
          go_wp2_with (go_at_call 88; refine (HK.out _).mono ?_; rintro e w2 ⟨rfl, b2⟩; first
            | (have HG3 := Lib.hid (go_on HG2.out b2.out))
            | (have HG2 := Lib.hid (go_on HB.out b2.out); obtain ⟨x0, x1, x2, x3, x4, x5⟩ := ev_cells (HR.out w2 b2.out)))
          go_ret
          exact ⟨rfl, HG3.out⟩
      · rw [if_neg k3]
        have l1 : k < 1 ∨ (¬ k < 1 ∧ 4 < k) := by omega
        obtain ⟨o, d, ee, cc⟩ := i
        clear k3 k1 k2 hc hz HM HK
        simp only [evC] at HB HR ⊢
        rcases l1 with l1 | ⟨l1, l2⟩
        all_goals
          go_enter Tryz.func62, Tryz.ntmps62
          go_wp2
          go_ret
          exact ⟨rfl, HB.out⟩
end Go.Proofs.YtfnlhfelpdkieaaGreat.So
