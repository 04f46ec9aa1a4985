/- The store's small questions: is a number a node, does an id fit, is an event right. -/
import Derived.Test.YtpofdimagfldnaaSoDef
import Derived.Test.YtpofdimagfldnaaSeBut
import Derived.Test.YtpofdimagfldnaaMgCheck
namespace Go.Proofs.Ytpofdimagfldnaa.So
open Go.RowKit
open Go.Proofs.Ytpofdimagfldnaa.Me Go.Proofs.Ytpofdimagfldnaa.Sb
set_option linter.unusedVariables false
set_option linter.unusedSimpArgs false

/-- An event as a value. -/
def evC (k : Int) (i : Mg.Id4) (A : Option Addr) (n c : Nat) : Array Value := #[.int .i64 k, .int .i64 i.o, .int .i64 i.d, .int .i64 i.e, .int .i64 i.c, .slice A n c]
theorem ev_cells {W : World} {D : Nat} {k o d e c : Int} {A : Option Addr} {n q : Nat} (h : W.heap[D]? = some (.cells #[.int .i64 k, .int .i64 o, .int .i64 d, .int .i64 e, .int .i64 c, .slice A n q] 60 (0, 0))) :
    W.cell? ⟨D, 0, none⟩ = some (.int .i64 k) ∧ W.cell? ⟨D, 1, none⟩ = some (.int .i64 o) ∧ W.cell? ⟨D, 2, none⟩ = some (.int .i64 d) ∧ W.cell? ⟨D, 3, none⟩ = some (.int .i64 e) ∧ W.cell? ⟨D, 4, none⟩ = some (.int .i64 c) ∧ W.cell? ⟨D, 5, none⟩ = some (.slice A n q) := by
  refine ⟨?_, ?_, ?_, ?_, ?_, ?_⟩
  all_goals
    rw [cell_of_row _ D _ _ _ (0, 0) h]
    rfl
theorem isNode_any (n : Int) (w : World) : Calls Try.prog 34 #[.int .i64 n] w fun e w' => e = .returned (.bool (Mg.nodeB n)) ∧ w = w' := by
  by_cases a : 0 ≤ n
  · by_cases b : n < 64
    · have HE : Hid (Mg.nodeB n = true) := decide_eq_true ⟨a, b⟩
      rw [HE.out]
      go_enter Try.func34, Try.ntmps34
      go_wp2
      go_ret
      exact ⟨rfl, rfl⟩
    · have HE : Hid (Mg.nodeB n = false) := decide_eq_false fun h => b h.2
      rw [HE.out]
      go_enter Try.func34, Try.ntmps34
      go_wp2
      go_ret
      exact ⟨rfl, rfl⟩
  · have HE : Hid (Mg.nodeB n = false) := decide_eq_false fun h => a h.1
    rw [HE.out]
    go_enter Try.func34, Try.ntmps34
    go_wp2
    go_ret
    exact ⟨rfl, rfl⟩
set_option maxHeartbeats 4000000 in
theorem fits_any (i : Mg.Id4) (self epoch : Int) (w : World) : Calls Try.prog 89 #[.agg (Mg.idC i), .int .i64 self, .int .i64 epoch] w fun e w' => e = .returned (.bool (fitsB i self epoch)) ∧ Hid (Below w.heap.size w w') := by
  have HB : Hid (Below w.heap.size w (w.alloc (.cells (Mg.idC i) 28))) := Me.below_alloc (Below.refl _ _)
  obtain ⟨r, hr⟩ : ∃ r, fitsB i self epoch = r := ⟨_, rfl⟩
  rw [hr]
  unfold fitsB at hr
  obtain ⟨o, d, ee, c⟩ := i
  simp only [Mg.idC] at HB hr ⊢
  by_cases h1 : d = self
  · have e1 : (d != self) = false := by simp [h1]
    obtain rfl : r = false := by rw [← hr]; simp [h1]
    clear hr h1
    go_enter Try.func89, Try.ntmps89
    go_wp2
    go_ret
    exact ⟨rfl, HB.out⟩
  · have e1 : (d != self) = true := by simp [h1]
    by_cases h2 : o = self
    · have e2 : (o != self) = false := by simp [h2]
      by_cases h3 : ee ≤ epoch
      · obtain rfl : r = true := by rw [← hr]; simp [h1, h3]
        clear hr h1 h2
        go_enter Try.func89, Try.ntmps89
        go_wp2
        go_ret
        exact ⟨rfl, HB.out⟩
      · obtain rfl : r = false := by rw [← hr]; simp [h2, h3]
        clear hr h1 h2
        go_enter Try.func89, Try.ntmps89
        go_wp2
        go_ret
        exact ⟨rfl, HB.out⟩
    · have e2 : (o != self) = true := by simp [h2]
      obtain rfl : r = true := by rw [← hr]; simp [h1, h2]
      clear hr h1 h2
      go_enter Try.func89, Try.ntmps89
      go_wp2
      go_ret
      exact ⟨rfl, HB.out⟩
set_option maxRecDepth 100000 in
set_option maxHeartbeats 8000000 in
theorem check_any (k : Int) (i : Mg.Id4) (A : Option Addr) (n q : Nat) (w : World) : Calls Try.prog 48 #[.agg (evC k i A n q)] w fun e w' => e = .returned (.int .i64 (chkE k i n : Int)) ∧ Hid (Below w.heap.size w w') := by
  have HB : Hid (Below w.heap.size w (w.alloc (.cells (evC k i A n q) 60))) := Me.below_alloc (Below.refl _ _)
  have HR : Hid (∀ W, Below (w.alloc (.cells (evC k i A n q) 60)).heap.size (w.alloc (.cells (evC k i A n q) 60)) W → W.heap[w.heap.size]? = some (.cells (evC k i A n q) 60 (0, 0))) := fun W hW => (hW.block _ (by simp)).trans (heap_alloc_new w _)
  have HK := Lib.hid (fun W => Mg.Check_any i W)
  have HM := Lib.hid (fun W => Mg.CheckMsg_any i A n q W)
  obtain ⟨c, hc⟩ : ∃ c, Mg.chkN i = c := ⟨_, rfl⟩
  obtain ⟨z, hz⟩ : ∃ z, Mg.msgN i n = z := ⟨_, rfl⟩
  unfold chkE
  rw [hc, hz]
  rw [hc] at HK
  rw [hz] at HM
  by_cases k1 : k = 1
  · subst k1
    rw [if_pos rfl]
    clear HK HM hc hz
    by_cases hi : i = zeroI
    · subst hi
      by_cases hn : n = 0
      · subst hn
        rw [if_pos ⟨rfl, rfl⟩]
        simp only [evC, zeroI] at HB HR ⊢
        go_enter Try.func48, Try.ntmps48
        go_wp2
        go_ret
        exact ⟨rfl, HB.out⟩
      · rw [if_neg (fun h => hn h.2)]
        have e1 : decide ((0 : Int) < (n : Int)) = true := by simp; omega
        have e2 : (0 : Int) < (n : Int) := by omega
        simp only [evC, zeroI] at HB HR ⊢
        go_enter Try.func48, Try.ntmps48
        go_wp2
        go_ret
        exact ⟨rfl, HB.out⟩
    · rw [if_neg (fun h => hi h.1)]
      obtain ⟨o, d, ee, cc⟩ := i
      have hne : ¬ o = 0 ∨ (o = 0 ∧ ¬ d = 0) ∨ (o = 0 ∧ d = 0 ∧ ¬ ee = 0) ∨ (o = 0 ∧ d = 0 ∧ ee = 0 ∧ ¬ cc = 0) := by
        by_cases a0 : o = 0
        · by_cases a1 : d = 0
          · by_cases a2 : ee = 0
            · exact .inr (.inr (.inr ⟨a0, a1, a2, fun h => hi (by rw [a0, a1, a2, h]; rfl)⟩))
            · exact .inr (.inr (.inl ⟨a0, a1, a2⟩))
          · exact .inr (.inl ⟨a0, a1⟩)
        · exact .inl a0
      clear hi
      simp only [evC] at HB HR ⊢
      rcases hne with h | ⟨rfl, h⟩ | ⟨rfl, rfl, h⟩ | ⟨rfl, rfl, rfl, h⟩
      all_goals
        go_enter Try.func48, Try.ntmps48
        go_wp2
        go_ret
        exact ⟨rfl, HB.out⟩
  · rw [if_neg k1]
    have g1 : (k == 1) = false := by simpa using k1
    by_cases k2 : k = 2
    · subst k2
      rw [if_pos rfl]
      obtain ⟨o, d, ee, cc⟩ := i
      simp only [evC, Mg.msgC] at HB HR HM ⊢
      go_enter Try.func48, Try.ntmps48
      go_wp2_with (go_at_call 80; refine (HM.out _).mono ?_; rintro e w2 ⟨rfl, b2⟩)
      go_ret
      exact ⟨rfl, go_on HB.out b2.out⟩
    · rw [if_neg k2]
      have g2 : (k == 2) = false := by simpa using k2
      by_cases k3 : k = 3 ∨ k = 4
      · rw [if_pos k3]
        obtain ⟨o, d, ee, cc⟩ := i
        have g3 : (k == 3) = true ∨ ((k == 3) = false ∧ (k == 4) = true) := by
          rcases k3 with rfl | rfl
          · exact .inl (by decide)
          · exact .inr ⟨by decide, by decide⟩
        have HG := Lib.hid g3
        simp only [evC, Mg.idC] at HB HR HK ⊢
        by_cases h0 : c = 0
        · subst h0
          rw [if_neg (by simp)]
          simp only [show ((0 : Nat) : Int) = 0 from rfl] at HK
          by_cases hn : n = 0
          · subst hn
            rw [if_pos rfl]
            clear k3 g3 hc hz HM k1 k2
            rcases HG.out with g3 | ⟨g3, g4⟩
            all_goals
              go_enter Try.func48, Try.ntmps48
              go_wp2_with (go_at_call 67; refine (HK.out _).mono ?_; rintro e w2 ⟨rfl, b2⟩; obtain ⟨x0, x1, x2, x3, x4, x5⟩ := ev_cells (HR.out w2 b2.out))
              go_ret
              exact ⟨rfl, go_on HB.out b2.out⟩
          · rw [if_neg hn]
            have hn2 : ((n : Int) == 0) = false := Mg.nz hn
            clear k3 g3 hc hz HM k1 k2 hn
            rcases HG.out with g3 | ⟨g3, g4⟩
            all_goals
              go_enter Try.func48, Try.ntmps48
              go_wp2_with (go_at_call 67; refine (HK.out _).mono ?_; rintro e w2 ⟨rfl, b2⟩; obtain ⟨x0, x1, x2, x3, x4, x5⟩ := ev_cells (HR.out w2 b2.out))
              go_ret
              exact ⟨rfl, go_on HB.out b2.out⟩
        · rw [if_pos h0]
          have hc2 : ((c : Int) == 0) = false := Mg.nz h0
          clear k3 g3 hc hz HM k1 k2 h0
          rcases HG.out with g3 | ⟨g3, g4⟩
          all_goals
            go_enter Try.func48, Try.ntmps48
            go_wp2_with (go_at_call 67; refine (HK.out _).mono ?_; rintro e w2 ⟨rfl, b2⟩; obtain ⟨x0, x1, x2, x3, x4, x5⟩ := ev_cells (HR.out w2 b2.out))
            go_ret
            exact ⟨rfl, go_on HB.out b2.out⟩
      · rw [if_neg k3]
        have g3 : (k == 3) = false := by simp; omega
        have g4 : (k == 4) = false := by simp; omega
        obtain ⟨o, d, ee, cc⟩ := i
        clear k3 k1 k2 hc hz HM HK
        simp only [evC] at HB HR ⊢
        go_enter Try.func48, Try.ntmps48
        go_wp2
        go_ret
        exact ⟨rfl, HB.out⟩
end Go.Proofs.Ytpofdimagfldnaa.So
