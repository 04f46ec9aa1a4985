/- The document's counters: Last, use. -/
import Derived.Test.YtfnlhfelpdkieaaGreatZ3
import Derived.Test.YtfnlhfelpdkieaaGreatZ5
import Derived.Test.YtfnlhfelpdkieaaGreatZ21
import Derived.Test.YtfnlhfelpdkieaaGreatZ22
namespace Go.Proofs.YtfnlhfelpdkieaaGreat.So
open Go.RowKit Go.Deep
open Go.Proofs.YtfnlhfelpdkieaaGreat.Me Go.Proofs.YtfnlhfelpdkieaaGreat.Sb
set_option linter.unusedVariables false
set_option linter.unusedSimpArgs false

theorem kn_cells {w : World} {A : Option Addr} {n c : Nat} {U : Nx} (h : Kn w 0 (.slice A n c) U) : ∀ j, j < U.length → ∃ (g : Nat) (a b : Int), A = some ⟨g, 0, none⟩ ∧ U[j]? = some (a, b) ∧ ∀ W, Below w.heap.size w W → W.cell? ⟨g, j * 2, none⟩ = some (.int .i64 a) ∧ W.cell? ⟨g, j * 2 + 1, none⟩ = some (.int .i64 b) := fun j hj => by
  have hx : U[j]? = some (U[j]'hj) := List.getElem?_eq_getElem hj
  obtain ⟨g, e1, _, e3, e4⟩ := h.at_ hx
  exact ⟨g, _, _, e1, hx, fun W hW => ⟨(e4 W (hW.block g e3)).1, (e4 W (hW.block g e3)).2.1⟩⟩
set_option maxRecDepth 100000 in
set_option maxHeartbeats 16000000 in
theorem RLast_any (a b c d e r : Int) (v vL vK : Value) (U : Nx) (x : Int) (w : World) (hv : Hid (Kn w 0 v U)) (hL : U.length ≤ 1000) : Calls Tryz.prog 30 #[.agg (rsc a b c d e v vL r vK), .int .i64 x] w fun e w' => e = .returned (.int .i64 (lastU U x)) ∧ Hid (Below w.heap.size w w') := by
  obtain ⟨A, cc, rfl, _, _⟩ := hv.out.form
  have HA := Lib.hid (kn_cells hv.out)
  unfold rsc
  obtain ⟨lu, hlu⟩ : ∃ l, lastU U x = l := ⟨_, rfl⟩
  have HYes : Hid (∀ j (p : Int × Int), (∀ (k : Nat) (q : Int × Int), k < j → U[k]? = some q → q.1 ≠ x) → U[j]? = some p → p.1 = x → p.2 = lu) := fun j p h hj hp => by rw [← hlu]; exact (lastU_at h hj hp).symm
  have HNo : Hid (∀ j, U.length ≤ j → (∀ (k : Nat) (q : Int × Int), k < j → U[k]? = some q → q.1 ≠ x) → lu = 0) := fun j hj h => by
    rw [← hlu]
    exact lastU_none fun p hp => by
      obtain ⟨k, hk⟩ := List.getElem?_of_mem hp
      have hl := (List.getElem?_eq_some_iff.1 hk).1
      exact h k p (by omega) hk
  rw [hlu]
  obtain ⟨N, hN⟩ : ∃ N, U.length = N := ⟨_, rfl⟩
  rw [hN] at HA HNo hL ⊢
  obtain ⟨W0, hW0⟩ : ∃ W, w.alloc (.cells #[.int .i64 a, .int .i64 b, .int .i64 c, .int .i64 d, .int .i64 e, .slice A N cc, vL, .int .i64 r, vK] 37) = W := ⟨_, rfl⟩
  have hX : W0.heap[w.heap.size]? = some (.cells #[.int .i64 a, .int .i64 b, .int .i64 c, .int .i64 d, .int .i64 e, .slice A N cc, vL, .int .i64 r, vK] 37 (0, 0)) := by rw [← hW0]; exact heap_alloc_new w _
  have HB : Hid (Below w.heap.size w W0) := by rw [← hW0]; exact Me.below_alloc (Below.refl _ _)
  have HW0 := Lib.hid hW0
  clear hW0 hv hN hlu
  obtain ⟨y0, y1, y2, y3, y4, y5, y6, y7, y8⟩ := rs_cells hX
  clear hX
  go_enter Tryz.func30, Tryz.ntmps30
  go_wp2
  rw [HW0.out]
  go_loopw [5] (fun v5 wr => ∃ j : Nat, v5 = .int .i64 (j : Int) ∧ j ≤ N ∧ Hid (∀ (k : Nat) (q : Int × Int), k < j → U[k]? = some q → q.1 ≠ x) ∧ W0 = wr) (fun v5 _ => N - (intOf v5).toNat)
  case atStart => exact ⟨0, rfl, Nat.zero_le _, fun k q hk => absurd hk (by omega), rfl⟩
  case round =>
    obtain ⟨j, rfl, hj, HNe, rfl⟩ := hrel
    by_cases hlt : j < N
    · obtain ⟨g, p1, p2, rfl, hq, hc⟩ := HA.out j hlt
      obtain ⟨z0, z1⟩ := hc W0 HB.out
      have g1 : (j : Int) < (N : Int) := by omega
      have g2 : (j : Int) < 1000 := by omega
      by_cases he : p1 = x
      · have hBt := HYes.out j (p1, p2) HNe.out hq he
        simp only at hBt
        subst hBt he
        clear hc hq
        go_wp2
        go_ret
        exact ⟨rfl, HB.out⟩
      · have HN2 : Hid (∀ (k : Nat) (q : Int × Int), k < j + 1 → U[k]? = some q → q.1 ≠ x) := fun k q' hk hq' => by
          by_cases h : k = j
          · subst h
            rw [hq] at hq'
            cases hq'
            exact he
          · exact HNe.out k q' (by omega) hq'
        have g3 : (p1 == x) = false := by simpa using he
        clear he hc hq
        go_wp2
        go_roundw
        case rel => exact ⟨j + 1, by go_num, by omega, HN2, trivial⟩
        case measure => simp [intOf]; omega
    · have hBf := HNo.out j (by omega) HNe.out
      subst hBf
      have g1 : ¬ (j : Int) < (N : Int) := by omega
      go_wp2
      go_ret
      exact ⟨rfl, HB.out⟩
end Go.Proofs.YtfnlhfelpdkieaaGreat.So
