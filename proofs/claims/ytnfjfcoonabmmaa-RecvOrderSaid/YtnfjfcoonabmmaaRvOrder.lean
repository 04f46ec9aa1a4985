/- The walk of the law RecvOrder. -/
import Derived.Test.YtnfjfcoonabmmaaRvWays
namespace Go.Proofs.Ytnfjfcoonabmmaa.Rv
open Go.RowKit
open Go.Proofs.Ytnfjfcoonabmmaa.Me Go.Proofs.Ytnfjfcoonabmmaa.Hd Go.Proofs.Ytnfjfcoonabmmaa.Sn
set_option linter.unusedVariables false
set_option linter.unusedSimpArgs false

set_option maxRecDepth 100000 in
set_option maxHeartbeats 4000000 in
theorem rorder (size : Int) (Al : Option Addr) (len cap : Nat) (ls : List (Int × Int)) (w : World) (w0 : (Lit.int .i64 size).wf = true) (w1 : len = ls.length ∧ len ≤ cap ∧ cap ≤ 9223372036854775807 ∧ Ways w Al ls) :
    Calls Try.prog 4 #[.int .i64 size, .slice Al len cap] w fun e w' => e = .returned (.bool true) ∧ Below w.heap.size w w' := by
  obtain ⟨rfl, hlc, hm, hways⟩ := w1
  by_cases hbad : size < 1 ∨ 63 < size
  · have N := Lib.hid (begin_bad size hbad w)
    have HW := Lib.hid (awake_any w)
    by_cases h1 : size < 1
    all_goals
      try (have h2 : 63 < size := by omega)
      clear hbad w0 hways
      go_enter Try.func4, Try.ntmps4
      go_wp2_with (first
        | (go_at_call 12; refine N.out.mono ?_; rintro e w' ⟨rfl, rfl⟩)
        | (go_at_call 8; refine HW.out.mono ?_; rintro e w9 ⟨rfl, hb9⟩))
      go_ret
      exact ⟨rfl, hb9.out⟩
  · obtain ⟨n, rfl⟩ : ∃ n : Nat, size = (n : Int) := ⟨size.toNat, by omega⟩
    have N := Lib.hid (begin_ok n (by omega) (by omega) w)
    have HA := Lib.hid hways
    obtain ⟨L, hL⟩ : ∃ L, ls.length = L := ⟨_, rfl⟩
    have HL := Lib.hid hL
    rw [hL] at hlc ⊢
    clear hbad w0 hways hL
    go_enter Try.func4, Try.ntmps4
    go_wp2_with (go_at_call 12; refine N.out.mono ?_; rintro e w1 ⟨P, Ds, D, mb, rfl, H1, B1⟩)
    go_loopw [6] (fun v wr => ∃ (k : Nat) (x : Pr), k ≤ L ∧ k ≤ 300 ∧ v = .int .i64 k ∧ PM w.heap.size wr P Ds D mb n x ∧ x.ps.length ≤ k ∧ Below w.heap.size w wr) (fun v _ => L - (intOf v).toNat)
    case atStart => exact ⟨0, newP n, Nat.zero_le _, by omega, rfl, H1.out, Nat.zero_le _, B1.out⟩
    case round =>
      obtain ⟨k, x, hk, hk300, rfl, hp, hps, hb⟩ := hrel
      have HP := Lib.hid hp
      have HPS := Lib.hid hps
      have HB := Lib.hid hb
      clear hp hps hb H1 B1 N
      by_cases hlt : k < L
      · by_cases hlt2 : k < 300
        · have hlt3 : (k : Int) < 300 := by omega
          obtain ⟨b, off, rfl, hbb, c0, c1⟩ := HA.out k (by rw [HL.out]; exact hlt)
          have d0 := (HB.out.cell (p := ⟨b, off + k * 2, none⟩) hbb).trans c0
          have d1 := (HB.out.cell (p := ⟨b, off + k * 2 + 1, none⟩) hbb).trans c1
          obtain ⟨ak, hak⟩ : ∃ ak, (wyAt ls k).1 = ak := ⟨_, rfl⟩
          obtain ⟨an, han⟩ : ∃ an, (wyAt ls k).2 = an := ⟨_, rfl⟩
          rw [hak] at d0
          rw [han] at d1
          have ST := Lib.hid (step_any w.heap.size wr P Ds D mb n x HP (show Hid (x.ps.length < 300) by have := HPS.out; show _ < _; omega) ak an)
          clear c0 c1 hak han
          go_wp2_with (first
            | (go_at_call 13; refine ST.out.mono ?_; rintro e w2 ⟨⟨vv, rfl⟩, h2, b2⟩; obtain ⟨x2, p2, l2⟩ := h2.out; have P2 := Lib.hid p2; have L2 : Hid (x2.ps.length ≤ k + 1) := Nat.le_trans l2 (Nat.succ_le_succ HPS.out); have B2 : Hid (Below w.heap.size w w2) := HB.out.trans b2.out; have RW := Lib.hid (row_any w.heap.size w2 P Ds D mb n x2 P2 (show Hid (x2.ps.length ≤ 300) by have := L2.out; show _ ≤ _; omega)); clear h2 b2 p2 l2)
            | (go_at_call 14; refine RW.out.mono ?_; rintro e w3 ⟨rfl, b3⟩; have P3 := Lib.hid (P2.out.below b3.out); have B3 : Hid (Below w.heap.size w w3) := B2.out.trans (b3.out.mono B2.out.size)))
          go_roundw
          case rel => exact ⟨k + 1, x2, by omega, by omega, by go_num, P3.out, L2.out, B3.out⟩
          case measure => simp [intOf]; omega
        · have HW := Lib.hid (awake_any wr)
          have g1 : (k : Int) < (L : Int) := by omega
          have g2 : ¬ (k : Int) < 300 := by omega
          go_wp2_with (go_at_call 8; refine HW.out.mono ?_; rintro e w9 ⟨rfl, hb9⟩)
          go_ret
          exact ⟨rfl, HB.out.trans (hb9.out.mono HB.out.size)⟩
      · have HW := Lib.hid (awake_any wr)
        have g1 : ¬ (k : Int) < (L : Int) := by omega
        go_wp2_with (go_at_call 8; refine HW.out.mono ?_; rintro e w9 ⟨rfl, hb9⟩)
        go_ret
        exact ⟨rfl, HB.out.trans (hb9.out.mono HB.out.size)⟩
end Go.Proofs.Ytnfjfcoonabmmaa.Rv
