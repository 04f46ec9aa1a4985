/- The document's Check of a word. -/
import Derived.Test.YtohfoieibgmmdaaHpCheck
import Derived.Test.YtohfoieibgmmdaaMgSame
namespace Go.Proofs.Ytohfoieibgmmdaa.Hp
open Go.RowKit Go.Shelf
open Go.Proofs.Ytohfoieibgmmdaa.Me Go.Proofs.Ytohfoieibgmmdaa.Sb Go.Proofs.Ytohfoieibgmmdaa.Mg
set_option linter.unusedVariables false
set_option linter.unusedSimpArgs false

theorem eqS_nil (l : List Nat) (h : ∀ z ∈ l, z < 256) : eqS l [] = decide (l.length = 0) := by
  cases l with
  | nil => rw [eqS_self]; rfl
  | cons a l =>
    have : (strOf (a :: l)).toList ≠ (strOf []).toList := by
      intro e
      have := congrArg List.length e
      simp [strOf] at this
    unfold eqS
    rw [beq_eq_false_iff_ne.2 this]
    simp
theorem sm_zero (i : Id4) (l : List Nat) (h : ∀ z ∈ l, z < 256) : sm i ⟨0, 0, 0, 0⟩ l [] = (zeroB i && decide (l.length = 0)) := by
  unfold sm
  rw [eqS_nil l h]
  rfl
theorem RRoutes_any (k n : Int) (i : Id4) (A : Option Addr) (dn dc : Nat) (l : List Nat) (B : Option Addr) (cs : List Int) (cc : Nat) (w : World) (hi : Hid (MsIn w A dn dc l)) (hr : Hid (Mi.Rd w w.heap.size B cs)) (hc : cs.length ≤ 9223372036854775806) :
    Calls Try.prog 42 #[.agg (hopC k n i A dn dc B cs.length cc)] w fun e w' => e = .returned (.int .i64 (rouN n i dn cs : Int)) ∧ Hid (Below w.heap.size w w') := by
  have HC : Hid (∀ W, Below w.heap.size w W → Calls Try.prog 71 #[.slice B cs.length cc] W fun e w' => e = .returned (.bool (rightB cs)) ∧ W = w') := fun W hW => RRight_any B cc w.heap.size cs W (hr.out.below hW) hc
  have HS : Hid (∀ W, Below w.heap.size w W → Calls Try.prog 47 #[.agg (msgC i A dn dc), .agg (msgC ⟨0, 0, 0, 0⟩ none 0 0)] W fun e w' => e = .returned (.bool (zeroB i && decide (dn = 0))) ∧ Hid (Below W.heap.size W w')) := fun W hW => by
    have := RSame_any i ⟨0, 0, 0, 0⟩ A none dn 0 dc 0 l [] W (hi.out.below hW) ⟨bySlice_none _, Nat.zero_le _⟩
    rw [sm_zero i l hi.out.1.2.2.2.1.1, ← hi.out.1.1] at this
    exact this
  have HB0 : Hid (Below w.heap.size w (w.alloc (.cells (hopC k n i A dn dc B cs.length cc) 29 (0, 0)))) := Me.below_alloc (Below.refl _ _)
  have hb := HB0.out
  have HB : Hid (∀ W, Below (w.alloc (.cells (hopC k n i A dn dc B cs.length cc) 29 (0, 0))).heap.size (w.alloc (.cells (hopC k n i A dn dc B cs.length cc) 29 (0, 0))) W → Below w.heap.size w W) := fun W hW => hb.trans (hW.mono hb.size)
  have HX := Lib.hid (box8 k n i A dn dc B cs.length cc w)
  clear hr hc hi hb
  have e : rouN n i dn cs = fe (rightB cs && ((zeroB i && decide (dn = 0)) && n == 0)) := by
    unfold rouN rouB rightB
    cases cs.any badC <;> cases n == 0 <;> cases zeroB i <;> cases decide (dn = 0) <;> cases decide (cs.length = 64) <;> rfl
  rw [e]
  obtain ⟨qa, hqa⟩ : ∃ q, rightB cs = q := ⟨_, rfl⟩
  obtain ⟨N, hN⟩ : ∃ q, cs.length = q := ⟨_, rfl⟩
  obtain ⟨qs, hqs⟩ : ∃ q, (zeroB i && decide (dn = 0)) = q := ⟨_, rfl⟩
  rw [hqa, hN] at HC
  rw [hqs] at HS
  rw [hN] at HX HB HB0
  rw [hqa, hN, hqs]
  clear hqa hN hqs e
  obtain ⟨o, d, ee, c⟩ := i
  simp only [hopC, msgC, Hx] at HX HB HB0 HS ⊢
  obtain ⟨qn, gn⟩ : ∃ q, (n == 0) = q := ⟨_, rfl⟩
  have gm : (n != 0) = !qn := by rw [← gn]; rfl
  rw [gn]
  cases qa
  case' true => cases qs
  case' true.true => cases qn
  all_goals
    simp only [Bool.true_and, Bool.false_and, Bool.and_false, Bool.not_true, Bool.not_false] at gm ⊢
    go_enter Try.func42, Try.ntmps42
    go_wp2_with (first
      | (go_at_call 71; refine (HC.out _ HB0.out).mono ?_; rintro e w1 ⟨rfl, rfl⟩)
      | (go_at_call 47; refine (HS.out _ HB0.out).mono ?_; rintro e w1 ⟨rfl, b1⟩; obtain ⟨⟨x0, x1, x2, x3, x4, x5, x6, x7⟩, bw⟩ := HX.out w1 b1.out))
    go_ret
    first
      | exact ⟨rfl, bw⟩
      | exact ⟨rfl, HB0.out⟩
set_option maxHeartbeats 1000000 in
theorem RCheck_any (k n : Int) (i : Id4) (A : Option Addr) (dn dc : Nat) (l : List Nat) (B : Option Addr) (cs : List Int) (cc : Nat) (w : World) (hi : Hid (MsIn w A dn dc l)) (hr : Hid (Mi.Rd w w.heap.size B cs)) (hc : cs.length ≤ 9223372036854775806) :
    Calls Try.prog 13 #[.agg (hopC k n i A dn dc B cs.length cc)] w fun e w' => e = .returned (.int .i64 (hopN k n i dn cs : Int)) ∧ Hid (Below w.heap.size w w') := by
  have H1 := Lib.hid (fun W => RCheckMsg_any i A dn dc W)
  have H2 := Lib.hid (fun W => Mg.RCheck_any i W)
  have H3 : Hid (∀ W, Below w.heap.size w W → Calls Try.prog 42 #[.agg (hopC k n i A dn dc B cs.length cc)] W fun e w' => e = .returned (.int .i64 (rouN n i dn cs : Int)) ∧ Hid (Below W.heap.size W w')) := fun W hW => RRoutes_any k n i A dn dc l B cs cc W (hi.out.below hW) ((hr.out.below hW).more hW.size) hc
  have hb : Below w.heap.size w (w.alloc (.cells (hopC k n i A dn dc B cs.length cc) 29 (0, 0))) := Me.below_alloc (Below.refl _ _)
  have HB : Hid (∀ W, Below (w.alloc (.cells (hopC k n i A dn dc B cs.length cc) 29 (0, 0))).heap.size (w.alloc (.cells (hopC k n i A dn dc B cs.length cc) 29 (0, 0))) W → Below w.heap.size w W) := fun W hW => hb.trans (hW.mono hb.size)
  have HB0 := Lib.hid hb
  have HX := Lib.hid (box8 k n i A dn dc B cs.length cc w)
  clear hr hc hb hi
  unfold hopN
  obtain ⟨r3, h3⟩ : ∃ q, rouN n i dn cs = q := ⟨_, rfl⟩
  obtain ⟨N, hN⟩ : ∃ q, cs.length = q := ⟨_, rfl⟩
  unfold offN ansN
  obtain ⟨m1, h1⟩ : ∃ q, msgN i dn = q := ⟨_, rfl⟩
  obtain ⟨m2, h2⟩ : ∃ q, chkN i = q := ⟨_, rfl⟩
  have hz : chkN i ≠ 0 → msgN i dn ≠ 0 := fun h => by unfold msgN; rw [if_pos h]; exact h
  simp only [h1, h2, h3] at H1 H2 H3 hz ⊢
  simp only [hN] at H1 H2 H3 HB HB0 HX ⊢
  clear h1 h2 h3 hN
  obtain ⟨o, d, ee, c⟩ := i
  simp only [hopC, msgC, idC, Hx] at H1 H2 H3 HB HB0 HX ⊢
  obtain ⟨qn, gn⟩ : ∃ q, decide (n < 0) = q := ⟨_, rfl⟩
  obtain ⟨qm, gm⟩ : ∃ q, decide (65535 < n) = q := ⟨_, rfl⟩
  by_cases hk : 1 ≤ k ∧ k ≤ 4
  · have gk1 : decide (k < 1) = false := decide_eq_false (by omega)
    have gk2 : decide (4 < k) = false := decide_eq_false (by omega)
    by_cases hbad : n < 0 ∨ 65535 < n
    · rw [if_pos hbad]
      cases qn
      case' false => cases qm
      case false.false =>
        exfalso
        have a1 := of_decide_eq_false gn
        have a2 := of_decide_eq_false gm
        omega
      all_goals
        clear hbad hk
        go_enter Try.func13, Try.ntmps13
        go_wp2
        go_ret
        exact ⟨rfl, HB0.out⟩
    · rw [if_neg hbad]
      rw [decide_eq_false (by omega)] at gn gm
      subst gn gm
      have gn : decide (n < 0) = false := decide_eq_false (by omega)
      have gm : decide (65535 < n) = false := decide_eq_false (by omega)
      clear hbad
      by_cases k4 : k = 4
      · subst k4
        rw [if_neg (by omega), if_neg (by omega), if_pos rfl]
        clear hk
        go_enter Try.func13, Try.ntmps13
        go_wp2_with (go_at_call 42; refine (H3.out _ HB0.out).mono ?_; rintro e w1 ⟨rfl, b1⟩)
        go_ret
        exact ⟨rfl, HB.out _ b1.out⟩
      · have g4 : (k == 4) = false := beq_eq_false_iff_ne.mpr k4
        have gN := zq N
        have gD := zq dn
        by_cases k1 : k = 1
        · subst k1
          rw [if_pos rfl]
          clear hk g4 k4
          by_cases z : m1 = 0
          · subst z
            obtain rfl : m2 = 0 := Classical.byContradiction fun h => hz h rfl
            rw [if_neg (by simp)]
            rw [show ((0 : Nat) : Int) = 0 from rfl] at H1 H2
            by_cases hN : N = 0
            · subst hN
              go_enter Try.func13, Try.ntmps13
              go_wp2_with (first
              | (go_at_call 43; refine (H2.out _).mono ?_; rintro e w1 ⟨rfl, b1⟩; obtain ⟨⟨x0, x1, x2, x3, x4, x5, x6, x7⟩, bw⟩ := HX.out w1 b1.out)
              | (go_at_call 44; refine (H1.out _).mono ?_; rintro e w2 ⟨rfl, b2⟩; obtain ⟨⟨y0, y1, y2, y3, y4, y5, y6, y7⟩, bw2⟩ := HX.out w2 ((b1.out.trans (b2.out.mono b1.out.size)))))
              go_ret
              exact ⟨rfl, bw2⟩
            · rw [decide_eq_false hN]
              have g0 : (0 : Int) < (N : Int) := by omega
              go_enter Try.func13, Try.ntmps13
              go_wp2_with (first
              | (go_at_call 43; refine (H2.out _).mono ?_; rintro e w1 ⟨rfl, b1⟩; obtain ⟨⟨x0, x1, x2, x3, x4, x5, x6, x7⟩, bw⟩ := HX.out w1 b1.out)
              | (go_at_call 44; refine (H1.out _).mono ?_; rintro e w2 ⟨rfl, b2⟩; obtain ⟨⟨y0, y1, y2, y3, y4, y5, y6, y7⟩, bw2⟩ := HX.out w2 ((b1.out.trans (b2.out.mono b1.out.size)))))
              go_ret
              exact ⟨rfl, bw2⟩
          · have z1 := nz z
            rw [if_pos z]
            clear hz
            go_enter Try.func13, Try.ntmps13
            go_wp2_with (first
              | (go_at_call 43; refine (H2.out _).mono ?_; rintro e w1 ⟨rfl, b1⟩; obtain ⟨⟨x0, x1, x2, x3, x4, x5, x6, x7⟩, bw⟩ := HX.out w1 b1.out)
              | (go_at_call 44; refine (H1.out _).mono ?_; rintro e w2 ⟨rfl, b2⟩; obtain ⟨⟨y0, y1, y2, y3, y4, y5, y6, y7⟩, bw2⟩ := HX.out w2 ((b1.out.trans (b2.out.mono b1.out.size)))))
            go_ret
            exact ⟨rfl, bw2⟩
        · have g1 : (k == 1) = false := beq_eq_false_iff_ne.mpr k1
          have g1n : (k != 1) = true := by rw [bne, g1]; rfl
          rw [if_neg k1, if_pos (by omega)]
          clear k1 k4 hz
          have hk2 := hk
          clear hk
          by_cases z : m2 = 0
          · subst z
            rw [if_neg (by simp)]
            rw [show ((0 : Nat) : Int) = 0 from rfl] at H2
            by_cases hN : N = 0
            · subst hN
              by_cases hD : dn = 0
              · subst hD
                clear hk2
                go_enter Try.func13, Try.ntmps13
                go_wp2_with (go_at_call 43; refine (H2.out _).mono ?_; rintro e w1 ⟨rfl, b1⟩; obtain ⟨⟨x0, x1, x2, x3, x4, x5, x6, x7⟩, bw⟩ := HX.out w1 b1.out)
                go_ret
                exact ⟨rfl, bw⟩
              · rw [decide_eq_false hD]
                have g0 : (0 : Int) < (dn : Int) := by omega
                clear hk2
                go_enter Try.func13, Try.ntmps13
                go_wp2_with (go_at_call 43; refine (H2.out _).mono ?_; rintro e w1 ⟨rfl, b1⟩; obtain ⟨⟨x0, x1, x2, x3, x4, x5, x6, x7⟩, bw⟩ := HX.out w1 b1.out)
                go_ret
                exact ⟨rfl, bw⟩
            · rw [decide_eq_false hN, Bool.and_false]
              have g0 : (0 : Int) < (N : Int) := by omega
              clear hk2
              go_enter Try.func13, Try.ntmps13
              go_wp2_with (go_at_call 43; refine (H2.out _).mono ?_; rintro e w1 ⟨rfl, b1⟩; obtain ⟨⟨x0, x1, x2, x3, x4, x5, x6, x7⟩, bw⟩ := HX.out w1 b1.out)
              go_ret
              exact ⟨rfl, bw⟩
          · have z1 := nz z
            rw [if_pos z]
            clear hk2
            go_enter Try.func13, Try.ntmps13
            go_wp2_with (go_at_call 43; refine (H2.out _).mono ?_; rintro e w1 ⟨rfl, b1⟩; obtain ⟨⟨x0, x1, x2, x3, x4, x5, x6, x7⟩, bw⟩ := HX.out w1 b1.out)
            go_ret
            exact ⟨rfl, bw⟩
  · have e1 : (if n < 0 ∨ 65535 < n then 1 else if k = 1 then (if m1 ≠ 0 then m1 else fe (decide (N = 0))) else if k = 2 ∨ k = 3 then (if m2 ≠ 0 then m2 else fe (decide (dn = 0) && decide (N = 0))) else if k = 4 then r3 else 1) = 1 := by
      split
      · rfl
      · rw [if_neg (by omega), if_neg (by omega), if_neg (by omega)]
    rw [e1]
    by_cases h1 : k < 1
    · have gk1 : decide (k < 1) = true := decide_eq_true h1
      clear hk e1 hz
      go_enter Try.func13, Try.ntmps13
      go_wp2
      go_ret
      exact ⟨rfl, HB0.out⟩
    · have gk1 : decide (k < 1) = false := decide_eq_false h1
      have gk2 : decide (4 < k) = true := decide_eq_true (by omega)
      clear hk e1 hz
      go_enter Try.func13, Try.ntmps13
      go_wp2
      go_ret
      exact ⟨rfl, HB0.out⟩
end Go.Proofs.Ytohfoieibgmmdaa.Hp
