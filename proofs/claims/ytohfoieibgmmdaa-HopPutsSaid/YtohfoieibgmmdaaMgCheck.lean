/- Check and CheckMsg of both sides. -/
import Derived.Test.YtohfoieibgmmdaaMgDef
namespace Go.Proofs.Ytohfoieibgmmdaa.Mg
open Go.RowKit
open Go.Proofs.Ytohfoieibgmmdaa.Me
set_option linter.unusedVariables false
set_option linter.unusedSimpArgs false

theorem isNode_any (n : Int) (w : World) : Calls Try.prog 90 #[.int .i64 n] w fun e w' => e = .returned (.bool (nodeB n)) ∧ w = w' := by
  by_cases a : 0 ≤ n
  · by_cases b : n < 64
    · have HE : Hid (nodeB n = true) := decide_eq_true ⟨a, b⟩
      rw [HE.out]
      go_enter Try.func90, Try.ntmps90
      go_wp2
      go_ret
      exact ⟨rfl, rfl⟩
    · have HE : Hid (nodeB n = false) := decide_eq_false fun h => b h.2
      rw [HE.out]
      go_enter Try.func90, Try.ntmps90
      go_wp2
      go_ret
      exact ⟨rfl, rfl⟩
  · have HE : Hid (nodeB n = false) := decide_eq_false fun h => a h.1
    rw [HE.out]
    go_enter Try.func90, Try.ntmps90
    go_wp2
    go_ret
    exact ⟨rfl, rfl⟩
theorem isNumber_any (n : Int) (w : World) : Calls Try.prog 91 #[.int .i64 n] w fun e w' => e = .returned (.bool (numB n)) ∧ w = w' := by
  by_cases a : 1 ≤ n
  · by_cases b : n ≤ 65535
    · have HE : Hid (numB n = true) := decide_eq_true ⟨a, b⟩
      rw [HE.out]
      go_enter Try.func91, Try.ntmps91
      go_wp2
      go_ret
      exact ⟨rfl, rfl⟩
    · have HE : Hid (numB n = false) := decide_eq_false fun h => b h.2
      rw [HE.out]
      go_enter Try.func91, Try.ntmps91
      go_wp2
      go_ret
      exact ⟨rfl, rfl⟩
  · have HE : Hid (numB n = false) := decide_eq_false fun h => a h.1
    rw [HE.out]
    go_enter Try.func91, Try.ntmps91
    go_wp2
    go_ret
    exact ⟨rfl, rfl⟩
theorem bel_tac {w w' : World} (h : w' = w) : Below w.heap.size w w' := h ▸ Below.refl _ _
set_option maxHeartbeats 4000000 in
theorem Check_any (i : Id4) (w : World) : Calls Try.prog 65 #[.agg (idC i)] w fun e w' => e = .returned (.int .i64 (chkN i : Int)) ∧ Hid (Below w.heap.size w w') := by
  obtain ⟨o, d, ee, c⟩ := i
  have HO : Hid (∀ W, Calls Try.prog 90 #[.int .i64 o] W fun e w' => e = .returned (.bool (nodeB o)) ∧ W = w') := fun W => isNode_any o W
  have HD : Hid (∀ W, Calls Try.prog 90 #[.int .i64 d] W fun e w' => e = .returned (.bool (nodeB d)) ∧ W = w') := fun W => isNode_any d W
  have HE : Hid (∀ W, Calls Try.prog 91 #[.int .i64 ee] W fun e w' => e = .returned (.bool (numB ee)) ∧ W = w') := fun W => isNumber_any ee W
  have HC : Hid (∀ W, Calls Try.prog 91 #[.int .i64 c] W fun e w' => e = .returned (.bool (numB c)) ∧ W = w') := fun W => isNumber_any c W

  simp only [idC]
  unfold chkN
  simp only
  obtain ⟨b1, h1⟩ : ∃ b, nodeB o = b := ⟨_, rfl⟩
  obtain ⟨b2, h2⟩ : ∃ b, nodeB d = b := ⟨_, rfl⟩
  obtain ⟨b3, h3⟩ : ∃ b, numB ee = b := ⟨_, rfl⟩
  obtain ⟨b4, h4⟩ : ∃ b, numB c = b := ⟨_, rfl⟩
  rw [h1] at HO ⊢
  rw [h2] at HD ⊢
  rw [h3] at HE ⊢
  rw [h4] at HC ⊢
  clear h1 h2 h3 h4
  cases b1 with
  | false =>
    simp only [Bool.false_and, Bool.and_false, Bool.false_eq_true, if_false, Bool.true_and, Bool.and_true]
    go_enter Try.func65, Try.ntmps65
    go_wp2_with (first
      | (go_at_call 90; (with_reducible refine (HO.out _).mono ?_); rintro e w' ⟨rfl, rfl⟩)
      | (go_at_call 90; (with_reducible refine (HD.out _).mono ?_); rintro e w' ⟨rfl, rfl⟩)
      | (go_at_call 91; (with_reducible refine (HE.out _).mono ?_); rintro e w' ⟨rfl, rfl⟩)
      | (go_at_call 91; (with_reducible refine (HC.out _).mono ?_); rintro e w' ⟨rfl, rfl⟩))
    go_ret
    exact ⟨rfl, by show Below _ _ _; repeat (first | exact Below.refl _ _ | apply Me.below_alloc)⟩
  | true =>
    cases b2 with
    | false =>
      simp only [Bool.false_and, Bool.and_false, Bool.false_eq_true, if_false, Bool.true_and, Bool.and_true]
      go_enter Try.func65, Try.ntmps65
      go_wp2_with (first
        | (go_at_call 90; (with_reducible refine (HO.out _).mono ?_); rintro e w' ⟨rfl, rfl⟩)
        | (go_at_call 90; (with_reducible refine (HD.out _).mono ?_); rintro e w' ⟨rfl, rfl⟩)
        | (go_at_call 91; (with_reducible refine (HE.out _).mono ?_); rintro e w' ⟨rfl, rfl⟩)
        | (go_at_call 91; (with_reducible refine (HC.out _).mono ?_); rintro e w' ⟨rfl, rfl⟩))
      go_ret
      exact ⟨rfl, by show Below _ _ _; repeat (first | exact Below.refl _ _ | apply Me.below_alloc)⟩
    | true =>
      cases b3 with
      | false =>
        simp only [Bool.false_and, Bool.and_false, Bool.false_eq_true, if_false, Bool.true_and, Bool.and_true]
        go_enter Try.func65, Try.ntmps65
        go_wp2_with (first
          | (go_at_call 90; (with_reducible refine (HO.out _).mono ?_); rintro e w' ⟨rfl, rfl⟩)
          | (go_at_call 90; (with_reducible refine (HD.out _).mono ?_); rintro e w' ⟨rfl, rfl⟩)
          | (go_at_call 91; (with_reducible refine (HE.out _).mono ?_); rintro e w' ⟨rfl, rfl⟩)
          | (go_at_call 91; (with_reducible refine (HC.out _).mono ?_); rintro e w' ⟨rfl, rfl⟩))
        go_ret
        exact ⟨rfl, by show Below _ _ _; repeat (first | exact Below.refl _ _ | apply Me.below_alloc)⟩
      | true =>
        cases b4 with
        | false =>
          simp only [Bool.false_and, Bool.and_false, Bool.false_eq_true, if_false, Bool.true_and, Bool.and_true]
          go_enter Try.func65, Try.ntmps65
          go_wp2_with (first
            | (go_at_call 90; (with_reducible refine (HO.out _).mono ?_); rintro e w' ⟨rfl, rfl⟩)
            | (go_at_call 90; (with_reducible refine (HD.out _).mono ?_); rintro e w' ⟨rfl, rfl⟩)
            | (go_at_call 91; (with_reducible refine (HE.out _).mono ?_); rintro e w' ⟨rfl, rfl⟩)
            | (go_at_call 91; (with_reducible refine (HC.out _).mono ?_); rintro e w' ⟨rfl, rfl⟩))
          go_ret
          exact ⟨rfl, by show Below _ _ _; repeat (first | exact Below.refl _ _ | apply Me.below_alloc)⟩
        | true =>
          simp only [Bool.and_true, if_true]
          by_cases q : o = d
          · subst q
            rw [if_pos rfl]
            go_enter Try.func65, Try.ntmps65
            go_wp2_with (first
              | (go_at_call 90; (with_reducible refine (HO.out _).mono ?_); rintro e w' ⟨rfl, rfl⟩)
              | (go_at_call 90; (with_reducible refine (HD.out _).mono ?_); rintro e w' ⟨rfl, rfl⟩)
              | (go_at_call 91; (with_reducible refine (HE.out _).mono ?_); rintro e w' ⟨rfl, rfl⟩)
              | (go_at_call 91; (with_reducible refine (HC.out _).mono ?_); rintro e w' ⟨rfl, rfl⟩))
            go_ret
            exact ⟨rfl, by show Below _ _ _; repeat (first | exact Below.refl _ _ | apply Me.below_alloc)⟩
          · rw [if_neg q]
            have hq : (o == d) = false := by simpa using q
            go_enter Try.func65, Try.ntmps65
            go_wp2_with (first
              | (go_at_call 90; (with_reducible refine (HO.out _).mono ?_); rintro e w' ⟨rfl, rfl⟩)
              | (go_at_call 90; (with_reducible refine (HD.out _).mono ?_); rintro e w' ⟨rfl, rfl⟩)
              | (go_at_call 91; (with_reducible refine (HE.out _).mono ?_); rintro e w' ⟨rfl, rfl⟩)
              | (go_at_call 91; (with_reducible refine (HC.out _).mono ?_); rintro e w' ⟨rfl, rfl⟩))
            go_ret
            exact ⟨rfl, by show Below _ _ _; repeat (first | exact Below.refl _ _ | apply Me.below_alloc)⟩
set_option maxHeartbeats 4000000 in
theorem RCheck_any (i : Id4) (w : World) : Calls Try.prog 43 #[.agg (idC i)] w fun e w' => e = .returned (.int .i64 (chkN i : Int)) ∧ Hid (Below w.heap.size w w') := by
  obtain ⟨o, d, ee, c⟩ := i
  obtain ⟨r, hr⟩ : ∃ r, chkN ⟨o, d, ee, c⟩ = r := ⟨_, rfl⟩
  rw [hr]
  unfold chkN at hr
  simp only [nodeB, numB, Bool.and_eq_true, decide_eq_true_eq] at hr
  simp only [idC]
  by_cases t0 : 0 ≤ o
  case neg =>
    obtain rfl : r = 1 := by rw [← hr]; exact if_neg fun h => by omega
    clear hr
    go_enter Try.func43, Try.ntmps43
    go_wp2
    go_ret
    exact ⟨rfl, by show Below _ _ _; repeat (first | exact Below.refl _ _ | apply Me.below_alloc)⟩
  by_cases t1 : o < 64
  case neg =>
    obtain rfl : r = 1 := by rw [← hr]; exact if_neg fun h => by omega
    clear hr
    go_enter Try.func43, Try.ntmps43
    go_wp2
    go_ret
    exact ⟨rfl, by show Below _ _ _; repeat (first | exact Below.refl _ _ | apply Me.below_alloc)⟩
  by_cases t2 : 0 ≤ d
  case neg =>
    obtain rfl : r = 1 := by rw [← hr]; exact if_neg fun h => by omega
    clear hr
    go_enter Try.func43, Try.ntmps43
    go_wp2
    go_ret
    exact ⟨rfl, by show Below _ _ _; repeat (first | exact Below.refl _ _ | apply Me.below_alloc)⟩
  by_cases t3 : d < 64
  case neg =>
    obtain rfl : r = 1 := by rw [← hr]; exact if_neg fun h => by omega
    clear hr
    go_enter Try.func43, Try.ntmps43
    go_wp2
    go_ret
    exact ⟨rfl, by show Below _ _ _; repeat (first | exact Below.refl _ _ | apply Me.below_alloc)⟩
  by_cases t4 : 1 ≤ ee
  case neg =>
    obtain rfl : r = 1 := by rw [← hr]; exact if_neg fun h => by omega
    clear hr
    go_enter Try.func43, Try.ntmps43
    go_wp2
    go_ret
    exact ⟨rfl, by show Below _ _ _; repeat (first | exact Below.refl _ _ | apply Me.below_alloc)⟩
  by_cases t5 : ee ≤ 65535
  case neg =>
    obtain rfl : r = 1 := by rw [← hr]; exact if_neg fun h => by omega
    clear hr
    go_enter Try.func43, Try.ntmps43
    go_wp2
    go_ret
    exact ⟨rfl, by show Below _ _ _; repeat (first | exact Below.refl _ _ | apply Me.below_alloc)⟩
  by_cases t6 : 1 ≤ c
  case neg =>
    obtain rfl : r = 1 := by rw [← hr]; exact if_neg fun h => by omega
    clear hr
    go_enter Try.func43, Try.ntmps43
    go_wp2
    go_ret
    exact ⟨rfl, by show Below _ _ _; repeat (first | exact Below.refl _ _ | apply Me.below_alloc)⟩
  by_cases t7 : c ≤ 65535
  case neg =>
    obtain rfl : r = 1 := by rw [← hr]; exact if_neg fun h => by omega
    clear hr
    go_enter Try.func43, Try.ntmps43
    go_wp2
    go_ret
    exact ⟨rfl, by show Below _ _ _; repeat (first | exact Below.refl _ _ | apply Me.below_alloc)⟩
  rw [if_pos ⟨⟨⟨⟨t0, t1⟩, t2, t3⟩, t4, t5⟩, t6, t7⟩] at hr
  by_cases q : o = d
  · subst q
    rw [if_pos rfl] at hr
    subst hr
    go_enter Try.func43, Try.ntmps43
    go_wp2
    go_ret
    exact ⟨rfl, by show Below _ _ _; repeat (first | exact Below.refl _ _ | apply Me.below_alloc)⟩
  · rw [if_neg q] at hr
    subst hr
    have hq : (o == d) = false := by simpa using q
    go_enter Try.func43, Try.ntmps43
    go_wp2
    go_ret
    exact ⟨rfl, by show Below _ _ _; repeat (first | exact Below.refl _ _ | apply Me.below_alloc)⟩
/-- A message as a value. -/
def msgC (i : Id4) (A : Option Addr) (n c : Nat) : Array Value := #[.int .i64 i.o, .int .i64 i.d, .int .i64 i.e, .int .i64 i.c, .slice A n c]
theorem box5 (i : Id4) (A : Option Addr) (n c : Nat) (w : World) : ∀ W, Below (w.alloc (.cells (msgC i A n c) 26 (0, 0))).heap.size (w.alloc (.cells (msgC i A n c) 26 (0, 0))) W → W.cell? ⟨w.heap.size, 0, none⟩ = some (.int .i64 i.o) ∧ W.cell? ⟨w.heap.size, 1, none⟩ = some (.int .i64 i.d) ∧ W.cell? ⟨w.heap.size, 2, none⟩ = some (.int .i64 i.e) ∧ W.cell? ⟨w.heap.size, 3, none⟩ = some (.int .i64 i.c) ∧ W.cell? ⟨w.heap.size, 4, none⟩ = some (.slice A n c) ∧ Below w.heap.size w W := fun W hW => by
  have hl : w.heap.size < (w.alloc (.cells (msgC i A n c) 26 (0, 0))).heap.size := by simp
  have hb := heap_alloc_new w (.cells (msgC i A n c) 26 (0, 0))
  refine ⟨?_, ?_, ?_, ?_, ?_, (Me.below_alloc (Below.refl _ _)).trans (hW.mono (by simp))⟩
  all_goals
    rw [hW.cell hl, cell_of_row _ w.heap.size _ _ _ (0, 0) hb]
    rfl
theorem nz {c : Nat} (h : ¬ c = 0) : ((c : Int) == 0) = false := by
  have : ¬ (c : Int) = 0 := by omega
  simpa using this
set_option maxHeartbeats 4000000 in
theorem CheckMsg_any (i : Id4) (A : Option Addr) (n c : Nat) (w : World) : Calls Try.prog 63 #[.agg (msgC i A n c)] w fun e w' => e = .returned (.int .i64 (msgN i n : Int)) ∧ Hid (Below w.heap.size w w') := by
  have HK := Lib.hid (fun W => Check_any i W)
  obtain ⟨k, hk⟩ : ∃ k, chkN i = k := ⟨_, rfl⟩
  unfold msgN
  rw [hk] at HK ⊢
  clear hk
  have HX := Lib.hid (box5 i A n c w)
  obtain ⟨o, d, ee, cc⟩ := i
  simp only [idC, msgC] at HK HX ⊢
  by_cases h0 : k = 0
  · subst h0
    simp only [ne_eq, not_true, if_false]
    rw [show ((0 : Nat) : Int) = 0 from rfl] at HK
    by_cases hn : n = 0
    · subst hn
      rw [if_pos rfl]
      go_enter Try.func63, Try.ntmps63
      go_wp2_with (go_at_call 65; refine (HK.out _).mono ?_; rintro e w1 ⟨rfl, b1⟩; obtain ⟨x0, x1, x2, x3, x4, bw⟩ := HX.out w1 b1.out)
      go_ret
      exact ⟨rfl, bw⟩
    · rw [if_neg hn]
      have hz := nz hn
      by_cases h48 : 48 < n
      · rw [if_pos h48]
        have h48i : (48 : Int) < (n : Int) := by omega
        go_enter Try.func63, Try.ntmps63
        go_wp2_with (go_at_call 65; refine (HK.out _).mono ?_; rintro e w1 ⟨rfl, b1⟩; obtain ⟨x0, x1, x2, x3, x4, bw⟩ := HX.out w1 b1.out)
        go_ret
        exact ⟨rfl, bw⟩
      · rw [if_neg h48]
        have h48i : ¬ (48 : Int) < (n : Int) := by omega
        go_enter Try.func63, Try.ntmps63
        go_wp2_with (go_at_call 65; refine (HK.out _).mono ?_; rintro e w1 ⟨rfl, b1⟩; obtain ⟨x0, x1, x2, x3, x4, bw⟩ := HX.out w1 b1.out)
        go_ret
        exact ⟨rfl, bw⟩
  · have hz := nz h0
    rw [if_pos h0]
    clear h0
    go_enter Try.func63, Try.ntmps63
    go_wp2_with (go_at_call 65; refine (HK.out _).mono ?_; rintro e w1 ⟨rfl, b1⟩; obtain ⟨x0, x1, x2, x3, x4, bw⟩ := HX.out w1 b1.out)
    go_ret
    exact ⟨rfl, bw⟩

set_option maxHeartbeats 4000000 in
theorem RCheckMsg_any (i : Id4) (A : Option Addr) (n c : Nat) (w : World) : Calls Try.prog 44 #[.agg (msgC i A n c)] w fun e w' => e = .returned (.int .i64 (msgN i n : Int)) ∧ Hid (Below w.heap.size w w') := by
  have HK := Lib.hid (fun W => RCheck_any i W)
  obtain ⟨k, hk⟩ : ∃ k, chkN i = k := ⟨_, rfl⟩
  unfold msgN
  rw [hk] at HK ⊢
  clear hk
  have HX := Lib.hid (box5 i A n c w)
  obtain ⟨o, d, ee, cc⟩ := i
  simp only [idC, msgC] at HK HX ⊢
  by_cases h0 : k = 0
  · subst h0
    simp only [ne_eq, not_true, if_false]
    rw [show ((0 : Nat) : Int) = 0 from rfl] at HK
    by_cases hn : n = 0
    · subst hn
      rw [if_pos rfl]
      go_enter Try.func44, Try.ntmps44
      go_wp2_with (go_at_call 43; refine (HK.out _).mono ?_; rintro e w1 ⟨rfl, b1⟩; obtain ⟨x0, x1, x2, x3, x4, bw⟩ := HX.out w1 b1.out)
      go_ret
      exact ⟨rfl, bw⟩
    · rw [if_neg hn]
      have hz := nz hn
      by_cases h48 : 48 < n
      · rw [if_pos h48]
        have h48i : (48 : Int) < (n : Int) := by omega
        go_enter Try.func44, Try.ntmps44
        go_wp2_with (go_at_call 43; refine (HK.out _).mono ?_; rintro e w1 ⟨rfl, b1⟩; obtain ⟨x0, x1, x2, x3, x4, bw⟩ := HX.out w1 b1.out)
        go_ret
        exact ⟨rfl, bw⟩
      · rw [if_neg h48]
        have h48i : ¬ (48 : Int) < (n : Int) := by omega
        go_enter Try.func44, Try.ntmps44
        go_wp2_with (go_at_call 43; refine (HK.out _).mono ?_; rintro e w1 ⟨rfl, b1⟩; obtain ⟨x0, x1, x2, x3, x4, bw⟩ := HX.out w1 b1.out)
        go_ret
        exact ⟨rfl, bw⟩
  · have hz := nz h0
    rw [if_pos h0]
    clear h0
    go_enter Try.func44, Try.ntmps44
    go_wp2_with (first
      | (go_at_call 43; (with_reducible refine (HK.out (w.alloc _)).mono ?_); rintro e w1 ⟨rfl, b1⟩; obtain ⟨x0, x1, x2, x3, x4, bw⟩ := HX.out w1 b1.out)
      | (go_at_call 43; refine (HK.out _).mono ?_; rintro e w2 ⟨rfl, b2⟩; have bw2 : Below w.heap.size w w2 := bw.trans (b2.out.mono bw.size)))
    go_ret
    exact ⟨rfl, bw2⟩
end Go.Proofs.Ytohfoieibgmmdaa.Mg
