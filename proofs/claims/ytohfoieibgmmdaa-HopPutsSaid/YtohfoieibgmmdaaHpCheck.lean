/- Check of a word: of an offer, an answer, routes. -/
import Derived.Test.YtohfoieibgmmdaaHpFun
import Derived.Test.YtohfoieibgmmdaaMgSame
import Derived.Deep.RegionHeld
namespace Go.Proofs.Ytohfoieibgmmdaa.Hp
open Go.RowKit
open Go.Proofs.Ytohfoieibgmmdaa.Me Go.Proofs.Ytohfoieibgmmdaa.Sb Go.Proofs.Ytohfoieibgmmdaa.Mg
set_option linter.unusedVariables false
set_option linter.unusedSimpArgs false

/-- A word's cells. -/
def hopC (k n : Int) (i : Id4) (A : Option Addr) (dn dc : Nat) (B : Option Addr) (cn cc : Nat) : Array Value := #[.int .i64 k, .int .i64 n, .int .i64 i.o, .int .i64 i.d, .int .i64 i.e, .int .i64 i.c, .slice A dn dc, .slice B cn cc]
def offN (i : Id4) (dn cn : Nat) : Nat := if msgN i dn ≠ 0 then msgN i dn else fe (decide (cn = 0))
def ansN (i : Id4) (dn cn : Nat) : Nat := if chkN i ≠ 0 then chkN i else fe (decide (dn = 0) && decide (cn = 0))
def zeroB (i : Id4) : Bool := i.o == 0 && (i.d == 0 && (i.e == 0 && i.c == 0))
def rouB (n : Int) (i : Id4) (dn : Nat) (cs : List Int) : Bool := n == 0 && (zeroB i && (decide (dn = 0) && (decide (cs.length = 64) && !(cs.any badC))))
def rouN (n : Int) (i : Id4) (dn : Nat) (cs : List Int) : Nat := fe (rouB n i dn cs)
def hopN (k n : Int) (i : Id4) (dn : Nat) (cs : List Int) : Nat := if n < 0 ∨ 65535 < n then 1 else if k = 1 then offN i dn cs.length else if k = 2 ∨ k = 3 then ansN i dn cs.length else if k = 4 then rouN n i dn cs else 1
/-- A word's box. -/
def Hx (k n : Int) (i : Id4) (A : Option Addr) (dn dc : Nat) (B : Option Addr) (cn cc b : Nat) (W : World) : Prop :=
  W.cell? ⟨b, 0, none⟩ = some (.int .i64 k) ∧ W.cell? ⟨b, 1, none⟩ = some (.int .i64 n) ∧ W.cell? ⟨b, 2, none⟩ = some (.int .i64 i.o) ∧ W.cell? ⟨b, 3, none⟩ = some (.int .i64 i.d) ∧ W.cell? ⟨b, 4, none⟩ = some (.int .i64 i.e) ∧ W.cell? ⟨b, 5, none⟩ = some (.int .i64 i.c) ∧ W.cell? ⟨b, 6, none⟩ = some (.slice A dn dc) ∧ W.cell? ⟨b, 7, none⟩ = some (.slice B cn cc)
theorem hx_row {k n : Int} {i : Id4} {A : Option Addr} {dn dc : Nat} {B : Option Addr} {cn cc b : Nat} {W : World} (h : W.heap[b]? = some (.cells (hopC k n i A dn dc B cn cc) 29 (0, 0))) : Hx k n i A dn dc B cn cc b W := by
  refine ⟨?_, ?_, ?_, ?_, ?_, ?_, ?_, ?_⟩
  all_goals
    rw [cell_of_row _ b _ _ _ (0, 0) h]
    rfl
theorem box8 (k n : Int) (i : Id4) (A : Option Addr) (dn dc : Nat) (B : Option Addr) (cn cc : Nat) (w : World) : ∀ W, Below (w.alloc (.cells (hopC k n i A dn dc B cn cc) 29 (0, 0))).heap.size (w.alloc (.cells (hopC k n i A dn dc B cn cc) 29 (0, 0))) W → Hx k n i A dn dc B cn cc w.heap.size W ∧ Below w.heap.size w W := fun W hW => by
  have hl : w.heap.size < (w.alloc (.cells (hopC k n i A dn dc B cn cc) 29 (0, 0))).heap.size := by simp
  have hb := heap_alloc_new w (.cells (hopC k n i A dn dc B cn cc) 29 (0, 0))
  exact ⟨hx_row ((hW.block _ hl).trans hb), (Me.below_alloc (Below.refl _ _)).trans (hW.mono (by simp))⟩
set_option maxHeartbeats 4000000 in
theorem checkOffer_any (k n : Int) (i : Id4) (A : Option Addr) (dn dc : Nat) (B : Option Addr) (cn cc : Nat) (w : World) : Calls Try.prog 35 #[.agg (hopC k n i A dn dc B cn cc)] w fun e w' => e = .returned (.int .i64 (offN i dn cn : Int)) ∧ Hid (Below w.heap.size w w') := by
  have HK := Lib.hid (fun W => CheckMsg_any i A dn dc W)
  have FF := Lib.hid formIf_any
  obtain ⟨m, hm⟩ : ∃ m, msgN i dn = m := ⟨_, rfl⟩
  unfold offN
  rw [hm] at HK ⊢
  clear hm
  have HX := Lib.hid (box8 k n i A dn dc B cn cc w)
  obtain ⟨o, d, ee, c⟩ := i
  simp only [msgC, hopC, Hx] at HK HX ⊢
  by_cases h0 : m = 0
  · subst h0
    simp only [ne_eq, not_true, if_false]
    rw [show ((0 : Nat) : Int) = 0 from rfl] at HK
    have hq := zq cn
    obtain ⟨q, hqq⟩ : ∃ q, decide (cn = 0) = q := ⟨_, rfl⟩
    rw [hqq] at hq ⊢
    clear hqq
    go_enter Try.func35, Try.ntmps35
    go_wp2_with (first
      | (go_at_call 63; refine (HK.out _).mono ?_; rintro e w1 ⟨rfl, b1⟩; obtain ⟨⟨x0, x1, x2, x3, x4, x5, x6, x7⟩, bw⟩ := HX.out w1 b1.out)
      | (go_at_call 64; refine (FF.out _ _).mono ?_; rintro e w1 ⟨rfl, rfl⟩))
    go_ret
    exact ⟨rfl, bw⟩
  · have hz := nz h0
    rw [if_pos h0]
    clear h0
    go_enter Try.func35, Try.ntmps35
    go_wp2_with (go_at_call 63; refine (HK.out _).mono ?_; rintro e w1 ⟨rfl, b1⟩; obtain ⟨⟨x0, x1, x2, x3, x4, x5, x6, x7⟩, bw⟩ := HX.out w1 b1.out)
    go_ret
    exact ⟨rfl, bw⟩
set_option maxHeartbeats 4000000 in
theorem checkAnswer_any (k n : Int) (i : Id4) (A : Option Addr) (dn dc : Nat) (B : Option Addr) (cn cc : Nat) (w : World) : Calls Try.prog 36 #[.agg (hopC k n i A dn dc B cn cc)] w fun e w' => e = .returned (.int .i64 (ansN i dn cn : Int)) ∧ Hid (Below w.heap.size w w') := by
  have HK := Lib.hid (fun W => Check_any i W)
  have FF := Lib.hid formIf_any
  obtain ⟨m, hm⟩ : ∃ m, chkN i = m := ⟨_, rfl⟩
  unfold ansN
  rw [hm] at HK ⊢
  clear hm
  have HX := Lib.hid (box8 k n i A dn dc B cn cc w)
  obtain ⟨o, d, ee, c⟩ := i
  simp only [idC, hopC, Hx] at HK HX ⊢
  by_cases h0 : m = 0
  · subst h0
    simp only [ne_eq, not_true, if_false]
    rw [show ((0 : Nat) : Int) = 0 from rfl] at HK
    have hq := zq cn
    have hr := zq dn
    obtain ⟨q, hqq⟩ : ∃ q, decide (cn = 0) = q := ⟨_, rfl⟩
    obtain ⟨r, hrr⟩ : ∃ q, decide (dn = 0) = q := ⟨_, rfl⟩
    rw [hqq] at hq ⊢
    rw [hrr] at hr ⊢
    clear hqq hrr
    cases r
    all_goals
      simp only [Bool.true_and, Bool.false_and]
      go_enter Try.func36, Try.ntmps36
      go_wp2_with (first
        | (go_at_call 65; refine (HK.out _).mono ?_; rintro e w1 ⟨rfl, b1⟩; obtain ⟨⟨x0, x1, x2, x3, x4, x5, x6, x7⟩, bw⟩ := HX.out w1 b1.out)
        | (go_at_call 64; refine (FF.out _ _).mono ?_; rintro e w1 ⟨rfl, rfl⟩))
      go_ret
      exact ⟨rfl, bw⟩
  · have hz := nz h0
    rw [if_pos h0]
    clear h0
    go_enter Try.func36, Try.ntmps36
    go_wp2_with (go_at_call 65; refine (HK.out _).mono ?_; rintro e w1 ⟨rfl, b1⟩; obtain ⟨⟨x0, x1, x2, x3, x4, x5, x6, x7⟩, bw⟩ := HX.out w1 b1.out)
    go_ret
    exact ⟨rfl, bw⟩
theorem n64 (n : Nat) : ((n : Int) == 64) = decide (n = 64) := by
  by_cases h : n = 64
  · subst h; rfl
  · rw [decide_eq_false h, beq_eq_false_iff_ne]
    omega
theorem ways9 : ∀ a b c d e n q : Bool, a = false ∨ (a = true ∧ b = false) ∨ (a = true ∧ b = true ∧ c = false) ∨ (a = true ∧ b = true ∧ c = true ∧ d = false) ∨ (a = true ∧ b = true ∧ c = true ∧ d = true ∧ e = false) ∨ (a = true ∧ b = true ∧ c = true ∧ d = true ∧ e = true ∧ n = false) ∨ (a = true ∧ b = true ∧ c = true ∧ d = true ∧ e = true ∧ n = true) := by
  intro a b c d e n q
  cases a <;> cases b <;> cases c <;> cases d <;> cases e <;> cases n <;> simp
theorem checkRoutes_any (k n : Int) (i : Id4) (A : Option Addr) (dn dc : Nat) (B : Option Addr) (cs : List Int) (cc : Nat) (w : World) (hr : Hid (Mi.Rd w w.heap.size B cs)) (hc : cs.length ≤ 9223372036854775806) :
    Calls Try.prog 37 #[.agg (hopC k n i A dn dc B cs.length cc)] w fun e w' => e = .returned (.int .i64 (rouN n i dn cs : Int)) ∧ Hid (Below w.heap.size w w') := by
  have HC : Hid (∀ W, Below w.heap.size w W → Calls Try.prog 66 #[.slice B cs.length cc, .func (.func 67) #[] #[]] W fun e w' => e = .returned (.bool (cs.any badC)) ∧ W = w') := fun W hW => ContainsF_any B cc cs W w.heap.size (hr.out.below hW) hc
  have FF := Lib.hid formIf_any
  have HX := Lib.hid (box8 k n i A dn dc B cs.length cc w)
  clear hr hc
  unfold rouN rouB zeroB
  obtain ⟨qa, hqa⟩ : ∃ q, cs.any badC = q := ⟨_, rfl⟩
  obtain ⟨N, hN⟩ : ∃ q, cs.length = q := ⟨_, rfl⟩
  rw [hqa, hN] at HC
  rw [hN] at HX
  rw [hqa, hN]
  clear hqa hN
  obtain ⟨o, d, ee, c⟩ := i
  simp only [hopC, Hx] at HX ⊢
  have g1 := zq dn
  have g2 := n64 N
  obtain ⟨q1, e1⟩ : ∃ q, decide (dn = 0) = q := ⟨_, rfl⟩
  obtain ⟨q2, e2⟩ : ∃ q, decide (N = 64) = q := ⟨_, rfl⟩
  rw [e1] at g1 ⊢
  rw [e2] at g2 ⊢
  clear e1 e2
  obtain ⟨qn, gn⟩ : ∃ q, (n == 0) = q := ⟨_, rfl⟩
  obtain ⟨qo, go⟩ : ∃ q, (o == 0) = q := ⟨_, rfl⟩
  obtain ⟨qd, gd⟩ : ∃ q, (d == 0) = q := ⟨_, rfl⟩
  obtain ⟨qe, ge⟩ : ∃ q, (ee == 0) = q := ⟨_, rfl⟩
  obtain ⟨qc, gc⟩ : ∃ q, (c == 0) = q := ⟨_, rfl⟩
  rw [gn, go, gd, ge, gc]
  rcases ways9 qo qd qe qc q1 qn q2 with h | h | h | h | h | h | h
  case' inl => subst h; cases qn
  case' inr.inl => obtain ⟨rfl, rfl⟩ := h; cases qn
  case' inr.inr.inl => obtain ⟨rfl, rfl, rfl⟩ := h; cases qn
  case' inr.inr.inr.inl => obtain ⟨rfl, rfl, rfl, rfl⟩ := h; cases qn
  case' inr.inr.inr.inr.inl => obtain ⟨rfl, rfl, rfl, rfl, rfl⟩ := h; cases qn
  case' inr.inr.inr.inr.inr.inl => obtain ⟨rfl, rfl, rfl, rfl, rfl, rfl⟩ := h
  case' inr.inr.inr.inr.inr.inr => obtain ⟨rfl, rfl, rfl, rfl, rfl, rfl⟩ := h; cases q2
  all_goals
    try simp only [Bool.true_and, Bool.false_and, Bool.and_false]
    go_enter Try.func37, Try.ntmps37
    go_wp2_with (first
      | (go_at_call 66; refine (HC.out _ (Me.below_alloc (Below.refl _ _))).mono ?_; rintro e w1 ⟨rfl, rfl⟩)
      | (go_at_call 64; refine (FF.out _ _).mono ?_; rintro e w1 ⟨rfl, rfl⟩))
    go_ret
    exact ⟨rfl, Me.below_alloc (Below.refl _ _)⟩
/-- A load of a word that lies in a box as it was laid. -/
theorem Check_any (k n : Int) (i : Id4) (A : Option Addr) (dn dc : Nat) (B : Option Addr) (cs : List Int) (cc : Nat) (w : World) (hr : Hid (Mi.Rd w w.heap.size B cs)) (hc : cs.length ≤ 9223372036854775806) :
    Calls Try.prog 10 #[.agg (hopC k n i A dn dc B cs.length cc)] w fun e w' => e = .returned (.int .i64 (hopN k n i dn cs : Int)) ∧ Hid (Below w.heap.size w w') := by
  have H1 := Lib.hid (checkOffer_any k n i A dn dc B cs.length cc)
  have H2 := Lib.hid (checkAnswer_any k n i A dn dc B cs.length cc)
  have H3 : Hid (∀ W, Below w.heap.size w W → Calls Try.prog 37 #[.agg (hopC k n i A dn dc B cs.length cc)] W fun e w' => e = .returned (.int .i64 (rouN n i dn cs : Int)) ∧ Hid (Below W.heap.size W w')) := fun W hW => checkRoutes_any k n i A dn dc B cs cc W ((hr.out.below hW).more hW.size) hc
  have hb : Below w.heap.size w (w.alloc (.cells (hopC k n i A dn dc B cs.length cc) 29 (0, 0))) := Me.below_alloc (Below.refl _ _)
  have HB : Hid (∀ W, Below (w.alloc (.cells (hopC k n i A dn dc B cs.length cc) 29 (0, 0))).heap.size (w.alloc (.cells (hopC k n i A dn dc B cs.length cc) 29 (0, 0))) W → Below w.heap.size w W) := fun W hW => hb.trans (hW.mono hb.size)
  have HB0 := Lib.hid hb
  clear hr hc hb
  unfold hopN
  obtain ⟨N, hN⟩ : ∃ q, cs.length = q := ⟨_, rfl⟩
  obtain ⟨r1, h1⟩ : ∃ q, offN i dn cs.length = q := ⟨_, rfl⟩
  obtain ⟨r2, h2⟩ : ∃ q, ansN i dn cs.length = q := ⟨_, rfl⟩
  obtain ⟨r3, h3⟩ : ∃ q, rouN n i dn cs = q := ⟨_, rfl⟩
  simp only [h1, h2, h3] at H1 H2 H3 ⊢
  simp only [hN] at H1 H2 H3 HB HB0 ⊢
  clear h1 h2 h3 hN
  obtain ⟨o, d, ee, c⟩ := i
  simp only [hopC] at H1 H2 H3 HB HB0 ⊢
  by_cases hn : n < 0
  · rw [if_pos (Or.inl hn)]
    have g0 : decide (n < 0) = true := decide_eq_true hn
    go_enter Try.func10, Try.ntmps10
    go_wp2
    go_ret
    exact ⟨rfl, HB0.out⟩
  · have g0 : decide (n < 0) = false := decide_eq_false hn
    by_cases hm : 65535 < n
    · rw [if_pos (Or.inr hm)]
      have g1 : decide (65535 < n) = true := decide_eq_true hm
      go_enter Try.func10, Try.ntmps10
      go_wp2
      go_ret
      exact ⟨rfl, HB0.out⟩
    · rw [if_neg (by omega)]
      have g1 : decide (65535 < n) = false := decide_eq_false hm
      by_cases k1 : k = 1
      · subst k1
        rw [if_pos rfl]
        go_enter Try.func10, Try.ntmps10
        go_wp2_with (go_at_call 35; refine (H1.out _).mono ?_; rintro e w1 ⟨rfl, b1⟩)
        go_ret
        exact ⟨rfl, HB.out _ b1.out⟩
      · rw [if_neg k1]
        by_cases k2 : k = 2
        · subst k2
          rw [if_pos (Or.inl rfl)]
          go_enter Try.func10, Try.ntmps10
          go_wp2_with (go_at_call 36; refine (H2.out _).mono ?_; rintro e w1 ⟨rfl, b1⟩)
          go_ret
          exact ⟨rfl, HB.out _ b1.out⟩
        · by_cases k3 : k = 3
          · subst k3
            rw [if_pos (Or.inr rfl)]
            go_enter Try.func10, Try.ntmps10
            go_wp2_with (go_at_call 36; refine (H2.out _).mono ?_; rintro e w1 ⟨rfl, b1⟩)
            go_ret
            exact ⟨rfl, HB.out _ b1.out⟩
          · rw [if_neg (by omega)]
            by_cases k4 : k = 4
            · subst k4
              rw [if_pos rfl]
              go_enter Try.func10, Try.ntmps10
              go_wp2_with (go_at_call 37; refine (H3.out _ HB0.out).mono ?_; rintro e w1 ⟨rfl, b1⟩)
              go_ret
              exact ⟨rfl, HB.out _ b1.out⟩
            · rw [if_neg k4]
              go_enter Try.func10, Try.ntmps10
              go_wp2
              go_ret
              exact ⟨rfl, HB0.out⟩
end Go.Proofs.Ytohfoieibgmmdaa.Hp
