/- The marks that are told, on both sides: pure. -/
import Derived.Test.YtfnlhfelpdkieaaGreatZ13
import Derived.Test.YtfnlhfelpdkieaaGreatZ8
namespace Go.Proofs.YtfnlhfelpdkieaaGreat.Se
open Go.RowKit
set_option linter.unusedVariables false
set_option linter.unusedSimpArgs false

/-- Rising lists of places of the same members are one. -/
theorem plP_eq : ∀ (a b : Pls), a.Pairwise ltP → b.Pairwise ltP → (∀ x, x ∈ a ↔ x ∈ b) → a = b
  | [], [], _, _, _ => rfl
  | [], y :: b, _, _, h => by have := (h y).2 (by simp); simp at this
  | x :: a, [], _, _, h => by have := (h x).1 (by simp); simp at this
  | x :: a, y :: b, ha, hb, h => by
    rw [List.pairwise_cons] at ha hb
    have irr : ∀ z : Int × Int, ¬ ltP z z := fun z hz => by unfold ltP at hz; omega
    have asy : ∀ z u : Int × Int, ltP z u → ¬ ltP u z := fun z u h1 h2 => by unfold ltP at h1 h2; omega
    have e : x = y := by
      rcases List.mem_cons.1 ((h x).1 (by simp)) with h1 | h1
      · exact h1
      · rcases List.mem_cons.1 ((h y).2 (by simp)) with h2 | h2
        · exact h2.symm
        · exact absurd (hb.1 x h1) (asy _ _ (ha.1 y h2))
    subst e
    rw [plP_eq a b ha.2 hb.2 fun z => ?_]
    constructor
    · intro hz
      rcases List.mem_cons.1 ((h z).1 (by simp [hz])) with h1 | h1
      · subst h1; exact absurd (ha.1 z hz) (irr z)
      · exact h1
    · intro hz
      rcases List.mem_cons.1 ((h z).2 (by simp [hz])) with h1 | h1
      · subst h1; exact absurd (hb.1 z hz) (irr z)
      · exact h1
theorem Ord.one {kept : Int → Int → Option Mk} {n n' : Nat} {L L' : Pls} (h : Ord kept n L) (h' : Ord kept n' L') : L = L' :=
  plP_eq _ _ h.srt h'.srt fun x => ⟨fun hx => h'.fin x (h.all x hx).1 (h.all x hx).2, fun hx => h.fin x (h'.all x hx).1 (h'.all x hx).2⟩
end Go.Proofs.YtfnlhfelpdkieaaGreat.Se
/- The reference's Right: is a mark right? -/
namespace Go.Proofs.YtfnlhfelpdkieaaGreat.Se
open Go.RowKit
open Go.Proofs.YtfnlhfelpdkieaaGreat.Me Go.Proofs.YtfnlhfelpdkieaaGreat.Sb
set_option linter.unusedVariables false
set_option linter.unusedSimpArgs false

/-- A list rises from a least one on, up to the greatest number. -/
def risesB : Int → List Int → Bool
  | _, [] => true
  | l, x :: r => if x < l ∨ 65535 < x then false else risesB (x + 1) r
def headB (m : Mr) : Bool := decide (0 ≤ m.o ∧ m.o < 64 ∧ 1 ≤ m.e ∧ m.e ≤ 65535 ∧ 0 ≤ m.up ∧ m.up ≤ 65535 ∧ ¬ (m.up = 0 ∧ m.more.length = 0))
def rgtM (m : Mr) : Bool := headB m && risesB (m.up + 2) m.more
/-- What has been looked at rises. -/
def okTo (u : Int) (l : List Int) (j : Nat) : Prop := ∀ i, i < j → u + 2 ≤ Mi.at_ l i ∧ Mi.at_ l i ≤ 65535 ∧ (0 < i → Mi.at_ l (i - 1) < Mi.at_ l i)
theorem rises_iff : ∀ (l : List Int) (a : Int), risesB a l = true ↔ ∀ i, i < l.length → (a ≤ Mi.at_ l i) ∧ Mi.at_ l i ≤ 65535 ∧ (0 < i → Mi.at_ l (i - 1) < Mi.at_ l i)
  | [], a => by simp [risesB]
  | x :: r, a => by
    unfold risesB
    by_cases hx : x < a ∨ 65535 < x
    · rw [if_pos hx]
      constructor
      · intro h; cases h
      · intro h
        have h0 := h 0 (by simp)
        simp only [Mi.at_, List.getD_cons_zero] at h0
        omega
    · rw [if_neg hx, rises_iff r (x + 1)]
      constructor
      · intro h i hi
        cases i with
        | zero =>
          simp only [Mi.at_, List.getD_cons_zero]
          exact ⟨by omega, by omega, fun h0 => absurd h0 (by omega)⟩
        | succ i =>
          have h1 := h i (by simpa using hi)
          have e1 : Mi.at_ (x :: r) (i + 1) = Mi.at_ r i := by simp [Mi.at_]
          rw [e1]
          refine ⟨by omega, h1.2.1, fun _ => ?_⟩
          rw [Nat.add_sub_cancel]
          cases i with
          | zero =>
            have e2 : Mi.at_ (x :: r) 0 = x := by simp [Mi.at_]
            rw [e2]; omega
          | succ i =>
            have e2 : Mi.at_ (x :: r) (i + 1) = Mi.at_ r i := by simp [Mi.at_]
            rw [e2]
            have := h1.2.2 (by omega)
            rwa [Nat.add_sub_cancel] at this
      · intro h i hi
        have h1 := h (i + 1) (by simpa using hi)
        have e1 : Mi.at_ (x :: r) (i + 1) = Mi.at_ r i := by simp [Mi.at_]
        rw [e1] at h1
        have hlow : x + 1 ≤ Mi.at_ r i := by
          clear h1
          induction i with
          | zero =>
            have h2 := (h 1 (by simpa using hi)).2.2 (by omega)
            have e2 : Mi.at_ (x :: r) 0 = x := by simp [Mi.at_]
            have e3 : Mi.at_ (x :: r) 1 = Mi.at_ r 0 := by simp [Mi.at_]
            rw [e3] at h2
            simp only [Nat.sub_self] at h2
            rw [e2] at h2
            omega
          | succ i ih =>
            have h2 := (h (i + 2) (by simp only [List.length_cons]; omega)).2.2 (by omega)
            have e2 : Mi.at_ (x :: r) (i + 1) = Mi.at_ r i := by simp [Mi.at_]
            have e3 : Mi.at_ (x :: r) (i + 2) = Mi.at_ r (i + 1) := by simp [Mi.at_]
            rw [e3, show i + 2 - 1 = i + 1 by omega, e2] at h2
            have h3 := ih (by omega) e2
            omega
        refine ⟨hlow, h1.2.1, fun h0 => ?_⟩
        have h2 := h1.2.2 (by omega)
        rw [Nat.add_sub_cancel] at h2
        obtain ⟨k, rfl⟩ : ∃ k, i = k + 1 := ⟨i - 1, by omega⟩
        have e2 : Mi.at_ (x :: r) (k + 1) = Mi.at_ r k := by simp [Mi.at_]
        rw [e2] at h2
        rw [Nat.add_sub_cancel]
        exact h2
theorem ok_all {u : Int} {l : List Int} (h : okTo u l l.length) : risesB (u + 2) l = true := (rises_iff l (u + 2)).2 h
theorem ok_not {u : Int} {l : List Int} {j : Nat} (hj : j < l.length) (h : Mi.at_ l j < u + 2 ∨ 65535 < Mi.at_ l j ∨ (0 < j ∧ Mi.at_ l j ≤ Mi.at_ l (j - 1))) : risesB (u + 2) l = false := by
  cases hr : risesB (u + 2) l
  · rfl
  · have := (rises_iff l (u + 2)).1 hr j hj
    rcases h with h | h | ⟨h0, h⟩
    · omega
    · omega
    · have := this.2.2 h0; omega
set_option maxRecDepth 100000 in
set_option maxHeartbeats 8000000 in
theorem Right_any (m : Mr) (A : Option Addr) (c : Nat) (w : World) (hr : Hid (Mi.Rd w w.heap.size A m.more)) (hc : Hid (m.more.length ≤ c ∧ c ≤ 9223372036854775807)) : Calls Tryz.prog 85 #[.agg #[.int .i64 m.o, .int .i64 m.e, .int .i64 m.up, .slice A m.more.length c]] w fun e w' => e = .returned (.bool (rgtM m)) ∧ Hid (Below w.heap.size w w') := by
  obtain ⟨o, e, u, ml⟩ := m
  simp only at hr hc ⊢
  obtain ⟨M, hM⟩ : ∃ M, ml.length = M := ⟨_, rfl⟩
  obtain ⟨W1, hW1⟩ : ∃ W, w.alloc (.cells #[.int .i64 o, .int .i64 e, .int .i64 u, .slice A M c] 112) = W := ⟨_, rfl⟩
  have b1 : Below w.heap.size w W1 := by rw [← hW1]; exact Me.below_alloc (Below.refl _ _)
  have r1 : W1.heap[w.heap.size]? = some (.cells #[.int .i64 o, .int .i64 e, .int .i64 u, .slice A M c] 112 (0, 0)) := by rw [← hW1]; exact heap_alloc_new w _
  have hlt : w.heap.size < W1.heap.size := (Array.getElem?_eq_some_iff.1 r1).1
  have HC : Hid (∀ W, Below W1.heap.size W1 W → W.cell? ⟨w.heap.size, 0, none⟩ = some (.int .i64 o) ∧ W.cell? ⟨w.heap.size, 1, none⟩ = some (.int .i64 e) ∧ W.cell? ⟨w.heap.size, 2, none⟩ = some (.int .i64 u) ∧ W.cell? ⟨w.heap.size, 3, none⟩ = some (.slice A M c)) := fun W hW => by
    have h := (hW.block _ hlt).trans r1
    exact ⟨cell_of_row W _ 0 _ _ (0, 0) h, cell_of_row W _ 1 _ _ (0, 0) h, cell_of_row W _ 2 _ _ (0, 0) h, cell_of_row W _ 3 _ _ (0, 0) h⟩
  have HB1 := Lib.hid b1
  have HW1 := Lib.hid hW1
  have HM := Lib.hid hM
  have hcM : M ≤ c := by have := hc.out.1; omega
  by_cases hh : headB ⟨o, e, u, ml⟩ = true
  · have hrg : rgtM ⟨o, e, u, ml⟩ = risesB (u + 2) ml := by unfold rgtM; rw [hh]; rfl
    rw [hrg, hM]
    unfold headB at hh
    rw [decide_eq_true_iff] at hh
    obtain ⟨a1, a2, a3, a4, a5, a6, a7⟩ := hh
    simp only at a1 a2 a3 a4 a5 a6 a7
    rw [hM] at a7
    obtain ⟨RB, hRB⟩ : ∃ RB, risesB (u + 2) ml = RB := ⟨_, rfl⟩
    have HRB := Lib.hid hRB
    rw [hRB]
    have g1 : ¬ o < 0 := by omega
    have g2 : ¬ 64 ≤ o := by omega
    have g3 : ¬ e < 1 := by omega
    have g4 : ¬ 65535 < e := by omega
    have g5 : ¬ u < 0 := by omega
    have g6 : ¬ 65535 < u := by omega
    clear hrg hRB hM hW1 b1 r1 hlt a1 a2 a3 a4
    go_enter Tryz.func85, Tryz.ntmps85
    have hcs : (u == 0) = false ∨ ((u == 0) = true ∧ ((M : Int) == 0) = false) := by
      by_cases h : u = 0
      · right
        refine ⟨by simp [h], ?_⟩
        have : ¬ (M : Int) = 0 := fun h2 => a7 ⟨h, by omega⟩
        simpa using this
      · left; simpa using h
    rcases hcs with q1 | ⟨q1, q2⟩
    all_goals
      go_wp2
      rw [HW1.out]
      go_loopw [3] (fun v3 wr => ∃ j : Nat, j ≤ M ∧ v3 = .int .i64 (j : Int) ∧ Hid (okTo u ml j) ∧ Hid (Below W1.heap.size W1 wr)) (fun v3 _ => M - (intOf v3).toNat)
      case atStart => exact ⟨0, Nat.zero_le _, rfl, fun i hi => absurd hi (by omega), Below.refl _ _⟩
      case round =>
        obtain ⟨j, hj, rfl, HOk, HB⟩ := hrel
        obtain ⟨z0, z1, z2, z3⟩ := HC.out wr HB.out
        by_cases hjl : j < M
        · obtain ⟨b, off, rfl, hb, hcells⟩ := hr.out (by have := HM.out; omega)
          have hbw := HB1.out.trans (HB.out.mono HB1.out.size)
          have hx := (hbw.cell (p := ⟨b, off + j, none⟩) hb).trans (hcells j (by have := HM.out; omega))
          have t1 : (j : Int) < (M : Int) := by omega
          have t2 : ¬ ((M : Int) ≤ (j : Int)) := by omega
          have HJ : Hid (j < ml.length) := by have := HM.out; show _ < _; omega
          have HNo := Lib.hid (fun h => HRB.out.symm.trans (ok_not (u := u) HJ.out h))
          have HStep : Hid (u + 2 ≤ Mi.at_ ml j → Mi.at_ ml j ≤ 65535 → (0 < j → Mi.at_ ml (j - 1) < Mi.at_ ml j) → okTo u ml (j + 1)) := fun h1 h2 h3 i hi => by
            by_cases e : i = j
            · subst e; exact ⟨h1, h2, h3⟩
            · exact HOk.out i (by omega)
          have HR2 : Hid (∀ k, j = k + 1 → wr.cell? ⟨b, off + k, none⟩ = some (.int .i64 (Mi.at_ ml k))) := fun k hk => (hbw.cell (p := ⟨b, off + k, none⟩) hb).trans (hcells k (by have := HM.out; omega))
          have HBd := Lib.hid HB.out
          obtain ⟨x, hxx⟩ : ∃ x, Mi.at_ ml j = x := ⟨_, rfl⟩
          rw [hxx] at hx HNo HStep
          have hu2 : (0 : Int) ≤ u := by omega
          have hu3 : u ≤ 65535 := by omega
          clear hcells hb hbw hxx HOk
          by_cases h1 : x < u + 2
          · have HE : Hid (RB = false) := HNo.out (.inl h1)
            go_wp2
            go_quiet (fail)
            go_wp2
            go_ret
            exact ⟨congrArg (fun z => Ending.returned (Value.bool z)) HE.out.symm, HB1.out.trans ((Me.below_drewN HBd.out _).mono HB1.out.size)⟩
          · by_cases h2 : 65535 < x
            · have HE : Hid (RB = false) := HNo.out (.inr (.inl h2))
              have d1 : decide (x < u + 2) = false := by simp; omega
              have d2 : decide (65535 < x) = true := by simpa using h2
              go_wp2
              go_quiet (fail)
              go_wp2
              go_ret
              exact ⟨congrArg (fun z => Ending.returned (Value.bool z)) HE.out.symm, HB1.out.trans ((Me.below_drewN HBd.out _).mono HB1.out.size)⟩
            · rcases Nat.eq_zero_or_pos j with h3 | h3
              · subst h3
                have HE := Lib.hid (HStep.out (by omega) (by omega) (fun h => absurd h (by omega)))
                simp only [Nat.add_zero] at hx
                have d1 : decide (x < u + 2) = false := by simp; omega
                have d2 : decide (65535 < x) = false := by simp; omega
                go_wp2
                go_quiet (fail)
                go_wp2
                go_roundw
                case rel => exact ⟨1, by omega, by go_num, HE, Me.below_drewN HBd.out _⟩
                case measure => simp [intOf]; omega
              · have hy := HR2.out (j - 1) (by omega)
                obtain ⟨y, hyy⟩ : ∃ y, Mi.at_ ml (j - 1) = y := ⟨_, rfl⟩
                rw [hyy] at hy HNo HStep
                have t3 : (j : Int) - 1 < (M : Int) := by omega
                have t4 : ¬ ((M : Int) ≤ (j : Int) - 1) := by omega
                have t5 : j - 1 < M := by omega
                have t8 : (0 : Int) < (j : Int) := by omega
                have t9 : (0 : Int) ≤ (j : Int) - 1 := by omega
                have tA : ¬ ((j : Int) - 1 < 0) := by omega
                have tB : j ≤ 9223372036854775806 := by have := hc.out.2; omega
                have tC : ((j : Int) - 1).toNat = j - 1 := by omega
                have d1 : decide (x < u + 2) = false := by simp; omega
                have d2 : decide (65535 < x) = false := by simp; omega
                have d3 : decide ((0 : Int) < (j : Int)) = true := by simpa using t8
                clear hyy HR2
                by_cases h4 : x ≤ y
                · have HE : Hid (RB = false) := HNo.out (.inr (.inr ⟨by omega, h4⟩))
                  have d4 : decide (x ≤ y) = true := by simpa using h4
                  go_wp2
                  go_quiet (fail)
                  go_wp2
                  go_ret
                  exact ⟨congrArg (fun z => Ending.returned (Value.bool z)) HE.out.symm, HB1.out.trans ((Me.below_drewN HBd.out _).mono HB1.out.size)⟩
                · have HE := Lib.hid (HStep.out (by omega) (by omega) (fun _ => by omega))
                  have d4 : decide (x ≤ y) = false := by simpa using h4
                  go_wp2
                  go_quiet (fail)
                  go_wp2
                  go_roundw
                  case rel => exact ⟨j + 1, hjl, by go_num, HE, Me.below_drewN HBd.out _⟩
                  case measure => simp [intOf]; omega
        · obtain rfl : j = M := by omega
          have HE : Hid (RB = true) := HRB.out.symm.trans (ok_all (by rw [HM.out]; exact HOk.out))
          have t1 : ¬ (j : Int) < (j : Int) := by omega
          go_wp2
          go_ret
          exact ⟨congrArg (fun z => Ending.returned (Value.bool z)) HE.out.symm, HB1.out.trans (HB.out.mono HB1.out.size)⟩
  · have hrg : rgtM ⟨o, e, u, ml⟩ = false := by unfold rgtM; simp only [Bool.not_eq_true] at hh; rw [hh]; rfl
    rw [hrg, hM]
    unfold headB at hh
    simp only [decide_eq_true_iff] at hh
    have hcs : o < 0 ∨ (¬ o < 0 ∧ 64 ≤ o) ∨ (¬ o < 0 ∧ ¬ 64 ≤ o ∧ e < 1) ∨ (¬ o < 0 ∧ ¬ 64 ≤ o ∧ ¬ e < 1 ∧ 65535 < e) ∨ (¬ o < 0 ∧ ¬ 64 ≤ o ∧ ¬ e < 1 ∧ ¬ 65535 < e ∧ u < 0) ∨ (¬ o < 0 ∧ ¬ 64 ≤ o ∧ ¬ e < 1 ∧ ¬ 65535 < e ∧ ¬ u < 0 ∧ 65535 < u) ∨ (¬ o < 0 ∧ ¬ 64 ≤ o ∧ ¬ e < 1 ∧ ¬ 65535 < e ∧ ¬ u < 0 ∧ ¬ 65535 < u ∧ u = 0 ∧ M = 0) := by rw [hM] at hh; omega
    have HF : Hid (Below w.heap.size w (w.alloc (.cells #[.int .i64 o, .int .i64 e, .int .i64 u, .slice A M c] 112))) := by rw [HW1.out]; exact HB1.out
    clear hrg hh hM hW1 b1 r1 hlt
    rcases hcs with g1 | ⟨g1, g2⟩ | ⟨g1, g2, g3⟩ | ⟨g1, g2, g3, g4⟩ | ⟨g1, g2, g3, g4, g5⟩ | ⟨g1, g2, g3, g4, g5, g6⟩ | ⟨g1, g2, g3, g4, g5, g6, rfl, rfl⟩
    all_goals
      go_enter Tryz.func85, Tryz.ntmps85
      go_wp2
      go_ret
      exact ⟨rfl, HF.out⟩
end Go.Proofs.YtfnlhfelpdkieaaGreat.Se
/- The program's isRight. -/
namespace Go.Proofs.YtfnlhfelpdkieaaGreat.Se
open Go.RowKit
open Go.Proofs.YtfnlhfelpdkieaaGreat.Me Go.Proofs.YtfnlhfelpdkieaaGreat.Sb
set_option linter.unusedVariables false
set_option linter.unusedSimpArgs false

theorem drop_at {l : List Int} {j : Nat} (h : j < l.length) : l.drop j = Mi.at_ l j :: l.drop (j + 1) := by
  rw [Mi.at_get h, List.drop_eq_getElem_cons h]
theorem rises_bad {a x : Int} {r : List Int} (h : x < a ∨ 65535 < x) : risesB a (x :: r) = false := by unfold risesB; rw [if_pos h]
theorem rises_go {a x : Int} {r : List Int} (h : ¬ (x < a ∨ 65535 < x)) : risesB a (x :: r) = risesB (x + 1) r := by conv => lhs; unfold risesB; rw [if_neg h]
set_option maxRecDepth 100000 in
set_option maxHeartbeats 8000000 in
theorem isRight_any (m : Mr) (A : Option Addr) (c : Nat) (w : World) (hr : Hid (Mi.Rd w w.heap.size A m.more)) (hc : Hid (m.more.length ≤ c ∧ c ≤ 9223372036854775807)) : Calls Tryz.prog 104 #[.agg #[.int .i64 m.o, .int .i64 m.e, .int .i64 m.up, .slice A m.more.length c]] w fun e w' => e = .returned (.bool (rgtM m)) ∧ Hid (Below w.heap.size w w') := by
  obtain ⟨o, e, u, ml⟩ := m
  simp only at hr hc ⊢
  obtain ⟨M, hM⟩ : ∃ M, ml.length = M := ⟨_, rfl⟩
  obtain ⟨W1, hW1⟩ : ∃ W, w.alloc (.cells #[.int .i64 o, .int .i64 e, .int .i64 u, .slice A M c] 112) = W := ⟨_, rfl⟩
  have b1 : Below w.heap.size w W1 := by rw [← hW1]; exact Me.below_alloc (Below.refl _ _)
  have HB1 := Lib.hid b1
  have HW1 := Lib.hid hW1
  have HM := Lib.hid hM
  have hcM : M ≤ c := by have := hc.out.1; omega
  have hc63 := hc.out.2
  by_cases hh : headB ⟨o, e, u, ml⟩ = true
  · have hrg : rgtM ⟨o, e, u, ml⟩ = risesB (u + 2) ml := by unfold rgtM; rw [hh]; rfl
    rw [hrg, hM]
    unfold headB at hh
    rw [decide_eq_true_iff] at hh
    obtain ⟨a1, a2, a3, a4, a5, a6, a7⟩ := hh
    simp only at a1 a2 a3 a4 a5 a6 a7
    rw [hM] at a7
    obtain ⟨RB, hRB⟩ : ∃ RB, risesB (u + 2) ml = RB := ⟨_, rfl⟩
    have HRB := Lib.hid hRB
    rw [hRB]
    have g1 : ¬ o < 0 := by omega
    have g2 : ¬ 64 ≤ o := by omega
    have g3 : ¬ e < 1 := by omega
    have g4 : ¬ 65535 < e := by omega
    have g5 : ¬ u < 0 := by omega
    have g6 : ¬ 65535 < u := by omega
    clear hrg hRB hM hW1 b1 a1 a2 a3 a4
    have hcs : (u == 0) = false ∨ ((u == 0) = true ∧ ((M : Int) == 0) = false) := by
      by_cases h : u = 0
      · right
        refine ⟨by simp [h], ?_⟩
        have : ¬ (M : Int) = 0 := fun h2 => a7 ⟨h, by omega⟩
        simpa using this
      · left; simpa using h
    rcases hcs with q1 | ⟨q1, q2⟩
    all_goals
      go_enter Tryz.func104, Tryz.ntmps104
      go_wp2
      rw [HW1.out]
      go_loopw [3, 46] (fun v3 v46 wr => ∃ (j : Nat) (a : Int), j ≤ M ∧ v3 = .int .i64 a ∧ v46 = .int .i64 (j : Int) ∧ Hid (RB = risesB a (ml.drop j)) ∧ 2 ≤ a ∧ a ≤ 65537 ∧ Hid (wr = W1)) (fun _ v46 _ => M - (intOf v46).toNat)
      case atStart => exact ⟨0, u + 2, Nat.zero_le _, rfl, rfl, by rw [List.drop_zero]; exact HRB.out.symm, by omega, by omega, rfl⟩
      case round =>
        obtain ⟨j, a, hj, rfl, rfl, HRj, ha1, ha2, HWr⟩ := hrel
        by_cases hjl : j < M
        · obtain ⟨b, off, rfl, hb, hcells⟩ := hr.out (by have := HM.out; omega)
          have hx := (HB1.out.cell (p := ⟨b, off + j, none⟩) hb).trans (hcells j (by have := HM.out; omega))
          rw [← HWr.out] at hx
          have t1 : (j : Int) < (M : Int) := by omega
          have t2 : ¬ ((M : Int) ≤ (j : Int)) := by omega
          have hd := drop_at (l := ml) (j := j) (by have := HM.out; omega)
          have hr1 := HRj.out
          rw [hd] at hr1
          obtain ⟨x, hxx⟩ : ∃ x, Mi.at_ ml j = x := ⟨_, rfl⟩
          rw [hxx] at hx hr1
          have HR1 := Lib.hid hr1
          have HBw : Hid (Below w.heap.size w wr) := by rw [HWr.out]; exact HB1.out
          clear hcells hb hxx hd hr1
          by_cases h1 : x < a
          · have HE : Hid (RB = false) := HR1.out.trans (rises_bad (.inl h1))
            go_wp2
            go_ret
            exact ⟨congrArg (fun z => Ending.returned (Value.bool z)) HE.out.symm, HBw.out⟩
          · by_cases h2 : 65535 < x
            · have HE : Hid (RB = false) := HR1.out.trans (rises_bad (.inr h2))
              go_wp2
              go_ret
              exact ⟨congrArg (fun z => Ending.returned (Value.bool z)) HE.out.symm, HBw.out⟩
            · have HE : Hid (RB = risesB (x + 1) (ml.drop (j + 1))) := HR1.out.trans (rises_go (by omega))
              have h3 : 2 ≤ x := by omega
              have h4 : x ≤ 65535 := by omega
              go_wp2
              go_roundw
              case rel => exact ⟨j + 1, x + 1, hjl, rfl, by go_num, HE, by omega, by omega, HWr⟩
              case measure => simp [intOf]; omega
        · obtain rfl : j = M := by omega
          have HE : Hid (RB = true) := by
            show _ = _
            rw [HRj.out, List.drop_of_length_le (by have := HM.out; omega)]; rfl
          have HBw : Hid (Below w.heap.size w wr) := by rw [HWr.out]; exact HB1.out
          have t1 : ¬ (j : Int) < (j : Int) := by omega
          go_wp2
          go_ret
          exact ⟨congrArg (fun z => Ending.returned (Value.bool z)) HE.out.symm, HBw.out⟩
  · have hrg : rgtM ⟨o, e, u, ml⟩ = false := by unfold rgtM; simp only [Bool.not_eq_true] at hh; rw [hh]; rfl
    rw [hrg, hM]
    unfold headB at hh
    simp only [decide_eq_true_iff] at hh
    have hcs : o < 0 ∨ (¬ o < 0 ∧ 64 ≤ o) ∨ (¬ o < 0 ∧ ¬ 64 ≤ o ∧ e < 1) ∨ (¬ o < 0 ∧ ¬ 64 ≤ o ∧ ¬ e < 1 ∧ 65535 < e) ∨ (¬ o < 0 ∧ ¬ 64 ≤ o ∧ ¬ e < 1 ∧ ¬ 65535 < e ∧ u < 0) ∨ (¬ o < 0 ∧ ¬ 64 ≤ o ∧ ¬ e < 1 ∧ ¬ 65535 < e ∧ ¬ u < 0 ∧ 65535 < u) ∨ (¬ o < 0 ∧ ¬ 64 ≤ o ∧ ¬ e < 1 ∧ ¬ 65535 < e ∧ ¬ u < 0 ∧ ¬ 65535 < u ∧ u = 0 ∧ M = 0) := by rw [hM] at hh; omega
    have HF : Hid (Below w.heap.size w (w.alloc (.cells #[.int .i64 o, .int .i64 e, .int .i64 u, .slice A M c] 112))) := by rw [HW1.out]; exact HB1.out
    clear hrg hh hM hW1 b1
    rcases hcs with g1 | ⟨g1, g2⟩ | ⟨g1, g2, g3⟩ | ⟨g1, g2, g3, g4⟩ | ⟨g1, g2, g3, g4, g5⟩ | ⟨g1, g2, g3, g4, g5, g6⟩ | ⟨g1, g2, g3, g4, g5, g6, rfl, rfl⟩
    all_goals
      go_enter Tryz.func104, Tryz.ntmps104
      go_wp2
      go_ret
      exact ⟨rfl, HF.out⟩
end Go.Proofs.YtfnlhfelpdkieaaGreat.Se
