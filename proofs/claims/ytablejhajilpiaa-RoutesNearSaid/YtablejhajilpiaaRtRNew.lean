/- The reference's New. -/
import Derived.Test.YtablejhajilpiaaRtRSmall
namespace Go.Proofs.Ytablejhajilpiaa.Rt
open Go.RowKit Go.Maps
open Go.Proofs.Ytablejhajilpiaa.Sb
set_option linter.unusedVariables false
set_option linter.unusedSimpArgs false

def q0 : RQ := ⟨0, 0, [], [], []⟩
def p0 : Pl := ⟨none, 0, none, 0, none, 0⟩
theorem alloc_rq (ρ : Operand → Value) (o : Oper) (ho : o.op = .alloc 33) (w : World) : (execOp ρ o).run Try.prog w = .ok (.value (.pointer (some ⟨w.heap.size, 0, none⟩))) (w.alloc (.cells (rqV q0 p0) 33 (0, 0))) := by
  unfold execOp
  rw [ho]
  kernel_rfl
theorem exec_build0 (ρ : Operand → Value) (o : Oper) (ho : o.op = .build 33 #[]) (w : World) : (execOp ρ o).run Try.prog w = .ok (.value (.agg (rqV q0 p0))) w := by
  unfold execOp
  rw [ho]
  kernel_rfl
theorem exec_build3 (ρ : Operand → Value) (o : Oper) (s g : Int) (A : Option Addr) (c : Nat) (l : List Int) (x0 x1 x2 : Operand) (ho : o.op = .build 33 #[(0, x0), (1, x1), (2, x2)]) (h0 : ρ x0 = .int .i64 s) (h1 : ρ x1 = .int .i64 g) (h2 : ρ x2 = .slice A l.length c) (w : World) :
    (execOp ρ o).run Try.prog w = .ok (.value (.agg (rqV ⟨s, g, l, [], []⟩ ⟨A, c, none, 0, none, 0⟩))) w := by
  unfold execOp
  rw [ho]
  have hb : (Instr.build 33 #[(0, .int .i64 s), (1, .int .i64 g), (2, .slice A l.length c)]).run Try.prog w = .ok (.agg (rqV ⟨s, g, l, [], []⟩ ⟨A, c, none, 0, none, 0⟩)) w := by kernel_rfl
  simp [h0, h1, h2, hb, Result.andThen]
theorem exec_build5 (ρ : Operand → Value) (o : Oper) (q : RQ) (p : Pl) (x0 x1 x2 x3 x4 : Operand) (ho : o.op = .build 33 #[(0, x0), (1, x1), (2, x2), (3, x3), (4, x4)]) (h0 : ρ x0 = .int .i64 q.self) (h1 : ρ x1 = .int .i64 q.age) (h2 : ρ x2 = .slice p.A q.nbs.length p.cA) (h3 : ρ x3 = .slice p.S q.set.length p.cS) (h4 : ρ x4 = .slice p.L q.l.length p.cL) (w : World) :
    (execOp ρ o).run Try.prog w = .ok (.value (.agg (rqV q p))) w := by
  unfold execOp
  rw [ho]
  have hb : (Instr.build 33 #[(0, .int .i64 q.self), (1, .int .i64 q.age), (2, .slice p.A q.nbs.length p.cA), (3, .slice p.S q.set.length p.cS), (4, .slice p.L q.l.length p.cL)]).run Try.prog w = .ok (.agg (rqV q p)) w := by kernel_rfl
  simp [h0, h1, h2, h3, h4, hb, Result.andThen]
theorem own_RI {M : Nat → Prop} {w : World} {B : Nat} {v : Value} {l : List Int} (h : Mi.Own w B v l) (hM : ∀ b, B ≤ b → M b) : ∃ A c, v = .slice A l.length c ∧ RI M w A l := by
  obtain ⟨A, c, rfl, h1, h2, h3, h4, h5⟩ := h.form
  refine ⟨A, c, rfl, fun j a hj => ?_⟩
  have hjl := (List.getElem?_eq_some_iff.1 hj).1
  obtain ⟨b, off, rfl, hb, hc⟩ := h3 (by omega)
  refine ⟨b, off, rfl, hM b (h5 _ rfl).1, hb, fun i u hu => ?_⟩
  have hi : i = 0 := by
    have := (List.getElem?_eq_some_iff.1 hu).1
    simp [encI] at this
    omega
  subst hi
  simp only [encI, List.getElem?_cons_zero, Option.some.injEq] at hu
  subst hu
  have e : Mi.at_ l j = a := by rw [Mi.at_get hjl]; exact (List.getElem?_eq_some_iff.1 hj).2
  rw [Nat.mul_one, Nat.add_zero, hc j hjl, e]
set_option maxRecDepth 100000 in
set_option maxHeartbeats 4000000 in
theorem RNew_bad (self age : Int) (A : Option Addr) (c B : Nat) (l : List Int) (w : World) (hr : Hid (Mi.Rd w B A l)) (hBw : B ≤ w.heap.size) (hc : l.length ≤ 9223372036854775806) (hE : newE self l age ≠ 0) :
    Calls Try.prog 10 #[.int .i64 self, .slice A l.length c, .int .i64 age] w fun e w' => e = .returned (.tuple #[.agg (rqV q0 p0), .int .i64 (newE self l age : Int)]) ∧ Hid (Below w.heap.size w w') := by
  have HI := Lib.hid RNode_any
  have HSF := Lib.hid (HI.out self)
  have HZ : Hid (Bq (w.alloc (.cells (rqV q0 p0) 33)) w.heap.size q0 p0) := box_rq q0 p0 w
  have HB : Hid (Below w.heap.size w (w.alloc (.cells (rqV q0 p0) 33))) := Mi.below_alloc (Below.refl _ _)
  have HRD : Hid (Mi.Rd (w.alloc (.cells (rqV q0 p0) 33)) B A l) := hr.out.below (HB.out.mono hBw)
  unfold newE at hE ⊢
  by_cases h1 : isN self = false ∨ age < 1 ∨ 64 < age
  · rw [if_pos h1]
    obtain ⟨w1, hw1⟩ : ∃ w1, w.alloc (.cells (rqV q0 p0) 33) = w1 := ⟨_, rfl⟩
    have HW1 : Hid (w.alloc (.cells (rqV q0 p0) 33) = w1) := hw1
    rw [hw1] at HZ HB
    clear hw1 HRD
    cases hs : isN self with
    | false =>
      rw [hs] at HSF
      go_enter Try.func10, Try.ntmps10
      go_wp2_with (first
        | (refine Mi.allocTo rfl (.pointer (some ⟨_, 0, none⟩)) (.cells (rqV q0 p0) 33 (0, 0)) (alloc_rq _ _ rfl _) ?_; rw [HW1.out])
        | (go_at_call 34; refine (HSF.out _).mono ?_; rintro e w' ⟨rfl, rfl⟩)
        | (refine valTo rfl (.agg (rqV q0 p0)) (exec_build0 _ _ rfl _) ?_)
        | (refine wpList_store_row rfl 33 (.tmp 6) (.tmp 20) rfl w.heap.size (rqV q0 p0) rfl rfl 33 _ HZ.out (rq_size _ _) rfl (rq_one _ _) ?_))
      refine ret_box2 rfl rfl (setRow_heap _ _ _ _ _ _ HZ.out) rfl Try.underlying33 (rq_size _ _) rfl ⟨rfl, ?_⟩
      exact Sb.below_setRow _ HB.out (Nat.le_refl _)
    | true =>
      rw [hs] at HSF h1
      by_cases h2 : age < 1
      · go_enter Try.func10, Try.ntmps10
        go_wp2_with (first
          | (refine Mi.allocTo rfl (.pointer (some ⟨_, 0, none⟩)) (.cells (rqV q0 p0) 33 (0, 0)) (alloc_rq _ _ rfl _) ?_; rw [HW1.out])
          | (go_at_call 34; refine (HSF.out _).mono ?_; rintro e w' ⟨rfl, rfl⟩)
          | (refine valTo rfl (.agg (rqV q0 p0)) (exec_build0 _ _ rfl _) ?_)
          | (refine wpList_store_row rfl 33 (.tmp 6) (.tmp 20) rfl w.heap.size (rqV q0 p0) rfl rfl 33 _ HZ.out (rq_size _ _) rfl (rq_one _ _) ?_))
        refine ret_box2 rfl rfl (setRow_heap _ _ _ _ _ _ HZ.out) rfl Try.underlying33 (rq_size _ _) rfl ⟨rfl, ?_⟩
        exact Sb.below_setRow _ HB.out (Nat.le_refl _)
      · have h3 : 64 < age := by
          rcases h1 with h1 | h1 | h1
          · cases h1
          · exact absurd h1 h2
          · exact h1
        go_enter Try.func10, Try.ntmps10
        go_wp2_with (first
          | (refine Mi.allocTo rfl (.pointer (some ⟨_, 0, none⟩)) (.cells (rqV q0 p0) 33 (0, 0)) (alloc_rq _ _ rfl _) ?_; rw [HW1.out])
          | (go_at_call 34; refine (HSF.out _).mono ?_; rintro e w' ⟨rfl, rfl⟩)
          | (refine valTo rfl (.agg (rqV q0 p0)) (exec_build0 _ _ rfl _) ?_)
          | (refine wpList_store_row rfl 33 (.tmp 6) (.tmp 20) rfl w.heap.size (rqV q0 p0) rfl rfl 33 _ HZ.out (rq_size _ _) rfl (rq_one _ _) ?_))
        refine ret_box2 rfl rfl (setRow_heap _ _ _ _ _ _ HZ.out) rfl Try.underlying33 (rq_size _ _) rfl ⟨rfl, ?_⟩
        exact Sb.below_setRow _ HB.out (Nat.le_refl _)
  · rw [if_neg h1] at hE ⊢
    have hs : isN self = true := by
      cases hb : isN self with
      | true => rfl
      | false => exact absurd (Or.inl hb) h1
    have h2 : ¬ age < 1 := fun e => h1 (Or.inr (Or.inl e))
    have h3 : ¬ 64 < age := fun e => h1 (Or.inr (Or.inr e))
    have hng : ¬ ∀ j, j < l.length → okB self l j = true := fun e => by rw [if_pos e] at hE; exact hE rfl
    rw [if_neg hng]
    rw [hs] at HSF
    obtain ⟨N, hN⟩ : ∃ N, l.length = N := ⟨_, rfl⟩
    have HN : Hid (l.length = N) := hN
    have HNG := Lib.hid hng
    rw [hN] at hc ⊢
    obtain ⟨w1, hw1⟩ : ∃ w1, w.alloc (.cells (rqV q0 p0) 33) = w1 := ⟨_, rfl⟩
    have HW1 : Hid (w.alloc (.cells (rqV q0 p0) 33) = w1) := hw1
    rw [hw1] at HZ HB HRD
    clear hN hs h1 hE hng hw1 hr
    go_enter Try.func10, Try.ntmps10
    go_wp2_with (first
      | (refine Mi.allocTo rfl (.pointer (some ⟨_, 0, none⟩)) (.cells (rqV q0 p0) 33 (0, 0)) (alloc_rq _ _ rfl _) ?_; rw [HW1.out])
      | (go_at_call 34; refine (HSF.out _).mono ?_; rintro e w' ⟨rfl, rfl⟩))
    go_loopw [8] (fun k wr => ∃ i : Nat, i ≤ N ∧ k = .int .i64 i ∧ Hid (∀ j, j < i → okB self l j = true) ∧ Hid (∃ m, wr = w1.drewN m)) (fun k _ => N - (intOf k).toNat)
    case atStart => exact ⟨0, Nat.zero_le _, rfl, fun j hj => absurd hj (by omega), 0, rfl⟩
    case round =>
      obtain ⟨i, hi, rfl, hok, HW⟩ := hrel
      obtain ⟨m, rfl⟩ := HW.out
      have HZM : Hid (Bq (w1.drewN m) w.heap.size q0 p0) := HZ.out
      have HBM : Hid (Below w.heap.size w (w1.drewN m)) := Mi.below_drewN HB.out m
      by_cases hlt : i < N
      · obtain ⟨b, off, hA, y0⟩ := rd_at HRD.out (i := i) (by rw [HN.out]; exact hlt)
        have hob : okB self l i = (isN (Mi.at_ l i) && !(Mi.at_ l i == self) && decide (prv l i < Mi.at_ l i)) := rfl
        have hp1 : 0 < i → ∃ y, prv l i = y ∧ w1.cell? ⟨b, off + (i - 1), none⟩ = some (.int .i64 y) := fun h0 => by
          obtain ⟨b', off', e', y1⟩ := rd_at HRD.out (i := i - 1) (by rw [HN.out]; omega)
          rw [hA] at e'
          cases e'
          exact ⟨_, by simp only [prv]; rw [if_neg (by omega)], y1⟩
        obtain ⟨x, hx⟩ : ∃ x, Mi.at_ l i = x := ⟨_, rfl⟩
        rw [hx] at y0 hob
        have HX := Lib.hid (HI.out x)
        subst hA
        clear hx
        cases hxn : isN x with
        | false =>
          rw [hxn] at HX
          clear hob hp1 hok
          go_wp2
          go_quiet ((go_at_call 34; exact (HX.out _).mono fun _ _ h => ⟨h.1, _, h.2.symm⟩))
          go_wp2_with (first
            | (refine valTo rfl (.agg (rqV q0 p0)) (exec_build0 _ _ rfl _) ?_)
            | (refine wpList_store_row rfl 33 (.tmp 6) (.tmp 57) rfl w.heap.size (rqV q0 p0) rfl rfl 33 _ HZM.out (rq_size _ _) rfl (rq_one _ _) ?_))
          refine ret_box2 rfl rfl (setRow_heap _ _ _ _ _ _ HZM.out) rfl Try.underlying33 (rq_size _ _) rfl ⟨rfl, ?_⟩
          exact Sb.below_setRow _ (Mi.below_drewN HB.out _) (Nat.le_refl _)
        | true =>
          rw [hxn] at HX hob
          cases hxs : (x == self) with
          | true =>
            clear hob hp1 hok
            go_wp2
            go_quiet ((go_at_call 34; exact (HX.out _).mono fun _ _ h => ⟨h.1, _, h.2.symm⟩))
            go_wp2_with (first
              | (refine valTo rfl (.agg (rqV q0 p0)) (exec_build0 _ _ rfl _) ?_)
              | (refine wpList_store_row rfl 33 (.tmp 6) (.tmp 57) rfl w.heap.size (rqV q0 p0) rfl rfl 33 _ HZM.out (rq_size _ _) rfl (rq_one _ _) ?_))
            refine ret_box2 rfl rfl (setRow_heap _ _ _ _ _ _ HZM.out) rfl Try.underlying33 (rq_size _ _) rfl ⟨rfl, ?_⟩
            exact Sb.below_setRow _ (Mi.below_drewN HB.out _) (Nat.le_refl _)
          | false =>
            rw [hxs] at hob
            by_cases hi0 : i = 0
            · have HOK : Hid (∀ j, j < 1 → okB self l j = true) := fun j hj => by
                obtain rfl : j = 0 := by omega
                have e : prv l 0 < x := by
                  obtain ⟨q, hq, _⟩ := isN_of hxn
                  simp only [prv, if_true]
                  omega
                rw [← hi0]
                rw [hob]
                rw [← hi0] at e
                simp [e]
              subst hi0
              have y00 : w1.cell? ⟨b, off, none⟩ = some (.int .i64 x) := y0
              clear hob hp1 hok y0
              go_wp2
              go_quiet ((go_at_call 34; exact (HX.out _).mono fun _ _ h => ⟨h.1, _, h.2.symm⟩))
              go_wp2
              go_roundw
              case rel => exact ⟨1, by omega, by go_num, HOK, m + nq, by simp⟩
              case measure => simp [intOf]; omega
            · obtain ⟨y, hy, y1⟩ := hp1 (by omega)
              have d1 : decide (0 < i) = true := decide_eq_true (by omega)
              have j1 : (0 : Int) ≤ (i : Int) - 1 := by omega
              have j2 : ((i : Int) - 1).toNat = i - 1 := by omega
              have j3 : (i : Int) - 1 < (N : Int) := by omega
              have j4 : (i : Int) ≤ 9223372036854775806 := by omega
              rw [hy] at hob
              by_cases hxy : x ≤ y
              · have d2 : decide (x ≤ y) = true := decide_eq_true hxy
                clear hob hp1 hok hy
                go_wp2
                go_quiet ((go_at_call 34; exact (HX.out _).mono fun _ _ h => ⟨h.1, _, h.2.symm⟩))
                go_wp2_with (first
                  | (refine valTo rfl (.agg (rqV q0 p0)) (exec_build0 _ _ rfl _) ?_)
                  | (refine wpList_store_row rfl 33 (.tmp 6) (.tmp 57) rfl w.heap.size (rqV q0 p0) rfl rfl 33 _ HZM.out (rq_size _ _) rfl (rq_one _ _) ?_))
                refine ret_box2 rfl rfl (setRow_heap _ _ _ _ _ _ HZM.out) rfl Try.underlying33 (rq_size _ _) rfl ⟨rfl, ?_⟩
                exact Sb.below_setRow _ (Mi.below_drewN HB.out _) (Nat.le_refl _)
              · have d2 : decide (x ≤ y) = false := decide_eq_false hxy
                have HOK : Hid (∀ j, j < i + 1 → okB self l j = true) := fun j hj => by
                  by_cases e : j = i
                  · subst e; rw [hob]; simp; omega
                  · exact hok.out j (by omega)
                clear hob hp1 hok hy
                go_wp2
                go_quiet ((go_at_call 34; exact (HX.out _).mono fun _ _ h => ⟨h.1, _, h.2.symm⟩))
                go_wp2
                go_roundw
                case rel => exact ⟨i + 1, by omega, by go_num, HOK, m + nq, by simp⟩
                case measure => simp [intOf]; omega
      · exact absurd (fun j hj => hok.out j (by rw [HN.out] at hj; omega)) HNG.out
/-- What the reference's New answers where it goes well. -/
def newQ (self age : Int) (l : List Int) : RQ := ⟨self, age, l, [], []⟩
set_option maxRecDepth 100000 in
set_option maxHeartbeats 4000000 in
theorem RNew_ok {M : Nat → Prop} (self age : Int) (A : Option Addr) (c B : Nat) (l : List Int) (w : World) (hr : Hid (Mi.Rd w B A l)) (hA0 : Hid (A = none → l.length = 0 ∧ c = 0)) (hBw : B ≤ w.heap.size) (hM : ∀ b, w.heap.size ≤ b → M b) (hE : newE self l age = 0) :
    Calls Try.prog 10 #[.int .i64 self, .slice A l.length c, .int .i64 age] w fun e w' => ∃ p, e = .returned (.tuple #[.agg (rqV (newQ self age l) p), .int .i64 0]) ∧ Hid (Rf M w' (newQ self age l) p) ∧ Hid (Below w.heap.size w w') := by
  have HI := Lib.hid RNode_any
  have HSF := Lib.hid (HI.out self)
  have HZ : Hid (Bq (w.alloc (.cells (rqV q0 p0) 33)) w.heap.size q0 p0) := box_rq q0 p0 w
  have HB : Hid (Below w.heap.size w (w.alloc (.cells (rqV q0 p0) 33))) := Mi.below_alloc (Below.refl _ _)
  have HRD : Hid (Mi.Rd (w.alloc (.cells (rqV q0 p0) 33)) B A l) := hr.out.below (HB.out.mono hBw)
  have HSZ : Hid ((w.alloc (.cells (rqV q0 p0) 33)).heap.size = w.heap.size + 1) := World.size_alloc _ _
  unfold newE at hE
  have h1 : ¬ (isN self = false ∨ age < 1 ∨ 64 < age) := fun h => by rw [if_pos h] at hE; cases hE
  rw [if_neg h1] at hE
  have hgood : ∀ j, j < l.length → okB self l j = true := by
    apply Classical.byContradiction
    intro h
    rw [if_neg h] at hE
    cases hE
  have hl64 := good_len hgood
  have hs : isN self = true := by
    cases hb : isN self with
    | true => rfl
    | false => exact absurd (Or.inl hb) h1
  have h2 : ¬ age < 1 := fun e => h1 (Or.inr (Or.inl e))
  have h3 : ¬ 64 < age := fun e => h1 (Or.inr (Or.inr e))
  rw [hs] at HSF
  have HG := Lib.hid hgood
  obtain ⟨N, hN⟩ : ∃ N, l.length = N := ⟨_, rfl⟩
  have HN : Hid (l.length = N) := hN
  rw [hN] at hl64 hA0 ⊢
  obtain ⟨w1, hw1⟩ : ∃ w1, w.alloc (.cells (rqV q0 p0) 33) = w1 := ⟨_, rfl⟩
  have HW1 : Hid (w.alloc (.cells (rqV q0 p0) 33) = w1) := hw1
  rw [hw1] at HZ HB HRD HSZ
  clear hN hs h1 hE hgood hw1 hr
  go_enter Try.func10, Try.ntmps10
  go_wp2_with (first
    | (refine Mi.allocTo rfl (.pointer (some ⟨_, 0, none⟩)) (.cells (rqV q0 p0) 33 (0, 0)) (alloc_rq _ _ rfl _) ?_; rw [HW1.out])
    | (go_at_call 34; refine (HSF.out _).mono ?_; rintro e w' ⟨rfl, rfl⟩))
  go_loopw [8] (fun k wr => ∃ i : Nat, i ≤ N ∧ k = .int .i64 i ∧ Hid (∃ m, wr = w1.drewN m)) (fun k _ => N - (intOf k).toNat)
  case atStart => exact ⟨0, Nat.zero_le _, rfl, 0, rfl⟩
  case round =>
    obtain ⟨i, hi, rfl, HW⟩ := hrel
    obtain ⟨m, rfl⟩ := HW.out
    by_cases hlt : i < N
    · obtain ⟨b, off, hA, y0⟩ := rd_at HRD.out (i := i) (by rw [HN.out]; exact hlt)
      obtain ⟨k1, k2, k3⟩ := okB_of (HG.out i (by rw [HN.out]; exact hlt))
      have hp1 : 0 < i → ∃ y, prv l i = y ∧ w1.cell? ⟨b, off + (i - 1), none⟩ = some (.int .i64 y) := fun h0 => by
        obtain ⟨b', off', e', y1⟩ := rd_at HRD.out (i := i - 1) (by rw [HN.out]; omega)
        rw [hA] at e'
        cases e'
        exact ⟨_, by simp only [prv]; rw [if_neg (by omega)], y1⟩
      obtain ⟨x, hx⟩ : ∃ x, Mi.at_ l i = x := ⟨_, rfl⟩
      rw [hx] at y0 k1 k2 k3
      have HX := Lib.hid (HI.out x)
      rw [k1] at HX
      have hxs : (x == self) = false := beq_eq_false_iff_ne.mpr k2
      subst hA
      clear hx k1 k2
      by_cases hi0 : i = 0
      · subst hi0
        have y00 : w1.cell? ⟨b, off, none⟩ = some (.int .i64 x) := y0
        clear hp1 y0 k3
        go_wp2
        go_quiet ((go_at_call 34; exact (HX.out _).mono fun _ _ h => ⟨h.1, _, h.2.symm⟩))
        go_wp2
        go_roundw
        case rel => exact ⟨1, by omega, by go_num, m + nq, by simp⟩
        case measure => simp [intOf]; omega
      · obtain ⟨y, hy, y1⟩ := hp1 (by omega)
        have d1 : decide (0 < i) = true := decide_eq_true (by omega)
        have j1 : (0 : Int) ≤ (i : Int) - 1 := by omega
        have j2 : ((i : Int) - 1).toNat = i - 1 := by omega
        have j3 : (i : Int) - 1 < (N : Int) := by omega
        have j4 : (i : Int) ≤ 9223372036854775806 := by omega
        rw [hy] at k3
        have hxy : ¬ x ≤ y := by omega
        have d2 : decide (x ≤ y) = false := decide_eq_false hxy
        clear hp1 hy k3
        go_wp2
        go_quiet ((go_at_call 34; exact (HX.out _).mono fun _ _ h => ⟨h.1, _, h.2.symm⟩))
        go_wp2
        go_roundw
        case rel => exact ⟨i + 1, by omega, by go_num, m + nq, by simp⟩
        case measure => simp [intOf]; omega
    · obtain rfl : i = N := by omega
      have HZM : Hid (Bq (w1.drewN m) w.heap.size q0 p0) := HZ.out
      have HBM : Hid (Below w.heap.size w (w1.drewN m)) := Mi.below_drewN HB.out m
      have HRM : Hid (Mi.Rd (w1.drewN m) B A l) := HRD.out
      have HSM : Hid ((w1.drewN m).heap.size = w.heap.size + 1) := HSZ.out
      obtain ⟨w2, hw2⟩ : ∃ w2, w1.drewN m = w2 := ⟨_, rfl⟩
      rw [hw2] at HZM HBM HRM HSM ⊢
      have hBw2 : B ≤ w2.heap.size := by have := HSM.out; omega
      have HLB : Hid (([] : List Int).length + l.length ≤ 64) := by show _ ≤ _; rw [HN.out]; simpa using hl64
      clear hw2 HW HZ HB HRD HSZ
      go_wp2_with (first
        | (at_builtin; refine Mi.app rfl (.tmp 60) (.tmp 61) rfl w2.heap.size B _ [] l rfl (Mi.Own.lit (Below.refl _ _)) (Mi.below_alloc (Below.refl _ _)) (by simp) A i c HN.out.symm rfl (HRM.out.below ((Below.refl _ _).alloc hBw2 _)) (fun e => by (have := hA0.out e; rw [HN.out]; exact this)) (by (have := HLB.out; simp at this ⊢; omega)) ?_; intro v2 w3 ho2 hb2 _; have HO2 := Lib.hid ho2; have HB2 := Lib.hid hb2; clear ho2 hb2; obtain ⟨A2, c2, rfl, hri⟩ := own_RI (M := fun b => M b ∧ b ≠ w.heap.size) HO2.out (fun b hb => ⟨hM b (by have := HSM.out; omega), by have := HSM.out; omega⟩); have HRI := Lib.hid hri; clear hri; have HZ3 : Hid (Bq w3 w.heap.size q0 p0) := HZM.out.at_ HB2.out HZM.out.lt)
        | (refine valTo rfl (.agg (rqV (newQ self age l) ⟨A2, c2, none, 0, none, 0⟩)) (exec_build3 _ _ self age A2 c2 l (.tmp 58) (.tmp 59) (.tmp 62) rfl rfl rfl rfl _) ?_)
        | (refine wpList_store_row rfl 33 (.tmp 6) (.tmp 63) rfl w.heap.size (rqV (newQ self age l) ⟨A2, c2, none, 0, none, 0⟩) rfl rfl 33 _ HZ3.out (rq_size _ _) rfl (rq_one _ _) ?_))
      have HF : Below w.heap.size w3 (w3.setRow w.heap.size (rqV (newQ self age l) ⟨A2, c2, none, 0, none, 0⟩)) := Sb.below_setRow _ (Below.refl _ _) (Nat.le_refl _)
      have HBU : But (fun k => k = w.heap.size) w3 (w3.setRow w.heap.size (rqV (newQ self age l) ⟨A2, c2, none, 0, none, 0⟩)) := (But.refl (fun k => k = w.heap.size) w3).setRow (D := w.heap.size) (.inl rfl) _
      refine ret_box2 rfl rfl (setRow_heap _ _ _ _ _ _ HZ3.out) rfl Try.underlying33 (rq_size _ _) rfl ⟨⟨A2, c2, none, 0, none, 0⟩, rfl, ?_, (HBM.out.trans (HB2.out.mono (by have := HSM.out; omega))).trans HF⟩
      exact ⟨(HRI.out.but HBU fun b hb e => hb.2 e).mono fun b _ hb => hb.1, Rg.nil _ _, Rg.nil _ _, fun e he => by cases he⟩
end Go.Proofs.Ytablejhajilpiaa.Rt
