/- The reference's CheckMarks: why marks are no set's. -/
import Derived.Test.YtfnlhfelpdkieaaGreatZ24
namespace Go.Proofs.YtfnlhfelpdkieaaGreat.Se
open Go.RowKit
open Go.Proofs.YtfnlhfelpdkieaaGreat.Me Go.Proofs.YtfnlhfelpdkieaaGreat.Sb
set_option linter.unusedVariables false
set_option linter.unusedSimpArgs false

instance : Inhabited Mr := ⟨⟨0, 0, 0, []⟩⟩
def mrAt (ms : List Mr) (j : Nat) : Mr := ms.getD j ⟨0, 0, 0, []⟩
/-- b does not come behind a. -/
def late (a b : Mr) : Prop := b.o < a.o ∨ (b.o = a.o ∧ b.e ≤ a.e)
/-- The first j marks are right and in order. -/
def okMs (ms : List Mr) (j : Nat) : Prop := ∀ i, i < j → rgtM (mrAt ms i) = true ∧ (0 < i → ¬ late (mrAt ms (i - 1)) (mrAt ms i))
def gapsTo (ms : List Mr) (j : Nat) : Int := ((ms.take j).map fun m => (m.more.length : Int)).sum
open Classical in
noncomputable def ckE (g : Int) (ms : List Mr) : Nat := if g < 0 ∨ 256 < g then 1 else if ¬ okMs ms ms.length then 2 else if g < gapsTo ms ms.length then 6 else 0
theorem rises_len : ∀ (l : List Int) (a : Int), risesB a l = true → 0 ≤ a → (l.length : Int) ≤ 65536 - min a 65536
  | [], a, _, h => by simp; omega
  | x :: r, a, h, h0 => by
    unfold risesB at h
    by_cases hx : x < a ∨ 65535 < x
    · rw [if_pos hx] at h; cases h
    · rw [if_neg hx] at h
      have := rises_len r (x + 1) h (by omega)
      simp only [List.length_cons]
      push_cast
      omega
theorem rgt_len {m : Mr} (h : rgtM m = true) : m.more.length ≤ 65536 := by
  unfold rgtM at h
  rw [Bool.and_eq_true] at h
  obtain ⟨h1, h2⟩ := h
  unfold headB at h1
  rw [decide_eq_true_iff] at h1
  have := rises_len _ _ h2 (by omega)
  omega
theorem gapsTo_succ {ms : List Mr} {j : Nat} (h : j < ms.length) : gapsTo ms (j + 1) = gapsTo ms j + ((mrAt ms j).more.length : Int) := by
  have e : ms[j]? = some (mrAt ms j) := by
    unfold mrAt
    rw [List.getD_eq_getElem?_getD, List.getElem?_eq_getElem h]; rfl
  unfold gapsTo
  rw [takeP_snoc e, List.map_append, List.sum_append]
  simp
theorem gapsTo_le {ms : List Mr} : ∀ (j : Nat), okMs ms j → 0 ≤ gapsTo ms j ∧ (j ≤ ms.length → gapsTo ms j ≤ (j : Int) * 65536)
  | 0, _ => by simp [gapsTo]
  | j + 1, h => by
    obtain ⟨h1, h2⟩ := gapsTo_le (ms := ms) j fun i hi => h i (by omega)
    by_cases hj : j < ms.length
    · have h3 := rgt_len (h j (by omega)).1
      rw [gapsTo_succ hj]
      refine ⟨by omega, fun _ => ?_⟩
      have := h2 (by omega)
      push_cast
      omega
    · refine ⟨?_, fun h4 => by omega⟩
      have e : gapsTo ms (j + 1) = gapsTo ms j := by
        unfold gapsTo
        rw [List.take_of_length_le (by omega), List.take_of_length_le (by omega)]
      rw [e]; exact h1
set_option maxRecDepth 100000 in
set_option maxHeartbeats 8000000 in
theorem CheckMarks_any (g : Int) (A : Option Addr) (n c : Nat) (P : List Pm) (w : World) (hv : Hid (Mv w (.slice A n c) P)) (hz : Hid (Msz c P)) : Calls Tryz.prog 57 #[.int .i64 g, .slice A n c] w fun e w' => e = .returned (.int .i64 (ckE g (P.map Pm.m) : Int)) ∧ Hid (Below w.heap.size w w') := by
  by_cases hg : g < 0 ∨ 256 < g
  · have hk : ckE g (P.map Pm.m) = 1 := by unfold ckE; rw [if_pos hg]
    rw [hk]
    rcases hg with hg | hg
    · go_enter Tryz.func57, Tryz.ntmps57
      go_wp2
      go_ret
      exact ⟨rfl, Below.refl _ _⟩
    · have g1 : ¬ g < 0 := by omega
      go_enter Tryz.func57, Tryz.ntmps57
      go_wp2
      go_ret
      exact ⟨rfl, Below.refl _ _⟩
  · obtain ⟨A0, c0, e0, hc1, hc2, hrows⟩ := hv.out
    injection e0 with e1 e2 e3
    subst e1 e2 e3
    obtain ⟨ms, hms⟩ : ∃ ms, P.map Pm.m = ms := ⟨_, rfl⟩
    obtain ⟨N, hN⟩ : ∃ N, P.length = N := ⟨_, rfl⟩
    have hml : ms.length = N := by rw [← hms, ← hN]; simp
    have hcap := hz.out.cap
    rw [hN] at hc1 ⊢
    have hk : ckE g (P.map Pm.m) = ckE g ms := by rw [hms]
    rw [hk]
    have HR : Hid (∀ j, j < N → ∃ g' off pA pc, A = some ⟨g', off, none⟩ ∧ g' < w.heap.size ∧ (w.cell? ⟨g', off + j * 4, none⟩ = some (.int .i64 (mrAt ms j).o) ∧ w.cell? ⟨g', off + j * 4 + 1, none⟩ = some (.int .i64 (mrAt ms j).e) ∧ w.cell? ⟨g', off + j * 4 + 2, none⟩ = some (.int .i64 (mrAt ms j).up) ∧ w.cell? ⟨g', off + j * 4 + 3, none⟩ = some (.slice pA (mrAt ms j).more.length pc)) ∧ (mrAt ms j).more.length ≤ pc ∧ pc ≤ 9223372036854775807 ∧ Mi.Rd w w.heap.size pA (mrAt ms j).more) := fun j hj => by
      obtain ⟨p, hp⟩ : ∃ p, P[j]? = some p := ⟨_, List.getElem?_eq_getElem (by omega)⟩
      have e : mrAt ms j = p.m := by
        unfold mrAt
        rw [List.getD_eq_getElem?_getD, ← hms, List.getElem?_map, hp]; rfl
      obtain ⟨g', off, e1, e2, x, y1, y2, y3⟩ := hrows j p hp
      rw [e]
      exact ⟨g', off, p.A, p.c, e1, e2, x, y1, y2, y3⟩
    have HMl := Lib.hid hml
    have HCap : Hid (N * 48 ≤ 140737488351232) := by show _ ≤ _; omega
    have g1 : ¬ g < 0 := by omega
    have g2 : ¬ 256 < g := by omega
    obtain ⟨E, hE⟩ : ∃ E, ckE g ms = E := ⟨_, rfl⟩
    rw [hE]
    have HBad : Hid (¬ okMs ms N → E = 2) := fun h => by
      rw [← hE]
      unfold ckE
      rw [if_neg hg, if_pos (by rw [hml]; exact h)]
    have HGood : Hid (okMs ms N → E = if g < gapsTo ms N then 6 else 0) := fun h => by
      rw [← hE]
      unfold ckE
      rw [if_neg hg, if_neg (by rw [hml]; exact fun hn => hn h), hml]
    clear hE hk hms hN hml hrows hg
    go_enter Tryz.func57, Tryz.ntmps57
    go_wp2
    go_loopw [5, 6] (fun v5 v6 wr => ∃ j : Nat, j ≤ N ∧ v5 = .int .i64 (gapsTo ms j) ∧ v6 = .int .i64 (j : Int) ∧ Hid (okMs ms j) ∧ Hid (Below w.heap.size w wr)) (fun _ v6 _ => N - (intOf v6).toNat)
    case atStart => exact ⟨0, Nat.zero_le _, by simp [gapsTo], rfl, fun i hi => absurd hi (by omega), Below.refl _ _⟩
    case round =>
      obtain ⟨j, hj, rfl, rfl, HOk, HB⟩ := hrel
      by_cases hjl : j < N
      · obtain ⟨b, off, pA, pc, rfl, hb, ⟨c0, c1, c2, c3⟩, hl1, hl2, hrd⟩ := HR.out j hjl
        have x0 := (HB.out.cell (p := ⟨b, off + j * 4, none⟩) hb).trans c0
        have x1 := (HB.out.cell (p := ⟨b, off + j * 4 + 1, none⟩) hb).trans c1
        have x2 := (HB.out.cell (p := ⟨b, off + j * 4 + 2, none⟩) hb).trans c2
        have x3 := (HB.out.cell (p := ⟨b, off + j * 4 + 3, none⟩) hb).trans c3
        have HRt : Hid (∀ W, Below w.heap.size w W → Calls Tryz.prog 85 #[.agg #[.int .i64 (mrAt ms j).o, .int .i64 (mrAt ms j).e, .int .i64 (mrAt ms j).up, .slice pA (mrAt ms j).more.length pc]] W fun e w' => e = .returned (.bool (rgtM (mrAt ms j))) ∧ Hid (Below W.heap.size W w')) := fun W hW => Right_any (mrAt ms j) pA pc W ((hrd.below hW).more hW.size) ⟨hl1, hl2⟩
        have t1 : (j : Int) < (N : Int) := by omega
        have t2 : ¬ ((N : Int) ≤ (j : Int)) := by omega
        have HBd := Lib.hid HB.out
        by_cases hR : rgtM (mrAt ms j) = true
        · have hM6 := rgt_len hR
          have hG := gapsTo_le (ms := ms) j HOk.out
          have hG2 := hG.2 (by have := HMl.out; omega)
          have hcap2 := HCap.out
          have hGs := gapsTo_succ (ms := ms) (j := j) (by have := HMl.out; omega)
          have HStep : Hid ((0 < j → ¬ late (mrAt ms (j - 1)) (mrAt ms j)) → okMs ms (j + 1)) := fun h i hi => by
            by_cases e : i = j
            · subst e; exact ⟨hR, h⟩
            · exact HOk.out i (by omega)
          have HLate : Hid (0 < j → late (mrAt ms (j - 1)) (mrAt ms j) → E = 2) := fun h1 h2 => HBad.out fun h => (h j hjl).2 h1 h2
          have HPrev : Hid (0 < j → ∀ W, Below w.heap.size w W → W.cell? ⟨b, off + (j - 1) * 4, none⟩ = some (.int .i64 (mrAt ms (j - 1)).o) ∧ W.cell? ⟨b, off + (j - 1) * 4 + 1, none⟩ = some (.int .i64 (mrAt ms (j - 1)).e)) := fun h0 W hW => by
            obtain ⟨b', off', pA', pc', e1, hb', ⟨k0, k1, _, _⟩, _⟩ := HR.out (j - 1) (by omega)
            cases e1
            exact ⟨(hW.cell hb').trans k0, (hW.cell hb').trans k1⟩
          have HCur : Hid (∀ W, Below w.heap.size w W → W.cell? ⟨b, off + j * 4, none⟩ = some (.int .i64 (mrAt ms j).o) ∧ W.cell? ⟨b, off + j * 4 + 1, none⟩ = some (.int .i64 (mrAt ms j).e) ∧ W.cell? ⟨b, off + j * 4 + 3, none⟩ = some (.slice pA (mrAt ms j).more.length pc)) := fun W hW => ⟨(hW.cell hb).trans c0, (hW.cell hb).trans c1, (hW.cell hb).trans c3⟩
          rw [hR] at HRt
          obtain ⟨⟨o, e, u, ml⟩, hm⟩ : ∃ m : Mr, mrAt ms j = m := ⟨_, rfl⟩
          rw [hm] at HRt x0 x1 x2 x3 hM6 hGs HStep HLate HCur
          simp only at HRt x0 x1 x2 x3 hM6 hGs HCur
          obtain ⟨M, hMl⟩ : ∃ M, ml.length = M := ⟨_, rfl⟩
          rw [hMl] at HRt x3 hM6 hGs HCur
          obtain ⟨G, hGe⟩ : ∃ G, gapsTo ms j = G := ⟨_, rfl⟩
          rw [hGe] at hG hG2 hGs ⊢
          have HGs := Lib.hid hGs
          have q1 : 0 ≤ G := hG.1
          have q2 : G ≤ 200000000000000000 := by omega
          have q3 : M ≤ 65536 := by omega
          have q4 : j ≤ 3000000000000 := by omega
          clear hG hG2 hGs hGe hMl hm c0 c1 c2 c3 hrd hl1 hl2 hb hR hcap2 HOk
          rcases Nat.eq_zero_or_pos j with h3 | h3
          · have HE := Lib.hid (HStep.out (fun h => absurd h (by omega)))
            subst h3
            simp only [Nat.zero_mul, Nat.add_zero] at x0 x1 x2 x3 HCur
            have u1 : (0 : Int) < (N : Int) := by omega
            have u2 : ¬ ((N : Int) ≤ 0) := by omega
            go_wp2_with (go_at_call 85; refine (HRt.out _ HB.out).mono ?_; rintro e' w4 ⟨rfl, hb4⟩; have hb4' := Lib.hid (HB.out.trans (hb4.out.mono HB.out.size)))
            go_quiet (fail)
            have hbn := Lib.hid (Me.below_drewN hb4'.out nq)
            obtain ⟨y0, y1, y3⟩ := HCur.out _ hbn.out
            go_wp2
            go_roundw
            case rel => exact ⟨1, hjl, by rw [HGs.out], by go_num, HE, hbn⟩
            case measure => simp [intOf]; omega
          · obtain ⟨⟨o', e', u', ml'⟩, hm'⟩ : ∃ m : Mr, mrAt ms (j - 1) = m := ⟨_, rfl⟩
            have HP := Lib.hid (HPrev.out h3)
            rw [hm'] at HP HStep HLate
            simp only at HP
            have t3 : (j : Int) - 1 < (N : Int) := by omega
            have t4 : ¬ ((N : Int) ≤ (j : Int) - 1) := by omega
            have t5 : j - 1 < N := by omega
            have t8 : (0 : Int) < (j : Int) := by omega
            have t9 : (0 : Int) ≤ (j : Int) - 1 := by omega
            have tA : ¬ ((j : Int) - 1 < 0) := by omega
            have tC : ((j : Int) - 1).toNat = j - 1 := by omega
            have d0 : decide ((0 : Int) < (j : Int)) = true := by simpa using t8
            clear hm' HPrev
            have HP4 : Hid (∀ W n, Below w.heap.size w W → (W.drewN n).cell? ⟨b, off + (j - 1) * 4, none⟩ = some (.int .i64 o') ∧ (W.drewN n).cell? ⟨b, off + (j - 1) * 4 + 1, none⟩ = some (.int .i64 e')) := fun W n hW => HP.out _ (Me.below_drewN hW n)
            by_cases k1 : o < o'
            · have HE : Hid (E = 2) := HLate.out h3 (.inl k1)
              have d1 : decide (o < o') = true := by simpa using k1
              go_wp2_with (go_at_call 85; refine (HRt.out _ HB.out).mono ?_; rintro e'' w4 ⟨rfl, hb4⟩; have hb4' := Lib.hid (HB.out.trans (hb4.out.mono HB.out.size)); obtain ⟨y0, y1, y3⟩ := HCur.out _ hb4'.out; obtain ⟨y4, y5⟩ := HP.out _ hb4'.out)
              go_quiet (fail)
              go_wp2
              go_ret
              exact ⟨by rw [HE.out]; rfl, Me.below_drewN hb4'.out _⟩
            · have d1 : decide (o < o') = false := by simpa using k1
              by_cases k2 : o = o'
              · have d2 : (o == o') = true := by simpa using k2
                by_cases k3 : e ≤ e'
                · have HE : Hid (E = 2) := HLate.out h3 (.inr ⟨k2, k3⟩)
                  have d3 : decide (e ≤ e') = true := by simpa using k3
                  clear k2
                  go_wp2_with (go_at_call 85; refine (HRt.out _ HB.out).mono ?_; rintro e'' w4 ⟨rfl, hb4⟩; have hb4' := Lib.hid (HB.out.trans (hb4.out.mono HB.out.size)); obtain ⟨y0, y1, y3⟩ := HCur.out _ hb4'.out; obtain ⟨y4, y5⟩ := HP.out _ hb4'.out)
                  go_quiet (fail)
                  go_wp2
                  go_ret
                  exact ⟨by rw [HE.out]; rfl, Me.below_drewN hb4'.out _⟩
                · have HE := Lib.hid (HStep.out (fun _ h => by rcases h with h | h; exact k1 h; exact k3 h.2))
                  have d3 : decide (e ≤ e') = false := by simpa using k3
                  clear k2
                  go_wp2_with (go_at_call 85; refine (HRt.out _ HB.out).mono ?_; rintro e'' w4 ⟨rfl, hb4⟩; have hb4' := Lib.hid (HB.out.trans (hb4.out.mono HB.out.size)); obtain ⟨y0, y1, y3⟩ := HCur.out _ hb4'.out; obtain ⟨y4, y5⟩ := HP.out _ hb4'.out)
                  go_quiet (fail)
                  have hbn := Lib.hid (Me.below_drewN hb4'.out nq)
                  obtain ⟨z0, z1, z3⟩ := HCur.out _ hbn.out
                  go_wp2
                  go_roundw
                  case rel => exact ⟨j + 1, hjl, by rw [HGs.out], by go_num, HE, hbn⟩
                  case measure => simp [intOf]; omega
              · have HE := Lib.hid (HStep.out (fun _ h => by rcases h with h | h; exact k1 h; exact k2 h.1))
                have d2 : (o == o') = false := by simpa using k2
                go_wp2_with (go_at_call 85; refine (HRt.out _ HB.out).mono ?_; rintro e'' w4 ⟨rfl, hb4⟩; have hb4' := Lib.hid (HB.out.trans (hb4.out.mono HB.out.size)); obtain ⟨y0, y1, y3⟩ := HCur.out _ hb4'.out; obtain ⟨y4, y5⟩ := HP.out _ hb4'.out)
                go_quiet (fail)
                have hbn := Lib.hid (Me.below_drewN hb4'.out nq)
                obtain ⟨z0, z1, z3⟩ := HCur.out _ hbn.out
                go_wp2
                go_roundw
                case rel => exact ⟨j + 1, hjl, by rw [HGs.out], by go_num, HE, hbn⟩
                case measure => simp [intOf]; omega
        · have HE : Hid (E = 2) := HBad.out fun h => hR (h j hjl).1
          have hRf : rgtM (mrAt ms j) = false := by simpa using hR
          rw [hRf] at HRt
          obtain ⟨⟨o, e, u, ml⟩, hm⟩ : ∃ m : Mr, mrAt ms j = m := ⟨_, rfl⟩
          rw [hm] at HRt x0 x1 x2 x3
          simp only at HRt x0 x1 x2 x3
          clear c0 c1 c2 c3 hm hRf hR
          go_wp2_with (go_at_call 85; refine (HRt.out _ HB.out).mono ?_; rintro e' w4 ⟨rfl, hb4⟩)
          go_ret
          exact ⟨by rw [HE.out]; rfl, HB.out.trans (hb4.out.mono HB.out.size)⟩
      · obtain rfl : j = N := by omega
        have t1 : ¬ (j : Int) < (j : Int) := by omega
        have HE := Lib.hid (HGood.out HOk.out)
        by_cases hs : g < gapsTo ms j
        · have HE2 : Hid (E = 6) := by show _ = _; rw [HE.out, if_pos hs]
          go_wp2
          go_ret
          exact ⟨by rw [HE2.out]; rfl, HB.out⟩
        · have HE2 : Hid (E = 0) := by show _ = _; rw [HE.out, if_neg hs]
          go_wp2
          go_ret
          exact ⟨by rw [HE2.out]; rfl, HB.out⟩
end Go.Proofs.YtfnlhfelpdkieaaGreat.Se
/- The program's inOrder. -/
namespace Go.Proofs.YtfnlhfelpdkieaaGreat.Se
open Go.RowKit Go.Sort
open Go.Proofs.YtfnlhfelpdkieaaGreat.Me Go.Proofs.YtfnlhfelpdkieaaGreat.Sb
set_option linter.unusedVariables false
set_option linter.unusedSimpArgs false

theorem compare_below (a b : Int × Int) (W : World) : Calls Tryz.prog 75 #[.agg #[.int .i64 a.1, .int .i64 a.2], .agg #[.int .i64 b.1, .int .i64 b.2]] W fun e w' => e = .returned (.int .i64 (cfP a b)) ∧ Hid (Below W.heap.size W w') := by
  refine (compare_any a b W).mono ?_
  rintro e w' ⟨rfl, q, os', rfl⟩
  refine ⟨rfl, rfl, rfl, rfl, by simp [grow, World.drewN], fun k hk => ?_⟩
  show (W.heap ++ os')[k]? = _
  rw [Array.getElem?_append, if_pos hk]
/-- The place ahead of mark j. -/
def pvAt (ms : List Mr) (j : Nat) : Int × Int := if j = 0 then (0, 0) else ((mrAt ms (j - 1)).o, (mrAt ms (j - 1)).e)
theorem pv_succ (ms : List Mr) (j : Nat) : pvAt ms (j + 1) = ((mrAt ms j).o, (mrAt ms j).e) := by unfold pvAt; rw [if_neg (by omega), Nat.add_sub_cancel]
theorem pv_iff {ms : List Mr} {j : Nat} (h : rgtM (mrAt ms j) = true) : cfP (pvAt ms j) ((mrAt ms j).o, (mrAt ms j).e) < 0 ↔ (0 < j → ¬ late (mrAt ms (j - 1)) (mrAt ms j)) := by
  rw [cfP_neg]
  unfold rgtM at h
  rw [Bool.and_eq_true] at h
  have h1 := h.1
  unfold headB at h1
  rw [decide_eq_true_iff] at h1
  unfold ltP pvAt late
  by_cases hj : j = 0
  · rw [if_pos hj]
    simp only
    constructor
    · intro _ h0; omega
    · intro _; omega
  · rw [if_neg hj]
    simp only
    constructor
    · intro h2 _; omega
    · intro h2
      have := h2 (by omega)
      omega
set_option maxRecDepth 100000 in
set_option maxHeartbeats 8000000 in
theorem inOrder_any (A : Option Addr) (n c : Nat) (P : List Pm) (ms : List Mr) (w : World) (hv : Hid (Mv w (.slice A n c) P)) (hms : Hid (P.map Pm.m = ms)) (hN0 : P.length ≤ 3000000000000) : Calls Tryz.prog 80 #[.slice A n c] w fun e w' => ∃ B : Bool, e = .returned (.bool B) ∧ Hid (B = true ↔ okMs ms ms.length) ∧ Hid (Below w.heap.size w w') := by
  obtain ⟨A0, c0, e0, hc1, hc2, hrows⟩ := hv.out
  injection e0 with e1 e2 e3
  subst e1 e2 e3
  obtain ⟨N, hN⟩ : ∃ N, P.length = N := ⟨_, rfl⟩
  have hml : ms.length = N := by rw [← hms.out, ← hN]; simp
  rw [hN] at hc1 hN0 ⊢
  have HR : Hid (∀ j, j < N → ∃ g' off pA pc, A = some ⟨g', off, none⟩ ∧ g' < w.heap.size ∧ (w.cell? ⟨g', off + j * 4, none⟩ = some (.int .i64 (mrAt ms j).o) ∧ w.cell? ⟨g', off + j * 4 + 1, none⟩ = some (.int .i64 (mrAt ms j).e) ∧ w.cell? ⟨g', off + j * 4 + 2, none⟩ = some (.int .i64 (mrAt ms j).up) ∧ w.cell? ⟨g', off + j * 4 + 3, none⟩ = some (.slice pA (mrAt ms j).more.length pc)) ∧ (mrAt ms j).more.length ≤ pc ∧ pc ≤ 9223372036854775807 ∧ Mi.Rd w w.heap.size pA (mrAt ms j).more) := fun j hj => by
    obtain ⟨p, hp⟩ : ∃ p, P[j]? = some p := ⟨_, List.getElem?_eq_getElem (by omega)⟩
    have e : mrAt ms j = p.m := by
      unfold mrAt
      rw [List.getD_eq_getElem?_getD, ← hms.out, List.getElem?_map, hp]; rfl
    obtain ⟨g', off, e1, e2, x, y1, y2, y3⟩ := hrows j p hp
    rw [e]
    exact ⟨g', off, p.A, p.c, e1, e2, x, y1, y2, y3⟩
  rw [hml]
  have HCmp := Lib.hid (fun a b W => compare_below a b W)
  have HB0 : Hid (Below w.heap.size w (w.alloc (.cells #[.int .i64 0, .int .i64 0] 128))) := Me.below_alloc (Below.refl _ _)
  have HX0 : Hid ((w.alloc (.cells #[.int .i64 0, .int .i64 0] 128)).heap[w.heap.size]? = some (.cells #[.int .i64 (pvAt ms 0).1, .int .i64 (pvAt ms 0).2] 128 (0, 0))) := heap_alloc_new w _
  obtain ⟨g3, hg3⟩ : ∃ g3, w.heap.size = g3 := ⟨_, rfl⟩
  have HG3 := Lib.hid hg3
  rw [hg3] at HX0
  clear hg3 hrows hml hN
  go_enter Tryz.func80, Tryz.ntmps80
  go_wp2
  rw [HG3.out]
  go_loopw [9] (fun v9 wr => ∃ j : Nat, j ≤ N ∧ v9 = .int .i64 (j : Int) ∧ Hid (okMs ms j) ∧ Hid (wr.heap[g3]? = some (.cells #[.int .i64 (pvAt ms j).1, .int .i64 (pvAt ms j).2] 128 (0, 0))) ∧ Hid (Below w.heap.size w wr)) (fun v9 _ => N - (intOf v9).toNat)
  case atStart => exact ⟨0, Nat.zero_le _, rfl, fun i hi => absurd hi (by omega), HX0.out, HB0.out⟩
  case round =>
    obtain ⟨j, hj, rfl, HOk, HX, HB⟩ := hrel
    by_cases hjl : j < N
    · obtain ⟨b, off, pA, pc, rfl, hb, ⟨c0, c1, c2, c3⟩, hl1, hl2, hrd⟩ := HR.out j hjl
      have x0 := (HB.out.cell (p := ⟨b, off + j * 4, none⟩) hb).trans c0
      have x1 := (HB.out.cell (p := ⟨b, off + j * 4 + 1, none⟩) hb).trans c1
      have x2 := (HB.out.cell (p := ⟨b, off + j * 4 + 2, none⟩) hb).trans c2
      have x3 := (HB.out.cell (p := ⟨b, off + j * 4 + 3, none⟩) hb).trans c3
      have HRt : Hid (∀ W, Below w.heap.size w W → Calls Tryz.prog 104 #[.agg #[.int .i64 (mrAt ms j).o, .int .i64 (mrAt ms j).e, .int .i64 (mrAt ms j).up, .slice pA (mrAt ms j).more.length pc]] W fun e w' => e = .returned (.bool (rgtM (mrAt ms j))) ∧ Hid (Below W.heap.size W w')) := fun W hW => isRight_any (mrAt ms j) pA pc W ((hrd.below hW).more hW.size) ⟨hl1, hl2⟩
      have hpv := fun h => pv_iff (ms := ms) (j := j) h
      have HNx := pv_succ ms j
      have HBadR : Hid (rgtM (mrAt ms j) = false → ¬ okMs ms N) := fun h h2 => by rw [(h2 j hjl).1] at h; cases h
      have HBadL : Hid (rgtM (mrAt ms j) = true → ¬ cfP (pvAt ms j) ((mrAt ms j).o, (mrAt ms j).e) < 0 → ¬ okMs ms N) := fun h h1 h2 => h1 ((hpv h).2 (h2 j hjl).2)
      have HStep : Hid (rgtM (mrAt ms j) = true → cfP (pvAt ms j) ((mrAt ms j).o, (mrAt ms j).e) < 0 → okMs ms (j + 1)) := fun h h1 i hi => by
        by_cases e : i = j
        · subst e; exact ⟨h, (hpv h).1 h1⟩
        · exact HOk.out i (by omega)
      obtain ⟨RB, hRB⟩ : ∃ RB, rgtM (mrAt ms j) = RB := ⟨_, rfl⟩
      rw [hRB] at HRt HBadR HBadL HStep
      clear hpv hRB
      obtain ⟨⟨o, e, u, ml⟩, hm⟩ : ∃ m : Mr, mrAt ms j = m := ⟨_, rfl⟩
      rw [hm] at HRt x0 x1 x2 x3 HBadL HStep HNx
      simp only at HRt x0 x1 x2 x3 HBadL HStep HNx
      obtain ⟨M, hMl⟩ : ∃ M, ml.length = M := ⟨_, rfl⟩
      rw [hMl] at HRt x3
      obtain ⟨V2, hV2⟩ : ∃ V, (wr.alloc (.cells #[.int .i64 o, .int .i64 e, .int .i64 u, .slice pA M pc] 112)).alloc (.cells #[.int .i64 o, .int .i64 e] 128) = V := ⟨_, rfl⟩
      have hb2 : Below wr.heap.size wr V2 := by rw [← hV2]; exact Me.below_alloc (Me.below_alloc (Below.refl _ _))
      have hx6 : V2.heap[wr.heap.size + 1]? = some (.cells #[.int .i64 o, .int .i64 e] 128 (0, 0)) := by
        rw [← hV2]
        have := heap_alloc_new (wr.alloc (.cells #[.int .i64 o, .int .i64 e, .int .i64 u, .slice pA M pc] 112)) (.cells #[.int .i64 o, .int .i64 e] 128)
        rw [World.size_alloc] at this
        exact this
      have hgl : g3 < wr.heap.size := (Array.getElem?_eq_some_iff.1 HX.out).1
      have hx3 : V2.heap[g3]? = some (.cells #[.int .i64 (pvAt ms j).1, .int .i64 (pvAt ms j).2] 128 (0, 0)) := (hb2.block _ hgl).trans HX.out
      obtain ⟨⟨po, pe⟩, hpp⟩ : ∃ pp, pvAt ms j = pp := ⟨_, rfl⟩
      rw [hpp] at hx3 HBadL HStep
      simp only at hx3
      have HV2 := Lib.hid hV2
      have HB2 : Hid (Below w.heap.size w V2) := go_on HB.out hb2
      have HX6 := Lib.hid hx6
      have HX3 := Lib.hid hx3
      have HL : Hid (wr.heap.size + 1 < V2.heap.size ∧ g3 < V2.heap.size) := ⟨(Array.getElem?_eq_some_iff.1 hx6).1, (Array.getElem?_eq_some_iff.1 hx3).1⟩
      have HNx2 := Lib.hid HNx
      have t1 : (j : Int) < (N : Int) := by omega
      have t2 : ¬ ((N : Int) ≤ (j : Int)) := by omega
      obtain ⟨cf, hcf⟩ : ∃ cf, cfP (po, pe) (o, e) = cf := ⟨_, rfl⟩
      have HCp : Hid (∀ W, Calls Tryz.prog 75 #[.agg #[.int .i64 po, .int .i64 pe], .agg #[.int .i64 o, .int .i64 e]] W fun e' w' => e' = .returned (.int .i64 cf) ∧ Hid (Below W.heap.size W w')) := fun W => by
        have := HCmp.out (po, pe) (o, e) W
        rw [hcf] at this
        exact this
      rw [hcf] at HBadL HStep
      clear hV2 hb2 hx6 hx3 hpp hcf c0 c1 c2 c3 hl1 hl2 hrd hb hm hMl HNx hgl
      cases RB with
      | false =>
        have HE := Lib.hid (HBadR.out rfl)
        go_wp2_with (go_at_call 104; rw [HV2.out]; refine (HRt.out V2 HB2.out).mono ?_; rintro e' w7 ⟨rfl, hb7⟩)
        go_ret
        exact ⟨false, rfl, ⟨fun h => (by cases h), fun h => absurd h HE.out⟩, go_on HB2.out hb7.out⟩
      | true =>
        by_cases hcf : cf < 0
        · have HE := Lib.hid (HStep.out rfl hcf)
          have d1 : decide (0 ≤ cf) = false := by simpa using hcf
          have d2 : ¬ 0 ≤ cf := by omega
          go_wp2_with (first
            | (go_at_call 104; rw [HV2.out]; refine (HRt.out V2 HB2.out).mono ?_; rintro e' w7 ⟨rfl, hb7⟩; have q3 := (hb7.out.block _ HL.out.2).trans HX3.out; have q6 := (hb7.out.block _ HL.out.1).trans HX6.out; have y0 := cell_of_row w7 g3 0 _ _ (0, 0) q3; have y1 := cell_of_row w7 g3 1 _ _ (0, 0) q3; have y2 := cell_of_row w7 (wr.heap.size + 1) 0 _ _ (0, 0) q6; have y3 := cell_of_row w7 (wr.heap.size + 1) 1 _ _ (0, 0) q6; simp at y0 y1 y2 y3; clear q3 q6)
            | (go_at_call 75; refine (HCp.out w7).mono ?_; rintro e' w8 ⟨rfl, hb8⟩; have hb28 := Lib.hid (go_on hb7.out hb8.out); have q3 := (hb28.out.block _ HL.out.2).trans HX3.out; have q6 := (hb28.out.block _ HL.out.1).trans HX6.out; have z2 := cell_of_row w8 (wr.heap.size + 1) 0 _ _ (0, 0) q6; have z3 := cell_of_row w8 (wr.heap.size + 1) 1 _ _ (0, 0) q6; simp at z2 z3; have Q3 := Lib.hid q3; clear q3 q6)
            | (refine wpList_store_row rfl 128 (.tmp 3) (.tmp 27) rfl g3 #[.int .i64 o, .int .i64 e] rfl rfl 128 _ Q3.out (by kernel_rfl) rfl (by simp [Value.oneCell']) ?_; obtain ⟨V, hV⟩ : ∃ V, w8.setRow g3 #[.int .i64 o, .int .i64 e] = V := ⟨_, rfl⟩; have hx9 : V.heap[g3]? = some (.cells #[.int .i64 o, .int .i64 e] 128 (0, 0)) := (by rw [← hV]; exact setRow_heap _ _ _ _ _ _ Q3.out); have hb9 : Below w.heap.size w V := (by rw [← hV]; exact Sb.below_setRow _ (go_on HB2.out hb28.out) (by rw [HG3.out]; exact Nat.le_refl _)); rw [hV]; have HX9 := Lib.hid hx9; have HB9 := Lib.hid hb9; clear hV hx9 hb9))
          go_roundw
          case rel => exact ⟨j + 1, hjl, by go_num, HE, (by rw [HNx2.out]; exact HX9.out), HB9⟩
          case measure => simp [intOf]; omega
        · have HE := Lib.hid (HBadL.out rfl hcf)
          have d1 : decide (0 ≤ cf) = true := by simp; omega
          have d2 : 0 ≤ cf := by omega
          go_wp2_with (first
            | (go_at_call 104; rw [HV2.out]; refine (HRt.out V2 HB2.out).mono ?_; rintro e' w7 ⟨rfl, hb7⟩; have q3 := (hb7.out.block _ HL.out.2).trans HX3.out; have q6 := (hb7.out.block _ HL.out.1).trans HX6.out; have y0 := cell_of_row w7 g3 0 _ _ (0, 0) q3; have y1 := cell_of_row w7 g3 1 _ _ (0, 0) q3; have y2 := cell_of_row w7 (wr.heap.size + 1) 0 _ _ (0, 0) q6; have y3 := cell_of_row w7 (wr.heap.size + 1) 1 _ _ (0, 0) q6; simp at y0 y1 y2 y3; clear q3 q6)
            | (go_at_call 75; refine (HCp.out w7).mono ?_; rintro e' w8 ⟨rfl, hb8⟩))
          go_ret
          exact ⟨false, rfl, ⟨fun h => (by cases h), fun h => absurd h HE.out⟩, go_on (go_on HB2.out hb7.out) hb8.out⟩
    · obtain rfl : j = N := by omega
      have t1 : ¬ (j : Int) < (j : Int) := by omega
      go_wp2
      go_ret
      exact .inr ⟨rfl, HB.out⟩
end Go.Proofs.YtfnlhfelpdkieaaGreat.Se
/- The set of marks: pure. -/
namespace Go.Proofs.YtfnlhfelpdkieaaGreat.Se
open Go.RowKit
set_option linter.unusedVariables false
set_option linter.unusedSimpArgs false

/-- What the first j marks put into the map. -/
def keptTo (ms : List Mr) : Nat → Int → Int → Option Mk
  | 0 => fun _ _ => none
  | j + 1 => setM (keptTo ms j) (mrAt ms j).o (mrAt ms j).e ⟨(mrAt ms j).up, (mrAt ms j).more⟩
def codeM (m : Mr) : Int := m.o * 65536 + m.e
theorem rgt_head {m : Mr} (h : rgtM m = true) : 0 ≤ m.o ∧ m.o < 64 ∧ 1 ≤ m.e ∧ m.e ≤ 65535 ∧ 0 ≤ m.up ∧ m.up ≤ 65535 ∧ ¬ (m.up = 0 ∧ m.more.length = 0) := by
  unfold rgtM at h
  rw [Bool.and_eq_true] at h
  have h1 := h.1
  unfold headB at h1
  rwa [decide_eq_true_iff] at h1
theorem rgt_pp {m : Mr} (h : rgtM m = true) : Pp m.o m.e := by
  obtain ⟨h1, h2, h3, h4, _⟩ := rgt_head h
  exact ⟨h1, by omega, h3, h4⟩
theorem rises_fit : ∀ (l : List Int) (a : Int), risesB a l = true → l.Pairwise (· < ·) ∧ ∀ x ∈ l, a ≤ x ∧ x ≤ 65535
  | [], a, _ => ⟨List.Pairwise.nil, fun x hx => by simp at hx⟩
  | x :: r, a, h => by
    unfold risesB at h
    by_cases hx : x < a ∨ 65535 < x
    · rw [if_pos hx] at h; cases h
    · rw [if_neg hx] at h
      obtain ⟨h1, h2⟩ := rises_fit r (x + 1) h
      refine ⟨List.pairwise_cons.2 ⟨fun y hy => by have := (h2 y hy).1; omega, h1⟩, fun y hy => ?_⟩
      rcases List.mem_cons.1 hy with rfl | hy
      · omega
      · have := h2 y hy; omega
theorem rgt_ok {m : Mr} (h : rgtM m = true) : Ok ⟨m.up, m.more⟩ := by
  obtain ⟨_, _, _, _, h5, h6, _⟩ := rgt_head h
  unfold rgtM at h
  rw [Bool.and_eq_true] at h
  obtain ⟨h1, h2⟩ := rises_fit _ _ h.2
  exact ⟨h5, h6, h1, h2⟩
theorem code_up {ms : List Mr} {j : Nat} (h : okMs ms j) : ∀ i, i < j → (i : Int) + 1 ≤ codeM (mrAt ms i) ∧ ∀ k, k < i → codeM (mrAt ms k) < codeM (mrAt ms i)
  | 0, hi => by
    obtain ⟨h1, h2, h3, h4, _⟩ := rgt_head (h 0 hi).1
    refine ⟨by unfold codeM; omega, fun k hk => by omega⟩
  | i + 1, hi => by
    obtain ⟨h1, h2⟩ := code_up h i (by omega)
    have h3 := (h (i + 1) hi).2 (by omega)
    rw [Nat.add_sub_cancel] at h3
    obtain ⟨a1, a2, a3, a4, _⟩ := rgt_head (h i (by omega)).1
    obtain ⟨b1, b2, b3, b4, _⟩ := rgt_head (h (i + 1) hi).1
    have hlt : codeM (mrAt ms i) < codeM (mrAt ms (i + 1)) := by
      unfold late at h3
      unfold codeM
      by_cases he : (mrAt ms i).o = (mrAt ms (i + 1)).o
      · have : (mrAt ms i).e < (mrAt ms (i + 1)).e := by omega
        rw [he]; omega
      · have : (mrAt ms i).o < (mrAt ms (i + 1)).o := by omega
        omega
    refine ⟨by push_cast; omega, fun k hk => ?_⟩
    by_cases e : k = i
    · subst e; exact hlt
    · have := h2 k (by omega); omega
theorem okMs_len {ms : List Mr} {j : Nat} (h : okMs ms j) : j ≤ 4194304 := by
  cases j with
  | zero => omega
  | succ i =>
    have h1 := (code_up h i (by omega)).1
    obtain ⟨a1, a2, a3, a4, _⟩ := rgt_head (h i (by omega)).1
    unfold codeM at h1
    omega
theorem okMs_le {ms : List Mr} {j k : Nat} (h : okMs ms j) (hk : k ≤ j) : okMs ms k := fun i hi => h i (by omega)
/-- Which places are there. -/
theorem keptTo_some {ms : List Mr} : ∀ (j : Nat) (o e : Int), keptTo ms j o e ≠ none ↔ ∃ i, i < j ∧ (mrAt ms i).o = o ∧ (mrAt ms i).e = e
  | 0, o, e => by simp [keptTo]
  | j + 1, o, e => by
    unfold keptTo setM
    by_cases hp : o = (mrAt ms j).o ∧ e = (mrAt ms j).e
    · rw [if_pos hp]
      constructor
      · intro _; exact ⟨j, by omega, hp.1.symm, hp.2.symm⟩
      · intro _; simp
    · rw [if_neg hp, keptTo_some j o e]
      constructor
      · rintro ⟨i, h1, h2⟩; exact ⟨i, by omega, h2⟩
      · rintro ⟨i, h1, h2, h3⟩
        by_cases e : i = j
        · subst e; exact absurd ⟨h2.symm, h3.symm⟩ hp
        · exact ⟨i, by omega, h2, h3⟩
theorem keptTo_mk {ms : List Mr} {j : Nat} (h : okMs ms j) : ∀ k, k ≤ j → ∀ (o e : Int) (m : Mk), keptTo ms k o e = some m → Pp o e ∧ Ok m
  | 0, _, o, e, m, hm => by simp [keptTo] at hm
  | k + 1, hk, o, e, m, hm => by
    unfold keptTo setM at hm
    split at hm
    · rename_i hp
      cases hm
      rw [hp.1, hp.2]
      have := (h k (by omega)).1
      exact ⟨rgt_pp this, rgt_ok this⟩
    · exact keptTo_mk h k (by omega) o e m hm
/-- The places of the first j marks. -/
def plTo (ms : List Mr) : Nat → List (Int × Int)
  | 0 => []
  | j + 1 => ((mrAt ms j).o, (mrAt ms j).e) :: plTo ms j
theorem plTo_mem {ms : List Mr} : ∀ (j : Nat) (o e : Int), (o, e) ∈ plTo ms j ↔ ∃ i, i < j ∧ (mrAt ms i).o = o ∧ (mrAt ms i).e = e
  | 0, o, e => by simp [plTo]
  | j + 1, o, e => by
    unfold plTo
    rw [List.mem_cons, plTo_mem j o e]
    constructor
    · rintro (h | ⟨i, h1, h2⟩)
      · cases h; exact ⟨j, by omega, rfl, rfl⟩
      · exact ⟨i, by omega, h2⟩
    · rintro ⟨i, h1, h2, h3⟩
      by_cases e : i = j
      · subst e; left; rw [← h2, ← h3]
      · right; exact ⟨i, by omega, h2, h3⟩
theorem new_place {ms : List Mr} {j k : Nat} (h : okMs ms j) (hk : k < j) : ((mrAt ms k).o, (mrAt ms k).e) ∉ plTo ms k := by
  rw [plTo_mem]
  rintro ⟨i, h1, h2, h3⟩
  have := (code_up h k hk).2 i h1
  unfold codeM at this
  rw [h2, h3] at this
  omega
theorem plTo_nodup {ms : List Mr} {j : Nat} (h : okMs ms j) : ∀ k, k ≤ j → (plTo ms k).Nodup
  | 0, _ => List.nodup_nil
  | k + 1, hk => by
    unfold plTo
    exact List.nodup_cons.2 ⟨new_place h (by omega), plTo_nodup h k (by omega)⟩
theorem total_to {ms : List Mr} {j : Nat} (h : okMs ms j) (hj : j ≤ ms.length) : ∀ k, k ≤ j → total (keptTo ms k) (plTo ms k) = gapsTo ms k
  | 0, _ => by simp [total, plTo, gapsTo]
  | k + 1, hk => by
    have h1 := total_to h hj k (by omega)
    have hn := new_place h (show k < j by omega)
    rw [gapsTo_succ (by omega)]
    have ek : keptTo ms (k + 1) = setM (keptTo ms k) (mrAt ms k).o (mrAt ms k).e ⟨(mrAt ms k).up, (mrAt ms k).more⟩ := rfl
    have e1 : total (keptTo ms (k + 1)) (plTo ms (k + 1)) = ((mrAt ms k).more.length : Int) + total (keptTo ms (k + 1)) (plTo ms k) := by
      rw [ek]
      show total _ (((mrAt ms k).o, (mrAt ms k).e) :: plTo ms k) = _
      unfold total
      simp only [List.map_cons, List.sum_cons]
      rw [get_set]
    have e2 : total (keptTo ms (k + 1)) (plTo ms k) = total (keptTo ms k) (plTo ms k) := by
      rw [ek]
      exact total_other _ _ _ _ _ hn
    rw [e1, e2, h1]
    omega
theorem okk_from {g : Int} {ms : List Mr} (h0 : 0 ≤ g) (h1 : g ≤ 256) (h : okMs ms ms.length) (hg : gapsTo ms ms.length ≤ g) : Okk ⟨g, gapsTo ms ms.length, keptTo ms ms.length⟩ :=
  ⟨h0, h1, fun o e m hm => keptTo_mk h _ (Nat.le_refl _) o e m hm, hg, plTo ms ms.length, plTo_nodup h _ (Nat.le_refl _), fun o e => by rw [plTo_mem]; exact keptTo_some _ o e, (total_to h (Nat.le_refl _) _ (Nat.le_refl _)).symm⟩
end Go.Proofs.YtfnlhfelpdkieaaGreat.Se
/- The marks of the set of marks are these: pure. -/
namespace Go.Proofs.YtfnlhfelpdkieaaGreat.Se
open Go.RowKit
set_option linter.unusedVariables false
set_option linter.unusedSimpArgs false

theorem keptTo_at {ms : List Mr} {n : Nat} (h : okMs ms n) : ∀ j, j ≤ n → ∀ i, i < j → keptTo ms j (mrAt ms i).o (mrAt ms i).e = some ⟨(mrAt ms i).up, (mrAt ms i).more⟩
  | 0, _, i, hi => by omega
  | j + 1, hj, i, hi => by
    unfold keptTo setM
    by_cases e : i = j
    · subst e
      rw [if_pos ⟨rfl, rfl⟩]
    · have hlt := (code_up h j (by omega)).2 i (by omega)
      rw [if_neg (fun hp => by unfold codeM at hlt; rw [hp.1, hp.2] at hlt; omega)]
      exact keptTo_at h j (by omega) i (by omega)
theorem code_lt {a b : Mr} (ha : rgtM a = true) (hb : rgtM b = true) (h : codeM a < codeM b) : ltP (a.o, a.e) (b.o, b.e) := by
  obtain ⟨a1, a2, a3, a4, _⟩ := rgt_head ha
  obtain ⟨b1, b2, b3, b4, _⟩ := rgt_head hb
  unfold codeM at h
  unfold ltP
  show a.o < b.o ∨ a.o = b.o ∧ a.e < b.e
  omega
theorem mrAt_get {ms : List Mr} {i : Nat} (h : i < ms.length) : mrAt ms i = ms[i] := by
  unfold mrAt
  rw [List.getD_eq_getElem?_getD, List.getElem?_eq_getElem h]; rfl
theorem ord_from {ms : List Mr} (h : okMs ms ms.length) {n : Nat} {L : Pls} (ho : Ord (keptTo ms ms.length) n L) : L.map (mrOf (keptTo ms ms.length)) = ms := by
  have hL : L = ms.map fun m => (m.o, m.e) := by
    refine plP_eq _ _ ho.srt ?_ fun x => ?_
    · rw [List.pairwise_map, List.pairwise_iff_getElem]
      intro i j hi hj hij
      have hlt := (code_up h j hj).2 i hij
      rw [mrAt_get hi, mrAt_get hj] at hlt
      have r1 := (h i hi).1
      have r2 := (h j hj).1
      rw [mrAt_get hi] at r1
      rw [mrAt_get hj] at r2
      exact code_lt r1 r2 hlt
    · constructor
      · intro hx
        obtain ⟨i, hi, h1, h2⟩ := (keptTo_some _ x.1 x.2).1 (ho.all x hx).2
        rw [mrAt_get hi] at h1 h2
        exact List.mem_map.2 ⟨ms[i], List.getElem_mem hi, Prod.ext h1 h2⟩
      · intro hx
        obtain ⟨m, hm, rfl⟩ := List.mem_map.1 hx
        obtain ⟨i, hi, rfl⟩ := List.getElem_of_mem hm
        have hr := (h i hi).1
        rw [mrAt_get hi] at hr
        exact ho.fin _ (rgt_pp hr) ((keptTo_some _ _ _).2 ⟨i, hi, by rw [mrAt_get hi], by rw [mrAt_get hi]⟩)
  rw [hL, List.map_map]
  conv => rhs; rw [← List.map_id ms]
  refine List.map_congr_left fun m hm => ?_
  obtain ⟨i, hi, rfl⟩ := List.getElem_of_mem hm
  have := keptTo_at h ms.length (Nat.le_refl _) i hi
  rw [mrAt_get hi] at this
  simp only [Function.comp, mrOf, getM, this, Option.getD_some, id]
end Go.Proofs.YtfnlhfelpdkieaaGreat.Se
