/- The reference's Gaps and Next. -/
import Derived.Test.YtfnlhfelpdkieaaGreatZ22
namespace Go.Proofs.YtfnlhfelpdkieaaGreat.Se
open Go.RowKit
open Go.Proofs.YtfnlhfelpdkieaaGreat.Me Go.Proofs.YtfnlhfelpdkieaaGreat.Sb
set_option linter.unusedVariables false
set_option linter.unusedSimpArgs false

/-- How many stand behind gaps. -/
def gapsL (ms : List Mr) : Int := (ms.map fun m => (m.more.length : Int)).sum
def nextL : List Mr → Int → Int → Int
  | [], _, _ => 1
  | m :: r, o, e => if m.o = o ∧ m.e = e then m.up + 1 else nextL r o e
theorem gapsL_snoc (ms : List Mr) (m : Mr) : gapsL (ms ++ [m]) = gapsL ms + m.more.length := by simp [gapsL]
theorem gapsL_bound {ms : List Mr} {n : Nat} (h : ∀ m ∈ ms, m.more.length ≤ n) : 0 ≤ gapsL ms ∧ gapsL ms ≤ ms.length * n := by
  induction ms with
  | nil => simp [gapsL]
  | cons m r ih =>
    obtain ⟨h1, h2⟩ := ih fun x hx => h x (by simp [hx])
    have h3 := h m (by simp)
    have e : gapsL (m :: r) = m.more.length + gapsL r := by simp [gapsL]
    rw [e]
    constructor
    · omega
    · rw [List.length_cons]
      push_cast
      rw [Int.add_mul]
      omega
theorem take_msP {P : List Pm} {j : Nat} {p : Pm} (h : P[j]? = some p) : (msP P).take (j + 1) = (msP P).take j ++ [p.m] := by
  have h2 : (msP P)[j]? = some p.m := by simp [msP, h]
  rw [List.take_add_one, h2]
  rfl
theorem drop_msP {P : List Pm} {j : Nat} {p : Pm} (h : P[j]? = some p) : (msP P).drop j = p.m :: (msP P).drop (j + 1) := by
  have h2 : (msP P)[j]? = some p.m := by simp [msP, h]
  obtain ⟨h3, h4⟩ := List.getElem?_eq_some_iff.1 h2
  rw [List.drop_eq_getElem_cons h3, h4]
set_option maxRecDepth 100000 in
set_option maxHeartbeats 8000000 in
theorem RGaps_any (Q : Nat → Prop) (room : Int) (v : Value) (L : Ks) (w : World) (hv : Hid (Kv Q w v L)) (hL : L.length ≤ 900) : Calls Tryz.prog 91 #[.agg #[.int .i64 room, v]] w fun e w' => e = .returned (.int .i64 (gapsL (marksL L))) ∧ Hid (Below w.heap.size w w') := by
  obtain ⟨W1, hW1⟩ : ∃ W, w.alloc (.cells #[.int .i64 room, v] 35) = W := ⟨_, rfl⟩
  have b1 : Below w.heap.size w W1 := by rw [← hW1]; exact Me.below_alloc (Below.refl _ _)
  have r1 : W1.heap[w.heap.size]? = some (.cells #[.int .i64 room, v] 35 (0, 0)) := by rw [← hW1]; exact heap_alloc_new w _
  have c0 := cell_of_row W1 w.heap.size 0 _ _ (0, 0) r1
  have c1 := cell_of_row W1 w.heap.size 1 _ _ (0, 0) r1
  simp at c0 c1
  have HMk := Lib.hid (RMarks_any Q room v L W1 (hv.out.below b1) hL)
  have HW := Lib.hid hW1
  have HB1 := Lib.hid b1
  clear hW1 b1 r1 hv
  obtain ⟨R, hR⟩ : ∃ R, gapsL (marksL L) = R := ⟨_, rfl⟩
  have HR := Lib.hid hR
  rw [hR]
  clear hR
  go_enter Tryz.func91, Tryz.ntmps91
  go_wp2_with (go_at_call 71; rw [HW.out]; refine HMk.out.mono ?_; rintro e w3 ⟨v3, P, rfl, hM, hP, hS, hb3⟩)
  obtain ⟨A, cp, rfl, hc1, hc2⟩ := hM.out.form
  have hS1 := hS.1
  have HPl := Lib.hid hP
  have HS2 := Lib.hid hS.2
  have HG0 : Hid (gapsL ((msP P).take 0) = 0) := rfl
  have HGs : Hid (∀ j p, P[j]? = some p → gapsL ((msP P).take (j + 1)) = gapsL ((msP P).take j) + p.m.more.length) := fun j p hp => by rw [take_msP hp, gapsL_snoc]
  have HGb : Hid (∀ j, j ≤ P.length → 0 ≤ gapsL ((msP P).take j) ∧ gapsL ((msP P).take j) ≤ 810000) := fun j hj => by
    obtain ⟨h1, h2⟩ := gapsL_bound (ms := (msP P).take j) (n := 900) fun m hm => by
      obtain ⟨q, hq, rfl⟩ := List.mem_map.1 (List.mem_of_mem_take hm)
      have := (hS.2 q hq).2.2
      omega
    refine ⟨h1, ?_⟩
    have h3 : ((msP P).take j).length ≤ 900 := by rw [List.length_take]; omega
    have : ((((msP P).take j).length : Nat) : Int) * 900 ≤ 900 * 900 := Int.mul_le_mul_of_nonneg_right (by omega) (by omega)
    have e9 : ((900 : Nat) : Int) = 900 := rfl
    rw [e9] at h2
    omega
  have HGe : Hid (gapsL ((msP P).take P.length) = R) := by
    show _ = _
    rw [← HR.out, ← hP, show P.length = (msP P).length by simp [msP], List.take_length]
  obtain ⟨N, hN⟩ : ∃ N, P.length = N := ⟨_, rfl⟩
  have HN := Lib.hid hN
  rw [hN] at HGb HGe hM hc1 hS1 ⊢
  obtain ⟨S, hSS⟩ : ∃ S : Nat → Int, (fun j => gapsL ((msP P).take j)) = S := ⟨_, rfl⟩
  have hS2 : ∀ j, gapsL ((msP P).take j) = S j := fun j => by rw [← hSS]
  simp only [hS2] at HG0 HGs HGb HGe
  clear hP hS HR hN hSS hS2 HMk
  have HB3 := Lib.hid hb3.out
  clear hb3
  go_loopw [4, 5] (fun v4 v5 wr => ∃ j : Nat, v4 = .int .i64 (S j) ∧ v5 = .int .i64 (j : Int) ∧ j ≤ N ∧ Hid (Below w3.heap.size w3 wr)) (fun _ i _ => N - (intOf i).toNat)
  case atStart => exact ⟨0, by rw [HG0.out], rfl, Nat.zero_le _, Below.refl _ _⟩
  case round =>
    obtain ⟨j, rfl, rfl, hj, HBr⟩ := hrel
    by_cases hlt : j < N
    · obtain ⟨p, hp⟩ : ∃ p, P[j]? = some p := ⟨P[j]'(by rw [HN.out]; exact hlt), by simp⟩
      obtain ⟨g, rfl, _, hgl, hgc⟩ := hM.out.at_ hp
      obtain ⟨z0, z1, z2, z3, _⟩ := hgc wr (HBr.out.block g hgl)
      simp only [Pm.v] at z3
      have g1 : (j : Int) < (N : Int) := by omega
      obtain ⟨s0, s1⟩ := HGb.out j hj
      have hml : p.m.more.length ≤ 900 := by
        have := (HS2.out p (List.mem_of_getElem? hp)).2.2
        omega
      have HSj := Lib.hid (HGs.out j p hp)
      obtain ⟨ml, hm⟩ : ∃ m, p.m.more.length = m := ⟨_, rfl⟩
      rw [hm] at HSj z3 hml
      obtain ⟨sj, hsj⟩ : ∃ x, S j = x := ⟨_, rfl⟩
      rw [hsj] at HSj s0 s1 ⊢
      clear hgc hgl hm z0 z1 z2 hsj
      go_wp2
      go_roundw
      case rel => exact ⟨j + 1, by rw [HSj.out], by go_num, hlt, HBr.out⟩
      case measure => simp [intOf]; omega
    · obtain rfl : j = N := by omega
      have g1 : ¬ (j : Int) < (j : Int) := by omega
      go_wp2
      go_ret
      exact ⟨congrArg (fun x : Int => Ending.returned (Value.int .i64 x)) HGe.out, go_on HB1.out (go_on HB3.out HBr.out)⟩
set_option maxRecDepth 100000 in
set_option maxHeartbeats 8000000 in
theorem RNext_any (Q : Nat → Prop) (room : Int) (v : Value) (L : Ks) (i : Mg.Id4) (w : World) (hv : Hid (Kv Q w v L)) (hL : L.length ≤ 900) : Calls Tryz.prog 90 #[.agg #[.int .i64 room, v], .agg (Mg.idC i)] w fun e w' => e = .returned (.int .i64 (nextL (marksL L) i.o i.e)) ∧ Hid (Below w.heap.size w w') := by
  obtain ⟨W1, hW1⟩ : ∃ W, (w.alloc (.cells #[.int .i64 room, v] 35)).alloc (.cells (Mg.idC i) 43) = W := ⟨_, rfl⟩
  have b1 : Below w.heap.size w W1 := by rw [← hW1]; exact Me.below_alloc (Me.below_alloc (Below.refl _ _))
  have z1 : W1.heap.size = w.heap.size + 1 + 1 := by rw [← hW1]; simp
  have r1 : W1.heap[w.heap.size]? = some (.cells #[.int .i64 room, v] 35 (0, 0)) := by
    rw [← hW1, Below.heap_alloc _ _ _ (by simp)]; exact heap_alloc_new w _
  have r2 : W1.heap[w.heap.size + 1]? = some (.cells (Mg.idC i) 43 (0, 0)) := by
    have h := heap_alloc_new (w.alloc (.cells #[.int .i64 room, v] 35)) (.cells (Mg.idC i) 43)
    rw [hW1] at h
    simpa using h
  have c0 := cell_of_row W1 w.heap.size 0 _ _ (0, 0) r1
  have c1 := cell_of_row W1 w.heap.size 1 _ _ (0, 0) r1
  simp at c0 c1
  have HMk := Lib.hid (RMarks_any Q room v L W1 (hv.out.below b1) hL)
  have HID : Hid (∀ W, Below W1.heap.size W1 W → W.cell? ⟨w.heap.size + 1, 0, none⟩ = some (.int .i64 i.o) ∧ W.cell? ⟨w.heap.size + 1, 1, none⟩ = some (.int .i64 i.d) ∧ W.cell? ⟨w.heap.size + 1, 2, none⟩ = some (.int .i64 i.e) ∧ W.cell? ⟨w.heap.size + 1, 3, none⟩ = some (.int .i64 i.c)) := fun W hW => id_cells ((hW.block _ (by omega)).trans r2)
  have HW := Lib.hid hW1
  have HB1 := Lib.hid b1
  clear hW1 b1 r1 r2 z1 hv
  obtain ⟨o, d, e, c⟩ := i
  simp only [Mg.idC] at HW HID ⊢
  obtain ⟨R, hR⟩ : ∃ R, nextL (marksL L) o e = R := ⟨_, rfl⟩
  have HR := Lib.hid hR
  rw [hR]
  clear hR
  go_enter Tryz.func90, Tryz.ntmps90
  go_wp2_with (go_at_call 71; rw [HW.out]; refine HMk.out.mono ?_; rintro e0 w3 ⟨v3, P, rfl, hM, hP, hS, hb3⟩)
  obtain ⟨A, cp, rfl, hc1, hc2⟩ := hM.out.form
  have hS1 := hS.1
  have HS2 := Lib.hid hS.2
  have H0 : Hid (nextL ((msP P).drop 0) o e = R) := by
    show _ = _
    rw [List.drop_zero, hP]
    exact HR.out
  have HE : Hid (nextL ((msP P).drop P.length) o e = 1) := by
    show _ = _
    rw [show P.length = (msP P).length by simp [msP], List.drop_length]
    rfl
  have HSt : Hid (∀ j p, P[j]? = some p → nextL ((msP P).drop j) o e = if p.m.o = o ∧ p.m.e = e then p.m.up + 1 else nextL ((msP P).drop (j + 1)) o e) := fun j p hp => by rw [drop_msP hp, nextL]
  obtain ⟨N, hN⟩ : ∃ N, P.length = N := ⟨_, rfl⟩
  have HN := Lib.hid hN
  rw [hN] at HE hM hc1 hS1 ⊢
  have HB3 := Lib.hid hb3.out
  clear hb3 hP hS hN HR HMk
  go_loopw [6] (fun v6 wr => ∃ j : Nat, v6 = .int .i64 (j : Int) ∧ j ≤ N ∧ Hid (nextL ((msP P).drop j) o e = R) ∧ Hid (Below w3.heap.size w3 wr)) (fun i _ => N - (intOf i).toNat)
  case atStart => exact ⟨0, rfl, Nat.zero_le _, H0.out, Below.refl _ _⟩
  case round =>
    obtain ⟨j, rfl, hj, HJ, HBr⟩ := hrel
    obtain ⟨i0, i1, i2, i3⟩ := HID.out wr (HB3.out.trans (HBr.out.mono HB3.out.size))
    by_cases hlt : j < N
    · obtain ⟨p, hp⟩ : ∃ p, P[j]? = some p := ⟨P[j]'(by rw [HN.out]; exact hlt), by simp⟩
      obtain ⟨g, rfl, _, hgl, hgc⟩ := hM.out.at_ hp
      obtain ⟨z0, z1, z2, z3, _⟩ := hgc wr (HBr.out.block g hgl)
      have g1 : (j : Int) < (N : Int) := by omega
      have g2 : ¬ ((N : Int) ≤ (j : Int)) := by omega
      have hup : 0 ≤ p.m.up ∧ p.m.up ≤ 900 := by
        have := HS2.out p (List.mem_of_getElem? hp)
        omega
      have HSj := Lib.hid (HSt.out j p hp)
      obtain ⟨⟨po, pe, up, more⟩, pA, pc⟩ := p
      simp only at z0 z1 z2 HSj hup
      obtain ⟨u0, u1⟩ := hup
      clear hgc hgl z3 hp
      by_cases hs : po = o ∧ pe = e
      · obtain ⟨rfl, rfl⟩ := hs
        have HRR : Hid (up + 1 = R) := by
          show _ = _
          rw [← HJ.out, HSj.out, if_pos ⟨rfl, rfl⟩]
        go_wp2
        go_quiet (fail)
        go_wp2
        go_ret
        exact ⟨congrArg (fun x : Int => Ending.returned (Value.int .i64 x)) HRR.out, go_on HB1.out (go_on HB3.out (Me.below_drewN HBr.out _))⟩
      · have HJ2 : Hid (nextL ((msP P).drop (j + 1)) o e = R) := by
          show _ = _
          rw [← HJ.out, HSj.out, if_neg hs]
        have hor : (po == o) = false ∨ (po = o ∧ (pe == e) = false) := by
          by_cases h : po = o
          · right
            exact ⟨h, by simpa using fun h2 : pe = e => hs ⟨h, h2⟩⟩
          · left; simpa using h
        clear hs
        rcases hor with g3 | ⟨rfl, g3⟩
        all_goals
          go_wp2
          go_quiet (fail)
          go_wp2
          go_roundw
          case rel => exact ⟨j + 1, by go_num, hlt, HJ2.out, Me.below_drewN HBr.out _⟩
          case measure => simp [intOf]; omega
    · obtain rfl : j = N := by omega
      have g1 : ¬ (j : Int) < (j : Int) := by omega
      have HRR : Hid (1 = R) := HE.out.symm.trans HJ.out
      go_wp2
      go_ret
      exact ⟨congrArg (fun x : Int => Ending.returned (Value.int .i64 x)) HRR.out, go_on HB1.out (go_on HB3.out HBr.out)⟩
end Go.Proofs.YtfnlhfelpdkieaaGreat.Se
