/- The reference's Gaps and Next. -/
import Derived.Test.YthajocfgpodimaaSeRMarks
import Derived.Test.YthajocfgpodimaaZ6
import Derived.Test.YthajocfgpodimaaZ4
namespace Go.Proofs.Ythajocfgpodimaa.Se
open Go.RowKit
open Go.Proofs.Ythajocfgpodimaa.Me Go.Proofs.Ythajocfgpodimaa.Sb
set_option linter.unusedVariables false
set_option linter.unusedSimpArgs false

/-- How many stand behind gaps. -/
def gapsL (ms : List Mr) : Int := (ms.map fun m => (m.more.length : Int)).sum
def nextL : List Mr → Int → Int → Int
  | [], _, _ => 1
  | m :: r, o, e => if m.o = o ∧ m.e = e then m.up + 1 else nextL r o e
theorem gapsL_snoc (ms : List Mr) (m : Mr) : gapsL (ms ++ [m]) = gapsL ms + m.more.length := by simp [gapsL]
theorem gapsL_bound {ms : List Mr} {n : Nat} (h : ∀ m ∈ ms, m.more.length ≤ n) : 0 ≤ gapsL ms ∧ gapsL ms ≤ ms.length * n := by
  induction ms with
  | nil => simp [gapsL]
  | cons m r ih =>
    obtain ⟨h1, h2⟩ := ih fun x hx => h x (by simp [hx])
    have h3 := h m (by simp)
    have e : gapsL (m :: r) = m.more.length + gapsL r := by simp [gapsL]
    rw [e]
    constructor
    · omega
    · rw [List.length_cons]
      push_cast
      rw [Int.add_mul]
      omega
theorem take_msP {P : List Pm} {j : Nat} {p : Pm} (h : P[j]? = some p) : (msP P).take (j + 1) = (msP P).take j ++ [p.m] := by
  have h2 : (msP P)[j]? = some p.m := by simp [msP, h]
  rw [List.take_add_one, h2]
  rfl
theorem drop_msP {P : List Pm} {j : Nat} {p : Pm} (h : P[j]? = some p) : (msP P).drop j = p.m :: (msP P).drop (j + 1) := by
  have h2 : (msP P)[j]? = some p.m := by simp [msP, h]
  obtain ⟨h3, h4⟩ := List.getElem?_eq_some_iff.1 h2
  rw [List.drop_eq_getElem_cons h3, h4]
set_option maxRecDepth 100000 in
set_option maxHeartbeats 8000000 in
theorem RGaps_any (Q : Nat → Prop) (room : Int) (v : Value) (L : Ks) (w : World) (hv : Hid (Kv Q w v L)) (hL : L.length ≤ 900) : Calls Try.prog 22 #[.agg #[.int .i64 room, v]] w fun e w' => e = .returned (.int .i64 (gapsL (marksL L))) ∧ Hid (Below w.heap.size w w') := by
  obtain ⟨W1, hW1⟩ : ∃ W, w.alloc (.cells #[.int .i64 room, v] 29) = W := ⟨_, rfl⟩
  have b1 : Below w.heap.size w W1 := by rw [← hW1]; exact Me.below_alloc (Below.refl _ _)
  have r1 : W1.heap[w.heap.size]? = some (.cells #[.int .i64 room, v] 29 (0, 0)) := by rw [← hW1]; exact heap_alloc_new w _
  have c0 := cell_of_row W1 w.heap.size 0 _ _ (0, 0) r1
  have c1 := cell_of_row W1 w.heap.size 1 _ _ (0, 0) r1
  simp at c0 c1
  have HMk := Lib.hid (RMarks_any Q room v L W1 (hv.out.below b1) hL)
  have HW := Lib.hid hW1
  have HB1 := Lib.hid b1
  clear hW1 b1 r1 hv
  obtain ⟨R, hR⟩ : ∃ R, gapsL (marksL L) = R := ⟨_, rfl⟩
  have HR := Lib.hid hR
  rw [hR]
  clear hR
  go_enter Try.func22, Try.ntmps22
  go_wp2_with (go_at_call 14; rw [HW.out]; refine HMk.out.mono ?_; rintro e w3 ⟨v3, P, rfl, hM, hP, hS, hb3⟩)
  obtain ⟨A, cp, rfl, hc1, hc2⟩ := hM.out.form
  have hS1 := hS.1
  have HPl := Lib.hid hP
  have HS2 := Lib.hid hS.2
  have HG0 : Hid (gapsL ((msP P).take 0) = 0) := rfl
  have HGs : Hid (∀ j p, P[j]? = some p → gapsL ((msP P).take (j + 1)) = gapsL ((msP P).take j) + p.m.more.length) := fun j p hp => by rw [take_msP hp, gapsL_snoc]
  have HGb : Hid (∀ j, j ≤ P.length → 0 ≤ gapsL ((msP P).take j) ∧ gapsL ((msP P).take j) ≤ 810000) := fun j hj => by
    obtain ⟨h1, h2⟩ := gapsL_bound (ms := (msP P).take j) (n := 900) fun m hm => by
      obtain ⟨q, hq, rfl⟩ := List.mem_map.1 (List.mem_of_mem_take hm)
      have := (hS.2 q hq).2.2
      omega
    refine ⟨h1, ?_⟩
    have h3 : ((msP P).take j).length ≤ 900 := by rw [List.length_take]; omega
    have : ((((msP P).take j).length : Nat) : Int) * 900 ≤ 900 * 900 := Int.mul_le_mul_of_nonneg_right (by omega) (by omega)
    have e9 : ((900 : Nat) : Int) = 900 := rfl
    rw [e9] at h2
    omega
  have HGe : Hid (gapsL ((msP P).take P.length) = R) := by
    show _ = _
    rw [← HR.out, ← hP, show P.length = (msP P).length by simp [msP], List.take_length]
  obtain ⟨N, hN⟩ : ∃ N, P.length = N := ⟨_, rfl⟩
  have HN := Lib.hid hN
  rw [hN] at HGb HGe hM hc1 hS1 ⊢
  obtain ⟨S, hSS⟩ : ∃ S : Nat → Int, (fun j => gapsL ((msP P).take j)) = S := ⟨_, rfl⟩
  have hS2 : ∀ j, gapsL ((msP P).take j) = S j := fun j => by rw [← hSS]
  simp only [hS2] at HG0 HGs HGb HGe
  clear hP hS HR hN hSS hS2 HMk
  have HB3 := Lib.hid hb3.out
  clear hb3
  go_loopw [4, 5] (fun v4 v5 wr => ∃ j : Nat, v4 = .int .i64 (S j) ∧ v5 = .int .i64 (j : Int) ∧ j ≤ N ∧ Hid (Below w3.heap.size w3 wr)) (fun _ i _ => N - (intOf i).toNat)
  case atStart => exact ⟨0, by rw [HG0.out], rfl, Nat.zero_le _, Below.refl _ _⟩
  case round =>
    obtain ⟨j, rfl, rfl, hj, HBr⟩ := hrel
    by_cases hlt : j < N
    · obtain ⟨p, hp⟩ : ∃ p, P[j]? = some p := ⟨P[j]'(by rw [HN.out]; exact hlt), by simp⟩
      obtain ⟨g, rfl, _, hgl, hgc⟩ := hM.out.at_ hp
      obtain ⟨z0, z1, z2, z3, _⟩ := hgc wr (HBr.out.block g hgl)
      simp only [Pm.v] at z3
      have g1 : (j : Int) < (N : Int) := by omega
      obtain ⟨s0, s1⟩ := HGb.out j hj
      have hml : p.m.more.length ≤ 900 := by
        have := (HS2.out p (List.mem_of_getElem? hp)).2.2
        omega
      have HSj := Lib.hid (HGs.out j p hp)
      obtain ⟨ml, hm⟩ : ∃ m, p.m.more.length = m := ⟨_, rfl⟩
      rw [hm] at HSj z3 hml
      obtain ⟨sj, hsj⟩ : ∃ x, S j = x := ⟨_, rfl⟩
      rw [hsj] at HSj s0 s1 ⊢
      clear hgc hgl hm z0 z1 z2 hsj
      go_wp2
      go_roundw
      case rel => exact ⟨j + 1, by rw [HSj.out], by go_num, hlt, HBr.out⟩
      case measure => simp [intOf]; omega
    · obtain rfl : j = N := by omega
      have g1 : ¬ (j : Int) < (j : Int) := by omega
      go_wp2
      go_ret
      exact ⟨congrArg (fun x : Int => Ending.returned (Value.int .i64 x)) HGe.out, go_on HB1.out (go_on HB3.out HBr.out)⟩
set_option maxRecDepth 100000 in
set_option maxHeartbeats 8000000 in
theorem RNext_any (Q : Nat → Prop) (room : Int) (v : Value) (L : Ks) (i : Mg.Id4) (w : World) (hv : Hid (Kv Q w v L)) (hL : L.length ≤ 900) : Calls Try.prog 30 #[.agg #[.int .i64 room, v], .agg (Mg.idC i)] w fun e w' => e = .returned (.int .i64 (nextL (marksL L) i.o i.e)) ∧ Hid (Below w.heap.size w w') := by
  obtain ⟨W1, hW1⟩ : ∃ W, (w.alloc (.cells #[.int .i64 room, v] 29)).alloc (.cells (Mg.idC i) 39) = W := ⟨_, rfl⟩
  have b1 : Below w.heap.size w W1 := by rw [← hW1]; exact Me.below_alloc (Me.below_alloc (Below.refl _ _))
  have z1 : W1.heap.size = w.heap.size + 1 + 1 := by rw [← hW1]; simp
  have r1 : W1.heap[w.heap.size]? = some (.cells #[.int .i64 room, v] 29 (0, 0)) := by
    rw [← hW1, Below.heap_alloc _ _ _ (by simp)]; exact heap_alloc_new w _
  have r2 : W1.heap[w.heap.size + 1]? = some (.cells (Mg.idC i) 39 (0, 0)) := by
    have h := heap_alloc_new (w.alloc (.cells #[.int .i64 room, v] 29)) (.cells (Mg.idC i) 39)
    rw [hW1] at h
    simpa using h
  have c0 := cell_of_row W1 w.heap.size 0 _ _ (0, 0) r1
  have c1 := cell_of_row W1 w.heap.size 1 _ _ (0, 0) r1
  simp at c0 c1
  have HMk := Lib.hid (RMarks_any Q room v L W1 (hv.out.below b1) hL)
  have HID : Hid (∀ W, Below W1.heap.size W1 W → W.cell? ⟨w.heap.size + 1, 0, none⟩ = some (.int .i64 i.o) ∧ W.cell? ⟨w.heap.size + 1, 1, none⟩ = some (.int .i64 i.d) ∧ W.cell? ⟨w.heap.size + 1, 2, none⟩ = some (.int .i64 i.e) ∧ W.cell? ⟨w.heap.size + 1, 3, none⟩ = some (.int .i64 i.c)) := fun W hW => id_cells ((hW.block _ (by omega)).trans r2)
  have HW := Lib.hid hW1
  have HB1 := Lib.hid b1
  clear hW1 b1 r1 r2 z1 hv
  obtain ⟨o, d, e, c⟩ := i
  simp only [Mg.idC] at HW HID ⊢
  obtain ⟨R, hR⟩ : ∃ R, nextL (marksL L) o e = R := ⟨_, rfl⟩
  have HR := Lib.hid hR
  rw [hR]
  clear hR
  go_enter Try.func30, Try.ntmps30
  go_wp2_with (go_at_call 14; rw [HW.out]; refine HMk.out.mono ?_; rintro e0 w3 ⟨v3, P, rfl, hM, hP, hS, hb3⟩)
  obtain ⟨A, cp, rfl, hc1, hc2⟩ := hM.out.form
  have hS1 := hS.1
  have HS2 := Lib.hid hS.2
  have H0 : Hid (nextL ((msP P).drop 0) o e = R) := by
    show _ = _
    rw [List.drop_zero, hP]
    exact HR.out
  have HE : Hid (nextL ((msP P).drop P.length) o e = 1) := by
    show _ = _
    rw [show P.length = (msP P).length by simp [msP], List.drop_length]
    rfl
  have HSt : Hid (∀ j p, P[j]? = some p → nextL ((msP P).drop j) o e = if p.m.o = o ∧ p.m.e = e then p.m.up + 1 else nextL ((msP P).drop (j + 1)) o e) := fun j p hp => by rw [drop_msP hp, nextL]
  obtain ⟨N, hN⟩ : ∃ N, P.length = N := ⟨_, rfl⟩
  have HN := Lib.hid hN
  rw [hN] at HE hM hc1 hS1 ⊢
  have HB3 := Lib.hid hb3.out
  clear hb3 hP hS hN HR HMk
  go_loopw [6] (fun v6 wr => ∃ j : Nat, v6 = .int .i64 (j : Int) ∧ j ≤ N ∧ Hid (nextL ((msP P).drop j) o e = R) ∧ Hid (Below w3.heap.size w3 wr)) (fun i _ => N - (intOf i).toNat)
  case atStart => exact ⟨0, rfl, Nat.zero_le _, H0.out, Below.refl _ _⟩
  case round =>
    obtain ⟨j, rfl, hj, HJ, HBr⟩ := hrel
    obtain ⟨i0, i1, i2, i3⟩ := HID.out wr (HB3.out.trans (HBr.out.mono HB3.out.size))
    by_cases hlt : j < N
    · obtain ⟨p, hp⟩ : ∃ p, P[j]? = some p := ⟨P[j]'(by rw [HN.out]; exact hlt), by simp⟩
      obtain ⟨g, rfl, _, hgl, hgc⟩ := hM.out.at_ hp
      obtain ⟨z0, z1, z2, z3, _⟩ := hgc wr (HBr.out.block g hgl)
      have g1 : (j : Int) < (N : Int) := by omega
      have g2 : ¬ ((N : Int) ≤ (j : Int)) := by omega
      have hup : 0 ≤ p.m.up ∧ p.m.up ≤ 900 := by
        have := HS2.out p (List.mem_of_getElem? hp)
        omega
      have HSj := Lib.hid (HSt.out j p hp)
      obtain ⟨⟨po, pe, up, more⟩, pA, pc⟩ := p
      simp only at z0 z1 z2 HSj hup
      obtain ⟨u0, u1⟩ := hup
      clear hgc hgl z3 hp
      by_cases hs : po = o ∧ pe = e
      · obtain ⟨rfl, rfl⟩ := hs
        have HRR : Hid (up + 1 = R) := by
          show _ = _
          rw [← HJ.out, HSj.out, if_pos ⟨rfl, rfl⟩]
        go_wp2
        go_quiet (fail)
        go_wp2
        go_ret
        exact ⟨congrArg (fun x : Int => Ending.returned (Value.int .i64 x)) HRR.out, go_on HB1.out (go_on HB3.out (Me.below_drewN HBr.out _))⟩
      · have HJ2 : Hid (nextL ((msP P).drop (j + 1)) o e = R) := by
          show _ = _
          rw [← HJ.out, HSj.out, if_neg hs]
        have hor : (po == o) = false ∨ (po = o ∧ (pe == e) = false) := by
          by_cases h : po = o
          · right
            exact ⟨h, by simpa using fun h2 : pe = e => hs ⟨h, h2⟩⟩
          · left; simpa using h
        clear hs
        rcases hor with g3 | ⟨rfl, g3⟩
        all_goals
          go_wp2
          go_quiet (fail)
          go_wp2
          go_roundw
          case rel => exact ⟨j + 1, by go_num, hlt, HJ2.out, Me.below_drewN HBr.out _⟩
          case measure => simp [intOf]; omega
    · obtain rfl : j = N := by omega
      have g1 : ¬ (j : Int) < (j : Int) := by omega
      have HRR : Hid (1 = R) := HE.out.symm.trans HJ.out
      go_wp2
      go_ret
      exact ⟨congrArg (fun x : Int => Ending.returned (Value.int .i64 x)) HRR.out, go_on HB1.out (go_on HB3.out HBr.out)⟩
end Go.Proofs.Ythajocfgpodimaa.Se
/- The reference's May. -/
namespace Go.Proofs.Ythajocfgpodimaa.Se
open Go.RowKit
open Go.Proofs.Ythajocfgpodimaa.Me Go.Proofs.Ythajocfgpodimaa.Sb
set_option linter.unusedVariables false
set_option linter.unusedSimpArgs false

/-- What the reference's May answers. -/
def rmayN (room : Int) (L : Ks) (i : Mg.Id4) : Nat :=
  if Mg.chkN i ≠ 0 then Mg.chkN i
  else if (⟨i.o, i.e, i.c⟩ : Ky) ∈ L then 5
  else if i.c ≠ nextL (marksL L) i.o i.e ∧ room ≤ gapsL (marksL L) then 6 else 0
set_option maxRecDepth 100000 in
set_option maxHeartbeats 8000000 in
theorem RMay_any (Q : Nat → Prop) (room : Int) (v : Value) (L : Ks) (i : Mg.Id4) (w : World) (hv : Hid (Kv Q w v L)) (hL : L.length ≤ 900) : Calls Try.prog 15 #[.agg #[.int .i64 room, v], .agg (Mg.idC i)] w fun e w' => e = .returned (.int .i64 (rmayN room L i : Nat)) ∧ Hid (Below w.heap.size w w') := by
  have HK := Lib.hid (fun W => Mg.RCheck_any i W)
  have HH : Hid (∀ W, Below w.heap.size w W → Calls Try.prog 24 #[.agg #[.int .i64 room, v], .agg (Mg.idC i)] W fun e w' => e = .returned (.bool (rhas L i)) ∧ Hid (Below W.heap.size W w')) := fun W hW => RHas_any Q room v L i W (hv.out.below hW) (by omega)
  have HNx : Hid (∀ W, Below w.heap.size w W → Calls Try.prog 30 #[.agg #[.int .i64 room, v], .agg (Mg.idC i)] W fun e w' => e = .returned (.int .i64 (nextL (marksL L) i.o i.e)) ∧ Hid (Below W.heap.size W w')) := fun W hW => RNext_any Q room v L i W (hv.out.below hW) hL
  have HGa : Hid (∀ W, Below w.heap.size w W → Calls Try.prog 22 #[.agg #[.int .i64 room, v]] W fun e w' => e = .returned (.int .i64 (gapsL (marksL L))) ∧ Hid (Below W.heap.size W w')) := fun W hW => RGaps_any Q room v L W (hv.out.below hW) hL
  obtain ⟨W2, hW2⟩ : ∃ W, (w.alloc (.cells #[.int .i64 room, v] 29)).alloc (.cells (Mg.idC i) 39) = W := ⟨_, rfl⟩
  have b2 : Below w.heap.size w W2 := by rw [← hW2]; exact Me.below_alloc (Me.below_alloc (Below.refl _ _))
  have z2 : W2.heap.size = w.heap.size + 1 + 1 := by rw [← hW2]; simp
  have r1 : W2.heap[w.heap.size]? = some (.cells #[.int .i64 room, v] 29 (0, 0)) := by
    rw [← hW2, Below.heap_alloc _ _ _ (by simp)]; exact heap_alloc_new w _
  have r2 : W2.heap[w.heap.size + 1]? = some (.cells (Mg.idC i) 39 (0, 0)) := by
    have h := heap_alloc_new (w.alloc (.cells #[.int .i64 room, v] 29)) (.cells (Mg.idC i) 39)
    rw [hW2] at h
    simpa using h
  have HC : Hid (∀ W, Below W2.heap.size W2 W → (W.cell? ⟨w.heap.size, 0, none⟩ = some (.int .i64 room) ∧ W.cell? ⟨w.heap.size, 1, none⟩ = some v) ∧ W.cell? ⟨w.heap.size + 1, 0, none⟩ = some (.int .i64 i.o) ∧ W.cell? ⟨w.heap.size + 1, 1, none⟩ = some (.int .i64 i.d) ∧ W.cell? ⟨w.heap.size + 1, 2, none⟩ = some (.int .i64 i.e) ∧ W.cell? ⟨w.heap.size + 1, 3, none⟩ = some (.int .i64 i.c)) := fun W hW => by
    have h := (hW.block w.heap.size (by omega)).trans r1
    exact ⟨⟨cell_of_row W _ 0 _ _ (0, 0) h, cell_of_row W _ 1 _ _ (0, 0) h⟩, id_cells ((hW.block _ (by omega)).trans r2)⟩
  have HW := Lib.hid hW2
  have HB2 := Lib.hid b2
  have HU : Hid (∀ W, Below W2.heap.size W2 W → Below w.heap.size w W) := fun W hW => b2.trans (hW.mono b2.size)
  clear hW2 b2 z2 r1 r2 hv
  by_cases h0 : Mg.chkN i = 0
  · have hr : rhas L i = decide ((⟨i.o, i.e, i.c⟩ : Ky) ∈ L) := by unfold rhas; rw [h0]; simp
    rw [h0] at HK
    rw [hr] at HH
    by_cases hm : (⟨i.o, i.e, i.c⟩ : Ky) ∈ L
    · have hR : rmayN room L i = 5 := by unfold rmayN; rw [if_neg (by simp [h0]), if_pos hm]
      rw [hR]
      rw [decide_eq_true hm] at HH
      clear h0 hr hm hR HNx HGa
      obtain ⟨o, d, ee, c⟩ := i
      simp only [Mg.idC, show ((0 : Nat) : Int) = 0 from rfl] at HK HW HC HH ⊢
      go_enter Try.func15, Try.ntmps15
      go_wp2_with (first
        | (go_at_call 28; rw [HW.out]; refine (HK.out _).mono ?_; rintro e w3 ⟨rfl, b3⟩; obtain ⟨⟨y0, y1⟩, i0, i1, i2, i3⟩ := HC.out w3 b3.out)
        | (go_at_call 24; refine (HH.out _ (HU.out _ b3.out)).mono ?_; rintro e w4 ⟨rfl, b4⟩))
      go_ret
      exact ⟨rfl, go_on (HU.out _ b3.out) b4.out⟩
    · rw [decide_eq_false hm] at HH
      obtain ⟨R, hR⟩ : ∃ R, rmayN room L i = R := ⟨_, rfl⟩
      have hR2 : (if i.c ≠ nextL (marksL L) i.o i.e ∧ room ≤ gapsL (marksL L) then 6 else 0) = R := by rw [← hR]; unfold rmayN; rw [if_neg (fun h : Mg.chkN i ≠ 0 => h h0), if_neg hm]
      rw [hR]
      clear h0 hr hm hR
      obtain ⟨o, d, ee, c⟩ := i
      obtain ⟨nx, hnx⟩ : ∃ x, nextL (marksL L) o ee = x := ⟨_, rfl⟩
      obtain ⟨ga, hga⟩ : ∃ x, gapsL (marksL L) = x := ⟨_, rfl⟩
      simp only [hnx, hga] at HNx HGa hR2
      clear hnx hga
      simp only [Mg.idC, show ((0 : Nat) : Int) = 0 from rfl] at HK HW HC HH HNx HGa ⊢
      by_cases hc : c = nx
      · have hz : R = 0 := by rw [← hR2, if_neg (fun h => h.1 hc)]
        subst hz
        have g1 : (c != nx) = false := by simpa using hc
        clear hR2 hc
        go_enter Try.func15, Try.ntmps15
        go_wp2_with (first
          | (go_at_call 28; rw [HW.out]; refine (HK.out _).mono ?_; rintro e w3 ⟨rfl, b3⟩; obtain ⟨⟨y0, y1⟩, i0, i1, i2, i3⟩ := HC.out w3 b3.out)
          | (go_at_call 24; refine (HH.out _ (HU.out _ b3.out)).mono ?_; rintro e w4 ⟨rfl, b4⟩))
        have B4 := go_on b3.out b4.out
        have S0 := B4.drew
        refine wp_region_held_drew (S := fun W => Below W2.heap.size W2 W) (by kernel_rfl) S0 (fun hHeld => ?_)
        refine wpAnyH_take (i := 0) (v := .pointer (some ⟨w.heap.size + 1, 3, none⟩)) rfl (by kernel_rfl) (by kernel_rfl) (by kernel_rfl) (fun _ _ _ h => h) (Or.inl ⟨by rfl, ?_⟩) (by first | assumption | exact trivial) ?_
        · intro W hSW; go_simp; try (with_reducible rfl)
        simp only [Act.put, List.getElem_toArray, List.getElem_cons_succ, List.getElem_cons_zero, List.setIfInBounds_toArray, List.set_cons_zero, List.set_cons_succ]
        refine wpAnyH_take (i := 1) (v := .int .i64 c) rfl (by kernel_rfl) (by kernel_rfl) (by kernel_rfl) (fun _ _ _ h => h) (Or.inl ⟨by rfl, ?_⟩) (by first | assumption | exact trivial) ?_
        · intro W hSW; obtain ⟨⟨y0, y1⟩, i0, i1, i2, i3⟩ := HC.out W hSW; go_simp; try (with_reducible rfl)
        simp only [Act.put, List.getElem_toArray, List.getElem_cons_succ, List.getElem_cons_zero, List.setIfInBounds_toArray, List.set_cons_zero, List.set_cons_succ]
        refine wpAnyH_take (i := 2) (v := .agg #[.int .i64 room, v]) rfl (by kernel_rfl) (by kernel_rfl) (by kernel_rfl) (fun _ _ _ h => h) (Or.inl ⟨by rfl, ?_⟩) (by first | assumption | exact trivial) ?_
        · intro W hSW; obtain ⟨⟨y0, y1⟩, i0, i1, i2, i3⟩ := HC.out W hSW; go_simp; try (with_reducible rfl)
        simp only [Act.put, List.getElem_toArray, List.getElem_cons_succ, List.getElem_cons_zero, List.setIfInBounds_toArray, List.set_cons_zero, List.set_cons_succ]
        refine wpAnyH_take (i := 3) (v := .agg #[.int .i64 o, .int .i64 d, .int .i64 ee, .int .i64 c]) rfl (by kernel_rfl) (by kernel_rfl) (by kernel_rfl) (fun _ _ _ h => h) (Or.inl ⟨by rfl, ?_⟩) (by first | assumption | exact trivial) ?_
        · intro W hSW; obtain ⟨⟨y0, y1⟩, i0, i1, i2, i3⟩ := HC.out W hSW; go_simp; try (with_reducible rfl)
        simp only [Act.put, List.getElem_toArray, List.getElem_cons_succ, List.getElem_cons_zero, List.setIfInBounds_toArray, List.set_cons_zero, List.set_cons_succ]
        refine wpAnyH_ready (rs := [4]) (by kernel_rfl) (by simp) ?_
        refine AllReadyH.cons rfl (fun K hK => ?_) AllReadyH.nil
        go_simp
        go_wp2_with (go_at_call 30; refine (HNx.out _ (HU.out _ S0)).mono ?_; rintro e w5 ⟨rfl, b5⟩)
        have S5 := go_on S0 b5.out
        refine hK.out _ _ (S5) (fun hHeld => ?_)
        clear hK K
        refine wpAnyH_take (i := 5) (v := .bool false) rfl (by kernel_rfl) (by kernel_rfl) (by kernel_rfl) (fun _ _ _ h => h) (Or.inl ⟨by rfl, ?_⟩) (by first | assumption | exact trivial) ?_
        · intro W hSW; go_simp; try (with_reducible rfl)
        simp only [Act.put, List.getElem_toArray, List.getElem_cons_succ, List.getElem_cons_zero, List.setIfInBounds_toArray, List.set_cons_zero, List.set_cons_succ]
        refine wpAnyH_take (i := 6) (v := .bool false) rfl (by kernel_rfl) (by kernel_rfl) (by kernel_rfl) (fun _ _ _ h => h) (Or.inl ⟨by rfl, ?_⟩) (by first | assumption | exact trivial) ?_
        · intro W hSW; go_simp; try (with_reducible rfl)
        simp only [Act.put, List.getElem_toArray, List.getElem_cons_succ, List.getElem_cons_zero, List.setIfInBounds_toArray, List.set_cons_zero, List.set_cons_succ]
        refine wpAnyH_take (i := 7) (v := undef) rfl (by kernel_rfl) (by kernel_rfl) (by kernel_rfl) (fun _ _ _ h => h) (Or.inr ⟨by rfl, rfl⟩) (by first | assumption | exact trivial) ?restz1
        simp only [Act.put, List.getElem_toArray, List.getElem_cons_succ, List.getElem_cons_zero, List.setIfInBounds_toArray, List.set_cons_zero, List.set_cons_succ]
        refine wpAnyH_take (i := 8) (v := undef) rfl (by kernel_rfl) (by kernel_rfl) (by kernel_rfl) (fun _ _ _ h => h) (Or.inr ⟨by rfl, rfl⟩) (by first | assumption | exact trivial) ?restz2
        simp only [Act.put, List.getElem_toArray, List.getElem_cons_succ, List.getElem_cons_zero, List.setIfInBounds_toArray, List.set_cons_zero, List.set_cons_succ]
        refine wpAnyH_take (i := 9) (v := undef) rfl (by kernel_rfl) (by kernel_rfl) (by kernel_rfl) (fun _ _ _ h => h) (Or.inr ⟨by rfl, rfl⟩) (by first | assumption | exact trivial) ?restz3
        simp only [Act.put, List.getElem_toArray, List.getElem_cons_succ, List.getElem_cons_zero, List.setIfInBounds_toArray, List.set_cons_zero, List.set_cons_succ]
        refine wpAnyH_take (i := 10) (v := undef) rfl (by kernel_rfl) (by kernel_rfl) (by kernel_rfl) (fun _ _ _ h => h) (Or.inr ⟨by rfl, rfl⟩) (by first | assumption | exact trivial) ?restz4
        simp only [Act.put, List.getElem_toArray, List.getElem_cons_succ, List.getElem_cons_zero, List.setIfInBounds_toArray, List.set_cons_zero, List.set_cons_succ]
        refine wpAnyH_take (i := 11) (v := undef) rfl (by kernel_rfl) (by kernel_rfl) (by kernel_rfl) (fun _ _ _ h => h) (Or.inr ⟨by rfl, rfl⟩) (by first | assumption | exact trivial) ?restz5
        simp only [Act.put, List.getElem_toArray, List.getElem_cons_succ, List.getElem_cons_zero, List.setIfInBounds_toArray, List.set_cons_zero, List.set_cons_succ]
        refine wpAnyH_take (i := 12) (v := .bool false) rfl (by kernel_rfl) (by kernel_rfl) (by kernel_rfl) (fun _ _ _ h => h) (Or.inl ⟨by rfl, ?_⟩) (by first | assumption | exact trivial) ?_
        · intro W hSW; go_simp; try (with_reducible rfl)
        simp only [Act.put, List.getElem_toArray, List.getElem_cons_succ, List.getElem_cons_zero, List.setIfInBounds_toArray, List.set_cons_zero, List.set_cons_succ]
        refine wpAnyH_done (by kernel_rfl) ?_ _
        go_wp2
        go_ret
        exact ⟨rfl, HU.out _ S5⟩
      · have g1 : (c != nx) = true := by simpa using hc
        by_cases g5 : room ≤ ga
        · have hz : R = 6 := by rw [← hR2, if_pos ⟨hc, g5⟩]
          subst hz
          clear hR2 hc
          go_enter Try.func15, Try.ntmps15
          go_wp2_with (first
            | (go_at_call 28; rw [HW.out]; refine (HK.out _).mono ?_; rintro e w3 ⟨rfl, b3⟩; obtain ⟨⟨y0, y1⟩, i0, i1, i2, i3⟩ := HC.out w3 b3.out)
            | (go_at_call 24; refine (HH.out _ (HU.out _ b3.out)).mono ?_; rintro e w4 ⟨rfl, b4⟩))
          have B4 := go_on b3.out b4.out
          have S0 := B4.drew
          refine wp_region_held_drew (S := fun W => Below W2.heap.size W2 W) (by kernel_rfl) S0 (fun hHeld => ?_)
          refine wpAnyH_take (i := 0) (v := .pointer (some ⟨w.heap.size + 1, 3, none⟩)) rfl (by kernel_rfl) (by kernel_rfl) (by kernel_rfl) (fun _ _ _ h => h) (Or.inl ⟨by rfl, ?_⟩) (by first | assumption | exact trivial) ?_
          · intro W hSW; go_simp; try (with_reducible rfl)
          simp only [Act.put, List.getElem_toArray, List.getElem_cons_succ, List.getElem_cons_zero, List.setIfInBounds_toArray, List.set_cons_zero, List.set_cons_succ]
          refine wpAnyH_take (i := 1) (v := .int .i64 c) rfl (by kernel_rfl) (by kernel_rfl) (by kernel_rfl) (fun _ _ _ h => h) (Or.inl ⟨by rfl, ?_⟩) (by first | assumption | exact trivial) ?_
          · intro W hSW; obtain ⟨⟨y0, y1⟩, i0, i1, i2, i3⟩ := HC.out W hSW; go_simp; try (with_reducible rfl)
          simp only [Act.put, List.getElem_toArray, List.getElem_cons_succ, List.getElem_cons_zero, List.setIfInBounds_toArray, List.set_cons_zero, List.set_cons_succ]
          refine wpAnyH_take (i := 2) (v := .agg #[.int .i64 room, v]) rfl (by kernel_rfl) (by kernel_rfl) (by kernel_rfl) (fun _ _ _ h => h) (Or.inl ⟨by rfl, ?_⟩) (by first | assumption | exact trivial) ?_
          · intro W hSW; obtain ⟨⟨y0, y1⟩, i0, i1, i2, i3⟩ := HC.out W hSW; go_simp; try (with_reducible rfl)
          simp only [Act.put, List.getElem_toArray, List.getElem_cons_succ, List.getElem_cons_zero, List.setIfInBounds_toArray, List.set_cons_zero, List.set_cons_succ]
          refine wpAnyH_take (i := 3) (v := .agg #[.int .i64 o, .int .i64 d, .int .i64 ee, .int .i64 c]) rfl (by kernel_rfl) (by kernel_rfl) (by kernel_rfl) (fun _ _ _ h => h) (Or.inl ⟨by rfl, ?_⟩) (by first | assumption | exact trivial) ?_
          · intro W hSW; obtain ⟨⟨y0, y1⟩, i0, i1, i2, i3⟩ := HC.out W hSW; go_simp; try (with_reducible rfl)
          simp only [Act.put, List.getElem_toArray, List.getElem_cons_succ, List.getElem_cons_zero, List.setIfInBounds_toArray, List.set_cons_zero, List.set_cons_succ]
          refine wpAnyH_ready (rs := [4]) (by kernel_rfl) (by simp) ?_
          refine AllReadyH.cons rfl (fun K hK => ?_) AllReadyH.nil
          go_simp
          go_wp2_with (go_at_call 30; refine (HNx.out _ (HU.out _ S0)).mono ?_; rintro e w5 ⟨rfl, b5⟩)
          have S5 := go_on S0 b5.out
          refine hK.out _ _ (S5) (fun hHeld => ?_)
          clear hK K
          refine wpAnyH_take (i := 5) (v := .bool true) rfl (by kernel_rfl) (by kernel_rfl) (by kernel_rfl) (fun _ _ _ h => h) (Or.inl ⟨by rfl, ?_⟩) (by first | assumption | exact trivial) ?_
          · intro W hSW; go_simp; try (with_reducible rfl)
          simp only [Act.put, List.getElem_toArray, List.getElem_cons_succ, List.getElem_cons_zero, List.setIfInBounds_toArray, List.set_cons_zero, List.set_cons_succ]
          refine wpAnyH_take (i := 6) (v := .bool true) rfl (by kernel_rfl) (by kernel_rfl) (by kernel_rfl) (fun _ _ _ h => h) (Or.inl ⟨by rfl, ?_⟩) (by first | assumption | exact trivial) ?_
          · intro W hSW; go_simp; try (with_reducible rfl)
          simp only [Act.put, List.getElem_toArray, List.getElem_cons_succ, List.getElem_cons_zero, List.setIfInBounds_toArray, List.set_cons_zero, List.set_cons_succ]
          refine wpAnyH_take (i := 7) (v := .agg #[.int .i64 room, v]) rfl (by kernel_rfl) (by kernel_rfl) (by kernel_rfl) (fun _ _ _ h => h) (Or.inl ⟨by rfl, ?_⟩) (by first | assumption | exact trivial) ?_
          · intro W hSW; obtain ⟨⟨y0, y1⟩, i0, i1, i2, i3⟩ := HC.out W hSW; go_simp; try (with_reducible rfl)
          simp only [Act.put, List.getElem_toArray, List.getElem_cons_succ, List.getElem_cons_zero, List.setIfInBounds_toArray, List.set_cons_zero, List.set_cons_succ]
          refine wpAnyH_take (i := 9) (v := .pointer (some ⟨w.heap.size, 0, none⟩)) rfl (by kernel_rfl) (by kernel_rfl) (by kernel_rfl) (fun _ _ _ h => h) (Or.inl ⟨by rfl, ?_⟩) (by first | assumption | exact trivial) ?_
          · intro W hSW; go_simp; try (with_reducible rfl)
          simp only [Act.put, List.getElem_toArray, List.getElem_cons_succ, List.getElem_cons_zero, List.setIfInBounds_toArray, List.set_cons_zero, List.set_cons_succ]
          refine wpAnyH_take (i := 10) (v := .int .i64 room) rfl (by kernel_rfl) (by kernel_rfl) (by kernel_rfl) (fun _ _ _ h => h) (Or.inl ⟨by rfl, ?_⟩) (by first | assumption | exact trivial) ?_
          · intro W hSW; obtain ⟨⟨y0, y1⟩, i0, i1, i2, i3⟩ := HC.out W hSW; go_simp; try (with_reducible rfl)
          simp only [Act.put, List.getElem_toArray, List.getElem_cons_succ, List.getElem_cons_zero, List.setIfInBounds_toArray, List.set_cons_zero, List.set_cons_succ]
          refine wpAnyH_ready (rs := [8]) (by kernel_rfl) (by simp) ?_
          refine AllReadyH.cons rfl (fun K hK => ?_) AllReadyH.nil
          go_simp
          go_wp2_with (go_at_call 22; refine (HGa.out _ (HU.out _ S5)).mono ?_; rintro e w6 ⟨rfl, b6⟩)
          have S6 := go_on S5 b6.out
          refine hK.out _ _ (S6) (fun hHeld => ?_)
          clear hK K
          refine wpAnyH_take (i := 11) (v := .bool true) rfl (by kernel_rfl) (by kernel_rfl) (by kernel_rfl) (fun _ _ _ h => h) (Or.inl ⟨by rfl, ?_⟩) (by first | assumption | exact trivial) ?_
          · intro W hSW; go_simp; try (with_reducible rfl)
          simp only [Act.put, List.getElem_toArray, List.getElem_cons_succ, List.getElem_cons_zero, List.setIfInBounds_toArray, List.set_cons_zero, List.set_cons_succ]
          refine wpAnyH_take (i := 12) (v := .bool true) rfl (by kernel_rfl) (by kernel_rfl) (by kernel_rfl) (fun _ _ _ h => h) (Or.inl ⟨by rfl, ?_⟩) (by first | assumption | exact trivial) ?_
          · intro W hSW; go_simp; try (with_reducible rfl)
          simp only [Act.put, List.getElem_toArray, List.getElem_cons_succ, List.getElem_cons_zero, List.setIfInBounds_toArray, List.set_cons_zero, List.set_cons_succ]
          refine wpAnyH_done (by kernel_rfl) ?_ _
          go_wp2
          go_ret
          exact ⟨rfl, HU.out _ S6⟩
        · have hz : R = 0 := by rw [← hR2, if_neg (fun h => g5 h.2)]
          subst hz
          clear hR2 hc
          go_enter Try.func15, Try.ntmps15
          go_wp2_with (first
            | (go_at_call 28; rw [HW.out]; refine (HK.out _).mono ?_; rintro e w3 ⟨rfl, b3⟩; obtain ⟨⟨y0, y1⟩, i0, i1, i2, i3⟩ := HC.out w3 b3.out)
            | (go_at_call 24; refine (HH.out _ (HU.out _ b3.out)).mono ?_; rintro e w4 ⟨rfl, b4⟩))
          have B4 := go_on b3.out b4.out
          have S0 := B4.drew
          refine wp_region_held_drew (S := fun W => Below W2.heap.size W2 W) (by kernel_rfl) S0 (fun hHeld => ?_)
          refine wpAnyH_take (i := 0) (v := .pointer (some ⟨w.heap.size + 1, 3, none⟩)) rfl (by kernel_rfl) (by kernel_rfl) (by kernel_rfl) (fun _ _ _ h => h) (Or.inl ⟨by rfl, ?_⟩) (by first | assumption | exact trivial) ?_
          · intro W hSW; go_simp; try (with_reducible rfl)
          simp only [Act.put, List.getElem_toArray, List.getElem_cons_succ, List.getElem_cons_zero, List.setIfInBounds_toArray, List.set_cons_zero, List.set_cons_succ]
          refine wpAnyH_take (i := 1) (v := .int .i64 c) rfl (by kernel_rfl) (by kernel_rfl) (by kernel_rfl) (fun _ _ _ h => h) (Or.inl ⟨by rfl, ?_⟩) (by first | assumption | exact trivial) ?_
          · intro W hSW; obtain ⟨⟨y0, y1⟩, i0, i1, i2, i3⟩ := HC.out W hSW; go_simp; try (with_reducible rfl)
          simp only [Act.put, List.getElem_toArray, List.getElem_cons_succ, List.getElem_cons_zero, List.setIfInBounds_toArray, List.set_cons_zero, List.set_cons_succ]
          refine wpAnyH_take (i := 2) (v := .agg #[.int .i64 room, v]) rfl (by kernel_rfl) (by kernel_rfl) (by kernel_rfl) (fun _ _ _ h => h) (Or.inl ⟨by rfl, ?_⟩) (by first | assumption | exact trivial) ?_
          · intro W hSW; obtain ⟨⟨y0, y1⟩, i0, i1, i2, i3⟩ := HC.out W hSW; go_simp; try (with_reducible rfl)
          simp only [Act.put, List.getElem_toArray, List.getElem_cons_succ, List.getElem_cons_zero, List.setIfInBounds_toArray, List.set_cons_zero, List.set_cons_succ]
          refine wpAnyH_take (i := 3) (v := .agg #[.int .i64 o, .int .i64 d, .int .i64 ee, .int .i64 c]) rfl (by kernel_rfl) (by kernel_rfl) (by kernel_rfl) (fun _ _ _ h => h) (Or.inl ⟨by rfl, ?_⟩) (by first | assumption | exact trivial) ?_
          · intro W hSW; obtain ⟨⟨y0, y1⟩, i0, i1, i2, i3⟩ := HC.out W hSW; go_simp; try (with_reducible rfl)
          simp only [Act.put, List.getElem_toArray, List.getElem_cons_succ, List.getElem_cons_zero, List.setIfInBounds_toArray, List.set_cons_zero, List.set_cons_succ]
          refine wpAnyH_ready (rs := [4]) (by kernel_rfl) (by simp) ?_
          refine AllReadyH.cons rfl (fun K hK => ?_) AllReadyH.nil
          go_simp
          go_wp2_with (go_at_call 30; refine (HNx.out _ (HU.out _ S0)).mono ?_; rintro e w5 ⟨rfl, b5⟩)
          have S5 := go_on S0 b5.out
          refine hK.out _ _ (S5) (fun hHeld => ?_)
          clear hK K
          refine wpAnyH_take (i := 5) (v := .bool true) rfl (by kernel_rfl) (by kernel_rfl) (by kernel_rfl) (fun _ _ _ h => h) (Or.inl ⟨by rfl, ?_⟩) (by first | assumption | exact trivial) ?_
          · intro W hSW; go_simp; try (with_reducible rfl)
          simp only [Act.put, List.getElem_toArray, List.getElem_cons_succ, List.getElem_cons_zero, List.setIfInBounds_toArray, List.set_cons_zero, List.set_cons_succ]
          refine wpAnyH_take (i := 6) (v := .bool true) rfl (by kernel_rfl) (by kernel_rfl) (by kernel_rfl) (fun _ _ _ h => h) (Or.inl ⟨by rfl, ?_⟩) (by first | assumption | exact trivial) ?_
          · intro W hSW; go_simp; try (with_reducible rfl)
          simp only [Act.put, List.getElem_toArray, List.getElem_cons_succ, List.getElem_cons_zero, List.setIfInBounds_toArray, List.set_cons_zero, List.set_cons_succ]
          refine wpAnyH_take (i := 7) (v := .agg #[.int .i64 room, v]) rfl (by kernel_rfl) (by kernel_rfl) (by kernel_rfl) (fun _ _ _ h => h) (Or.inl ⟨by rfl, ?_⟩) (by first | assumption | exact trivial) ?_
          · intro W hSW; obtain ⟨⟨y0, y1⟩, i0, i1, i2, i3⟩ := HC.out W hSW; go_simp; try (with_reducible rfl)
          simp only [Act.put, List.getElem_toArray, List.getElem_cons_succ, List.getElem_cons_zero, List.setIfInBounds_toArray, List.set_cons_zero, List.set_cons_succ]
          refine wpAnyH_take (i := 9) (v := .pointer (some ⟨w.heap.size, 0, none⟩)) rfl (by kernel_rfl) (by kernel_rfl) (by kernel_rfl) (fun _ _ _ h => h) (Or.inl ⟨by rfl, ?_⟩) (by first | assumption | exact trivial) ?_
          · intro W hSW; go_simp; try (with_reducible rfl)
          simp only [Act.put, List.getElem_toArray, List.getElem_cons_succ, List.getElem_cons_zero, List.setIfInBounds_toArray, List.set_cons_zero, List.set_cons_succ]
          refine wpAnyH_take (i := 10) (v := .int .i64 room) rfl (by kernel_rfl) (by kernel_rfl) (by kernel_rfl) (fun _ _ _ h => h) (Or.inl ⟨by rfl, ?_⟩) (by first | assumption | exact trivial) ?_
          · intro W hSW; obtain ⟨⟨y0, y1⟩, i0, i1, i2, i3⟩ := HC.out W hSW; go_simp; try (with_reducible rfl)
          simp only [Act.put, List.getElem_toArray, List.getElem_cons_succ, List.getElem_cons_zero, List.setIfInBounds_toArray, List.set_cons_zero, List.set_cons_succ]
          refine wpAnyH_ready (rs := [8]) (by kernel_rfl) (by simp) ?_
          refine AllReadyH.cons rfl (fun K hK => ?_) AllReadyH.nil
          go_simp
          go_wp2_with (go_at_call 22; refine (HGa.out _ (HU.out _ S5)).mono ?_; rintro e w6 ⟨rfl, b6⟩)
          have S6 := go_on S5 b6.out
          refine hK.out _ _ (S6) (fun hHeld => ?_)
          clear hK K
          refine wpAnyH_take (i := 11) (v := .bool false) rfl (by kernel_rfl) (by kernel_rfl) (by kernel_rfl) (fun _ _ _ h => h) (Or.inl ⟨by rfl, ?_⟩) (by first | assumption | exact trivial) ?_
          · intro W hSW; go_simp; try (with_reducible rfl)
          simp only [Act.put, List.getElem_toArray, List.getElem_cons_succ, List.getElem_cons_zero, List.setIfInBounds_toArray, List.set_cons_zero, List.set_cons_succ]
          refine wpAnyH_take (i := 12) (v := .bool false) rfl (by kernel_rfl) (by kernel_rfl) (by kernel_rfl) (fun _ _ _ h => h) (Or.inl ⟨by rfl, ?_⟩) (by first | assumption | exact trivial) ?_
          · intro W hSW; go_simp; try (with_reducible rfl)
          simp only [Act.put, List.getElem_toArray, List.getElem_cons_succ, List.getElem_cons_zero, List.setIfInBounds_toArray, List.set_cons_zero, List.set_cons_succ]
          refine wpAnyH_done (by kernel_rfl) ?_ _
          go_wp2
          go_ret
          exact ⟨rfl, HU.out _ S6⟩
  · have hne := Mg.nz h0
    have hR : rmayN room L i = Mg.chkN i := by unfold rmayN; rw [if_pos h0]
    rw [hR]
    obtain ⟨k, hk⟩ : ∃ k, Mg.chkN i = k := ⟨_, rfl⟩
    rw [hk] at HK hne ⊢
    clear h0 hk HH HNx HGa hR
    obtain ⟨o, d, ee, c⟩ := i
    simp only [Mg.idC] at HK HW HC ⊢
    go_enter Try.func15, Try.ntmps15
    have tok : True := trivial
    go_wp2_with (first
      | (go_at_call 28; have _t := tok; rw [HW.out]; refine (HK.out _).mono ?_; rintro e w3 ⟨rfl, b3⟩; obtain ⟨⟨y0, y1⟩, i0, i1, i2, i3⟩ := HC.out w3 b3.out; clear tok)
      | (go_at_call 28; refine (HK.out _).mono ?_; rintro e w4 ⟨rfl, b4⟩))
    go_ret
    exact ⟨rfl, go_on (HU.out _ b3.out) b4.out⟩
end Go.Proofs.Ythajocfgpodimaa.Se
/- What the marks of keys in order say of the keys: pure. -/
namespace Go.Proofs.Ythajocfgpodimaa.Se
open Go.RowKit
set_option linter.unusedVariables false
set_option linter.unusedSimpArgs false

/-- The marks speak of these keys. -/
structure MOk (L : Ks) (ms : List Mr) : Prop where
  pl : ms.Pairwise (fun a b => a.o < b.o ∨ a.o = b.o ∧ a.e < b.e)
  key : ∀ k ∈ L, ∃ m ∈ ms, m.o = k.o ∧ m.e = k.e
  one : ∀ m ∈ ms, ∃ c, (⟨m.o, m.e, c⟩ : Ky) ∈ L
  mem : ∀ m ∈ ms, ∀ c, 1 ≤ c → ((⟨m.o, m.e, c⟩ : Ky) ∈ L ↔ c ≤ m.up ∨ c ∈ m.more)
  fit : ∀ m ∈ ms, 0 ≤ m.up ∧ m.more.Pairwise (· < ·) ∧ ∀ x ∈ m.more, m.up + 2 ≤ x
theorem mput_o (m : Mr) (c : Int) : (mPut m c).o = m.o ∧ (mPut m c).e = m.e := by unfold mPut; split <;> exact ⟨rfl, rfl⟩
theorem mput_fit {m : Mr} {c : Int} (h : 0 ≤ m.up ∧ m.more.Pairwise (· < ·) ∧ ∀ x ∈ m.more, m.up + 2 ≤ x) (hu : m.up < c) (hm : ∀ x ∈ m.more, x < c) :
    (0 ≤ (mPut m c).up ∧ (mPut m c).more.Pairwise (· < ·) ∧ ∀ x ∈ (mPut m c).more, (mPut m c).up + 2 ≤ x) ∧ ∀ d, (d ≤ (mPut m c).up ∨ d ∈ (mPut m c).more) ↔ (d ≤ m.up ∨ d ∈ m.more) ∨ d = c := by
  obtain ⟨h0, h1, h2⟩ := h
  unfold mPut
  split
  · rename_i h3
    have h4 := List.eq_nil_of_length_eq_zero h3.1
    simp only [h4]
    refine ⟨⟨by omega, List.Pairwise.nil, by simp⟩, fun d => ?_⟩
    simp only [List.not_mem_nil, or_false]
    have := h3.2
    omega
  · rename_i h3
    have hc : m.up + 2 ≤ c := by
      by_cases h4 : m.more = []
      · have : ¬ c = m.up + 1 := fun e => h3 ⟨by simp [h4], e⟩
        omega
      · obtain ⟨x, hx⟩ := List.exists_mem_of_ne_nil _ h4
        have := h2 x hx
        have := hm x hx
        omega
    refine ⟨⟨h0, ?_, ?_⟩, fun d => ?_⟩
    · rw [List.pairwise_append]
      refine ⟨h1, by simp, fun x hx y hy => ?_⟩
      obtain rfl : y = c := by simpa using hy
      exact hm x hx
    · intro x hx
      rcases List.mem_append.1 hx with hx | hx
      · exact h2 x hx
      · obtain rfl : x = c := by simpa using hx
        exact hc
    · rw [List.mem_append, List.mem_singleton, or_assoc]
theorem ltK_iff (a b : Ky) : ltK a b = true ↔ a.o < b.o ∨ a.o = b.o ∧ (a.e < b.e ∨ a.e = b.e ∧ a.c < b.c) := by
  unfold ltK
  split
  · split
    · simp only [decide_eq_true_eq]; omega
    · simp only [decide_eq_true_eq]; omega
  · simp only [decide_eq_true_eq]; omega
theorem mok_snoc {L : Ks} {ms : List Mr} {k : Ky} (h : MOk L ms) (hk : ∀ x ∈ L, ltK x k = true) (hc : 1 ≤ k.c) : MOk (L ++ [k]) (mStep ms k) := by
  obtain ⟨o, e, c⟩ := k
  simp only at hc
  have hlt : ∀ a b d, (⟨a, b, d⟩ : Ky) ∈ L → a < o ∨ a = o ∧ (b < e ∨ b = e ∧ d < c) := fun a b d hx => (ltK_iff _ _).1 (hk _ hx)
  have h0 := mput_fit (m := ⟨o, e, 0, []⟩) (c := c) ⟨Int.le_refl _, List.Pairwise.nil, by simp⟩ (by show 0 < c; omega) (by simp)
  -- a new mark behind all
  have hnew : (∀ m ∈ ms, m.o < o ∨ m.o = o ∧ m.e < e) → MOk (L ++ [⟨o, e, c⟩]) (ms ++ [mPut ⟨o, e, 0, []⟩ c]) := fun hall => by
    obtain ⟨e1, e2⟩ := mput_o ⟨o, e, 0, []⟩ c
    obtain ⟨f1, f2⟩ := h0
    refine ⟨?_, ?_, ?_, ?_, ?_⟩
    · rw [List.pairwise_append]
      refine ⟨h.pl, by simp, fun a ha b hb => ?_⟩
      rw [List.mem_singleton.1 hb, e1, e2]
      exact hall a ha
    · intro x hx
      rcases List.mem_append.1 hx with hx | hx
      · obtain ⟨m, hm, h1⟩ := h.key x hx
        exact ⟨m, by simp [hm], h1⟩
      · rw [List.mem_singleton.1 hx]
        exact ⟨_, by simp, e1, e2⟩
    · intro m hm
      rcases List.mem_append.1 hm with hm | hm
      · obtain ⟨d, hd⟩ := h.one m hm
        exact ⟨d, by simp [hd]⟩
      · rw [List.mem_singleton.1 hm, e1, e2]
        exact ⟨c, by simp⟩
    · intro m hm d hd
      rcases List.mem_append.1 hm with hm | hm
      · rw [List.mem_append, h.mem m hm d hd]
        have hn : ¬ (⟨m.o, m.e, d⟩ : Ky) ∈ [(⟨o, e, c⟩ : Ky)] := by
          intro h1
          have h2 := List.mem_singleton.1 h1
          have h3 : m.o = o := congrArg Ky.o h2
          have h4 : m.e = e := congrArg Ky.e h2
          have := hall m hm
          omega
        simp only [hn, or_false]
      · rw [List.mem_singleton.1 hm, e1, e2, List.mem_append, f2 d]
        have hn : ¬ (⟨o, e, d⟩ : Ky) ∈ L := fun h1 => by
          obtain ⟨m, hm, h2, h3⟩ := h.key _ h1
          simp only at h2 h3
          have := hall m hm
          omega
        simp only [hn, false_or, List.mem_singleton, Ky.mk.injEq, true_and, List.not_mem_nil, or_false]
        have : ¬ d ≤ 0 := by omega
        simp only [this, false_or]
    · intro m hm
      rcases List.mem_append.1 hm with hm | hm
      · exact h.fit m hm
      · rw [List.mem_singleton.1 hm]
        exact f1
  rcases List.eq_nil_or_concat ms with rfl | ⟨I, m, rfl⟩
  · rw [mStep_nil]
    simpa using hnew (by simp)
  · rw [List.concat_eq_append] at h hnew ⊢
    have hpl := List.pairwise_append.1 h.pl
    obtain ⟨d0, hd0⟩ := h.one m (by simp)
    have hm0 := hlt _ _ _ hd0
    by_cases hs : m.o = o ∧ m.e = e
    · rw [mStep_same I m ⟨o, e, c⟩ hs]
      obtain ⟨rfl, rfl⟩ := hs
      obtain ⟨e1, e2⟩ := mput_o m c
      have hf := h.fit m (by simp)
      have hmem := h.mem m (by simp)
      have hI : ∀ x ∈ I, x.o < m.o ∨ x.o = m.o ∧ x.e < m.e := fun x hx => hpl.2.2 x hx m (by simp)
      have hup : m.up < c := by
        by_cases h1 : 1 ≤ m.up
        · have := hlt _ _ _ ((hmem m.up h1).2 (.inl (Int.le_refl _)))
          omega
        · omega
      have hmo : ∀ x ∈ m.more, x < c := fun x hx => by
        have h1 := hf.2.2 x hx
        have := hlt _ _ _ ((hmem x (by omega)).2 (.inr hx))
        omega
      obtain ⟨f1, f2⟩ := mput_fit hf hup hmo
      refine ⟨?_, ?_, ?_, ?_, ?_⟩
      · rw [List.pairwise_append]
        refine ⟨hpl.1, by simp, fun a ha b hb => ?_⟩
        rw [List.mem_singleton.1 hb, e1, e2]
        exact hI a ha
      · intro x hx
        rcases List.mem_append.1 hx with hx | hx
        · obtain ⟨q, hq, h1⟩ := h.key x hx
          rcases List.mem_append.1 hq with hq | hq
          · exact ⟨q, by simp [hq], h1⟩
          · rw [List.mem_singleton.1 hq] at h1
            exact ⟨_, by simp, e1.trans h1.1, e2.trans h1.2⟩
        · rw [List.mem_singleton.1 hx]
          exact ⟨_, by simp, e1, e2⟩
      · intro q hq
        rcases List.mem_append.1 hq with hq | hq
        · obtain ⟨d, hd⟩ := h.one q (by simp [hq])
          exact ⟨d, by simp [hd]⟩
        · rw [List.mem_singleton.1 hq, e1, e2]
          exact ⟨c, by simp⟩
      · intro q hq d hd
        rcases List.mem_append.1 hq with hq | hq
        · rw [List.mem_append, h.mem q (by simp [hq]) d hd]
          have hn : ¬ (⟨q.o, q.e, d⟩ : Ky) ∈ [(⟨m.o, m.e, c⟩ : Ky)] := by
            intro h1
            have h2 := List.mem_singleton.1 h1
            have h3 : q.o = m.o := congrArg Ky.o h2
            have h4 : q.e = m.e := congrArg Ky.e h2
            have := hI q hq
            omega
          simp only [hn, or_false]
        · rw [List.mem_singleton.1 hq, e1, e2, List.mem_append, f2 d, hmem d hd]
          simp only [List.mem_singleton, Ky.mk.injEq, true_and]
      · intro q hq
        rcases List.mem_append.1 hq with hq | hq
        · exact h.fit q (by simp [hq])
        · rw [List.mem_singleton.1 hq]
          exact f1
    · rw [mStep_new I m ⟨o, e, c⟩ hs]
      refine hnew fun q hq => ?_
      obtain ⟨d, hd⟩ := h.one q hq
      have h1 := hlt _ _ _ hd
      rcases List.mem_append.1 hq with hq | hq
      · have := hpl.2.2 q hq m (by simp)
        omega
      · rw [List.mem_singleton.1 hq] at h1 ⊢
        omega
theorem mok_all : ∀ (n : Nat) (L : Ks), L.length = n → L.Pairwise (fun a b => ltK a b = true) → (∀ k ∈ L, 1 ≤ k.c) → MOk L (marksL L)
  | 0, L, hl, _, _ => by
    obtain rfl := List.eq_nil_of_length_eq_zero hl
    exact ⟨List.Pairwise.nil, by simp, by simp [marksL], by simp [marksL], by simp [marksL]⟩
  | n + 1, L, hl, hp, hc => by
    rcases List.eq_nil_or_concat L with rfl | ⟨I, k, rfl⟩
    · simp at hl
    · rw [List.concat_eq_append] at hl hp hc ⊢
      rw [List.pairwise_append] at hp
      rw [marks_snoc]
      exact mok_snoc (mok_all n I (by simpa using hl) hp.1 fun x hx => hc x (by simp [hx])) (fun x hx => hp.2.2 x hx k (by simp)) (hc k (by simp))
end Go.Proofs.Ythajocfgpodimaa.Se
