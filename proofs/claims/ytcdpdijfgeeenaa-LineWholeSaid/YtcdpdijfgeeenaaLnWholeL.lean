/- The walk of the law LineWhole. -/
import Derived.Test.YtcdpdijfgeeenaaLnWholeW
import Derived.Test.YtcdpdijfgeeenaaLnWoke
import Derived.Deep.QuietTactic
import Derived.BigQuiet
namespace Go.Proofs.Ytcdpdijfgeeenaa.Li
open Go.RowKit
open Go.Proofs.Ytcdpdijfgeeenaa.Sb
set_option linter.unusedVariables false
set_option linter.unusedSimpArgs false

set_option maxRecDepth 100000 in
theorem lineWhole_bad (d : Int) (v : Value) (w : World) (h : d < 0 ∨ 64 < d) : Calls Try.prog 4 #[.int .i64 d, v] w fun e w' => e = .returned (.bool true) ∧ Below w.heap.size w w' := by
  have HN := Lib.hid (New_bad d h w)
  have HA := Lib.hid awake_any
  by_cases h1 : d < 0
  · clear h
    go_enter Try.func4, Try.ntmps4
    go_wp2_with (first
      | (go_at_call 7; refine HN.out.mono ?_; rintro e w1 ⟨rfl, rfl⟩)
      | (go_at_call 9; refine (HA.out _).mono ?_; rintro e w2 ⟨rfl, HB2⟩))
    go_ret
    exact ⟨rfl, HB2.out⟩
  · have h2 : 64 < d := by omega
    clear h
    go_enter Try.func4, Try.ntmps4
    go_wp2_with (first
      | (go_at_call 7; refine HN.out.mono ?_; rintro e w1 ⟨rfl, rfl⟩)
      | (go_at_call 9; refine (HA.out _).mono ?_; rintro e w2 ⟨rfl, HB2⟩))
    go_ret
    exact ⟨rfl, HB2.out⟩
set_option maxRecDepth 100000 in
set_option maxHeartbeats 4000000 in
theorem lineWhole (dl : Int) (A : Option Addr) (len cap : Nat) (P : List (List Nat)) (w : World) (hw0 : (Lit.int .i64 dl).wf = true) (hP : len = P.length ∧ len ≤ cap ∧ cap ≤ 9223372036854775807 ∧ Lr2.Rws w A P) :
    Calls Try.prog 4 #[.int .i64 dl, .slice A len cap] w fun e w' => e = .returned (.bool true) ∧ Below w.heap.size w w' := by
  by_cases hbad : dl < 0 ∨ 64 < dl
  · exact lineWhole_bad dl _ w hbad
  obtain ⟨d, rfl⟩ : ∃ d : Nat, dl = (d : Int) := ⟨dl.toNat, by omega⟩
  have hd : d ≤ 64 := by omega
  have hd2 : (d : Int) ≤ 64 := by omega
  have hd3 : 0 ≤ (d : Int) := by omega
  clear hbad hw0
  obtain ⟨hlen, hlc, hcm, hrows⟩ := hP
  have HRW := Lib.hid hrows
  have HFB : Hid (∀ i, i ≤ P.length → ∀ z ∈ flat P i, z < 256) := flat_bytes fun j hj => by
    obtain ⟨_, _, _, _, _, _, _, h⟩ := hrows j hj
    exact h.rd.1
  have HN := Lib.hid (New_s w.heap.size (fun _ => False) d hd w (Nat.le_refl _) (fun _ h => h.elim))
  have HA := Lib.hid awake_any
  obtain ⟨n, hn⟩ : ∃ n, P.length = n := ⟨_, rfl⟩
  have HNL : Hid (P.length = n) := hn
  rw [hn] at hlen
  subst hlen
  have hn9 : (len : Int) ≤ 9223372036854775807 := by omega
  clear hrows hn
  go_enter Try.func4, Try.ntmps4
  go_wp2_with (go_at_call 7; refine HN.out.mono ?_; rintro e w1 ⟨rfl, HL1, HB1⟩)
  have HW0 : Hid (∃ F, Wi w.heap.size F w (w1.alloc (.cells #[] 3)) w.heap.size (sW P d 0) (.slice none 0 0) (.slice none 0 0) (.slice (some ⟨w1.heap.size, 0, none⟩) 0 0) (flat P 0) (flat P (0 - d)) (endsL P 0)) := by
    have hb : Below w1.heap.size w1 (w1.alloc (.cells #[] 3)) := Me.below_alloc (Below.refl _ _)
    have e0 : flat P (0 - d) = [] := by rw [Nat.zero_sub]; simp [flat]
    refine ⟨fun k => k = w1.heap.size, ?_, ?_, ?_, ?_, (fun k e => by cases e), (fun k e => by cases e), (fun k e => by cases e; rfl), (fun k e => by cases e), (fun k e => by subst e; exact HB1.out.size), HB1.out.trans (hb.mono HB1.out.size)⟩
    · rw [sW_zero]
      exact HL1.out.wider hb fun k e => .inr ⟨by omega, by simp; omega⟩
    · simp only [flat, List.take_zero, List.flatten_nil]; exact Me.Own.nil _ _
    · rw [e0]; exact Me.Own.nil _ _
    · exact ⟨by simp [endsL], .inr ⟨w1.heap.size, 0, #[], rfl, Nat.zero_le _, heap_alloc_new w1 _, Nat.le_refl _, by unfold maxLen; omega, rfl, rfl⟩⟩
  go_loopw [7, 8, 9, 10] (fun u7 u8 u9 u10 wr => ∃ i : Nat, i ≤ len ∧ i ≤ 60 ∧ u10 = .int .i64 (i : Int) ∧ Hid (∃ F, Wi w.heap.size F w wr w.heap.size (sW P d i) u7 u8 u9 (flat P i) (flat P (i - d)) (endsL P i)) ∧ Hid (tot P i ≤ i * 65536)) (fun _ _ _ u10 _ => 60 - (intOf u10).toNat)
  case atStart => exact ⟨0, Nat.zero_le _, Nat.zero_le _, rfl, HW0, by show _ ≤ _; simp [tot, flat]⟩
  case round =>
    obtain ⟨i, hi, hi6, rfl, ⟨F, hWi⟩, HT⟩ := hrel
    have HWI := Lib.hid hWi
    clear HW0 hWi
    by_cases hgo : i < len ∧ i < 60
    · obtain ⟨hgi, hg6⟩ := hgo
      obtain ⟨b, off, R, cr, hAe, hbl, hcell, hrow⟩ := HRW.out i (by have := HNL.out; omega)
      subst hAe
      have HRow : Hid (∀ W, Below w.heap.size w W → W.cell? ⟨b, off + i, none⟩ = some (.slice R (Me.lsAt P i).length cr) ∧ Me.Rd W W.heap.size R (Me.lsAt P i)) := fun W hW => ⟨(hW.cell (p := ⟨b, off + i, none⟩) hbl).trans hcell, (hrow.below hW).rd⟩
      have HNi : Hid (R = none → (Me.lsAt P i).length = 0 ∧ cr = 0) := hrow.nil
      have hszp : (Me.lsAt P i).length ≤ 140737488351232 := Nat.le_trans hrow.le hrow.sz
      have q1 : (i : Int) < (len : Int) := by omega
      have q2 : (i : Int) < 60 := by omega
      have q3 : decide ((i : Int) < (len : Int)) = true := decide_eq_true q1
      have q4 : i < len := hgi
      have x1 := (HRow.out wr HWI.out.bel).1
      have HPt := Put_s (Lib.hid HWI.out.ln) R (Me.lsAt P i).length cr (Me.lsAt P i) rfl (Lib.hid (HRow.out wr HWI.out.bel).2) HNi (by omega)
      clear hcell hrow
      by_cases hfull : 65536 < (sW P d i).bs.length + (Me.lsAt P i).length
      · have hN : putN (sW P d i) (Me.lsAt P i) = 6 := by unfold putN; rw [if_pos hfull]
        have hS : putL (sW P d i) (Me.lsAt P i) = sW P d i := by unfold putL; rw [if_pos hfull]
        rw [hN, hS] at HPt
        have HPT := Lib.hid HPt
        have hrm := HWI.out.ln.ok.room
        obtain ⟨pl, hpl⟩ : ∃ x, (Me.lsAt P i).length = x := ⟨_, rfl⟩
        rw [hpl] at HPT HRow x1 hfull hszp
        obtain ⟨L, hL⟩ : ∃ x, (sW P d i).bs.length = x := ⟨_, rfl⟩
        have HLN : Hid (∀ W, Hid (Lr w.heap.size F W w.heap.size (sW P d i)) → Calls Try.prog 13 #[.pointer (some ⟨w.heap.size, 0, none⟩)] W fun e w' => e = .returned (.int .i64 (L : Int)) ∧ W = w') := fun W hW => by
          have := Len_s hW
          rw [hL] at this
          exact this
        rw [hL] at hfull hrm
        have q5 : (65536 : Int) < (pl : Int) + (L : Int) := by omega
        have HW7 : Hid (IntKind.i64.wrap ((pl : Int) + (L : Int)) = (pl : Int) + (L : Int)) := Mi.fits' (Mi.small (by omega) (by omega))
        have e6 : ((6 : Nat) : Int) = 6 := rfl
        rw [e6] at HPT
        clear HPt hN hS hpl hL e6
        go_wp2_with (go_at_call 14; refine HPT.out.mono ?_; rintro e w2 ⟨rfl, HL2, HB2⟩; have HW2 := Lib.hid (HWI.out.line HL2.out HB2.out))
        have hS2 : w2.drew.cell? ⟨b, off + i, none⟩ = some (.slice R pl cr) := (HRow.out w2 HW2.out.bel).1
        refine wp_region_held_drew (S := fun W => W.cell? ⟨b, off + i, none⟩ = some (.slice R pl cr)) (by kernel_rfl) hS2 (fun hHeld => ?_)
        refine wpAnyH_take (i := 0) (v := .slice (some ⟨b, off, none⟩) len cap) rfl (by kernel_rfl) (by kernel_rfl) (by kernel_rfl) (fun _ _ _ h => h) (Or.inl ⟨by rfl, ?_⟩) (by first | assumption | exact trivial) ?_
        · intro W hSW; go_simp; try (with_reducible rfl)
        simp only [Act.put, List.getElem_toArray, List.getElem_cons_succ, List.getElem_cons_zero, List.setIfInBounds_toArray, List.set_cons_zero, List.set_cons_succ]
        refine wpAnyH_take (i := 1) (v := .int .i64 (i : Int)) rfl (by kernel_rfl) (by kernel_rfl) (by kernel_rfl) (fun _ _ _ h => h) (Or.inl ⟨by rfl, ?_⟩) (by first | assumption | exact trivial) ?_
        · intro W hSW; go_simp; try (with_reducible rfl)
        simp only [Act.put, List.getElem_toArray, List.getElem_cons_succ, List.getElem_cons_zero, List.setIfInBounds_toArray, List.set_cons_zero, List.set_cons_succ]
        refine wpAnyH_take (i := 2) (v := .pointer (some ⟨b, off + i, none⟩)) rfl (by kernel_rfl) (by kernel_rfl) (by kernel_rfl) (fun _ _ _ h => h) (Or.inl ⟨by rfl, ?_⟩) (by first | assumption | exact trivial) ?_
        · intro W hSW; go_simp; try (with_reducible rfl)
        simp only [Act.put, List.getElem_toArray, List.getElem_cons_succ, List.getElem_cons_zero, List.setIfInBounds_toArray, List.set_cons_zero, List.set_cons_succ]
        refine wpAnyH_take (i := 3) (v := .slice R pl cr) rfl (by kernel_rfl) (by kernel_rfl) (by kernel_rfl) (fun _ _ _ h => h) (Or.inl ⟨by rfl, ?_⟩) (by first | assumption | exact trivial) ?_
        · intro W hSW; have y := hSW; go_simp; try (with_reducible rfl)
        simp only [Act.put, List.getElem_toArray, List.getElem_cons_succ, List.getElem_cons_zero, List.setIfInBounds_toArray, List.set_cons_zero, List.set_cons_succ]
        refine wpAnyH_take (i := 4) (v := .int .i64 (pl : Int)) rfl (by kernel_rfl) (by kernel_rfl) (by kernel_rfl) (fun _ _ _ h => h) (Or.inl ⟨by rfl, ?_⟩) (by first | assumption | exact trivial) ?_
        · intro W hSW; go_simp; try (with_reducible rfl)
        simp only [Act.put, List.getElem_toArray, List.getElem_cons_succ, List.getElem_cons_zero, List.setIfInBounds_toArray, List.set_cons_zero, List.set_cons_succ]
        refine wpAnyH_take (i := 5) (v := .pointer (some ⟨w.heap.size, 0, none⟩)) rfl (by kernel_rfl) (by kernel_rfl) (by kernel_rfl) (fun _ _ _ h => h) (Or.inl ⟨by rfl, ?_⟩) (by first | assumption | exact trivial) ?_
        · intro W hSW; go_simp; try (with_reducible rfl)
        simp only [Act.put, List.getElem_toArray, List.getElem_cons_succ, List.getElem_cons_zero, List.setIfInBounds_toArray, List.set_cons_zero, List.set_cons_succ]
        refine wpAnyH_ready (rs := [6]) (by kernel_rfl) (by simp) ?_
        refine AllReadyH.cons rfl (fun K hK => ?_) AllReadyH.nil
        go_simp
        have HL2d : Hid (Lr w.heap.size F w2.drew w.heap.size (sW P d i)) := HL2.out.below (Below.refl _ w2).drew
        go_wp2_with (go_at_call 13; refine (HLN.out _ HL2d).mono ?_; rintro e w3 ⟨rfl, rfl⟩)
        refine hK.out _ _ (hS2) (fun hHeld => ?_)
        clear hK K
        refine wpAnyH_take (i := 7) (v := .int .i64 ((pl : Int) + (L : Int))) rfl (by kernel_rfl) (by kernel_rfl) (by kernel_rfl) (fun _ _ _ h => h) (Or.inl ⟨by rfl, ?_⟩) (by first | assumption | exact trivial) ?_
        · intro W hSW; have y := HW7.out; go_simp; try (with_reducible rfl)
        simp only [Act.put, List.getElem_toArray, List.getElem_cons_succ, List.getElem_cons_zero, List.setIfInBounds_toArray, List.set_cons_zero, List.set_cons_succ]
        refine wpAnyH_take (i := 8) (v := .bool true) rfl (by kernel_rfl) (by kernel_rfl) (by kernel_rfl) (fun _ _ _ h => h) (Or.inl ⟨by rfl, ?_⟩) (by first | assumption | exact trivial) ?_
        · intro W hSW; go_simp; try (with_reducible rfl)
        simp only [Act.put, List.getElem_toArray, List.getElem_cons_succ, List.getElem_cons_zero, List.setIfInBounds_toArray, List.set_cons_zero, List.set_cons_succ]
        refine wpAnyH_take (i := 9) (v := .bool true) rfl (by kernel_rfl) (by kernel_rfl) (by kernel_rfl) (fun _ _ _ h => h) (Or.inl ⟨by rfl, ?_⟩) (by first | assumption | exact trivial) ?_
        · intro W hSW; go_simp; try (with_reducible rfl)
        simp only [Act.put, List.getElem_toArray, List.getElem_cons_succ, List.getElem_cons_zero, List.setIfInBounds_toArray, List.set_cons_zero, List.set_cons_succ]
        refine wpAnyH_ready (rs := [10]) (by kernel_rfl) (by simp) ?_
        refine AllReadyH.cons rfl (fun K hK => ?_) AllReadyH.nil
        go_simp
        go_wp2_with (go_at_call 9; refine (HA.out _).mono ?_; rintro e w4 ⟨rfl, HB4⟩)
        have hB4 : Below w.heap.size w w4 := HW2.out.bel.drew.trans (HB4.out.mono HW2.out.bel.size)
        refine hK.out _ _ ((HRow.out w4 hB4).1) (fun hHeld => ?_)
        clear hK K
        refine wpAnyH_take (i := 11) (v := .bool true) rfl (by kernel_rfl) (by kernel_rfl) (by kernel_rfl) (fun _ _ _ h => h) (Or.inl ⟨by rfl, ?_⟩) (by first | assumption | exact trivial) ?_
        · intro W hSW; go_simp; try (with_reducible rfl)
        simp only [Act.put, List.getElem_toArray, List.getElem_cons_succ, List.getElem_cons_zero, List.setIfInBounds_toArray, List.set_cons_zero, List.set_cons_succ]
        refine wpAnyH_take (i := 12) (v := .bool true) rfl (by kernel_rfl) (by kernel_rfl) (by kernel_rfl) (fun _ _ _ h => h) (Or.inl ⟨by rfl, ?_⟩) (by first | assumption | exact trivial) ?_
        · intro W hSW; go_simp; try (with_reducible rfl)
        simp only [Act.put, List.getElem_toArray, List.getElem_cons_succ, List.getElem_cons_zero, List.setIfInBounds_toArray, List.set_cons_zero, List.set_cons_succ]
        refine wpAnyH_done (by kernel_rfl) ?_ _
        go_wp2
        go_ret
        exact ⟨rfl, hB4⟩
      · have hN : putN (sW P d i) (Me.lsAt P i) = 0 := by unfold putN; rw [if_neg hfull]
        rw [hN, sW_put P d i hfull] at HPt
        have HPT := Lib.hid HPt
        obtain ⟨T0, hT0⟩ : ∃ x, tot P i = x := ⟨_, rfl⟩
        obtain ⟨T1, hT1⟩ : ∃ x, tot P (i + 1) = x := ⟨_, rfl⟩
        obtain ⟨T2, hT2⟩ : ∃ x, tot P (i + 1 - d) = x := ⟨_, rfl⟩
        have hts := tot_succ P i
        rw [hT0, hT1] at hts
        have hT12 : T2 ≤ T1 := by rw [← hT1, ← hT2]; exact tot_mono P (by omega)
        obtain ⟨pl, hpl⟩ : ∃ x, (Me.lsAt P i).length = x := ⟨_, rfl⟩
        have HPL : Hid ((Me.lsAt P i).length = pl) := hpl
        rw [hpl] at HPT HRow x1 hfull hszp hts HNi
        have HTT := HT
        rw [hT0] at HT
        have hp6 : pl ≤ 65536 := by omega
        have HLi : Hid ((flat P i).length + (Me.lsAt P i).length ≤ 140737488355328) := by
          show _ ≤ _
          have h1 : (flat P i).length = T0 := hT0
          rw [h1, hpl]
          have := HT.out
          omega
        have hT1b : T1 ≤ 4000000 := by have := HT.out; omega
        have HF1 : Hid (∀ W v', Me.Own W 0 v' (flat P i ++ Me.lsAt P i) → ∃ A1 c1, v' = .slice A1 T1 c1 ∧ T1 ≤ c1 ∧ c1 ≤ 9223372036854775807 ∧ Me.Own W 0 v' (flat P (i + 1)) ∧ (A1 = none → T1 = 0 ∧ c1 = 0)) := fun W v' h => by
          rw [← flat_succ] at h
          obtain ⟨A1, c1, e, g1, g2, _, g4⟩ := own_read h (HFB.out (i + 1) (by have := HNL.out; omega))
          have e1 : (flat P (i + 1)).length = T1 := hT1
          rw [e1] at e g1 g4
          exact ⟨A1, c1, e, g1, g2, h, g4⟩
        have HEl : Hid (((endsL P i).length + 1) * 8 ≤ 140737488355328) := by show _ ≤ _; rw [ends_len]; omega
        have HES : Hid (endsL P i ++ [((T1 : Nat) : Int)] = endsL P (i + 1)) := by show _ = _; rw [← hT1]; exact ends_succ P i
        have HTk : Hid (∀ F' W, Lr w.heap.size F' W w.heap.size (sP P d i) → Calls Try.prog 15 #[.pointer (some ⟨w.heap.size, 0, none⟩)] W fun e w' => ∃ A5, e = .returned (.slice A5 ((sP P d i).bs.take (comeN (sP P d i))).length ((sP P d i).bs.take (comeN (sP P d i))).length) ∧ Hid (Me.Rd w' w'.heap.size A5 ((sP P d i).bs.take (comeN (sP P d i)))) ∧ Hid (A5 = none → ((sP P d i).bs.take (comeN (sP P d i))).length = 0 ∧ ((sP P d i).bs.take (comeN (sP P d i))).length = 0) ∧ Hid (Lr w.heap.size F' w' w.heap.size (takeL (sP P d i))) ∧ Hid (But (Out w.heap.size F') W w')) := fun F' W hW => by
          have hln : ((sP P d i).bs.take (comeN (sP P d i))).length = comeN (sP P d i) := by
            have h1 := comeN_le (sP P d i)
            have h2 := hW.ok.len
            rw [List.length_take]
            omega
          rw [hln]
          refine (Take_s (Lib.hid hW)).mono ?_
          rintro e w' ⟨A5, rfl, h1, h2, h3, h4⟩
          exact ⟨A5, rfl, h1, fun e => ⟨h2.out e, h2.out e⟩, h3, h4⟩
        have HOl : Hid ((flat P (i - d)).length + ((sP P d i).bs.take (comeN (sP P d i))).length ≤ 140737488355328) := by
          show _ ≤ _
          have := congrArg List.length (out_next P d i)
          rw [List.length_append] at this
          have h2 : (flat P (i + 1 - d)).length = T2 := hT2
          omega
        have HF2 : Hid (∀ W v', Me.Own W 0 v' (flat P (i - d) ++ (sP P d i).bs.take (comeN (sP P d i))) → ∃ A1 c1, v' = .slice A1 T2 c1 ∧ T2 ≤ c1 ∧ c1 ≤ 9223372036854775807 ∧ Me.Own W 0 v' (flat P (i + 1 - d)) ∧ (A1 = none → T2 = 0 ∧ c1 = 0)) := fun W v' h => by
          rw [out_next] at h
          obtain ⟨A1, c1, e, g1, g2, _, g4⟩ := own_read h (HFB.out (i + 1 - d) (by have := HNL.out; omega))
          have e1 : (flat P (i + 1 - d)).length = T2 := hT2
          rw [e1] at e g1 g4
          exact ⟨A1, c1, e, g1, g2, h, g4⟩
        obtain ⟨tk, htk⟩ : ∃ x, (sP P d i).bs.take (comeN (sP P d i)) = x := ⟨_, rfl⟩
        rw [htk] at HTk HOl HF2
        obtain ⟨tn, htn⟩ : ∃ x, tk.length = x := ⟨_, rfl⟩
        have HTN : Hid (tk.length = tn) := htn
        rw [htn] at HTk
        have HTick : Hid (∀ F' W, Lr w.heap.size F' W w.heap.size (takeL (sP P d i)) → Calls Try.prog 16 #[.pointer (some ⟨w.heap.size, 0, none⟩)] W fun e w' => e = .returned (.int .i64 0) ∧ Hid (Lr w.heap.size F' w' w.heap.size (sW P d (i + 1))) ∧ Hid (But (Out w.heap.size F') W w')) := fun F' W hW => by
          have := Tick_s (Lib.hid hW) (by show i < 1000000; omega)
          rw [sP_next] at this
          exact this
        have HTN2 : Hid (tot P (i + 1) ≤ (i + 1) * 65536) := by show _ ≤ _; rw [hT1]; have := HT.out; omega
        have HTA : Hid (tot P (i + 1) = T1 ∧ tot P (i + 1 - d) = T2) := ⟨hT1, hT2⟩
        have HIL : Hid (i + 1 ≤ P.length) := by show _ ≤ _; have := HNL.out; omega
        have HCV : Hid (∀ A6 c6 W, Me.Own W 0 (.slice A6 T2 c6) (flat P (i + 1 - d)) → ∀ m, (convert 33 9 (.slice A6 T2 c6)).run Try.prog (W.drewN m) = .ok (.string (Me.strOf (flat P (i + 1 - d)))) (W.drewN m)) := fun A6 c6 W h => own_conv h (HFB.out _ (by have := HIL.out; omega)) hT2
        have HCV2 : Hid (∀ A6 c6 W, Me.Own W 0 (.slice A6 T1 c6) (flat P (i + 1)) → ∀ m, (convert 33 9 (.slice A6 T2 c6)).run Try.prog (W.drewN m) = .ok (.string (Me.strOf (flat P (i + 1 - d)))) (W.drewN m)) := fun A6 c6 W h m => by
          have h1 := own_conv_take h (HFB.out _ HIL.out) (k := T2) (by rw [← hT1] at hT12; exact hT12) m
          rw [flat_take P (show i + 1 - d ≤ i + 1 by omega), hT2]
          exact h1
        obtain ⟨SO, hSO⟩ : ∃ x, Me.strOf (flat P (i + 1 - d)) = x := ⟨_, rfl⟩
        rw [hSO] at HCV HCV2
        clear hSO hpl hT0 hT1 hT2 htk htn hN hfull HPt HT HTT hszp hp6 hts
        have HFE : Hid (∀ W v, Mi.Own W 0 v (endsL P (i + 1)) → ∃ g c, v = .slice (some ⟨g, 0, none⟩) (i + 1) c ∧ i + 1 ≤ c) := fun W v h => by
          rcases h.2 with ⟨h1, h2⟩ | ⟨g, cap, cur, h1, _, _, h4, _⟩
          · rw [ends_len] at h2; omega
          · rw [ends_len] at h1 h4
            exact ⟨g, cap, h1, h4⟩
        by_cases hid : d ≤ i
        · obtain ⟨r, hr⟩ : ∃ r, i - d = r := ⟨_, rfl⟩
          have HFC : Hid (∀ W g c, Mi.Own W 0 (.slice (some ⟨g, 0, none⟩) (i + 1) c) (endsL P (i + 1)) → W.cell? ⟨g, r, none⟩ = some (.int .i64 (T2 : Int))) := fun W g c h => by
            rw [World.ownsRow.cellAt (xs := (endsL P (i + 1)).map Mi.iV) (by have := h; unfold Mi.Own at this; rw [ends_len] at this; exact this) r (by omega)]
            have h1 : r < (endsL P (i + 1)).length := by rw [ends_len]; omega
            rw [List.getElem?_map, List.getElem?_eq_getElem h1]
            have h2 := ends_at P (i + 1) r (by omega)
            rw [Mi.at_get h1] at h2
            rw [h2]
            have h3 : r + 1 = i + 1 - d := by omega
            rw [h3, HTA.out.2]
            rfl
          have t1 : (i : Int) - (d : Int) = (r : Int) := by omega
          have t2 : (r : Int) < (i : Int) + 1 := by omega
          have t3 : r < i + 1 := by omega
          have t4 : (d : Int) ≤ (i : Int) := by omega
          have t5 : decide ((d : Int) ≤ (i : Int)) = true := decide_eq_true t4
          clear hr
          go_wp2_with (first
            | (go_at_call 14; refine HPT.out.mono ?_; rintro e w2 ⟨rfl, HL2, HB2⟩; have HW2 := Lib.hid (HWI.out.line HL2.out HB2.out); obtain ⟨x2, hr2⟩ := HRow.out w2 HW2.out.bel; have HR2 := Lib.hid hr2; clear hr2)
            | (at_builtin; refine Hd.app8q rfl (.tmp 67) (.tmp 71) rfl w2.heap.size u7 (flat P i) (Me.lsAt P i) rfl HW2.out.oi R cr (by show _ = Value.slice R _ cr; rw [HPL.out]; rfl) HR2.out (by rw [HPL.out]; exact HNi.out) HLi.out ?_; intro v3 w3 ho3 hg3 hk3; obtain ⟨A3, c3, rfl, m1, m2, ho3', m4⟩ := HF1.out w3 v3 ho3; have HW3 := Lib.hid (HW2.out.inn ho3' hg3 hk3); clear ho3 ho3' hg3 hk3)
            | (at_builtin; refine Mi.app1q rfl (.tmp 73) (.tmp 76) rfl u9 (endsL P i) (T1 : Int) rfl rfl HW3.out.oe w3.heap.size rfl rfl HEl.out ?_; intro v4 w4 ho4 hg4 hk4; rw [HES.out] at ho4; have HW4 := Lib.hid (HW3.out.end ho4 hg4 hk4); obtain ⟨g4, c4, rfl, m5⟩ := HFE.out w4 v4 ho4; clear ho4 hg4 hk4)
            | (go_at_call 15; refine (HTk.out _ w4 HW4.out.ln).mono ?_; rintro e w5 ⟨A5, rfl, HR5, HA5, HL5, HB5⟩; have HW5 := Lib.hid (HW4.out.line HL5.out HB5.out))
            | (at_builtin; refine Hd.app8q rfl (.tmp 78) (.tmp 80) rfl w5.heap.size u8 (flat P (i - d)) tk rfl HW5.out.oo A5 tn (by show _ = Value.slice A5 _ tn; rw [HTN.out]; rfl) HR5.out (by rw [HTN.out]; exact HA5.out) HOl.out ?_; intro v6 w6 ho6 hg6 hk6; obtain ⟨A6, c6, rfl, n1, n2, ho6', n4⟩ := HF2.out w6 v6 ho6; have HW6 := Lib.hid (HW5.out.out ho6' hg6 hk6); have x6 := HFC.out w6 g4 c4 HW6.out.oe; clear ho6 ho6' hg6 hk6))
          have y1 := HCV.out A6 c6 w6 HW6.out.oo
          have y2 := HCV2.out A3 c3 w6 HW6.out.oi
          have n5 : T2 ≤ c3 := Nat.le_trans hT12 m1
          go_quiet (fail)
          go_wp2_with (go_at_call 16; refine (HTick.out _ _ (HW6.out.ln.below (Me.below_drewN (Below.refl _ w6) nq))).mono ?_; rintro e w8 ⟨rfl, HL8, HB8⟩)
          go_roundw
          case rel => exact ⟨i + 1, by omega, by omega, by go_num, ⟨_, ((HW6.out.belo (Me.below_drewN (Below.refl _ w6) nq)).line HL8.out HB8.out)⟩, HTN2⟩
          case measure => simp [intOf]; omega
        · have hT20 : T2 = 0 := by
            rw [← HTA.out.2, show i + 1 - d = 0 by omega]
            simp [tot, flat]
          have t4 : ¬ (d : Int) ≤ (i : Int) := by omega
          have t5 : decide ((d : Int) ≤ (i : Int)) = false := decide_eq_false t4
          subst hT20
          go_wp2_with (first
            | (go_at_call 14; refine HPT.out.mono ?_; rintro e w2 ⟨rfl, HL2, HB2⟩; have HW2 := Lib.hid (HWI.out.line HL2.out HB2.out); obtain ⟨x2, hr2⟩ := HRow.out w2 HW2.out.bel; have HR2 := Lib.hid hr2; clear hr2)
            | (at_builtin; refine Hd.app8q rfl (.tmp 67) (.tmp 71) rfl w2.heap.size u7 (flat P i) (Me.lsAt P i) rfl HW2.out.oi R cr (by show _ = Value.slice R _ cr; rw [HPL.out]; rfl) HR2.out (by rw [HPL.out]; exact HNi.out) HLi.out ?_; intro v3 w3 ho3 hg3 hk3; obtain ⟨A3, c3, rfl, m1, m2, ho3', m4⟩ := HF1.out w3 v3 ho3; have HW3 := Lib.hid (HW2.out.inn ho3' hg3 hk3); clear ho3 ho3' hg3 hk3)
            | (at_builtin; refine Mi.app1q rfl (.tmp 73) (.tmp 76) rfl u9 (endsL P i) (T1 : Int) rfl rfl HW3.out.oe w3.heap.size rfl rfl HEl.out ?_; intro v4 w4 ho4 hg4 hk4; rw [HES.out] at ho4; have HW4 := Lib.hid (HW3.out.end ho4 hg4 hk4); obtain ⟨g4, c4, rfl, m5⟩ := HFE.out w4 v4 ho4; clear ho4 hg4 hk4)
            | (go_at_call 15; refine (HTk.out _ w4 HW4.out.ln).mono ?_; rintro e w5 ⟨A5, rfl, HR5, HA5, HL5, HB5⟩; have HW5 := Lib.hid (HW4.out.line HL5.out HB5.out))
            | (at_builtin; refine Hd.app8q rfl (.tmp 78) (.tmp 80) rfl w5.heap.size u8 (flat P (i - d)) tk rfl HW5.out.oo A5 tn (by show _ = Value.slice A5 _ tn; rw [HTN.out]; rfl) HR5.out (by rw [HTN.out]; exact HA5.out) HOl.out ?_; intro v6 w6 ho6 hg6 hk6; obtain ⟨A6, c6, rfl, n1, n2, ho6', n4⟩ := HF2.out w6 v6 ho6; have HW6 := Lib.hid (HW5.out.out ho6' hg6 hk6); clear ho6 ho6' hg6 hk6))
          have y1 := HCV.out A6 c6 w6 HW6.out.oo
          have y2 := HCV2.out A3 c3 w6 HW6.out.oi
          have n5 : 0 ≤ c3 := Nat.zero_le _
          go_quiet (fail)
          go_wp2_with (go_at_call 16; refine (HTick.out _ _ (HW6.out.ln.below (Me.below_drewN (Below.refl _ w6) nq))).mono ?_; rintro e w8 ⟨rfl, HL8, HB8⟩)
          go_roundw
          case rel => exact ⟨i + 1, by omega, by omega, by go_num, ⟨_, ((HW6.out.belo (Me.below_drewN (Below.refl _ w6) nq)).line HL8.out HB8.out)⟩, HTN2⟩
          case measure => simp [intOf]; omega
    · have HGN := hgo
      clear hgo
      have HGo : Hid (P.length = len ∧ i ≤ len) := ⟨HNL.out, hi⟩
      have HFi := Lib.hid (HFB.out i (by have := HNL.out; omega))
      have HTi : Hid ((flat P i).length ≤ 4000000) := by show _ ≤ _; have h1 := HT.out; unfold tot at h1; omega
      have HTk : Hid (∀ F' W, Lr w.heap.size F' W w.heap.size (sE P d i d) → Calls Try.prog 15 #[.pointer (some ⟨w.heap.size, 0, none⟩)] W fun e w' => ∃ A5, e = .returned (.slice A5 ((sE P d i d).bs.take (comeN (sE P d i d))).length ((sE P d i d).bs.take (comeN (sE P d i d))).length) ∧ Hid (Me.Rd w' w'.heap.size A5 ((sE P d i d).bs.take (comeN (sE P d i d)))) ∧ Hid (A5 = none → ((sE P d i d).bs.take (comeN (sE P d i d))).length = 0 ∧ ((sE P d i d).bs.take (comeN (sE P d i d))).length = 0) ∧ Hid (Lr w.heap.size F' w' w.heap.size (takeL (sE P d i d))) ∧ Hid (But (Out w.heap.size F') W w')) := fun F' W hW => by
        have hln : ((sE P d i d).bs.take (comeN (sE P d i d))).length = comeN (sE P d i d) := by
          have h1 := comeN_le (sE P d i d)
          have h2 := hW.ok.len
          rw [List.length_take]
          omega
        rw [hln]
        refine (Take_s (Lib.hid hW)).mono ?_
        rintro e w' ⟨A5, rfl, h1, h2, h3, h4⟩
        exact ⟨A5, rfl, h1, fun e => ⟨h2.out e, h2.out e⟩, h3, h4⟩
      have HOl : Hid ((flat P (i - d)).length + ((sE P d i d).bs.take (comeN (sE P d i d))).length ≤ 140737488355328) := by
        show _ ≤ _
        have := congrArg List.length (sE_out P d i)
        rw [List.length_append] at this
        have := HTi.out
        omega
      have HLn : Hid (∀ F' W, Lr w.heap.size F' W w.heap.size (takeL (sE P d i d)) → Calls Try.prog 13 #[.pointer (some ⟨w.heap.size, 0, none⟩)] W fun e w' => e = .returned (.int .i64 0) ∧ W = w') := fun F' W hW => by
        have := Len_s (Lib.hid hW)
        rw [sE_left] at this
        exact this
      have HOut : Hid (∀ W v', Me.Own W 0 v' (flat P (i - d) ++ (sE P d i d).bs.take (comeN (sE P d i d))) → Me.Own W 0 v' (flat P i)) := fun W v' h => by rw [sE_out] at h; exact h
      have HCv : Hid (∀ W v, Me.Own W 0 v (flat P i) → ∃ A n c, v = .slice A n c ∧ (convert 33 9 (.slice A n c)).run Try.prog W = .ok (.string (Me.strOf (flat P i))) W) := fun W v h => by
        obtain ⟨A, n, c, rfl⟩ := own_form h
        refine ⟨A, n, c, rfl, own_conv h HFi.out ?_ 0⟩
        obtain ⟨A', c', e, _⟩ := own_read h HFi.out
        injection e with e1 e2 e3
        exact e2.symm
      obtain ⟨SI, hSI⟩ : ∃ x, Me.strOf (flat P i) = x := ⟨_, rfl⟩
      rw [hSI] at HCv
      obtain ⟨tk, htk⟩ : ∃ x, (sE P d i d).bs.take (comeN (sE P d i d)) = x := ⟨_, rfl⟩
      rw [htk] at HTk HOl HOut
      obtain ⟨tn, htn⟩ : ∃ x, tk.length = x := ⟨_, rfl⟩
      have HTN : Hid (tk.length = tn) := htn
      rw [htn] at HTk
      have HTick : Hid (∀ F' W (k : Nat), k < 64 → Lr w.heap.size F' W w.heap.size (sE P d i k) → Calls Try.prog 16 #[.pointer (some ⟨w.heap.size, 0, none⟩)] W fun e w' => e = .returned (.int .i64 0) ∧ Hid (Lr w.heap.size F' w' w.heap.size (sE P d i (k + 1))) ∧ Hid (But (Out w.heap.size F') W w')) := fun F' W k hk hW => Tick_s (Lib.hid hW) (by show i + k < 1000000; omega)
      have HWE : Hid (∃ F, Wi w.heap.size F w wr w.heap.size (sE P d i 0) u7 u8 u9 (flat P i) (flat P (i - d)) (endsL P i)) := ⟨F, HWI.out⟩
      clear hSI htk htn hi HRW
      have hex : (i < len ∧ i = 60) ∨ ¬ i < len := by omega
      rcases hex with ⟨hx1, hx2⟩ | hx1
      · have q1 : (i : Int) < (len : Int) := by omega
        have q2 : ¬ (i : Int) < 60 := by omega
        have q3 : ¬ (i : Int) ≤ 59 := by omega
        subst hx2
        go_wp2
        go_loopw [12] (fun u12 wr2 => ∃ k : Nat, k ≤ d ∧ u12 = .int .i64 (k : Int) ∧ Hid (∃ F, Wi w.heap.size F w wr2 w.heap.size (sE P d 60 k) u7 u8 u9 (flat P 60) (flat P (60 - d)) (endsL P 60))) (fun u12 _ => d - (intOf u12).toNat)
        case atStart => exact ⟨0, Nat.zero_le _, rfl, HWE⟩
        case round =>
          obtain ⟨k, hk, rfl, ⟨F2, hW2⟩⟩ := hrel
          have HW2 := Lib.hid hW2
          clear hW2 HWE HWI
          by_cases hkd : k < d
          · have z1 : (k : Int) < (d : Int) := by omega
            have HTk2 := Lib.hid (HTick.out F2 _ k (by omega) HW2.out.ln)
            go_wp2_with (go_at_call 16; refine HTk2.out.mono ?_; rintro e w3 ⟨rfl, HL3, HB3⟩)
            go_roundw
            case rel => exact ⟨k + 1, by omega, by go_num, ⟨_, HW2.out.line HL3.out HB3.out⟩⟩
            case measure => simp [intOf]; omega
          · obtain rfl : k = d := by omega
            obtain ⟨Ai, ni, ci, rfl, yi⟩ := HCv.out _ _ HW2.out.oi
            go_wp2_with (first
              | (go_at_call 15; refine (HTk.out _ _ HW2.out.ln).mono ?_; rintro e w5 ⟨A5, rfl, HR5, HA5, HL5, HB5⟩; have HW5 := Lib.hid (HW2.out.line HL5.out HB5.out))
              | (at_builtin; refine Hd.app8q rfl (.tmp 113) (.tmp 115) rfl w5.heap.size u8 (flat P (60 - k)) tk rfl HW5.out.oo A5 tn (by show _ = Value.slice A5 _ tn; rw [HTN.out]; rfl) HR5.out (by rw [HTN.out]; exact HA5.out) HOl.out ?_; intro v6 w6 ho6 hg6 hk6; obtain ⟨A6, n6, c6, rfl, y6⟩ := HCv.out w6 v6 (HOut.out w6 v6 ho6); have HW6 := Lib.hid (HW5.out.out ho6 hg6 hk6); obtain ⟨Ai2, ni2, ci2, ei2, yi2⟩ := HCv.out _ _ HW6.out.oi; injection ei2 with ei1 ei3 ei4; subst ei1 ei3 ei4; clear ho6 hg6 hk6)
              | (go_at_call 13; refine (HLn.out _ _ HW6.out.ln).mono ?_; rintro e w7 ⟨rfl, rfl⟩)
              | (go_at_call 9; refine (HA.out _).mono ?_; rintro e w9 ⟨rfl, HB9⟩))
            go_ret
            exact ⟨rfl, HW6.out.bel.trans (HB9.out.mono HW6.out.bel.size)⟩
      · have q1 : ¬ (i : Int) < (len : Int) := by omega
        have q3 : decide ((i : Int) < (len : Int)) = false := decide_eq_false q1
        go_wp2
        go_loopw [12] (fun u12 wr2 => ∃ k : Nat, k ≤ d ∧ u12 = .int .i64 (k : Int) ∧ Hid (∃ F, Wi w.heap.size F w wr2 w.heap.size (sE P d i k) u7 u8 u9 (flat P i) (flat P (i - d)) (endsL P i))) (fun u12 _ => d - (intOf u12).toNat)
        case atStart => exact ⟨0, Nat.zero_le _, rfl, HWE⟩
        case round =>
          obtain ⟨k, hk, rfl, ⟨F2, hW2⟩⟩ := hrel
          have HW2 := Lib.hid hW2
          clear hW2 HWE HWI
          by_cases hkd : k < d
          · have z1 : (k : Int) < (d : Int) := by omega
            have HTk2 := Lib.hid (HTick.out F2 _ k (by omega) HW2.out.ln)
            go_wp2_with (go_at_call 16; refine HTk2.out.mono ?_; rintro e w3 ⟨rfl, HL3, HB3⟩)
            go_roundw
            case rel => exact ⟨k + 1, by omega, by go_num, ⟨_, HW2.out.line HL3.out HB3.out⟩⟩
            case measure => simp [intOf]; omega
          · obtain rfl : k = d := by omega
            obtain ⟨Ai, ni, ci, rfl, yi⟩ := HCv.out _ _ HW2.out.oi
            go_wp2_with (first
              | (go_at_call 15; refine (HTk.out _ _ HW2.out.ln).mono ?_; rintro e w5 ⟨A5, rfl, HR5, HA5, HL5, HB5⟩; have HW5 := Lib.hid (HW2.out.line HL5.out HB5.out))
              | (at_builtin; refine Hd.app8q rfl (.tmp 113) (.tmp 115) rfl w5.heap.size u8 (flat P (i - k)) tk rfl HW5.out.oo A5 tn (by show _ = Value.slice A5 _ tn; rw [HTN.out]; rfl) HR5.out (by rw [HTN.out]; exact HA5.out) HOl.out ?_; intro v6 w6 ho6 hg6 hk6; obtain ⟨A6, n6, c6, rfl, y6⟩ := HCv.out w6 v6 (HOut.out w6 v6 ho6); have HW6 := Lib.hid (HW5.out.out ho6 hg6 hk6); obtain ⟨Ai2, ni2, ci2, ei2, yi2⟩ := HCv.out _ _ HW6.out.oi; injection ei2 with ei1 ei3 ei4; subst ei1 ei3 ei4; clear ho6 hg6 hk6)
              | (go_at_call 13; refine (HLn.out _ _ HW6.out.ln).mono ?_; rintro e w7 ⟨rfl, rfl⟩)
              | (go_at_call 9; refine (HA.out _).mono ?_; rintro e w9 ⟨rfl, HB9⟩))
            go_ret
            exact ⟨rfl, HW6.out.bel.trans (HB9.out.mono HW6.out.bel.size)⟩
end Go.Proofs.Ytcdpdijfgeeenaa.Li
