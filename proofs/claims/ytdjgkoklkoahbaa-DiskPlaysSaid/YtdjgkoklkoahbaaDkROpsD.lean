/- The contract of the reference's Rename. -/
import Derived.Test.YtdjgkoklkoahbaaDkROpsB
namespace Go.Proofs.Ytdjgkoklkoahbaa.Dk
open Go.RowKit
open Go.Proofs.Ytdjgkoklkoahbaa.Me Go.Proofs.Ytdjgkoklkoahbaa.Hd
set_option linter.unusedVariables false
set_option linter.unusedSimpArgs false

theorem mayE_two (s : St) (a b : Nm) : mayE s [a, b] = if mayE s [a] = 0 then mayE s [b] else mayE s [a] := by
  rw [rmayE_one, rmayE_one]
  unfold mayE
  cases s.down <;> cases ha : nameOk a <;> cases hb : nameOk b <;> simp [ha, hb]
section
variable {Q : Nat → Prop} (w : World) (s : St) (v : Value) (hv : Hid (Fv Q w v s.files))
include hv
set_option maxRecDepth 100000 in
set_option maxHeartbeats 8000000 in
theorem RRename_any (ok : s.Ok) (n b : Nm) : Calls Try.prog 40 #[.agg (rcs s v), nmV n, nmV b] w (ROp Q w (renS s n b) (renE s n b)) := by
  obtain ⟨A, c, rfl, h1, h2⟩ := hv.out.form
  have HOK := Lib.hid ok
  have HVO := Lib.hid (fun (W : World) (hW : RX w s (.slice A s.files.length c) W) => fv_old hv.out hW.b)
  have RD := Lib.hid (fun (W : World) (hW : RX w s (.slice A s.files.length c) W) => Ready_any W s (.slice A s.files.length c) n)
  have RB := Lib.hid (fun (W : World) (hW : RX w s (.slice A s.files.length c) W) => Ready_any W s (.slice A s.files.length c) b)
  have TH := Lib.hid (fun (W : World) (hW : RX w s (.slice A s.files.length c) W) => There_any W s (.slice A s.files.length c) (hv.out.below hW.b) ok.srt n)
  have FI := Lib.hid (fun (W : World) (hW : RX w s (.slice A s.files.length c) W) => file_any W s (.slice A s.files.length c) (hv.out.below hW.b) ok.srt n)
  have WO := Lib.hid (fun (W : World) (hW : RX w s (.slice A s.files.length c) W) => without_any W (.slice A s.files.length c) s.files (hv.out.below hW.b) (by have := ok.cnt; omega) n)
  obtain ⟨F, hF⟩ : ∃ F, s.files.length = F := ⟨_, rfl⟩
  have HFF := Lib.hid hF
  rw [hF] at h1 RD RB TH FI WO HVO ⊢
  obtain ⟨W0, hW0⟩ : ∃ W0, (w.alloc (.cells (rcs s (.slice A F c)) 29)).alloc (.cells zD 29) = W0 := ⟨_, rfl⟩
  have HWE := Lib.hid hW0
  have HY0 : Hid (RY w s (.slice A F c) zD W0) := by show RY _ _ _ _ _; rw [← hW0]; exact RY.new w s (.slice A F c)
  obtain ⟨y0, y1, y2, y3⟩ := HY0.out.x.cells
  rw [← hW0] at y0 y1 y2 y3
  show Calls Try.prog 40 #[.agg #[.int .i64 (s.limit : Int), .slice A F c, .int .i64 (leftI s), .bool s.down], nmV n, nmV b] w _
  unfold rcs zD at HWE y0 y1 y2 y3
  clear hW0 hF ok
  by_cases ha : mayE s [n] = 0
  · rw [ha] at RD
    by_cases hb : mayE s [b] = 0
    · rw [hb] at RB
      have hm2 : mayE s [n, b] = 0 := by rw [mayE_two, if_pos ha, hb]
      by_cases he : findE s n = 0
      · rw [he] at TH
        have hlk := (findE_ok he).2.2
        have hd := (findE_ok he).1
        have hsl := (HOK.out.fileOf n).1
        have HSL := Lib.hid hsl
        obtain ⟨e12, hsz⟩ := two_strs HOK.out n
        obtain ⟨S1, hS1⟩ : ∃ S, Me.strOf ((fileOf s n).bytes.take (fileOf s n).safe) = S := ⟨_, rfl⟩
        obtain ⟨S2, hS2⟩ : ∃ S, Me.strOf ((fileOf s n).bytes.drop (fileOf s n).safe) = S := ⟨_, rfl⟩
        have HS1 := Lib.hid hS1
        have HS2 := Lib.hid hS2
        rw [hS1, hS2] at e12 hsz
        obtain ⟨SA, hSA⟩ : ∃ S, Me.strOf (fileOf s n).bytes = S := ⟨_, rfl⟩
        have HSA := Lib.hid hSA
        rw [hSA] at e12
        clear hS1 hS2 hSA
        obtain ⟨t, ht⟩ : ∃ t, (fileOf s n).bytes.length - (fileOf s n).safe = t := ⟨_, rfl⟩
        have z2 : S2.size = t := by rw [← HS2.out, str_size, List.length_drop, ht]
        by_cases htl : (fileOf s n).safe < (fileOf s n).bytes.length
        · have HC : Hid (renE s n b = 7) := by show _ = _; unfold renE; rw [if_neg (by rw [hm2]; simp), if_neg (by rw [hlk]; simp), if_pos htl]
          have HE : Hid (renS s n b = s) := by show _ = _; unfold renS; rw [if_neg (by rw [HC.out]; simp)]
          have g1 : (0 : Int) < (t : Int) := by omega
          clear ha hb hm2 he hlk hd hsl ht htl e12 hsz WO
          go_enter Try.func40, Try.ntmps40
          go_wp2_with (first
            | (go_at_call 53; rw [HWE.out]; refine (RD.out W0 HY0.out.x).mono ?_; rintro e w1 ⟨rfl, hb1⟩; have HY1 := Lib.hid (HY0.out.grow hb1.out); clear y0 y1 y2 y3; obtain ⟨y0, y1, y2, y3⟩ := HY1.out.x.cells)
            | (go_at_call 53; refine (RB.out w1 HY1.out.x).mono ?_; rintro e w2 ⟨rfl, hb2⟩; have HY2 := Lib.hid (HY1.out.grow hb2.out); clear y0 y1 y2 y3; obtain ⟨y0, y1, y2, y3⟩ := HY2.out.x.cells)
            | (go_at_call 58; refine (TH.out w2 HY2.out.x).mono ?_; rintro e w3 ⟨rfl, hb3⟩; have HY3a := Lib.hid (HY2.out.grow hb3.out); clear y0 y1 y2 y3; obtain ⟨y0, y1, y2, y3⟩ := HY3a.out.x.cells)
            | (go_at_call 55; refine (FI.out w3 HY3a.out.x).mono ?_; rintro e w4 ⟨rfl, hb4⟩; have HY4a := Lib.hid (HY3a.out.grow hb4.out); clear y0 y1 y2 y3)
            | (refine wpList_store_row rfl 82 (.tmp 8) (.tmp 35) rfl w4.heap.size (fV n (fileOf s n)) rfl rfl 82 _ (heap_alloc_new w4 _) (by kernel_rfl) rfl (fV_one _ _) ?_; have hbx := file_box HY4a.out n (fileOf s n); unfold zF at hbx; obtain ⟨W3, hW3⟩ : ∃ W3, (w4.alloc (.cells #[.string ⟨#[]⟩, .string ⟨#[]⟩, .string ⟨#[]⟩] 82)).setRow w4.heap.size (fV n (fileOf s n)) = W3 := ⟨_, rfl⟩; rw [hW3] at hbx ⊢; have hgl := HY4a.out.lt; obtain ⟨g, hg⟩ : ∃ g, w4.heap.size = g := ⟨_, rfl⟩; simp only [hg] at hbx hgl ⊢; have HGL := Lib.hid hgl; have HY3 := Lib.hid hbx.1; have HK3 := Lib.hid hbx.2; clear hW3 hbx hg hgl; have HFC : Hid (∀ W, KF w s (.slice A F c) g n (fileOf s n) W → W.cell? ⟨g, 0, none⟩ = some (nmV n) ∧ W.cell? ⟨g, 1, none⟩ = some (.string S1) ∧ W.cell? ⟨g, 2, none⟩ = some (.string S2)) := (fun W hW => by have h := hW.cells; rw [HS1.out, HS2.out] at h; exact h); obtain ⟨_, f1, f2⟩ := HFC.out W3 HK3.out; obtain ⟨y0, y1, y2, y3⟩ := HY3.out.x.cells)
            | (refine wpList_store_row rfl 29 (.tmp 6) (.tmp 40) rfl (w.heap.size + 1) (rcs s (.slice A F c)) rfl rfl 29 _ HY3.out.z (by kernel_rfl) rfl (rcs_one _ _ _ _) ?_; have HYF := Lib.hid (HY3.out.store (rcs s (.slice A F c)))))
          refine ret_cell rfl rfl HYF.out.z rfl Try.underlying29 (by kernel_rfl) rfl ?_
          exact ⟨A, F, c, by rw [HE.out, HC.out]; rfl, by rw [HE.out]; exact HVO.out _ HYF.out.x, HYF.out.x.b⟩
        · have HC : Hid (renE s n b = 0) := by show _ = _; unfold renE; rw [if_neg (by rw [hm2]; simp), if_neg (by rw [hlk]; simp), if_neg htl]
          have HE : Hid (renS s n b = chg s (put (del s.files n) b (fileOf s n))) := by show _ = _; unfold renS; rw [if_pos HC.out]
          have CH := Lib.hid (fun (W : World) (A2 : Option Addr) (n2 c2 : Nat) => rchanged_any W s (.slice A F c) A2 n2 c2 hd HOK.out.left (put (del s.files n) b (fileOf s n)))
          have g1 : ¬ (0 : Int) < (t : Int) := by omega
          have hdl : (del s.files n).length ≤ 500 := by have h1 := del_len s.files n; have h2 := HOK.out.cnt; omega
          have hdr : (fileOf s n).bytes.drop (fileOf s n).safe = [] := List.drop_eq_nil_of_le (by omega)
          have WI2 : Hid (∀ (W : World) (v2 : Value) (Q2 : Nat → Prop), Fv Q2 W v2 (del s.files n) → Calls Try.prog 57 #[v2, .agg #[nmV b, .string S1, .string ⟨#[]⟩]] W (NewF W (put (del s.files n) b (fileOf s n)))) := fun W v2 Q2 hW => by
            have h := with_any W v2 (del s.files n) hW hdl (b, fileOf s n)
            rw [fV_eq] at h
            unfold fV at h
            simp only [hdr, HS1.out] at h
            exact h
          clear ha hb hm2 he hlk hd hsl ht htl e12 hsz hdl hdr
          go_enter Try.func40, Try.ntmps40
          go_wp2_with (first
            | (go_at_call 53; rw [HWE.out]; refine (RD.out W0 HY0.out.x).mono ?_; rintro e w1 ⟨rfl, hb1⟩; have HY1 := Lib.hid (HY0.out.grow hb1.out); clear y0 y1 y2 y3; obtain ⟨y0, y1, y2, y3⟩ := HY1.out.x.cells)
            | (go_at_call 53; refine (RB.out w1 HY1.out.x).mono ?_; rintro e w2 ⟨rfl, hb2⟩; have HY2 := Lib.hid (HY1.out.grow hb2.out); clear y0 y1 y2 y3; obtain ⟨y0, y1, y2, y3⟩ := HY2.out.x.cells)
            | (go_at_call 58; refine (TH.out w2 HY2.out.x).mono ?_; rintro e w3 ⟨rfl, hb3⟩; have HY3a := Lib.hid (HY2.out.grow hb3.out); clear y0 y1 y2 y3; obtain ⟨y0, y1, y2, y3⟩ := HY3a.out.x.cells)
            | (go_at_call 55; refine (FI.out w3 HY3a.out.x).mono ?_; rintro e w4 ⟨rfl, hb4⟩; have HY4a := Lib.hid (HY3a.out.grow hb4.out); clear y0 y1 y2 y3)
            | (refine wpList_store_row rfl 82 (.tmp 8) (.tmp 35) rfl w4.heap.size (fV n (fileOf s n)) rfl rfl 82 _ (heap_alloc_new w4 _) (by kernel_rfl) rfl (fV_one _ _) ?_; have hbx := file_box HY4a.out n (fileOf s n); unfold zF at hbx; obtain ⟨W3, hW3⟩ : ∃ W3, (w4.alloc (.cells #[.string ⟨#[]⟩, .string ⟨#[]⟩, .string ⟨#[]⟩] 82)).setRow w4.heap.size (fV n (fileOf s n)) = W3 := ⟨_, rfl⟩; rw [hW3] at hbx ⊢; have hgl := HY4a.out.lt; obtain ⟨g, hg⟩ : ∃ g, w4.heap.size = g := ⟨_, rfl⟩; simp only [hg] at hbx hgl ⊢; have HGL := Lib.hid hgl; have HY3 := Lib.hid hbx.1; have HK3 := Lib.hid hbx.2; clear hW3 hbx hg hgl; have HFC : Hid (∀ W, KF w s (.slice A F c) g n (fileOf s n) W → W.cell? ⟨g, 0, none⟩ = some (nmV n) ∧ W.cell? ⟨g, 1, none⟩ = some (.string S1) ∧ W.cell? ⟨g, 2, none⟩ = some (.string S2)) := (fun W hW => by have h := hW.cells; rw [HS1.out, HS2.out] at h; exact h); obtain ⟨_, f1, f2⟩ := HFC.out W3 HK3.out; obtain ⟨y0, y1, y2, y3⟩ := HY3.out.x.cells))
          clear y0 y1 y2 y3 f1 f2
          refine wp_region_held_drew (S := KF w s (.slice A F c) g n (fileOf s n)) (by kernel_rfl) HK3.out.drew (fun hHeld => ?_)
          refine wpAnyH_take (i := 0) (v := ?vz1) rfl (by kernel_rfl) (by kernel_rfl) (by kernel_rfl) (fun _ _ _ h => h) (Or.inl ⟨by rfl, ?hyz1⟩) (by first | assumption | exact trivial) ?restz1
          case hyz1 => intro W hSW; obtain ⟨r0, r1, r2, r3⟩ := hSW.x.cells; go_simp; try (with_reducible rfl)
          simp only [Act.put, List.getElem_toArray, List.getElem_cons_succ, List.getElem_cons_zero, List.setIfInBounds_toArray, List.set_cons_zero, List.set_cons_succ]
          refine wpAnyH_take (i := 1) (v := ?vz2) rfl (by kernel_rfl) (by kernel_rfl) (by kernel_rfl) (fun _ _ _ h => h) (Or.inl ⟨by rfl, ?hyz2⟩) (by first | assumption | exact trivial) ?restz2
          case hyz2 => intro W hSW; go_simp; try (with_reducible rfl)
          simp only [Act.put, List.getElem_toArray, List.getElem_cons_succ, List.getElem_cons_zero, List.setIfInBounds_toArray, List.set_cons_zero, List.set_cons_succ]
          refine wpAnyH_take (i := 2) (v := ?vz3) rfl (by kernel_rfl) (by kernel_rfl) (by kernel_rfl) (fun _ _ _ h => h) (Or.inl ⟨by rfl, ?hyz3⟩) (by first | assumption | exact trivial) ?restz3
          case hyz3 => intro W hSW; obtain ⟨r0, r1, r2, r3⟩ := hSW.x.cells; go_simp; try (with_reducible rfl)
          simp only [Act.put, List.getElem_toArray, List.getElem_cons_succ, List.getElem_cons_zero, List.setIfInBounds_toArray, List.set_cons_zero, List.set_cons_succ]
          refine wpAnyH_take (i := 3) (v := ?vz4) rfl (by kernel_rfl) (by kernel_rfl) (by kernel_rfl) (fun _ _ _ h => h) (Or.inl ⟨by rfl, ?hyz4⟩) (by first | assumption | exact trivial) ?restz4
          case hyz4 => intro W hSW; go_simp; try (with_reducible rfl)
          simp only [Act.put, List.getElem_toArray, List.getElem_cons_succ, List.getElem_cons_zero, List.setIfInBounds_toArray, List.set_cons_zero, List.set_cons_succ]
          refine wpAnyH_take (i := 5) (v := ?vz5) rfl (by kernel_rfl) (by kernel_rfl) (by kernel_rfl) (fun _ _ _ h => h) (Or.inl ⟨by rfl, ?hyz5⟩) (by first | assumption | exact trivial) ?restz5
          case hyz5 => intro W hSW; go_simp; try (with_reducible rfl)
          simp only [Act.put, List.getElem_toArray, List.getElem_cons_succ, List.getElem_cons_zero, List.setIfInBounds_toArray, List.set_cons_zero, List.set_cons_succ]
          refine wpAnyH_take (i := 6) (v := ?vz6) rfl (by kernel_rfl) (by kernel_rfl) (by kernel_rfl) (fun _ _ _ h => h) (Or.inl ⟨by rfl, ?hyz6⟩) (by first | assumption | exact trivial) ?restz6
          case hyz6 => intro W hSW; go_simp; try (with_reducible rfl)
          simp only [Act.put, List.getElem_toArray, List.getElem_cons_succ, List.getElem_cons_zero, List.setIfInBounds_toArray, List.set_cons_zero, List.set_cons_succ]
          refine wpAnyH_take (i := 7) (v := ?vz7) rfl (by kernel_rfl) (by kernel_rfl) (by kernel_rfl) (fun _ _ _ h => h) (Or.inl ⟨by rfl, ?hyz7⟩) (by first | assumption | exact trivial) ?restz7
          case hyz7 => intro W hSW; obtain ⟨_, f1, f2⟩ := HFC.out W hSW; go_simp; try (with_reducible rfl)
          simp only [Act.put, List.getElem_toArray, List.getElem_cons_succ, List.getElem_cons_zero, List.setIfInBounds_toArray, List.set_cons_zero, List.set_cons_succ]
          refine wpAnyH_take (i := 8) (v := ?vz8) rfl (by kernel_rfl) (by kernel_rfl) (by kernel_rfl) (fun _ _ _ h => h) (Or.inl ⟨by rfl, ?hyz8⟩) (by first | assumption | exact trivial) ?restz8
          case hyz8 => intro W hSW; go_simp; try (with_reducible rfl)
          simp only [Act.put, List.getElem_toArray, List.getElem_cons_succ, List.getElem_cons_zero, List.setIfInBounds_toArray, List.set_cons_zero, List.set_cons_succ]
          refine wpAnyH_ready (rs := [4]) (by kernel_rfl) (by simp) ?_
          refine AllReadyH.cons rfl (fun K hK => ?_) AllReadyH.nil
          go_simp
          go_wp2_with (go_at_call 59; refine (WO.out W3.drew HY3.out.drew.x).mono ?_; rintro e w5 ⟨v5, rfl, hv5, hb5⟩; obtain ⟨A5, c5, rfl, _, _⟩ := hv5.out.form)
          have HY5 := Lib.hid (HY3.out.drew.grow hb5.out)
          have HK5 := Lib.hid (HK3.out.drew.grow hb5.out)
          refine hK.out _ _ (HK5.out) (fun hHeld => ?_)
          clear hK K
          refine wpAnyH_ready (rs := [9]) (by kernel_rfl) (by simp) ?_
          refine AllReadyH.cons rfl (fun K hK => ?_) AllReadyH.nil
          go_simp
          go_wp2_with (go_at_call 57; refine (WI2.out w5 _ _ hv5.out).mono ?_; rintro e w6 ⟨v6, rfl, hv6, hb6⟩; obtain ⟨A6, c6, rfl, _, _⟩ := hv6.out.form)
          have HY6 := Lib.hid (HY5.out.grow hb6.out)
          have HK6 := Lib.hid (HK5.out.grow hb6.out)
          refine hK.out _ _ (HK6.out) (fun hHeld => ?_)
          clear hK K
          refine wpAnyH_ready (rs := [10]) (by kernel_rfl) (by simp) ?_
          refine AllReadyH.cons rfl (fun K hK => ?_) AllReadyH.nil
          go_simp
          go_wp2_with (go_at_call 56; refine (CH.out w6 _ _ _).mono ?_; rintro e w7 ⟨rfl, hb7⟩)
          have HY7 := Lib.hid (HY6.out.grow hb7.out)
          have HK7 := Lib.hid (HK6.out.grow hb7.out)
          refine hK.out _ _ (HK7.out) (fun hHeld => ?_)
          clear hK K
          refine wpAnyH_ready (rs := [11]) (by kernel_rfl) (by simp) ?_
          refine AllReadyH.cons rfl (fun K hK => ?_) AllReadyH.nil
          rw [if_pos (by kernel_rfl)]
          refine wp_store_row 29 (.tmp 6) (.tmp 51) rfl (w.heap.size + 1) (rcs (chg s (put (del s.files n) b (fileOf s n))) (.slice A6 ((put (del s.files n) b (fileOf s n))).length c6)) rfl (by rfl) 29 _ HY7.out.z (by kernel_rfl) rfl (rcs_one _ _ _ _) ?_
          simp only [Act.put, List.getElem_toArray, List.getElem_cons_succ, List.getElem_cons_zero, List.setIfInBounds_toArray, List.set_cons_zero, List.set_cons_succ]
          have HY8 := Lib.hid (HY7.out.store (rcs (chg s (put (del s.files n) b (fileOf s n))) (.slice A6 ((put (del s.files n) b (fileOf s n))).length c6)))
          have HK8 := Lib.hid (HK7.out.store HGL.out (rcs (chg s (put (del s.files n) b (fileOf s n))) (.slice A6 ((put (del s.files n) b (fileOf s n))).length c6)))
          refine hK.out _ _ (HK8.out) (fun hHeld => ?_)
          clear hK K
          refine wpAnyH_take (i := 12) (v := ?vz9) rfl (by kernel_rfl) (by kernel_rfl) (by kernel_rfl) (fun _ _ _ h => h) (Or.inl ⟨by rfl, ?hyz9⟩) (by first | assumption | exact trivial) ?restz9
          case hyz9 => intro W hSW; go_simp; try (with_reducible rfl)
          simp only [Act.put, List.getElem_toArray, List.getElem_cons_succ, List.getElem_cons_zero, List.setIfInBounds_toArray, List.set_cons_zero, List.set_cons_succ]
          refine wpAnyH_done (by kernel_rfl) ?_ _
          go_wp2
          refine ret_cell rfl rfl HY8.out.z rfl Try.underlying29 (by kernel_rfl) rfl ?_
          have hz5 := HY5.out.lt
          refine ⟨A6, _, c6, by rw [HE.out, HC.out]; rfl, ?_, HY8.out.x.b⟩
          rw [HE.out]
          have q1 : Fv (fun b => w5.heap.size ≤ b) w7 (.slice A6 ((put (del s.files n) b (fileOf s n))).length c6) ((put (del s.files n) b (fileOf s n))) := hv6.out.below hb7.out
          exact fv_new (fv_keep q1 (by show ¬ w5.heap.size ≤ _; omega) _) (by show w.heap.size ≤ w5.heap.size; omega)
      · have hlk : (look s.files n).isNone = true ∧ findE s n = 4 := by
          have h1 := findE_may s n
          rw [if_pos ha] at h1
          cases h2 : (look s.files n).isNone with
          | true => rw [h2] at h1; exact ⟨rfl, h1⟩
          | false => rw [h2] at h1; exact absurd h1 he
        have HC : Hid (renE s n b = 4) := by show _ = _; unfold renE; rw [if_neg (by rw [hm2]; simp), if_pos hlk.1]
        have HE : Hid (renS s n b = s) := by show _ = _; unfold renS; rw [if_neg (by rw [HC.out]; simp)]
        rw [hlk.2] at TH
        clear ha hb hm2 he hlk FI WO
        go_enter Try.func40, Try.ntmps40
        go_wp2_with (first
          | (go_at_call 53; rw [HWE.out]; refine (RD.out W0 HY0.out.x).mono ?_; rintro e w1 ⟨rfl, hb1⟩; have HY1 := Lib.hid (HY0.out.grow hb1.out); clear y0 y1 y2 y3; obtain ⟨y0, y1, y2, y3⟩ := HY1.out.x.cells)
          | (go_at_call 53; refine (RB.out w1 HY1.out.x).mono ?_; rintro e w2 ⟨rfl, hb2⟩; have HY2 := Lib.hid (HY1.out.grow hb2.out); clear y0 y1 y2 y3; obtain ⟨y0, y1, y2, y3⟩ := HY2.out.x.cells)
          | (go_at_call 58; refine (TH.out w2 HY2.out.x).mono ?_; rintro e w3 ⟨rfl, hb3⟩; have HY3a := Lib.hid (HY2.out.grow hb3.out); clear y0 y1 y2 y3; obtain ⟨y0, y1, y2, y3⟩ := HY3a.out.x.cells))
        clear y0 y1 y2 y3
        refine wp_region_held_drew (S := RX w s (.slice A F c)) (by kernel_rfl) HY3a.out.drew.x (fun hHeld => ?_)
        refine wpAnyH_take (i := 0) (v := ?vz10) rfl (by kernel_rfl) (by kernel_rfl) (by kernel_rfl) (fun _ _ _ h => h) (Or.inl ⟨by rfl, ?hyz10⟩) (by first | assumption | exact trivial) ?restz10
        case hyz10 => intro W hSW; obtain ⟨r0, r1, r2, r3⟩ := hSW.cells; go_simp; try (with_reducible rfl)
        simp only [Act.put, List.getElem_toArray, List.getElem_cons_succ, List.getElem_cons_zero, List.setIfInBounds_toArray, List.set_cons_zero, List.set_cons_succ]
        refine wpAnyH_take (i := 1) (v := ?vz11) rfl (by kernel_rfl) (by kernel_rfl) (by kernel_rfl) (fun _ _ _ h => h) (Or.inl ⟨by rfl, ?hyz11⟩) (by first | assumption | exact trivial) ?restz11
        case hyz11 => intro W hSW; obtain ⟨r0, r1, r2, r3⟩ := hSW.cells; go_simp; try (with_reducible rfl)
        simp only [Act.put, List.getElem_toArray, List.getElem_cons_succ, List.getElem_cons_zero, List.setIfInBounds_toArray, List.set_cons_zero, List.set_cons_succ]
        refine wpAnyH_take (i := 2) (v := ?vz12) rfl (by kernel_rfl) (by kernel_rfl) (by kernel_rfl) (fun _ _ _ h => h) (Or.inl ⟨by rfl, ?hyz12⟩) (by first | assumption | exact trivial) ?restz12
        case hyz12 => intro W hSW; go_simp; try (with_reducible rfl)
        simp only [Act.put, List.getElem_toArray, List.getElem_cons_succ, List.getElem_cons_zero, List.setIfInBounds_toArray, List.set_cons_zero, List.set_cons_succ]
        refine wpAnyH_ready (rs := [3]) (by kernel_rfl) (by simp) ?_
        refine AllReadyH.cons rfl (fun K hK => ?_) AllReadyH.nil
        go_simp
        go_wp2_with (go_at_call 58; refine (TH.out w3.drew HY3a.out.drew.x).mono ?_; rintro e wE ⟨rfl, hbE⟩)
        have HYE := Lib.hid (HY3a.out.drew.grow hbE.out)
        refine hK.out _ _ (HYE.out.x) (fun hHeld => ?_)
        clear hK K
        refine wpAnyH_ready (rs := [4]) (by kernel_rfl) (by simp) ?_
        refine AllReadyH.cons rfl (fun K hK => ?_) AllReadyH.nil
        rw [if_pos (by kernel_rfl)]
        refine wp_store_row 29 (.tmp 6) (.tmp 29) rfl (w.heap.size + 1) (rcs s (.slice A F c)) rfl (by rfl) 29 _ HYE.out.z (by kernel_rfl) rfl (rcs_one _ _ _ _) ?_
        simp only [Act.put, List.getElem_toArray, List.getElem_cons_succ, List.getElem_cons_zero, List.setIfInBounds_toArray, List.set_cons_zero, List.set_cons_succ]
        have HYF := Lib.hid (HYE.out.store (rcs s (.slice A F c)))
        refine hK.out _ _ (HYF.out.x) (fun hHeld => ?_)
        clear hK K
        refine wpAnyH_take (i := 5) (v := ?vz13) rfl (by kernel_rfl) (by kernel_rfl) (by kernel_rfl) (fun _ _ _ h => h) (Or.inl ⟨by rfl, ?hyz13⟩) (by first | assumption | exact trivial) ?restz13
        case hyz13 => intro W hSW; go_simp; try (with_reducible rfl)
        simp only [Act.put, List.getElem_toArray, List.getElem_cons_succ, List.getElem_cons_zero, List.setIfInBounds_toArray, List.set_cons_zero, List.set_cons_succ]
        refine wpAnyH_done (by kernel_rfl) ?_ _
        go_wp2
        refine ret_cell rfl rfl HYF.out.z rfl Try.underlying29 (by kernel_rfl) rfl ?_
        exact ⟨A, F, c, by rw [HE.out, HC.out]; rfl, by rw [HE.out]; exact HVO.out _ HYF.out.x, HYF.out.x.b⟩
    · have hE0 : renE s n b = mayE s [b] := by unfold renE; rw [mayE_two, if_pos ha, if_pos hb]
      have HE : Hid (renS s n b = s) := by show _ = _; unfold renS; rw [if_neg (by rw [hE0]; exact hb)]
      obtain ⟨q, hq⟩ : ∃ q, mayE s [b] = q := ⟨_, rfl⟩
      rw [hq] at RB
      have HQ : Hid (renE s n b = q) := hE0.trans hq
      have hqne : ¬ q = 0 := by rw [← hq]; assumption
      have hne : ((q : Int) == 0) = false := beq_eq_false_iff_ne.mpr (by omega)
      have hne2 : ((q : Int) != 0) = true := by rw [bne, hne]; rfl
      clear ha hb hq FI WO TH hE0 hqne
      go_enter Try.func40, Try.ntmps40
      go_wp2_with (first
        | (go_at_call 53; rw [HWE.out]; refine (RD.out W0 HY0.out.x).mono ?_; rintro e w1 ⟨rfl, hb1⟩; have HY1 := Lib.hid (HY0.out.grow hb1.out); clear y0 y1 y2 y3; obtain ⟨y0, y1, y2, y3⟩ := HY1.out.x.cells)
        | (go_at_call 53; refine (RB.out w1 HY1.out.x).mono ?_; rintro e w2 ⟨rfl, hb2⟩; have HY2 := Lib.hid (HY1.out.grow hb2.out); clear y0 y1 y2 y3; obtain ⟨y0, y1, y2, y3⟩ := HY2.out.x.cells))
      clear y0 y1 y2 y3
      refine wp_region_held_drew (S := RX w s (.slice A F c)) (by kernel_rfl) HY2.out.drew.x (fun hHeld => ?_)
      refine wpAnyH_take (i := 0) (v := ?vz14) rfl (by kernel_rfl) (by kernel_rfl) (by kernel_rfl) (fun _ _ _ h => h) (Or.inl ⟨by rfl, ?hyz14⟩) (by first | assumption | exact trivial) ?restz14
      case hyz14 => intro W hSW; obtain ⟨r0, r1, r2, r3⟩ := hSW.cells; go_simp; try (with_reducible rfl)
      simp only [Act.put, List.getElem_toArray, List.getElem_cons_succ, List.getElem_cons_zero, List.setIfInBounds_toArray, List.set_cons_zero, List.set_cons_succ]
      refine wpAnyH_take (i := 1) (v := ?vz15) rfl (by kernel_rfl) (by kernel_rfl) (by kernel_rfl) (fun _ _ _ h => h) (Or.inl ⟨by rfl, ?hyz15⟩) (by first | assumption | exact trivial) ?restz15
      case hyz15 => intro W hSW; obtain ⟨r0, r1, r2, r3⟩ := hSW.cells; go_simp; try (with_reducible rfl)
      simp only [Act.put, List.getElem_toArray, List.getElem_cons_succ, List.getElem_cons_zero, List.setIfInBounds_toArray, List.set_cons_zero, List.set_cons_succ]
      refine wpAnyH_take (i := 2) (v := ?vz16) rfl (by kernel_rfl) (by kernel_rfl) (by kernel_rfl) (fun _ _ _ h => h) (Or.inl ⟨by rfl, ?hyz16⟩) (by first | assumption | exact trivial) ?restz16
      case hyz16 => intro W hSW; go_simp; try (with_reducible rfl)
      simp only [Act.put, List.getElem_toArray, List.getElem_cons_succ, List.getElem_cons_zero, List.setIfInBounds_toArray, List.set_cons_zero, List.set_cons_succ]
      refine wpAnyH_ready (rs := [3]) (by kernel_rfl) (by simp) ?_
      refine AllReadyH.cons rfl (fun K hK => ?_) AllReadyH.nil
      go_simp
      go_wp2_with (go_at_call 53; refine (RB.out w2.drew HY2.out.drew.x).mono ?_; rintro e wE ⟨rfl, hbE⟩)
      have HYE := Lib.hid (HY2.out.drew.grow hbE.out)
      refine hK.out _ _ (HYE.out.x) (fun hHeld => ?_)
      clear hK K
      refine wpAnyH_ready (rs := [4]) (by kernel_rfl) (by simp) ?_
      refine AllReadyH.cons rfl (fun K hK => ?_) AllReadyH.nil
      rw [if_pos (by kernel_rfl)]
      refine wp_store_row 29 (.tmp 6) (.tmp 21) rfl (w.heap.size + 1) (rcs s (.slice A F c)) rfl (by rfl) 29 _ HYE.out.z (by kernel_rfl) rfl (rcs_one _ _ _ _) ?_
      simp only [Act.put, List.getElem_toArray, List.getElem_cons_succ, List.getElem_cons_zero, List.setIfInBounds_toArray, List.set_cons_zero, List.set_cons_succ]
      have HYF := Lib.hid (HYE.out.store (rcs s (.slice A F c)))
      refine hK.out _ _ (HYF.out.x) (fun hHeld => ?_)
      clear hK K
      refine wpAnyH_take (i := 5) (v := ?vz17) rfl (by kernel_rfl) (by kernel_rfl) (by kernel_rfl) (fun _ _ _ h => h) (Or.inl ⟨by rfl, ?hyz17⟩) (by first | assumption | exact trivial) ?restz17
      case hyz17 => intro W hSW; go_simp; try (with_reducible rfl)
      simp only [Act.put, List.getElem_toArray, List.getElem_cons_succ, List.getElem_cons_zero, List.setIfInBounds_toArray, List.set_cons_zero, List.set_cons_succ]
      refine wpAnyH_done (by kernel_rfl) ?_ _
      go_wp2
      refine ret_cell rfl rfl HYF.out.z rfl Try.underlying29 (by kernel_rfl) rfl ?_
      exact ⟨A, F, c, by rw [HE.out, HQ.out]; rfl, by rw [HE.out]; exact HVO.out _ HYF.out.x, HYF.out.x.b⟩
  · have hE0 : renE s n b = mayE s [n] := by unfold renE; rw [mayE_two, if_neg ha, if_pos ha]
    have HE : Hid (renS s n b = s) := by show _ = _; unfold renS; rw [if_neg (by rw [hE0]; exact ha)]
    obtain ⟨q, hq⟩ : ∃ q, mayE s [n] = q := ⟨_, rfl⟩
    rw [hq] at RD
    have HQ : Hid (renE s n b = q) := hE0.trans hq
    have hqne : ¬ q = 0 := by rw [← hq]; assumption
    have hne : ((q : Int) == 0) = false := beq_eq_false_iff_ne.mpr (by omega)
    have hne2 : ((q : Int) != 0) = true := by rw [bne, hne]; rfl
    clear ha hq FI WO TH hE0 hqne RB
    go_enter Try.func40, Try.ntmps40
    go_wp2_with (go_at_call 53; rw [HWE.out]; refine (RD.out W0 HY0.out.x).mono ?_; rintro e w1 ⟨rfl, hb1⟩; have HY1 := Lib.hid (HY0.out.grow hb1.out); clear y0 y1 y2 y3; obtain ⟨y0, y1, y2, y3⟩ := HY1.out.x.cells)
    clear y0 y1 y2 y3
    refine wp_region_held_drew (S := RX w s (.slice A F c)) (by kernel_rfl) HY1.out.drew.x (fun hHeld => ?_)
    refine wpAnyH_take (i := 0) (v := ?vz18) rfl (by kernel_rfl) (by kernel_rfl) (by kernel_rfl) (fun _ _ _ h => h) (Or.inl ⟨by rfl, ?hyz18⟩) (by first | assumption | exact trivial) ?restz18
    case hyz18 => intro W hSW; obtain ⟨r0, r1, r2, r3⟩ := hSW.cells; go_simp; try (with_reducible rfl)
    simp only [Act.put, List.getElem_toArray, List.getElem_cons_succ, List.getElem_cons_zero, List.setIfInBounds_toArray, List.set_cons_zero, List.set_cons_succ]
    refine wpAnyH_take (i := 1) (v := ?vz19) rfl (by kernel_rfl) (by kernel_rfl) (by kernel_rfl) (fun _ _ _ h => h) (Or.inl ⟨by rfl, ?hyz19⟩) (by first | assumption | exact trivial) ?restz19
    case hyz19 => intro W hSW; obtain ⟨r0, r1, r2, r3⟩ := hSW.cells; go_simp; try (with_reducible rfl)
    simp only [Act.put, List.getElem_toArray, List.getElem_cons_succ, List.getElem_cons_zero, List.setIfInBounds_toArray, List.set_cons_zero, List.set_cons_succ]
    refine wpAnyH_take (i := 2) (v := ?vz20) rfl (by kernel_rfl) (by kernel_rfl) (by kernel_rfl) (fun _ _ _ h => h) (Or.inl ⟨by rfl, ?hyz20⟩) (by first | assumption | exact trivial) ?restz20
    case hyz20 => intro W hSW; go_simp; try (with_reducible rfl)
    simp only [Act.put, List.getElem_toArray, List.getElem_cons_succ, List.getElem_cons_zero, List.setIfInBounds_toArray, List.set_cons_zero, List.set_cons_succ]
    refine wpAnyH_ready (rs := [3]) (by kernel_rfl) (by simp) ?_
    refine AllReadyH.cons rfl (fun K hK => ?_) AllReadyH.nil
    go_simp
    go_wp2_with (go_at_call 53; refine (RD.out w1.drew HY1.out.drew.x).mono ?_; rintro e wE ⟨rfl, hbE⟩)
    have HYE := Lib.hid (HY1.out.drew.grow hbE.out)
    refine hK.out _ _ (HYE.out.x) (fun hHeld => ?_)
    clear hK K
    refine wpAnyH_ready (rs := [4]) (by kernel_rfl) (by simp) ?_
    refine AllReadyH.cons rfl (fun K hK => ?_) AllReadyH.nil
    rw [if_pos (by kernel_rfl)]
    refine wp_store_row 29 (.tmp 6) (.tmp 13) rfl (w.heap.size + 1) (rcs s (.slice A F c)) rfl (by rfl) 29 _ HYE.out.z (by kernel_rfl) rfl (rcs_one _ _ _ _) ?_
    simp only [Act.put, List.getElem_toArray, List.getElem_cons_succ, List.getElem_cons_zero, List.setIfInBounds_toArray, List.set_cons_zero, List.set_cons_succ]
    have HYF := Lib.hid (HYE.out.store (rcs s (.slice A F c)))
    refine hK.out _ _ (HYF.out.x) (fun hHeld => ?_)
    clear hK K
    refine wpAnyH_take (i := 5) (v := ?vz21) rfl (by kernel_rfl) (by kernel_rfl) (by kernel_rfl) (fun _ _ _ h => h) (Or.inl ⟨by rfl, ?hyz21⟩) (by first | assumption | exact trivial) ?restz21
    case hyz21 => intro W hSW; go_simp; try (with_reducible rfl)
    simp only [Act.put, List.getElem_toArray, List.getElem_cons_succ, List.getElem_cons_zero, List.setIfInBounds_toArray, List.set_cons_zero, List.set_cons_succ]
    refine wpAnyH_done (by kernel_rfl) ?_ _
    go_wp2
    refine ret_cell rfl rfl HYF.out.z rfl Try.underlying29 (by kernel_rfl) rfl ?_
    exact ⟨A, F, c, by rw [HE.out, HQ.out]; rfl, by rw [HE.out]; exact HVO.out _ HYF.out.x, HYF.out.x.b⟩
end
end Go.Proofs.Ytdjgkoklkoahbaa.Dk
