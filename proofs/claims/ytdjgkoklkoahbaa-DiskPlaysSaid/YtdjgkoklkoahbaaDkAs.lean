/- The law's comparison of the disk with the reference's. -/
import Derived.Test.YtdjgkoklkoahbaaDkStep
namespace Go.Proofs.Ytdjgkoklkoahbaa.Dk
open Go.RowKit
open Go.Proofs.Ytdjgkoklkoahbaa.Me Go.Proofs.Ytdjgkoklkoahbaa.Hd
set_option linter.unusedVariables false
set_option linter.unusedSimpArgs false

set_option maxRecDepth 100000 in
set_option maxHeartbeats 8000000 in
theorem as_any {G : Nat → Prop} (w : World) (D mb : Nat) (st : St) (v : Value) (h : Hid (Pz G w D mb st v)) :
    Calls Try.prog 16 #[.pointer (some ⟨D, 0, none⟩), .agg (rcs st v)] w fun e w' => e = .returned (.bool true) ∧ Hid (Below w.heap.size w w') := by
  obtain ⟨A, c, rfl, h1, h2⟩ := h.out.fv.form
  have HOK := Lib.hid h.out.ok
  have NM := Lib.hid (fun (W : World) (hW : RX w st (.slice A st.files.length c) W) => Names_any W D mb st (h.out.dq.below hW.b) h.out.ok)
  have US := Lib.hid (fun (W : World) (hW : RX w st (.slice A st.files.length c) W) => Used_any W D mb st (h.out.dq.below hW.b) h.out.ok)
  have RU := Lib.hid (fun (W : World) (hW : RX w st (.slice A st.files.length c) W) => RUsed_any W st (.slice A st.files.length c) (h.out.fv.below hW.b) h.out.ok)
  have DN := Lib.hid (fun (W : World) (hW : RX w st (.slice A st.files.length c) W) => Down_any W D mb st (h.out.dq.below hW.b))
  have RD := Lib.hid (fun (W : World) (hW : RX w st (.slice A st.files.length c) W) (n : Nm) => Read_any W D mb st (h.out.dq.below hW.b) h.out.ok n)
  have SF := Lib.hid (fun (W : World) (hW : RX w st (.slice A st.files.length c) W) (n : Nm) (hn : n.length ≤ maxLen) => Safe_any W D mb st (h.out.dq.below hW.b) n hn)
  have HVV : Hid (∀ W, RX w st (.slice A st.files.length c) W → Fv (fun k => ¬ G k) W (.slice A st.files.length c) st.files) := fun W hW => h.out.fv.below hW.b
  obtain ⟨F, hF⟩ : ∃ F, st.files.length = F := ⟨_, rfl⟩
  have HF := Lib.hid hF
  rw [hF] at h1 NM US RU DN RD SF HVV ⊢
  obtain ⟨u, hu⟩ : ∃ u, used st.files = u := ⟨_, rfl⟩
  rw [hu] at US RU
  obtain ⟨W0, hW0⟩ : ∃ W0, w.alloc (.cells (rcs st (.slice A F c)) 29) = W0 := ⟨_, rfl⟩
  have HWE := Lib.hid hW0
  have HX0 : Hid (RX w st (.slice A F c) W0) := by show RX _ _ _ _; rw [← hW0]; exact RX.new w st (.slice A F c)
  show Calls Try.prog 16 #[.pointer (some ⟨D, 0, none⟩), .agg #[.int .i64 (st.limit : Int), .slice A F c, .int .i64 (leftI st), .bool st.down]] w _
  unfold rcs at HWE
  clear hW0 hF hu
  go_enter Try.func16, Try.ntmps16
  go_wp2_with (go_at_call 19; rw [HWE.out]; refine (NM.out W0 HX0.out).mono ?_; rintro e w1 ⟨v1, rfl, hS1, hb1⟩; obtain ⟨A1, c1, rfl, hl1, hm1, hcells⟩ := hS1.out.form; rw [show (namesL st.files).length = F from (List.length_map ..).trans HF.out] at hl1 hcells ⊢; have HC1 := Lib.hid hcells; clear hcells hS1)
  have HX1 := Lib.hid (HX0.out.grow hb1.out)
  refine wp_region_held_drew (S := RX w st (.slice A F c)) (by kernel_rfl) (HX1.out.grow ((Below.refl _ w1).drew)) (fun hHeld => ?_)
  refine wpAnyH_take (i := 0) (v := ?vz1) rfl (by kernel_rfl) (by kernel_rfl) (by kernel_rfl) (fun _ _ _ h => h) (Or.inl ⟨by rfl, ?hyz1⟩) (by first | assumption | exact trivial) ?restz1
  case hyz1 => intro W hSW; go_simp; try (with_reducible rfl)
  simp only [Act.put, List.getElem_toArray, List.getElem_cons_succ, List.getElem_cons_zero, List.setIfInBounds_toArray, List.set_cons_zero, List.set_cons_succ]
  refine wpAnyH_take (i := 1) (v := ?vz2) rfl (by kernel_rfl) (by kernel_rfl) (by kernel_rfl) (fun _ _ _ h => h) (Or.inl ⟨by rfl, ?hyz2⟩) (by first | assumption | exact trivial) ?restz2
  case hyz2 => intro W hSW; go_simp; try (with_reducible rfl)
  simp only [Act.put, List.getElem_toArray, List.getElem_cons_succ, List.getElem_cons_zero, List.setIfInBounds_toArray, List.set_cons_zero, List.set_cons_succ]
  refine wpAnyH_take (i := 2) (v := ?vz3) rfl (by kernel_rfl) (by kernel_rfl) (by kernel_rfl) (fun _ _ _ h => h) (Or.inl ⟨by rfl, ?hyz3⟩) (by first | assumption | exact trivial) ?restz3
  case hyz3 => intro W hSW; go_simp; try (with_reducible rfl)
  simp only [Act.put, List.getElem_toArray, List.getElem_cons_succ, List.getElem_cons_zero, List.setIfInBounds_toArray, List.set_cons_zero, List.set_cons_succ]
  refine wpAnyH_take (i := 3) (v := ?vz4) rfl (by kernel_rfl) (by kernel_rfl) (by kernel_rfl) (fun _ _ _ h => h) (Or.inl ⟨by rfl, ?hyz4⟩) (by first | assumption | exact trivial) ?restz4
  case hyz4 => intro W hSW; obtain ⟨r0, r1, r2, r3⟩ := hSW.cells; go_simp; try (with_reducible rfl)
  simp only [Act.put, List.getElem_toArray, List.getElem_cons_succ, List.getElem_cons_zero, List.setIfInBounds_toArray, List.set_cons_zero, List.set_cons_succ]
  refine wpAnyH_take (i := 4) (v := ?vz5) rfl (by kernel_rfl) (by kernel_rfl) (by kernel_rfl) (fun _ _ _ h => h) (Or.inl ⟨by rfl, ?hyz5⟩) (by first | assumption | exact trivial) ?restz5
  case hyz5 => intro W hSW; go_simp; try (with_reducible rfl)
  simp only [Act.put, List.getElem_toArray, List.getElem_cons_succ, List.getElem_cons_zero, List.setIfInBounds_toArray, List.set_cons_zero, List.set_cons_succ]
  refine wpAnyH_take (i := 5) (v := .bool false) rfl (by kernel_rfl) (by kernel_rfl) (by kernel_rfl) (fun _ _ _ h => h) (Or.inl ⟨by rfl, ?_⟩) (by first | assumption | exact trivial) ?_
  · intro W hSW; go_simp; try (with_reducible rfl)
  simp only [Act.put, List.getElem_toArray, List.getElem_cons_succ, List.getElem_cons_zero, List.setIfInBounds_toArray, List.set_cons_zero, List.set_cons_succ]
  refine wpAnyH_take (i := 6) (v := ?vz6) rfl (by kernel_rfl) (by kernel_rfl) (by kernel_rfl) (fun _ _ _ h => h) (Or.inl ⟨by rfl, ?hyz6⟩) (by first | assumption | exact trivial) ?restz6
  case hyz6 => intro W hSW; go_simp; try (with_reducible rfl)
  simp only [Act.put, List.getElem_toArray, List.getElem_cons_succ, List.getElem_cons_zero, List.setIfInBounds_toArray, List.set_cons_zero, List.set_cons_succ]
  refine wpAnyH_take (i := 7) (v := ?vz7) rfl (by kernel_rfl) (by kernel_rfl) (by kernel_rfl) (fun _ _ _ h => h) (Or.inl ⟨by rfl, ?hyz7⟩) (by first | assumption | exact trivial) ?restz7
  case hyz7 => intro W hSW; go_simp; try (with_reducible rfl)
  simp only [Act.put, List.getElem_toArray, List.getElem_cons_succ, List.getElem_cons_zero, List.setIfInBounds_toArray, List.set_cons_zero, List.set_cons_succ]
  refine wpAnyH_take (i := 9) (v := ?vz8) rfl (by kernel_rfl) (by kernel_rfl) (by kernel_rfl) (fun _ _ _ h => h) (Or.inl ⟨by rfl, ?hyz8⟩) (by first | assumption | exact trivial) ?restz8
  case hyz8 => intro W hSW; obtain ⟨r0, r1, r2, r3⟩ := hSW.cells; go_simp; try (with_reducible rfl)
  simp only [Act.put, List.getElem_toArray, List.getElem_cons_succ, List.getElem_cons_zero, List.setIfInBounds_toArray, List.set_cons_zero, List.set_cons_succ]
  refine wpAnyH_ready (rs := [8]) (by kernel_rfl) (by simp) ?_
  refine AllReadyH.cons rfl (fun K hK => ?_) AllReadyH.nil
  go_simp
  go_wp2_with (go_at_call 25; refine (US.out w1.drew (HX1.out.grow ((Below.refl _ w1).drew))).mono ?_; rintro e w2 ⟨rfl, hb2⟩)
  have HB2 : Hid (Below w1.heap.size w1 w2) := ((Below.refl _ w1).drew).trans hb2.out
  have HX2 := Lib.hid (HX1.out.grow HB2.out)
  refine hK.out _ _ (HX2.out) (fun hHeld => ?_)
  clear hK K
  refine wpAnyH_ready (rs := [10]) (by kernel_rfl) (by simp) ?_
  refine AllReadyH.cons rfl (fun K hK => ?_) AllReadyH.nil
  go_simp
  go_wp2_with (go_at_call 46; refine (RU.out w2 HX2.out).mono ?_; rintro e w3 ⟨rfl, hb3⟩)
  have HB3 : Hid (Below w1.heap.size w1 w3) := HB2.out.trans (hb3.out.mono HB2.out.size)
  have HX3 := Lib.hid (HX2.out.grow hb3.out)
  refine hK.out _ _ (HX3.out) (fun hHeld => ?_)
  clear hK K
  refine wpAnyH_take (i := 11) (v := .bool false) rfl (by kernel_rfl) (by kernel_rfl) (by kernel_rfl) (fun _ _ _ h => h) (Or.inl ⟨by rfl, ?_⟩) (by first | assumption | exact trivial) ?_
  · intro W hSW; go_simp; try (with_reducible rfl)
  simp only [Act.put, List.getElem_toArray, List.getElem_cons_succ, List.getElem_cons_zero, List.setIfInBounds_toArray, List.set_cons_zero, List.set_cons_succ]
  refine wpAnyH_take (i := 12) (v := ?vz9) rfl (by kernel_rfl) (by kernel_rfl) (by kernel_rfl) (fun _ _ _ h => h) (Or.inl ⟨by rfl, ?hyz9⟩) (by first | assumption | exact trivial) ?restz9
  case hyz9 => intro W hSW; go_simp; try (with_reducible rfl)
  simp only [Act.put, List.getElem_toArray, List.getElem_cons_succ, List.getElem_cons_zero, List.setIfInBounds_toArray, List.set_cons_zero, List.set_cons_succ]
  refine wpAnyH_take (i := 13) (v := ?vz10) rfl (by kernel_rfl) (by kernel_rfl) (by kernel_rfl) (fun _ _ _ h => h) (Or.inl ⟨by rfl, ?hyz10⟩) (by first | assumption | exact trivial) ?restz10
  case hyz10 => intro W hSW; go_simp; try (with_reducible rfl)
  simp only [Act.put, List.getElem_toArray, List.getElem_cons_succ, List.getElem_cons_zero, List.setIfInBounds_toArray, List.set_cons_zero, List.set_cons_succ]
  refine wpAnyH_take (i := 14) (v := ?vz11) rfl (by kernel_rfl) (by kernel_rfl) (by kernel_rfl) (fun _ _ _ h => h) (Or.inl ⟨by rfl, ?hyz11⟩) (by first | assumption | exact trivial) ?restz11
  case hyz11 => intro W hSW; go_simp; try (with_reducible rfl)
  simp only [Act.put, List.getElem_toArray, List.getElem_cons_succ, List.getElem_cons_zero, List.setIfInBounds_toArray, List.set_cons_zero, List.set_cons_succ]
  refine wpAnyH_take (i := 16) (v := ?vz12) rfl (by kernel_rfl) (by kernel_rfl) (by kernel_rfl) (fun _ _ _ h => h) (Or.inl ⟨by rfl, ?hyz12⟩) (by first | assumption | exact trivial) ?restz12
  case hyz12 => intro W hSW; go_simp; try (with_reducible rfl)
  simp only [Act.put, List.getElem_toArray, List.getElem_cons_succ, List.getElem_cons_zero, List.setIfInBounds_toArray, List.set_cons_zero, List.set_cons_succ]
  refine wpAnyH_take (i := 17) (v := ?vz13) rfl (by kernel_rfl) (by kernel_rfl) (by kernel_rfl) (fun _ _ _ h => h) (Or.inl ⟨by rfl, ?hyz13⟩) (by first | assumption | exact trivial) ?restz13
  case hyz13 => intro W hSW; obtain ⟨r0, r1, r2, r3⟩ := hSW.cells; go_simp; try (with_reducible rfl)
  simp only [Act.put, List.getElem_toArray, List.getElem_cons_succ, List.getElem_cons_zero, List.setIfInBounds_toArray, List.set_cons_zero, List.set_cons_succ]
  refine wpAnyH_ready (rs := [15]) (by kernel_rfl) (by simp) ?_
  refine AllReadyH.cons rfl (fun K hK => ?_) AllReadyH.nil
  go_simp
  go_wp2_with (go_at_call 22; refine (DN.out w3 HX3.out).mono ?_; rintro e w4 ⟨rfl, rfl⟩)
  refine hK.out _ _ (HX3.out) (fun hHeld => ?_)
  clear hK K
  refine wpAnyH_take (i := 18) (v := .bool false) rfl (by kernel_rfl) (by kernel_rfl) (by kernel_rfl) (fun _ _ _ h => h) (Or.inl ⟨by rfl, ?_⟩) (by first | assumption | exact trivial) ?_
  · intro W hSW; go_simp; try (with_reducible rfl)
  simp only [Act.put, List.getElem_toArray, List.getElem_cons_succ, List.getElem_cons_zero, List.setIfInBounds_toArray, List.set_cons_zero, List.set_cons_succ]
  refine wpAnyH_take (i := 19) (v := ?vz14) rfl (by kernel_rfl) (by kernel_rfl) (by kernel_rfl) (fun _ _ _ h => h) (Or.inl ⟨by rfl, ?hyz14⟩) (by first | assumption | exact trivial) ?restz14
  case hyz14 => intro W hSW; go_simp; try (with_reducible rfl)
  simp only [Act.put, List.getElem_toArray, List.getElem_cons_succ, List.getElem_cons_zero, List.setIfInBounds_toArray, List.set_cons_zero, List.set_cons_succ]
  refine wpAnyH_done (by kernel_rfl) ?_ _
  clear HB2 HX2 NM US RU DN
  go_wp2
  go_loopw [6, 7, 8] (fun i _ _ wr => ∃ k : Nat, k ≤ F ∧ i = .int .i64 k ∧ Hid (Below w3.heap.size w3 wr)) (fun i _ _ _ => F - (intOf i).toNat)
  case atStart => exact ⟨0, Nat.zero_le _, rfl, Below.refl _ _⟩
  case round =>
    obtain ⟨k, hk, rfl, hb⟩ := hrel
    have HX := Lib.hid (HX3.out.grow hb.out)
    by_cases hlt : k < F
    · have hkF : k < st.files.length := by rw [HF.out]; exact hlt
      obtain ⟨g1, rfl, g1a, g1b, hc1⟩ := HC1.out (by omega)
      obtain ⟨g2, rfl, g2a, hc2⟩ := (HVV.out wr HX.out).at_ (j := k) hkF
      have hfl : flAt st.files k = st.files[k] := flAt_get hkF
      rw [hfl] at hc2
      obtain ⟨nm, hnm⟩ : ∃ nm, st.files[k].1 = nm := ⟨_, rfl⟩
      obtain ⟨f, hff⟩ : ∃ f, st.files[k].2 = f := ⟨_, rfl⟩
      have hmem := List.getElem_mem hkF
      have hsl := HOK.out.safe _ hmem
      have hul : st.files[k].2.bytes.length ≤ 1048576 := Nat.le_trans (used_mem hmem) HOK.out.use
      have hnok := HOK.out.nm _ hmem
      have hfo : fileOf st nm = f := by
        have := look_at HOK.out.srt hkF
        rw [hnm, hff] at this
        unfold fileOf; rw [this]; rfl
      have hlk : (look st.files nm).isSome = true := by
        have := look_at HOK.out.srt hkF
        rw [hnm] at this
        rw [this]; rfl
      rw [hnm, hff] at hc2
      rw [hff] at hsl hul
      rw [hnm] at hnok
      have x1 := hc1 k hlt
      rw [show (namesL st.files).getD k [] = nm by simp [namesL, hkF, hnm]] at x1
      have X1 : Hid (∀ W, Below wr.heap.size wr W → W.cell? ⟨g1, k, none⟩ = some (nmV nm)) := fun W hW => by
        rw [hW.cell (p := ⟨g1, k, none⟩) (show g1 < _ by have h1 := HB3.out.size; have h2 := hb.out.size; omega), hb.out.cell (p := ⟨g1, k, none⟩) (show g1 < _ by have h1 := HB3.out.size; omega), HB3.out.cell (p := ⟨g1, k, none⟩) g1b]; exact x1
      have X2 : Hid (∀ W, Below wr.heap.size wr W → W.cell? ⟨w.heap.size, 1, none⟩ = some (.slice (some ⟨g2, 0, none⟩) F c) ∧ W.cell? ⟨w.heap.size, 3, none⟩ = some (.bool st.down) ∧ W.cell? ⟨g2, k * 3, none⟩ = some (nmV nm) ∧ W.cell? ⟨g2, k * 3 + 1, none⟩ = some (.string (Me.strOf (f.bytes.take f.safe))) ∧ W.cell? ⟨g2, k * 3 + 2, none⟩ = some (.string (Me.strOf (f.bytes.drop f.safe)))) := fun W hW => by
        obtain ⟨_, q1, _, q3⟩ := (HX.out.grow hW).cells
        exact ⟨q1, q3, hc2 W hW⟩
      have SFN := Lib.hid (fun (W : World) (hW : Below wr.heap.size wr W) => SF.out W (HX.out.grow hW) nm (by have := nameOk_len hnok; unfold maxLen; omega))
      have RDN := Lib.hid (fun (W : World) (hW : Below wr.heap.size wr W) => RD.out W (HX.out.grow hW) nm)
      rw [hfo] at SFN
      unfold ReadP at RDN
      have hfe : findE st nm = if st.down then 9 else 0 := by unfold findE; rw [if_pos hnok, if_pos hlk]
      have hrp : readP st nm = if st.down then [] else f.bytes := by
        unfold readP
        rw [hfe, hfo]
        cases st.down <;> simp
      rw [hfe, hrp] at RDN
      obtain ⟨S1, hS1⟩ : ∃ S, Me.strOf (f.bytes.take f.safe) = S := ⟨_, rfl⟩
      obtain ⟨S2, hS2⟩ : ∃ S, Me.strOf (f.bytes.drop f.safe) = S := ⟨_, rfl⟩
      obtain ⟨SA, hSA⟩ : ∃ S, Me.strOf f.bytes = S := ⟨_, rfl⟩
      have HSA := Lib.hid hSA
      have z1 : S1.size = f.safe := by rw [← hS1, str_size, List.length_take]; omega
      have e12 : S1 ++ S2 = SA := by rw [← hS1, ← hS2, ← hSA, str_app, List.take_append_drop]
      have hsz : ¬ 9223372036854775807 < S1.size + S2.size := by rw [← hS1, ← hS2, str_size, str_size, List.length_take, List.length_drop]; omega
      rw [hS1, hS2] at X2
      obtain ⟨sf, hsf⟩ : ∃ sf, f.safe = sf := ⟨_, rfl⟩
      rw [hsf] at SFN z1
      obtain ⟨l, hl⟩ : ∃ l, f.bytes = l := ⟨_, rfl⟩
      rw [hl] at RDN HSA
      obtain ⟨ns, hns⟩ : ∃ ns, (⟨nm.toArray⟩ : ByteArray) = ns := ⟨_, rfl⟩
      simp only [nmV] at X1 X2 SFN RDN
      rw [hns] at X1 X2 SFN RDN
      obtain ⟨pv, hpv⟩ : ∃ pv : List Nat, (if st.down then [] else l) = pv := ⟨_, rfl⟩
      obtain ⟨ec, hec⟩ : ∃ ec : Int, (((if st.down then 9 else 0) : Nat) : Int) = ec := ⟨_, rfl⟩
      have HPV := Lib.hid hpv
      have HEC := Lib.hid hec
      rw [hpv, hec] at RDN
      obtain ⟨pn, hpn⟩ : ∃ pn, pv.length = pn := ⟨_, rfl⟩
      have HPN := Lib.hid hpn
      rw [hpn] at RDN
      have q1 : (k : Int) < (F : Int) := by omega
      have q0 : (0 : Int) ≤ (k : Int) := by omega
      have y1 := X1.out wr (Below.refl _ _)
      obtain ⟨y2, y3, y4, y5, y6⟩ := X2.out wr (Below.refl _ _)
      have TSF := Lib.hid (fun x => SFN.out (wr.drewN x) (Me.below_drewN (Below.refl _ _) x))
      clear hpv hec hpn hns hl hsf hS1 hS2 hSA hfe hrp hfo hlk hnok hul hsl hmem hnm hff hfl hc1 hc2 x1 HC1 hkF g1a g1b g2a
      go_wp2
      go_quiet (first
        | (go_at_call 21; (with_reducible exact (TSF.out _).mono fun _ _ h => ⟨h.1, _, h.2.symm⟩)))
      obtain ⟨w5, hw5⟩ : ∃ w5, wr.drewN nq = w5 := ⟨_, rfl⟩
      have B5 : Hid (Below wr.heap.size wr w5) := by show Below _ _ _; rw [← hw5]; exact Me.below_drewN (Below.refl _ _) _
      rw [hw5]
      clear hw5 y1 y2 y3 y4 y5 y6 TSF
      have y1 := X1.out w5 B5.out
      go_wp2_with (go_at_call 20; refine (RDN.out w5 B5.out).mono ?_; rintro e w6 ⟨A6, rfl, r6, n6, _, hb6⟩)
      have B6 : Hid (Below wr.heap.size wr w6) := B5.out.trans (hb6.out.mono B5.out.size)
      clear y1
      obtain ⟨y2, y3, y4, y5, y6⟩ := X2.out w6 B6.out
      have BL : Hid (Below w3.heap.size w3 w6) := hb.out.trans (B6.out.mono hb.out.size)
      obtain ⟨d, hd⟩ : ∃ d, st.down = d := ⟨_, rfl⟩
      rw [hd] at y3
      cases d with
      | true =>
        have e1 : ec = 9 := by rw [← HEC.out, hd]; rfl
        subst e1
        clear hd HEC HPV
        go_quiet (fail)
        go_wp2
        go_roundw
        case rel => exact ⟨k + 1, by omega, by go_num, Me.below_drewN BL.out _⟩
        case measure => simp [intOf]; omega
      | false =>
        have e1 : ec = 0 := by rw [← HEC.out, hd]; rfl
        subst e1
        have hv1 : ∀ x, (convert 33 9 (.slice A6 pn pn)).run Try.prog (w6.drewN x) = .ok (.string SA) (w6.drewN x) := fun x => by
          have e2 : pv = l := by rw [← HPV.out, hd]; rfl
          have := conv_rd (w6.drewN x) _ A6 pv pn (r6.out.below (Me.below_drewN (Below.refl _ w6) x)) (fun e => by have := n6.out e; rw [HPN.out]; omega)
          rw [HPN.out, e2, HSA.out] at this
          exact this
        clear hd r6 n6 HEC HPV
        go_quiet (fail)
        go_wp2
        go_roundw
        case rel => exact ⟨k + 1, by omega, by go_num, Me.below_drewN BL.out _⟩
        case measure => simp [intOf]; omega
    · obtain rfl : k = F := by omega
      have q1 : ¬ (k : Int) < (k : Int) := by omega
      clear hk hlt
      go_wp2
      go_ret
      exact ⟨rfl, HX.out.b⟩
end Go.Proofs.Ytdjgkoklkoahbaa.Dk
