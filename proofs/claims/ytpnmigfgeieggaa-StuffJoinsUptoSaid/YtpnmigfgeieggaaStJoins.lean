/- The walk of the law StuffJoins. -/
import Derived.Test.YtpnmigfgeieggaaStLaws
namespace Go.Proofs.Ytpnmigfgeieggaa.St
open Go.RowKit
open Go.Proofs.Ytpnmigfgeieggaa.Me
set_option linter.unusedVariables false
set_option linter.unusedSimpArgs false

/-- What holds under a stronger condition on the worlds between holds under a weaker one. -/
theorem wpAnyH_up {P : Program} {md : Region.Mode} {ops : Array Oper} {Q : Exit → Act → World → Prop} {S S' : World → Prop} (h : ∀ w, S' w → S w) : ∀ {fuel : Nat} {listed : Array Bool} {a : Act} {w : World},
    wpAnyH P md ops Q S' fuel listed a w → wpAnyH P md ops Q S fuel listed a w
  | 0, _, _, _, hw => hw
  | fuel + 1, _, _, _, hw => ⟨hw.1, fun i hi => wpOp_mono (fun a' w' h' => ⟨h w' h'.1, wpAnyH_up h h'.2⟩) (hw.2 i hi)⟩
theorem strOf_append (l r : List Nat) : strOf (l ++ r) = strOf l ++ strOf r := by
  apply ByteArray.ext
  simp [strOf]
theorem strOf_size (l : List Nat) : (strOf l).size = l.length := by simp [strOf, ByteArray.size]
set_option maxHeartbeats 8000000 in
theorem joins (A : Option Addr) (len cap : Nat) (l : List Nat) (Aq : Option Addr) (lenq capq : Nat) (q : List Nat) (w : World) (w0 : BySlice w A len cap l) (c0 : cap ≤ 1048576) (w1 : BySlice w Aq lenq capq q) (c1 : capq ≤ 1048576) :
    Calls Try.prog 8 #[.slice A len cap, .slice Aq lenq capq] w fun e w' => e = .returned (.bool true) ∧ Below w.heap.size w w' := by
  obtain ⟨rfl, h1, h2, h3, hA⟩ := w0
  obtain ⟨rfl, q1, q2, q3, qA⟩ := w1
  have HA := Lib.hid hA
  have HR := Lib.hid h3
  have HQ := Lib.hid q3
  have HQA := Lib.hid qA
  have h2l := stuff_two l
  have h2q := stuff_two q
  have C1 : ∀ (A : Option Addr) (cap B : Nat) (W : World), Hid (Rd W B A (l ++ q)) → B ≤ W.heap.size → Calls Try.prog 10 #[.slice A (l.length + q.length) cap] W (NewB W (stuffL l ++ stuffL q)) := fun A cap B W hr hB => by
    have := Stuff_any A cap B (l ++ q) W hr hB (by rw [stuff_append, List.length_append]; omega)
    rwa [stuff_append, List.length_append] at this
  have C2 := fun W hr hB => Stuff_any A cap w.heap.size l W hr hB (by omega)
  have C3 := fun W hr hB => Stuff_any Aq capq w.heap.size q W hr hB (by omega)
  have S1 : ∀ (A : Option Addr) (cap B : Nat) (W : World), Hid (Rd W B A (l ++ q)) → Calls Try.prog 12 #[.slice A (l.length + q.length) cap] W fun e w' => e = .returned (.int .i64 ((stuffL l ++ stuffL q).length : Int)) ∧ W = w' := fun A cap B W hr => by
    have := Size_any A cap B (l ++ q) W hr (by rw [List.length_append]; omega)
    rw [stuff_append] at this; rwa [show (l ++ q).length = l.length + q.length from List.length_append] at this
  have S2 := fun W hr => Size_any A cap w.heap.size l W hr (by omega)
  have S3 := fun W hr => Size_any Aq capq w.heap.size q W hr (by omega)
  have hlen : (l ++ q).length = l.length + q.length := List.length_append
  have HLQ : Hid (∀ z ∈ l ++ q, z < 256) := fun z hz => (List.mem_append.mp hz).elim (h3.1 z) (q3.1 z)
  obtain ⟨L1, hL1⟩ : ∃ L, stuffL l = L := ⟨_, rfl⟩
  obtain ⟨L2, hL2⟩ : ∃ L, stuffL q = L := ⟨_, rfl⟩
  rw [hL1, hL2] at C1 S1
  rw [hL1] at C2 S2 h2l
  rw [hL2] at C3 S3 h2q
  have E1 := Lib.hid C1
  have E2 := Lib.hid C2
  have E3 := Lib.hid C3
  have D1 := Lib.hid S1
  have D2 := Lib.hid S2
  have D3 := Lib.hid S3
  have z1 : (strOf L1).size = L1.length := strOf_size L1
  have z2 : (strOf L2).size = L2.length := strOf_size L2
  have z3 : (L1.length : Int) + (L2.length : Int) ≤ 9223372036854775807 := by omega
  have z4 : ¬ (9223372036854775807 : Int) < (L1.length : Int) + (L2.length : Int) := by omega
  have hwr : IntKind.i64.wrap ((L1.length : Int) + (L2.length : Int)) = (L1.length : Int) + (L2.length : Int) := IntWalk.i64_in _ (by omega)
  clear C1 C2 C3 S1 S2 S3 hL1 hL2 h3 hA q3 qA
  go_enter Try.func8, Try.ntmps8
  go_wp2_with (first
    | (at_builtin; refine app8 rfl (.tmp 6) (.tmp 7) rfl w.heap.size w.heap.size _ [] l rfl (Own.lit (Below.refl _ _)) (below_alloc (Below.refl _ _)) (by simp) A cap rfl (HR.out.below ((Below.refl _ _).alloc (Nat.le_refl _) _)) HA.out (by simp; omega) ?_; intro v2 w2 ho2 hb2 _; have HO2 := Lib.hid ho2; have HB2 := Lib.hid hb2; clear ho2 hb2)
    | (at_builtin; refine app8 rfl (.tmp 8) (.tmp 9) rfl w.heap.size w.heap.size _ ([] ++ l) q rfl HO2.out HB2.out HB2.out.size Aq capq rfl (HQ.out.below HB2.out) HQA.out (by simp; omega) ?_; intro v3 w3 ho3 hb3 _; obtain ⟨A3, c3, rfl, g1, g2, HH3⟩ := Own.held ho3 (by simpa using HLQ.out); have HB3 := Lib.hid hb3; have HR3 := Lib.hid HH3.rd; clear ho3 hb3 HH3 HO2))
  have F1 : Hid (∀ W, Kept w3 W → Calls Try.prog 10 #[.slice A3 (l.length + q.length) c3] W fun e w' => ∃ A1 c1, e = .returned (.slice A1 (L1 ++ L2).length c1) ∧ Hid (Held w' W.heap.size A1 c1 (L1 ++ L2)) ∧ Hid (Below W.heap.size W w') ∧ Kept w3 w') :=
    fun W hW => (E1.out A3 c3 _ W (HR3.out.below hW) (Below.size hW)).mono fun e w' ⟨A1, c1, he, _, _, hH, hB⟩ => ⟨A1, c1, he, hH, hB, kept_go hW hB.out⟩
  have F2 : Hid (∀ W, Kept w3 W → Calls Try.prog 10 #[.slice A l.length cap] W fun e w' => ∃ A1 c1, e = .returned (.slice A1 L1.length c1) ∧ Hid (Held w' W.heap.size A1 c1 L1) ∧ Hid (Below W.heap.size W w') ∧ Kept w3 w') :=
    fun W hW => (E2.out W ((HR.out.below HB3.out).below (Below.mono hW HB3.out.size)) (Nat.le_trans HB3.out.size (Below.size hW))).mono fun e w' ⟨A1, c1, he, _, _, hH, hB⟩ => ⟨A1, c1, he, hH, hB, kept_go hW hB.out⟩
  have F3 : Hid (∀ W, Kept w3 W → Calls Try.prog 10 #[.slice Aq q.length capq] W fun e w' => ∃ A1 c1, e = .returned (.slice A1 L2.length c1) ∧ Hid (Held w' W.heap.size A1 c1 L2) ∧ Hid (Below W.heap.size W w') ∧ Kept w3 w') :=
    fun W hW => (E3.out W ((HQ.out.below HB3.out).below (Below.mono hW HB3.out.size)) (Nat.le_trans HB3.out.size (Below.size hW))).mono fun e w' ⟨A1, c1, he, _, _, hH, hB⟩ => ⟨A1, c1, he, hH, hB, kept_go hW hB.out⟩
  have T1 : Hid (∀ W, Kept w3 W → Calls Try.prog 12 #[.slice A3 (l.length + q.length) c3] W fun e w' => e = .returned (.int .i64 ((L1.length : Int) + (L2.length : Int))) ∧ W = w') :=
    fun W hW => (D1.out A3 c3 _ W (HR3.out.below hW)).mono fun e w' ⟨he, hB⟩ => ⟨by rw [he, List.length_append]; rfl, hB⟩
  have T2 : Hid (∀ W, Kept w3 W → Calls Try.prog 12 #[.slice A l.length cap] W fun e w' => e = .returned (.int .i64 (L1.length : Int)) ∧ W = w') :=
    fun W hW => (D2.out W ((HR.out.below HB3.out).below (Below.mono hW HB3.out.size))).mono fun e w' ⟨he, hB⟩ => ⟨he, hB⟩
  have T3 : Hid (∀ W, Kept w3 W → Calls Try.prog 12 #[.slice Aq q.length capq] W fun e w' => e = .returned (.int .i64 (L2.length : Int)) ∧ W = w') :=
    fun W hW => (D3.out W ((HQ.out.below HB3.out).below (Below.mono hW HB3.out.size))).mono fun e w' ⟨he, hB⟩ => ⟨he, hB⟩
  have F6 : Hid (∀ W, Kept w3 W → Calls Try.prog 13 #[] W fun e w' => e = .returned (.bool true) ∧ Kept w3 w') :=
    fun W hW => (awake_any W).mono fun e w' ⟨he, hB⟩ => ⟨he, kept_go hW hB⟩
  have hK0 : Kept w3 w3.drew := (Below.refl _ _).drew
  have cv : Hid (∀ (w : World) (B c : Nat) (A : Option Addr) (l : List Nat), Held w B A c l → (convert 22 9 (.slice A l.length c)).run Try.prog w = .ok (.string (strOf l)) w) :=
    fun w B c A l h => conv_rd w _ A l c h.rd h.2.2
  have cv2 : Hid (∀ (w : World) (B c : Nat) (A : Option Addr), Held w B A c (L1 ++ L2) → (convert 22 9 (.slice A (L1.length + L2.length) c)).run Try.prog w = .ok (.string (strOf L1 ++ strOf L2)) w) :=
    fun w B c A h => by
      have := conv_rd w _ A _ c h.rd h.2.2
      rwa [List.length_append, strOf_append] at this
  clear E1 E2 E3 D1 D2 D3 HR3 HR HQ HA HQA HB2 HLQ hlen h2l h2q
  refine wp_region_held_drew (S := Kept w3) (by kernel_rfl) hK0 (fun hHeld => ?_)
  refine wpAnyH_take (i := 0) (v := ?v0) rfl (by kernel_rfl) (by kernel_rfl) (by kernel_rfl) (fun _ _ _ h => h) (Or.inl ⟨by rfl, ?hy0⟩) (by assumption) ?rest0
  case hy0 => intro W hSW; go_simp; try (with_reducible rfl)
  simp only [Act.put, List.getElem_toArray, List.getElem_cons_succ, List.getElem_cons_zero, List.setIfInBounds_toArray, List.set_cons_zero, List.set_cons_succ]
  refine wpAnyH_take (i := 3) (v := ?v3) rfl (by kernel_rfl) (by kernel_rfl) (by kernel_rfl) (fun _ _ _ h => h) (Or.inl ⟨by rfl, ?hy3⟩) (by assumption) ?rest3
  case hy3 => intro W hSW; go_simp; try (with_reducible rfl)
  simp only [Act.put, List.getElem_toArray, List.getElem_cons_succ, List.getElem_cons_zero, List.setIfInBounds_toArray, List.set_cons_zero, List.set_cons_succ]
  refine wpAnyH_take (i := 6) (v := ?v6) rfl (by kernel_rfl) (by kernel_rfl) (by kernel_rfl) (fun _ _ _ h => h) (Or.inl ⟨by rfl, ?hy6⟩) (by assumption) ?rest6
  case hy6 => intro W hSW; go_simp; try (with_reducible rfl)
  simp only [Act.put, List.getElem_toArray, List.getElem_cons_succ, List.getElem_cons_zero, List.setIfInBounds_toArray, List.set_cons_zero, List.set_cons_succ]
  refine wpAnyH_ready (rs := [1]) (by kernel_rfl) (by simp) ?_
  refine AllReadyH.cons rfl (fun K hK => ?_) AllReadyH.nil
  go_simp
  go_wp2_with (go_at_call 10; refine (F1.out _ hK0).mono ?_; rintro e w4 ⟨A4, c4, rfl, HH4, HB4, hK4⟩)
  refine hK.out _ _ hK4 (fun hHeld => ?_)
  clear hK K
  refine wpAnyH_up (S' := Kept w4) (fun W h => kept_go hK4 h) ?_
  have hSelfw4 : Kept w4 w4 := Below.refl _ _
  refine wpAnyH_take (i := 2) (v := ?v2) rfl (by kernel_rfl) (by kernel_rfl) (by kernel_rfl) (fun _ _ _ h => h) (Or.inl ⟨by rfl, ?hy2⟩) (by assumption) ?rest2
  case hy2 => intro W hSW; have hq := cv2.out _ _ _ _ (HH4.out.below hSW); go_simp; try (with_reducible rfl)
  simp only [Act.put, List.getElem_toArray, List.getElem_cons_succ, List.getElem_cons_zero, List.setIfInBounds_toArray, List.set_cons_zero, List.set_cons_succ]
  refine wpAnyH_ready (rs := [4]) (by kernel_rfl) (by simp) ?_
  refine AllReadyH.cons rfl (fun K hK => ?_) AllReadyH.nil
  go_simp
  go_wp2_with (go_at_call 10; refine (F2.out w4 hK4).mono ?_; rintro e w5 ⟨A5, c5, rfl, HH5, HB5, hK5⟩)
  refine hK.out _ _ HB5.out (fun hHeld => ?_)
  clear hK K
  refine wpAnyH_up (S' := Kept w5) (fun W h => kept_go (show Kept w4 w5 from HB5.out) h) ?_
  have hSelfw5 : Kept w5 w5 := Below.refl _ _
  refine wpAnyH_take (i := 5) (v := ?v5) rfl (by kernel_rfl) (by kernel_rfl) (by kernel_rfl) (fun _ _ _ h => h) (Or.inl ⟨by rfl, ?hy5⟩) (by assumption) ?rest5
  case hy5 => intro W hSW; have hq := cv.out _ _ _ _ _ (HH5.out.below hSW); go_simp; try (with_reducible rfl)
  simp only [Act.put, List.getElem_toArray, List.getElem_cons_succ, List.getElem_cons_zero, List.setIfInBounds_toArray, List.set_cons_zero, List.set_cons_succ]
  refine wpAnyH_ready (rs := [7]) (by kernel_rfl) (by simp) ?_
  refine AllReadyH.cons rfl (fun K hK => ?_) AllReadyH.nil
  go_simp
  go_wp2_with (go_at_call 10; refine (F3.out w5 hK5).mono ?_; rintro e w6 ⟨A6, c6, rfl, HH6, HB6, hK6⟩)
  refine hK.out _ _ HB6.out (fun hHeld => ?_)
  clear hK K
  refine wpAnyH_up (S' := Kept w6) (fun W h => kept_go (show Kept w5 w6 from HB6.out) h) ?_
  have hSelfw6 : Kept w6 w6 := Below.refl _ _
  refine wpAnyH_take (i := 8) (v := ?v8) rfl (by kernel_rfl) (by kernel_rfl) (by kernel_rfl) (fun _ _ _ h => h) (Or.inl ⟨by rfl, ?hy8⟩) (by assumption) ?rest8
  case hy8 => intro W hSW; have hq := cv.out _ _ _ _ _ (HH6.out.below hSW); go_simp; try (with_reducible rfl)
  simp only [Act.put, List.getElem_toArray, List.getElem_cons_succ, List.getElem_cons_zero, List.setIfInBounds_toArray, List.set_cons_zero, List.set_cons_succ]
  refine wpAnyH_take (i := 9) (v := ?v9) rfl (by kernel_rfl) (by kernel_rfl) (by kernel_rfl) (fun _ _ _ h => h) (Or.inl ⟨by rfl, ?hy9⟩) (by assumption) ?rest9
  case hy9 => intro W hSW; go_simp; rw [if_neg (by omega)]
  simp only [Act.put, List.getElem_toArray, List.getElem_cons_succ, List.getElem_cons_zero, List.setIfInBounds_toArray, List.set_cons_zero, List.set_cons_succ]
  refine wpAnyH_take (i := 10) (v := ?v10) rfl (by kernel_rfl) (by kernel_rfl) (by kernel_rfl) (fun _ _ _ h => h) (Or.inl ⟨by rfl, ?hy10⟩) (by assumption) ?rest10
  case hy10 => intro W hSW; go_simp; try (with_reducible rfl)
  simp only [Act.put, List.getElem_toArray, List.getElem_cons_succ, List.getElem_cons_zero, List.setIfInBounds_toArray, List.set_cons_zero, List.set_cons_succ]
  refine wpAnyH_take (i := 11) (v := ?v11) rfl (by kernel_rfl) (by kernel_rfl) (by kernel_rfl) (fun _ _ _ h => h) (Or.inl ⟨by rfl, ?hy11⟩) (by assumption) ?rest11
  case hy11 => intro W hSW; go_simp; try (with_reducible rfl)
  simp only [Act.put, List.getElem_toArray, List.getElem_cons_succ, List.getElem_cons_zero, List.setIfInBounds_toArray, List.set_cons_zero, List.set_cons_succ]
  refine wpAnyH_take (i := 12) (v := ?v12) rfl (by kernel_rfl) (by kernel_rfl) (by kernel_rfl) (fun _ _ _ h => h) (Or.inl ⟨by rfl, ?hy12⟩) (by assumption) ?rest12
  case hy12 => intro W hSW; go_simp; try (with_reducible rfl)
  simp only [Act.put, List.getElem_toArray, List.getElem_cons_succ, List.getElem_cons_zero, List.setIfInBounds_toArray, List.set_cons_zero, List.set_cons_succ]
  refine wpAnyH_take (i := 14) (v := ?v14) rfl (by kernel_rfl) (by kernel_rfl) (by kernel_rfl) (fun _ _ _ h => h) (Or.inl ⟨by rfl, ?hy14⟩) (by assumption) ?rest14
  case hy14 => intro W hSW; go_simp; try (with_reducible rfl)
  simp only [Act.put, List.getElem_toArray, List.getElem_cons_succ, List.getElem_cons_zero, List.setIfInBounds_toArray, List.set_cons_zero, List.set_cons_succ]
  refine wpAnyH_take (i := 16) (v := ?v16) rfl (by kernel_rfl) (by kernel_rfl) (by kernel_rfl) (fun _ _ _ h => h) (Or.inl ⟨by rfl, ?hy16⟩) (by assumption) ?rest16
  case hy16 => intro W hSW; go_simp; try (with_reducible rfl)
  simp only [Act.put, List.getElem_toArray, List.getElem_cons_succ, List.getElem_cons_zero, List.setIfInBounds_toArray, List.set_cons_zero, List.set_cons_succ]
  refine wpAnyH_ready (rs := [13]) (by kernel_rfl) (by simp) ?_
  refine AllReadyH.cons rfl (fun K hK => ?_) AllReadyH.nil
  go_simp
  go_wp2_with (go_at_call 12; refine (T1.out w6 hK6).mono ?_; rintro e w7 ⟨rfl, rfl⟩)
  refine hK.out _ _ (Below.refl _ _) (fun hHeld => ?_)
  clear hK K
  refine wpAnyH_ready (rs := [15]) (by kernel_rfl) (by simp) ?_
  refine AllReadyH.cons rfl (fun K hK => ?_) AllReadyH.nil
  go_simp
  go_wp2_with (go_at_call 12; refine (T2.out w6 hK6).mono ?_; rintro e w8 ⟨rfl, rfl⟩)
  refine hK.out _ _ (Below.refl _ _) (fun hHeld => ?_)
  clear hK K
  refine wpAnyH_ready (rs := [17]) (by kernel_rfl) (by simp) ?_
  refine AllReadyH.cons rfl (fun K hK => ?_) AllReadyH.nil
  go_simp
  go_wp2_with (go_at_call 12; refine (T3.out w6 hK6).mono ?_; rintro e w9 ⟨rfl, rfl⟩)
  refine hK.out _ _ (Below.refl _ _) (fun hHeld => ?_)
  clear hK K
  refine wpAnyH_take (i := 18) (v := ?v18) rfl (by kernel_rfl) (by kernel_rfl) (by kernel_rfl) (fun _ _ _ h => h) (Or.inl ⟨by rfl, ?hy18⟩) (by assumption) ?rest18
  case hy18 => intro W hSW; go_simp; try (with_reducible rfl)
  simp only [Act.put, List.getElem_toArray, List.getElem_cons_succ, List.getElem_cons_zero, List.setIfInBounds_toArray, List.set_cons_zero, List.set_cons_succ]
  refine wpAnyH_take (i := 19) (v := ?v19) rfl (by kernel_rfl) (by kernel_rfl) (by kernel_rfl) (fun _ _ _ h => h) (Or.inl ⟨by rfl, ?hy19⟩) (by assumption) ?rest19
  case hy19 => intro W hSW; go_simp; try (with_reducible rfl)
  simp only [Act.put, List.getElem_toArray, List.getElem_cons_succ, List.getElem_cons_zero, List.setIfInBounds_toArray, List.set_cons_zero, List.set_cons_succ]
  refine wpAnyH_take (i := 20) (v := ?v20) rfl (by kernel_rfl) (by kernel_rfl) (by kernel_rfl) (fun _ _ _ h => h) (Or.inl ⟨by rfl, ?hy20⟩) (by assumption) ?rest20
  case hy20 => intro W hSW; go_simp; try (with_reducible rfl)
  simp only [Act.put, List.getElem_toArray, List.getElem_cons_succ, List.getElem_cons_zero, List.setIfInBounds_toArray, List.set_cons_zero, List.set_cons_succ]
  refine wpAnyH_take (i := 21) (v := ?v21) rfl (by kernel_rfl) (by kernel_rfl) (by kernel_rfl) (fun _ _ _ h => h) (Or.inl ⟨by rfl, ?hy21⟩) (by assumption) ?rest21
  case hy21 => intro W hSW; go_simp; try (with_reducible rfl)
  simp only [Act.put, List.getElem_toArray, List.getElem_cons_succ, List.getElem_cons_zero, List.setIfInBounds_toArray, List.set_cons_zero, List.set_cons_succ]
  refine wpAnyH_ready (rs := [22]) (by kernel_rfl) (by simp) ?_
  refine AllReadyH.cons rfl (fun K hK => ?_) AllReadyH.nil
  go_simp
  go_wp2_with (go_at_call 13; refine (awake_any w6).mono ?_; rintro e w10 ⟨rfl, hK10⟩)
  refine hK.out _ _ hK10 (fun hHeld => ?_)
  clear hK K
  refine wpAnyH_take (i := 23) (v := ?v23) rfl (by kernel_rfl) (by kernel_rfl) (by kernel_rfl) (fun _ _ _ h => h) (Or.inl ⟨by rfl, ?hy23⟩) (by assumption) ?rest23
  case hy23 => intro W hSW; go_simp; try (with_reducible rfl)
  simp only [Act.put, List.getElem_toArray, List.getElem_cons_succ, List.getElem_cons_zero, List.setIfInBounds_toArray, List.set_cons_zero, List.set_cons_succ]
  refine wpAnyH_take (i := 24) (v := ?v24) rfl (by kernel_rfl) (by kernel_rfl) (by kernel_rfl) (fun _ _ _ h => h) (Or.inl ⟨by rfl, ?hy24⟩) (by assumption) ?rest24
  case hy24 => intro W hSW; go_simp; try (with_reducible rfl)
  simp only [Act.put, List.getElem_toArray, List.getElem_cons_succ, List.getElem_cons_zero, List.setIfInBounds_toArray, List.set_cons_zero, List.set_cons_succ]
  refine wpAnyH_done (by kernel_rfl) ?_ _
  go_wp2
  go_ret
  exact ⟨rfl, HB3.out.trans (Below.mono (kept_go hK6 hK10) HB3.out.size)⟩
end Go.Proofs.Ytpnmigfgeieggaa.St
