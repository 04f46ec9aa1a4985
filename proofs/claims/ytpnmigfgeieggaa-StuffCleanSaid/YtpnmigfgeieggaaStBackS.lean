/- The walks of the laws StuffBack and StuffClean, for bytes of any size that a slice may have. -/
import Derived.Test.YtpnmigfgeieggaaStLaws
import Derived.Test.YtpnmigfgeieggaaStBig
namespace Go.Proofs.Ytpnmigfgeieggaa.St
open Go.RowKit
open Go.Proofs.Ytpnmigfgeieggaa.Me
set_option linter.unusedVariables false
set_option linter.unusedSimpArgs false

set_option maxHeartbeats 4000000 in
theorem back_big (A : Option Addr) (len cap : Nat) (l : List Nat) (Aq : Option Addr) (lenq capq : Nat) (q : List Nat) (w : World) (w0 : BySlice w A len cap l) (c0 : cap ≤ 140737488351232) (w1 : BySlice w Aq lenq capq q) (c1 : capq ≤ 140737488351232) :
    Calls Try.prog 6 #[.slice A len cap, .slice Aq lenq capq] w fun e w' => e = .returned (.bool true) ∧ Below w.heap.size w w' := by
  obtain ⟨rfl, h1, h2, h3, hA⟩ := w0
  obtain ⟨rfl, q1, q2, q3, qA⟩ := w1
  have HA := Lib.hid hA
  have HR := Lib.hid h3
  have HQ := Lib.hid q3
  have HQA := Lib.hid qA
  have h2l := stuff_two l
  have C1 := Stuff_big A cap w.heap.size l w HR (Nat.le_refl _) (by omega)
  have C2 := fun A cap B W hr hB => Unstuff_big A cap B (stuffL l) W hr hB (by omega)
  rw [unstuff_stuff h3.1] at C2
  obtain ⟨L, hL⟩ : ∃ L, stuffL l = L := ⟨_, rfl⟩
  rw [hL] at C1 C2
  have E1 := Lib.hid C1
  have E2 := Lib.hid C2
  have C3 := fun W hr hB => Unstuff_big Aq capq w.heap.size q W hr hB (by omega)
  clear C1 C2 hL h3 hA h2l q3 qA
  match hu : unstuffL q with
  | none =>
    rw [hu] at C3
    have E3 := Lib.hid C3
    clear C3 hu
    go_enter Try.func6, Try.ntmps6
    go_wp2_with (first
      | (go_at_call 10; refine E1.out.mono ?_; rintro e w1 ⟨A1, c1, rfl, g1, g2, HH1, hb1⟩; have HR1 := Lib.hid HH1.out.rd)
      | (go_at_call 14; ((with_reducible refine (E2.out _ _ _ _ HR1 (Nat.le_refl _)).mono ?_); rintro e w2 ⟨A2, c2, rfl, g3, g4, HH2, hb2⟩; have hb3 : Hid (Below w.heap.size w w2) := hb1.out.trans (hb2.out.mono hb1.out.size); have k1 := conv_rd w2 _ A2 l c2 HH2.out.rd HH2.out.2.2; have k2 := conv_rd w2 w.heap.size A l cap (HR.out.below hb3.out) HA.out))
      | (go_at_call 14; ((with_reducible refine (E3.out w2 (Lib.hid (HQ.out.below hb3.out)) hb3.out.size).mono ?_); rintro e w3 ⟨rfl, hb4⟩; have hb5 : Hid (Below w.heap.size w w3) := hb3.out.trans (hb4.out.mono hb3.out.size))))
    clear E1 E2 E3 k1 k2
    have hK0 : Kept w3 w3.drew := (Below.refl _ _).drew
    have AW := Lib.hid (awake_any w3.drew)
    refine wp_region_held_drew (S := Kept w3) (by kernel_rfl) hK0 (fun hHeld => ?_)
    refine wpAnyH_take (i := 0) (v := ?v0) rfl (by kernel_rfl) (by kernel_rfl) (by kernel_rfl) (fun _ _ _ h => h) (Or.inl ⟨by rfl, ?hy0⟩) (by assumption) ?rest0
    case hy0 => intro W hSW; go_simp; try (with_reducible rfl)
    simp only [Act.put, List.getElem_toArray, List.getElem_cons_succ, List.getElem_cons_zero, List.setIfInBounds_toArray, List.set_cons_zero, List.set_cons_succ]
    refine wpAnyH_take (i := 1) (v := ?v1) rfl (by kernel_rfl) (by kernel_rfl) (by kernel_rfl) (fun _ _ _ h => h) (Or.inl ⟨by rfl, ?hy1⟩) (by assumption) ?rest1
    case hy1 => intro W hSW; go_simp; try (with_reducible rfl)
    simp only [Act.put, List.getElem_toArray, List.getElem_cons_succ, List.getElem_cons_zero, List.setIfInBounds_toArray, List.set_cons_zero, List.set_cons_succ]
    refine wpAnyH_take (i := 2) (v := ?v2) rfl (by kernel_rfl) (by kernel_rfl) (by kernel_rfl) (fun _ _ _ h => h) (Or.inl ⟨by rfl, ?hy2⟩) (by assumption) ?rest2
    case hy2 => intro W hSW; go_simp; try (with_reducible rfl)
    simp only [Act.put, List.getElem_toArray, List.getElem_cons_succ, List.getElem_cons_zero, List.setIfInBounds_toArray, List.set_cons_zero, List.set_cons_succ]
    refine wpAnyH_take (i := 3) (v := undef) rfl (by kernel_rfl) (by kernel_rfl) (by kernel_rfl) (fun _ _ _ h => h) (Or.inr ⟨by rfl, rfl⟩) (by assumption) ?rest3
    simp only [Act.put, List.getElem_toArray, List.getElem_cons_succ, List.getElem_cons_zero, List.setIfInBounds_toArray, List.set_cons_zero, List.set_cons_succ]
    refine wpAnyH_take (i := 4) (v := undef) rfl (by kernel_rfl) (by kernel_rfl) (by kernel_rfl) (fun _ _ _ h => h) (Or.inr ⟨by rfl, rfl⟩) (by assumption) ?rest4
    simp only [Act.put, List.getElem_toArray, List.getElem_cons_succ, List.getElem_cons_zero, List.setIfInBounds_toArray, List.set_cons_zero, List.set_cons_succ]
    refine wpAnyH_take (i := 5) (v := undef) rfl (by kernel_rfl) (by kernel_rfl) (by kernel_rfl) (fun _ _ _ h => h) (Or.inr ⟨by rfl, rfl⟩) (by assumption) ?rest5
    simp only [Act.put, List.getElem_toArray, List.getElem_cons_succ, List.getElem_cons_zero, List.setIfInBounds_toArray, List.set_cons_zero, List.set_cons_succ]
    refine wpAnyH_take (i := 6) (v := undef) rfl (by kernel_rfl) (by kernel_rfl) (by kernel_rfl) (fun _ _ _ h => h) (Or.inr ⟨by rfl, rfl⟩) (by assumption) ?rest6
    simp only [Act.put, List.getElem_toArray, List.getElem_cons_succ, List.getElem_cons_zero, List.setIfInBounds_toArray, List.set_cons_zero, List.set_cons_succ]
    refine wpAnyH_take (i := 7) (v := undef) rfl (by kernel_rfl) (by kernel_rfl) (by kernel_rfl) (fun _ _ _ h => h) (Or.inr ⟨by rfl, rfl⟩) (by assumption) ?rest7
    simp only [Act.put, List.getElem_toArray, List.getElem_cons_succ, List.getElem_cons_zero, List.setIfInBounds_toArray, List.set_cons_zero, List.set_cons_succ]
    refine wpAnyH_take (i := 8) (v := undef) rfl (by kernel_rfl) (by kernel_rfl) (by kernel_rfl) (fun _ _ _ h => h) (Or.inr ⟨by rfl, rfl⟩) (by assumption) ?rest8
    simp only [Act.put, List.getElem_toArray, List.getElem_cons_succ, List.getElem_cons_zero, List.setIfInBounds_toArray, List.set_cons_zero, List.set_cons_succ]
    refine wpAnyH_take (i := 9) (v := ?v9) rfl (by kernel_rfl) (by kernel_rfl) (by kernel_rfl) (fun _ _ _ h => h) (Or.inl ⟨by rfl, ?hy9⟩) (by assumption) ?rest9
    case hy9 => intro W hSW; go_simp; try (with_reducible rfl)
    simp only [Act.put, List.getElem_toArray, List.getElem_cons_succ, List.getElem_cons_zero, List.setIfInBounds_toArray, List.set_cons_zero, List.set_cons_succ]
    refine wpAnyH_take (i := 10) (v := ?v10) rfl (by kernel_rfl) (by kernel_rfl) (by kernel_rfl) (fun _ _ _ h => h) (Or.inl ⟨by rfl, ?hy10⟩) (by assumption) ?rest10
    case hy10 => intro W hSW; go_simp; try (with_reducible rfl)
    simp only [Act.put, List.getElem_toArray, List.getElem_cons_succ, List.getElem_cons_zero, List.setIfInBounds_toArray, List.set_cons_zero, List.set_cons_succ]
    refine wpAnyH_ready (rs := [11]) (by kernel_rfl) (by simp) ?_
    refine AllReadyH.cons rfl (fun K hK => ?_) AllReadyH.nil
    go_simp
    go_wp2_with (go_at_call 13; refine AW.out.mono ?_; rintro e w4 ⟨rfl, hb6⟩)
    have hK4 : Kept w3 w4 := kept_go hK0 hb6
    refine hK.out _ _ hK4 (fun hHeld => ?_)
    clear hK K
    refine wpAnyH_take (i := 12) (v := ?v12) rfl (by kernel_rfl) (by kernel_rfl) (by kernel_rfl) (fun _ _ _ h => h) (Or.inl ⟨by rfl, ?hy12⟩) (by assumption) ?rest12
    case hy12 => intro W hSW; go_simp; try (with_reducible rfl)
    simp only [Act.put, List.getElem_toArray, List.getElem_cons_succ, List.getElem_cons_zero, List.setIfInBounds_toArray, List.set_cons_zero, List.set_cons_succ]
    refine wpAnyH_take (i := 13) (v := ?v13) rfl (by kernel_rfl) (by kernel_rfl) (by kernel_rfl) (fun _ _ _ h => h) (Or.inl ⟨by rfl, ?hy13⟩) (by assumption) ?rest13
    case hy13 => intro W hSW; go_simp; try (with_reducible rfl)
    simp only [Act.put, List.getElem_toArray, List.getElem_cons_succ, List.getElem_cons_zero, List.setIfInBounds_toArray, List.set_cons_zero, List.set_cons_succ]
    refine wpAnyH_done (by kernel_rfl) ?_ _
    go_wp2
    go_ret
    exact ⟨rfl, hb5.out.trans (Below.mono hK4 hb5.out.size)⟩
  | some o =>
    rw [hu] at C3
    obtain ⟨s1, s2, s3⟩ := stuff_unstuff HQ.out.1 hu
    have E3 := Lib.hid C3
    have C4 := fun A cap B W hr hB => Stuff_big A cap B o W hr hB (by rw [s1]; omega)
    rw [s1] at C4
    have E4 := Lib.hid C4
    clear C3 C4 hu s1 s2 s3
    go_enter Try.func6, Try.ntmps6
    go_wp2_with (first
      | (go_at_call 10; refine E1.out.mono ?_; rintro e w1 ⟨A1, c1, rfl, g1, g2, HH1, hb1⟩; have HR1 := Lib.hid HH1.out.rd)
      | (go_at_call 14; ((with_reducible refine (E2.out _ _ _ _ HR1 (Nat.le_refl _)).mono ?_); rintro e w2 ⟨A2, c2, rfl, g3, g4, HH2, hb2⟩; have hb3 : Hid (Below w.heap.size w w2) := hb1.out.trans (hb2.out.mono hb1.out.size); have k1 := conv_rd w2 _ A2 l c2 HH2.out.rd HH2.out.2.2; have k2 := conv_rd w2 w.heap.size A l cap (HR.out.below hb3.out) HA.out))
      | (go_at_call 14; ((with_reducible refine (E3.out w2 (Lib.hid (HQ.out.below hb3.out)) hb3.out.size).mono ?_); rintro e w3 ⟨A3, c3, rfl, g5, g6, HH3, hb4⟩; have hb5 : Hid (Below w.heap.size w w3) := hb3.out.trans (hb4.out.mono hb3.out.size))))
    have CS : ∀ W, Kept w3 W → (convert 22 9 (.slice Aq q.length capq)).run Try.prog W = .ok (.string (strOf q)) W :=
      fun W hW => conv_rd W _ Aq q capq (HQ.out.below (hb5.out.trans (Below.mono hW hb5.out.size))) HQA.out
    have F4 : Hid (∀ W, Kept w3 W → Calls Try.prog 10 #[.slice A3 o.length c3] W fun e w' => ∃ A1 c1, e = .returned (.slice A1 q.length c1) ∧ Hid ((convert 22 9 (.slice A1 q.length c1)).run Try.prog w' = .ok (.string (strOf q)) w') ∧ Kept w3 w') :=
      fun W hW => (E4.out A3 c3 _ W (HH3.out.below hW).rd (Nat.le_refl _)).mono fun e w' ⟨A1, c1, he, _, _, hH, hB⟩ => ⟨A1, c1, he, conv_rd w' _ A1 q c1 hH.out.rd hH.out.2.2, kept_go hW hB.out⟩
    have F6 : Hid (∀ W, Kept w3 W → Calls Try.prog 13 #[] W fun e w' => e = .returned (.bool true) ∧ Kept w3 w') :=
      fun W hW => (awake_any W).mono fun e w' ⟨he, hB⟩ => ⟨he, kept_go hW hB⟩
    have HCS := Lib.hid CS
    have hK0 : Kept w3 w3.drew := (Below.refl _ _).drew
    have hC0 := CS _ hK0
    clear CS E1 E2 E3 E4 k1 k2
    go_region_held (fun W => (convert 22 9 (.slice Aq q.length capq)).run Try.prog W = .ok (.string (strOf q)) W ∧ Kept w3 W)
      (first | assumption | (refine ⟨HCS.out _ ?_, ?_⟩ <;> assumption))
      (first
        | (go_at_call 10; refine (F4.out _ ?_).mono ?_; (exact (And.right (by assumption))); rintro e w1 ⟨A1, c1, rfl, HC1, hK1⟩; have hC1 := HC1.out; have hS1 := HCS.out _ hK1)
        | (go_at_call 13; refine (F6.out _ ?_).mono ?_; (exact (And.right (by assumption))); rintro e w1 ⟨rfl, hK1⟩; have hS1 := HCS.out _ hK1))
    all_goals
      rename_i hfin
      go_wp2
      go_ret
      exact ⟨rfl, hb5.out.trans (Below.mono (And.right hfin) hb5.out.size)⟩
theorem clean_big (A : Option Addr) (len cap : Nat) (l : List Nat) (w : World) (w0 : BySlice w A len cap l) (c0 : cap ≤ 140737488351232) :
    Calls Try.prog 7 #[.slice A len cap] w fun e w' => e = .returned (.bool true) ∧ Below w.heap.size w w' := by
  obtain ⟨rfl, h1, h2, h3, hA⟩ := w0
  have HR := Lib.hid h3
  have h2l := stuff_two l
  have hml := stuff_more l
  have hcl := stuff_clean h3.1
  have C1 := Stuff_big A cap w.heap.size l w HR (Nat.le_refl _) (by omega)
  obtain ⟨L, hL⟩ : ∃ L, stuffL l = L := ⟨_, rfl⟩
  rw [hL] at C1 h2l hml hcl
  have E1 := Lib.hid C1
  have E2 := Lib.hid (fun A c B W hr => Has_not A c B L W hr (by omega) hcl)
  have d1 : (l.length : Int) ≤ (L.length : Int) := by omega
  have d2 : (L.length : Int) ≤ 2 * (l.length : Int) := by omega
  have hwr : IntKind.i64.wrap (2 * (l.length : Int)) = 2 * (l.length : Int) := IntWalk.i64_in _ (by omega)
  clear C1 hL h3 hA hcl h2l hml
  go_enter Try.func7, Try.ntmps7
  go_wp2_with (first
    | (go_at_call 10; refine E1.out.mono ?_; rintro e w1 ⟨A1, c1, rfl, g1, g2, HH1, hb1⟩; have HR1 := Lib.hid HH1.out.rd)
    | (go_at_call 18; refine (E2.out _ _ _ _ HR1).mono ?_; rintro e w2 ⟨rfl, rfl⟩)
    | (go_at_call 13; refine (awake_below hb1).mono ?_; rintro e w4 ⟨rfl, hb6⟩))
  go_ret
  exact ⟨rfl, hb6.out⟩
end Go.Proofs.Ytpnmigfgeieggaa.St
