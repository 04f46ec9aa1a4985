/- The contract of the reference's Append. -/
import Derived.Test.YtdjgkoklkoahbaaDkROpsB
namespace Go.Proofs.Ytdjgkoklkoahbaa.Dk
open Go.RowKit
open Go.Proofs.Ytdjgkoklkoahbaa.Me Go.Proofs.Ytdjgkoklkoahbaa.Hd
set_option linter.unusedVariables false
set_option linter.unusedSimpArgs false

theorem mayE_zero {s : St} {n : Nm} (h : mayE s [n] = 0) : s.down = false ∧ nameOk n = true := by
  rw [rmayE_one] at h
  cases hd : s.down <;> cases hn : nameOk n <;> simp [hd, hn] at h ⊢
section
variable {Q : Nat → Prop} (w : World) (s : St) (v : Value) (hv : Hid (Fv Q w v s.files))
include hv
set_option maxRecDepth 100000 in
set_option maxHeartbeats 8000000 in
theorem RAppend_any (ok : s.Ok) (n : Nm) (Ap : Option Addr) (cp : Nat) (p : List Nat) (hr : Hid (Me.Rd w w.heap.size Ap p)) (hA : Hid (Ap = none → p.length = 0 ∧ cp = 0)) (hl : p.length ≤ 140737488351232) :
    Calls Try.prog 37 #[.agg (rcs s v), nmV n, .slice Ap p.length cp] w (ROp Q w (appS s n p) (appE s n p)) := by
  obtain ⟨A, c, rfl, h1, h2⟩ := hv.out.form
  have HOK := Lib.hid ok
  have HVO := Lib.hid (fun (W : World) (hW : RX w s (.slice A s.files.length c) W) => fv_old hv.out hW.b)
  have RD := Lib.hid (fun (W : World) (hW : RX w s (.slice A s.files.length c) W) => Ready_any W s (.slice A s.files.length c) n)
  have US := Lib.hid (fun (W : World) (hW : RX w s (.slice A s.files.length c) W) => RUsed_any W s (.slice A s.files.length c) (hv.out.below hW.b) ok)
  have PL := Lib.hid (fun (W : World) (hW : RX w s (.slice A s.files.length c) W) => Place_any W s (.slice A s.files.length c) (hv.out.below hW.b) ok.srt n)
  have FI := Lib.hid (fun (W : World) (hW : RX w s (.slice A s.files.length c) W) => file_any W s (.slice A s.files.length c) (hv.out.below hW.b) ok.srt n)
  have WI := Lib.hid (fun (W : World) (hW : RX w s (.slice A s.files.length c) W) (p : Nm × Fl) => with_any W (.slice A s.files.length c) s.files (hv.out.below hW.b) (by have := ok.cnt; omega) p)
  obtain ⟨F, hF⟩ : ∃ F, s.files.length = F := ⟨_, rfl⟩
  have HFF := Lib.hid hF
  rw [hF] at h1 RD US PL FI WI HVO ⊢
  obtain ⟨W0, hW0⟩ : ∃ W0, (w.alloc (.cells (rcs s (.slice A F c)) 29)).alloc (.cells zD 29) = W0 := ⟨_, rfl⟩
  have HWE := Lib.hid hW0
  have HY0 : Hid (RY w s (.slice A F c) zD W0) := by show RY _ _ _ _ _; rw [← hW0]; exact RY.new w s (.slice A F c)
  obtain ⟨y0, y1, y2, y3⟩ := HY0.out.x.cells
  rw [← hW0] at y0 y1 y2 y3
  show Calls Try.prog 37 #[.agg #[.int .i64 (s.limit : Int), .slice A F c, .int .i64 (leftI s), .bool s.down], nmV n, .slice Ap p.length cp] w _
  unfold rcs zD at HWE y0 y1 y2 y3
  clear hW0 hF ok
  by_cases he : mayE s [n] = 0
  · have hd := (mayE_zero he).1
    rw [he] at RD
    have hu1 := HOK.out.use
    have hl1 := HOK.out.lim
    have hc1 := HOK.out.cnt
    rw [HFF.out] at hc1
    have HPL : Hid (p.length ≤ 140737488351232) := hl
    have HCV : Hid (∀ W, RX w s (.slice A F c) W → (convert 33 9 (.slice Ap p.length cp)).run Try.prog W = .ok (.string (Me.strOf p)) W) := fun W hW => conv_rd W _ Ap p cp (hr.out.below hW.b) hA.out
    have hE0 : appE s n p = if (s.limit < used s.files + p.length) ∨ ((look s.files n).isNone = true ∧ F = 64) then 6 else 0 := by unfold appE; rw [if_neg (by rw [he]; simp), HFF.out]
    obtain ⟨u, hu⟩ : ∃ u, used s.files = u := ⟨_, rfl⟩
    obtain ⟨pl, hpl⟩ : ∃ pl, p.length = pl := ⟨_, rfl⟩
    have HPLL := Lib.hid hpl
    rw [hu] at US hu1 hE0
    rw [hpl] at hE0 hl HCV ⊢
    obtain ⟨D, hD⟩ : ∃ D, (s.limit : Int) - (u : Int) = D := ⟨_, rfl⟩
    have hW1 : wrap64 ((s.limit : Int) - (u : Int)) = D := by rw [Mi.fits ⟨by omega, by omega⟩]; exact hD
    have hW2 : wrap64 D = D := by rw [← hD]; exact Mi.fits ⟨by omega, by omega⟩
    have hW3 : IntKind.i64.wrap D = D := by rw [← hD]; exact Mi.fits' ⟨by omega, by omega⟩
    obtain ⟨b, hb⟩ : ∃ b, (look s.files n).isNone = b := ⟨_, rfl⟩
    have HNG : Hid (∀ z, Pl s.files n z → decide (z < 0) = b) := fun z hz => by rw [hz.neg, hb]
    rw [hb] at hE0
    have HB := Lib.hid hb
    clear hr hA hb
    by_cases hfull : D < (pl : Int)
    · have HC : Hid (appE s n p = 6) := by show _ = _; rw [hE0, if_pos (.inl (by omega))]
      have HE : Hid (appS s n p = s) := by show _ = _; unfold appS; rw [if_neg (by rw [HC.out]; simp)]
      clear he hE0 hu hpl FI WI hd hl1 hu1
      go_enter Try.func37, Try.ntmps37
      go_wp2_with (go_at_call 53; rw [HWE.out]; refine (RD.out W0 HY0.out.x).mono ?_; rintro e w1 ⟨rfl, hb1⟩; have HY1 := Lib.hid (HY0.out.grow hb1.out))
      clear y0 y1 y2 y3
      refine wp_region_held_drew (S := RX w s (.slice A F c)) (by kernel_rfl) HY1.out.drew.x (fun hHeld => ?_)
      refine wpAnyH_take (i := 0) (v := ?vz1) rfl (by kernel_rfl) (by kernel_rfl) (by kernel_rfl) (fun _ _ _ h => h) (Or.inl ⟨by rfl, ?hyz1⟩) (by first | assumption | exact trivial) ?restz1
      case hyz1 => intro W hSW; go_simp; try (with_reducible rfl)
      simp only [Act.put, List.getElem_toArray, List.getElem_cons_succ, List.getElem_cons_zero, List.setIfInBounds_toArray, List.set_cons_zero, List.set_cons_succ]
      refine wpAnyH_take (i := 1) (v := ?vz2) rfl (by kernel_rfl) (by kernel_rfl) (by kernel_rfl) (fun _ _ _ h => h) (Or.inl ⟨by rfl, ?hyz2⟩) (by first | assumption | exact trivial) ?restz2
      case hyz2 => intro W hSW; go_simp; try (with_reducible rfl)
      simp only [Act.put, List.getElem_toArray, List.getElem_cons_succ, List.getElem_cons_zero, List.setIfInBounds_toArray, List.set_cons_zero, List.set_cons_succ]
      refine wpAnyH_take (i := 2) (v := ?vz3) rfl (by kernel_rfl) (by kernel_rfl) (by kernel_rfl) (fun _ _ _ h => h) (Or.inl ⟨by rfl, ?hyz3⟩) (by first | assumption | exact trivial) ?restz3
      case hyz3 => intro W hSW; go_simp; try (with_reducible rfl)
      simp only [Act.put, List.getElem_toArray, List.getElem_cons_succ, List.getElem_cons_zero, List.setIfInBounds_toArray, List.set_cons_zero, List.set_cons_succ]
      refine wpAnyH_take (i := 3) (v := ?vz4) rfl (by kernel_rfl) (by kernel_rfl) (by kernel_rfl) (fun _ _ _ h => h) (Or.inl ⟨by rfl, ?hyz4⟩) (by first | assumption | exact trivial) ?restz4
      case hyz4 => intro W hSW; obtain ⟨r0, r1, r2, r3⟩ := hSW.cells; go_simp; try (with_reducible rfl)
      simp only [Act.put, List.getElem_toArray, List.getElem_cons_succ, List.getElem_cons_zero, List.setIfInBounds_toArray, List.set_cons_zero, List.set_cons_succ]
      refine wpAnyH_take (i := 4) (v := ?vz5) rfl (by kernel_rfl) (by kernel_rfl) (by kernel_rfl) (fun _ _ _ h => h) (Or.inl ⟨by rfl, ?hyz5⟩) (by first | assumption | exact trivial) ?restz5
      case hyz5 => intro W hSW; obtain ⟨r0, r1, r2, r3⟩ := hSW.cells; go_simp; try (with_reducible rfl)
      simp only [Act.put, List.getElem_toArray, List.getElem_cons_succ, List.getElem_cons_zero, List.setIfInBounds_toArray, List.set_cons_zero, List.set_cons_succ]
      refine wpAnyH_ready (rs := [5]) (by kernel_rfl) (by simp) ?_
      refine AllReadyH.cons rfl (fun K hK => ?_) AllReadyH.nil
      go_simp
      go_wp2_with (go_at_call 46; refine (US.out w1.drew HY1.out.drew.x).mono ?_; rintro e w3 ⟨rfl, hb3⟩)
      have HY3 := Lib.hid (HY1.out.drew.grow hb3.out)
      refine hK.out _ _ (HY3.out.x) (fun hHeld => ?_)
      clear hK K
      refine wpAnyH_take (i := 6) (v := .int .i64 D) rfl (by kernel_rfl) (by kernel_rfl) (by kernel_rfl) (fun _ _ _ h => h) (Or.inl ⟨by rfl, ?_⟩) (by first | assumption | exact trivial) ?_
      · intro W hSW; go_simp; try (with_reducible rfl)
      simp only [Act.put, List.getElem_toArray, List.getElem_cons_succ, List.getElem_cons_zero, List.setIfInBounds_toArray, List.set_cons_zero, List.set_cons_succ]
      refine wpAnyH_take (i := 7) (v := .bool true) rfl (by kernel_rfl) (by kernel_rfl) (by kernel_rfl) (fun _ _ _ h => h) (Or.inl ⟨by rfl, ?_⟩) (by first | assumption | exact trivial) ?_
      · intro W hSW; go_simp; try (with_reducible rfl)
      simp only [Act.put, List.getElem_toArray, List.getElem_cons_succ, List.getElem_cons_zero, List.setIfInBounds_toArray, List.set_cons_zero, List.set_cons_succ]
      refine wpAnyH_take (i := 8) (v := ?vz6) rfl (by kernel_rfl) (by kernel_rfl) (by kernel_rfl) (fun _ _ _ h => h) (Or.inl ⟨by rfl, ?hyz6⟩) (by first | assumption | exact trivial) ?restz6
      case hyz6 => intro W hSW; go_simp; try (with_reducible rfl)
      simp only [Act.put, List.getElem_toArray, List.getElem_cons_succ, List.getElem_cons_zero, List.setIfInBounds_toArray, List.set_cons_zero, List.set_cons_succ]
      refine wpAnyH_take (i := 9) (v := undef) rfl (by kernel_rfl) (by kernel_rfl) (by kernel_rfl) (fun _ _ _ h => h) (Or.inr ⟨by rfl, rfl⟩) (by first | assumption | exact trivial) ?restz7
      simp only [Act.put, List.getElem_toArray, List.getElem_cons_succ, List.getElem_cons_zero, List.setIfInBounds_toArray, List.set_cons_zero, List.set_cons_succ]
      refine wpAnyH_take (i := 10) (v := undef) rfl (by kernel_rfl) (by kernel_rfl) (by kernel_rfl) (fun _ _ _ h => h) (Or.inr ⟨by rfl, rfl⟩) (by first | assumption | exact trivial) ?restz8
      simp only [Act.put, List.getElem_toArray, List.getElem_cons_succ, List.getElem_cons_zero, List.setIfInBounds_toArray, List.set_cons_zero, List.set_cons_succ]
      refine wpAnyH_take (i := 11) (v := undef) rfl (by kernel_rfl) (by kernel_rfl) (by kernel_rfl) (fun _ _ _ h => h) (Or.inr ⟨by rfl, rfl⟩) (by first | assumption | exact trivial) ?restz9
      simp only [Act.put, List.getElem_toArray, List.getElem_cons_succ, List.getElem_cons_zero, List.setIfInBounds_toArray, List.set_cons_zero, List.set_cons_succ]
      refine wpAnyH_take (i := 12) (v := undef) rfl (by kernel_rfl) (by kernel_rfl) (by kernel_rfl) (fun _ _ _ h => h) (Or.inr ⟨by rfl, rfl⟩) (by first | assumption | exact trivial) ?restz10
      simp only [Act.put, List.getElem_toArray, List.getElem_cons_succ, List.getElem_cons_zero, List.setIfInBounds_toArray, List.set_cons_zero, List.set_cons_succ]
      refine wpAnyH_take (i := 13) (v := undef) rfl (by kernel_rfl) (by kernel_rfl) (by kernel_rfl) (fun _ _ _ h => h) (Or.inr ⟨by rfl, rfl⟩) (by first | assumption | exact trivial) ?restz11
      simp only [Act.put, List.getElem_toArray, List.getElem_cons_succ, List.getElem_cons_zero, List.setIfInBounds_toArray, List.set_cons_zero, List.set_cons_succ]
      refine wpAnyH_take (i := 14) (v := undef) rfl (by kernel_rfl) (by kernel_rfl) (by kernel_rfl) (fun _ _ _ h => h) (Or.inr ⟨by rfl, rfl⟩) (by first | assumption | exact trivial) ?restz12
      simp only [Act.put, List.getElem_toArray, List.getElem_cons_succ, List.getElem_cons_zero, List.setIfInBounds_toArray, List.set_cons_zero, List.set_cons_succ]
      refine wpAnyH_take (i := 15) (v := undef) rfl (by kernel_rfl) (by kernel_rfl) (by kernel_rfl) (fun _ _ _ h => h) (Or.inr ⟨by rfl, rfl⟩) (by first | assumption | exact trivial) ?restz13
      simp only [Act.put, List.getElem_toArray, List.getElem_cons_succ, List.getElem_cons_zero, List.setIfInBounds_toArray, List.set_cons_zero, List.set_cons_succ]
      refine wpAnyH_take (i := 16) (v := undef) rfl (by kernel_rfl) (by kernel_rfl) (by kernel_rfl) (fun _ _ _ h => h) (Or.inr ⟨by rfl, rfl⟩) (by first | assumption | exact trivial) ?restz14
      simp only [Act.put, List.getElem_toArray, List.getElem_cons_succ, List.getElem_cons_zero, List.setIfInBounds_toArray, List.set_cons_zero, List.set_cons_succ]
      refine wpAnyH_take (i := 17) (v := undef) rfl (by kernel_rfl) (by kernel_rfl) (by kernel_rfl) (fun _ _ _ h => h) (Or.inr ⟨by rfl, rfl⟩) (by first | assumption | exact trivial) ?restz15
      simp only [Act.put, List.getElem_toArray, List.getElem_cons_succ, List.getElem_cons_zero, List.setIfInBounds_toArray, List.set_cons_zero, List.set_cons_succ]
      refine wpAnyH_take (i := 18) (v := undef) rfl (by kernel_rfl) (by kernel_rfl) (by kernel_rfl) (fun _ _ _ h => h) (Or.inr ⟨by rfl, rfl⟩) (by first | assumption | exact trivial) ?restz16
      simp only [Act.put, List.getElem_toArray, List.getElem_cons_succ, List.getElem_cons_zero, List.setIfInBounds_toArray, List.set_cons_zero, List.set_cons_succ]
      refine wpAnyH_take (i := 19) (v := ?vz17) rfl (by kernel_rfl) (by kernel_rfl) (by kernel_rfl) (fun _ _ _ h => h) (Or.inl ⟨by rfl, ?hyz17⟩) (by first | assumption | exact trivial) ?restz17
      case hyz17 => intro W hSW; go_simp; try (with_reducible rfl)
      simp only [Act.put, List.getElem_toArray, List.getElem_cons_succ, List.getElem_cons_zero, List.setIfInBounds_toArray, List.set_cons_zero, List.set_cons_succ]
      refine wpAnyH_done (by kernel_rfl) ?_ _
      obtain ⟨y0, y1, y2, y3⟩ := HY3.out.x.cells
      go_wp2_with (refine wpList_store_row rfl 29 (.tmp 6) (.tmp 37) rfl (w.heap.size + 1) (rcs s (.slice A F c)) rfl rfl 29 _ HY3.out.z (by kernel_rfl) rfl (rcs_one _ _ _ _) ?_; have HYF := Lib.hid (HY3.out.store (rcs s (.slice A F c))))
      refine ret_cell rfl rfl HYF.out.z rfl Try.underlying29 (by kernel_rfl) rfl ?_
      exact ⟨A, F, c, by rw [HE.out, HC.out]; rfl, by rw [HE.out]; exact HVO.out _ HYF.out.x, HYF.out.x.b⟩
    · by_cases hno : b = true
      · subst hno
        by_cases h64 : F = 64
        · have HC : Hid (appE s n p = 6) := by show _ = _; rw [hE0, if_pos (.inr ⟨rfl, h64⟩)]
          have HE : Hid (appS s n p = s) := by show _ = _; unfold appS; rw [if_neg (by rw [HC.out]; simp)]
          have h64' : (64 : Int) ≤ (F : Int) := by omega
          clear he hE0 hu hpl FI WI hd hl1 hu1 h64
          go_enter Try.func37, Try.ntmps37
          go_wp2_with (go_at_call 53; rw [HWE.out]; refine (RD.out W0 HY0.out.x).mono ?_; rintro e w1 ⟨rfl, hb1⟩; have HY1 := Lib.hid (HY0.out.grow hb1.out))
          clear y0 y1 y2 y3
          refine wp_region_held_drew (S := RX w s (.slice A F c)) (by kernel_rfl) HY1.out.drew.x (fun hHeld => ?_)
          refine wpAnyH_take (i := 0) (v := ?vz18) rfl (by kernel_rfl) (by kernel_rfl) (by kernel_rfl) (fun _ _ _ h => h) (Or.inl ⟨by rfl, ?hyz18⟩) (by first | assumption | exact trivial) ?restz18
          case hyz18 => intro W hSW; go_simp; try (with_reducible rfl)
          simp only [Act.put, List.getElem_toArray, List.getElem_cons_succ, List.getElem_cons_zero, List.setIfInBounds_toArray, List.set_cons_zero, List.set_cons_succ]
          refine wpAnyH_take (i := 1) (v := ?vz19) rfl (by kernel_rfl) (by kernel_rfl) (by kernel_rfl) (fun _ _ _ h => h) (Or.inl ⟨by rfl, ?hyz19⟩) (by first | assumption | exact trivial) ?restz19
          case hyz19 => intro W hSW; go_simp; try (with_reducible rfl)
          simp only [Act.put, List.getElem_toArray, List.getElem_cons_succ, List.getElem_cons_zero, List.setIfInBounds_toArray, List.set_cons_zero, List.set_cons_succ]
          refine wpAnyH_take (i := 2) (v := ?vz20) rfl (by kernel_rfl) (by kernel_rfl) (by kernel_rfl) (fun _ _ _ h => h) (Or.inl ⟨by rfl, ?hyz20⟩) (by first | assumption | exact trivial) ?restz20
          case hyz20 => intro W hSW; go_simp; try (with_reducible rfl)
          simp only [Act.put, List.getElem_toArray, List.getElem_cons_succ, List.getElem_cons_zero, List.setIfInBounds_toArray, List.set_cons_zero, List.set_cons_succ]
          refine wpAnyH_take (i := 3) (v := ?vz21) rfl (by kernel_rfl) (by kernel_rfl) (by kernel_rfl) (fun _ _ _ h => h) (Or.inl ⟨by rfl, ?hyz21⟩) (by first | assumption | exact trivial) ?restz21
          case hyz21 => intro W hSW; obtain ⟨r0, r1, r2, r3⟩ := hSW.cells; go_simp; try (with_reducible rfl)
          simp only [Act.put, List.getElem_toArray, List.getElem_cons_succ, List.getElem_cons_zero, List.setIfInBounds_toArray, List.set_cons_zero, List.set_cons_succ]
          refine wpAnyH_take (i := 4) (v := ?vz22) rfl (by kernel_rfl) (by kernel_rfl) (by kernel_rfl) (fun _ _ _ h => h) (Or.inl ⟨by rfl, ?hyz22⟩) (by first | assumption | exact trivial) ?restz22
          case hyz22 => intro W hSW; obtain ⟨r0, r1, r2, r3⟩ := hSW.cells; go_simp; try (with_reducible rfl)
          simp only [Act.put, List.getElem_toArray, List.getElem_cons_succ, List.getElem_cons_zero, List.setIfInBounds_toArray, List.set_cons_zero, List.set_cons_succ]
          refine wpAnyH_ready (rs := [5]) (by kernel_rfl) (by simp) ?_
          refine AllReadyH.cons rfl (fun K hK => ?_) AllReadyH.nil
          go_simp
          go_wp2_with (go_at_call 46; refine (US.out w1.drew HY1.out.drew.x).mono ?_; rintro e w2 ⟨rfl, hb2⟩)
          have HY2 := Lib.hid (HY1.out.drew.grow hb2.out)
          refine hK.out _ _ (HY2.out.x) (fun hHeld => ?_)
          clear hK K
          refine wpAnyH_take (i := 6) (v := .int .i64 D) rfl (by kernel_rfl) (by kernel_rfl) (by kernel_rfl) (fun _ _ _ h => h) (Or.inl ⟨by rfl, ?_⟩) (by first | assumption | exact trivial) ?_
          · intro W hSW; go_simp; try (with_reducible rfl)
          simp only [Act.put, List.getElem_toArray, List.getElem_cons_succ, List.getElem_cons_zero, List.setIfInBounds_toArray, List.set_cons_zero, List.set_cons_succ]
          refine wpAnyH_take (i := 7) (v := .bool false) rfl (by kernel_rfl) (by kernel_rfl) (by kernel_rfl) (fun _ _ _ h => h) (Or.inl ⟨by rfl, ?_⟩) (by first | assumption | exact trivial) ?_
          · intro W hSW; go_simp; try (with_reducible rfl)
          simp only [Act.put, List.getElem_toArray, List.getElem_cons_succ, List.getElem_cons_zero, List.setIfInBounds_toArray, List.set_cons_zero, List.set_cons_succ]
          refine wpAnyH_take (i := 8) (v := ?vz23) rfl (by kernel_rfl) (by kernel_rfl) (by kernel_rfl) (fun _ _ _ h => h) (Or.inl ⟨by rfl, ?hyz23⟩) (by first | assumption | exact trivial) ?restz23
          case hyz23 => intro W hSW; go_simp; try (with_reducible rfl)
          simp only [Act.put, List.getElem_toArray, List.getElem_cons_succ, List.getElem_cons_zero, List.setIfInBounds_toArray, List.set_cons_zero, List.set_cons_succ]
          refine wpAnyH_take (i := 9) (v := ?vz24) rfl (by kernel_rfl) (by kernel_rfl) (by kernel_rfl) (fun _ _ _ h => h) (Or.inl ⟨by rfl, ?hyz24⟩) (by first | assumption | exact trivial) ?restz24
          case hyz24 => intro W hSW; obtain ⟨r0, r1, r2, r3⟩ := hSW.cells; go_simp; try (with_reducible rfl)
          simp only [Act.put, List.getElem_toArray, List.getElem_cons_succ, List.getElem_cons_zero, List.setIfInBounds_toArray, List.set_cons_zero, List.set_cons_succ]
          refine wpAnyH_take (i := 10) (v := ?vz25) rfl (by kernel_rfl) (by kernel_rfl) (by kernel_rfl) (fun _ _ _ h => h) (Or.inl ⟨by rfl, ?hyz25⟩) (by first | assumption | exact trivial) ?restz25
          case hyz25 => intro W hSW; go_simp; try (with_reducible rfl)
          simp only [Act.put, List.getElem_toArray, List.getElem_cons_succ, List.getElem_cons_zero, List.setIfInBounds_toArray, List.set_cons_zero, List.set_cons_succ]
          refine wpAnyH_ready (rs := [11]) (by kernel_rfl) (by simp) ?_
          refine AllReadyH.cons rfl (fun K hK => ?_) AllReadyH.nil
          go_simp
          go_wp2_with (go_at_call 54; refine (PL.out w2 HY2.out.x).mono ?_; rintro e w3 ⟨z, rfl, hz, hb3⟩; have hneg := HNG.out z hz.out)
          have HY3 := Lib.hid (HY2.out.grow hb3.out)
          refine hK.out _ _ (HY3.out.x) (fun hHeld => ?_)
          clear hK K
          refine wpAnyH_take (i := 12) (v := .bool true) rfl (by kernel_rfl) (by kernel_rfl) (by kernel_rfl) (fun _ _ _ h => h) (Or.inl ⟨by rfl, ?_⟩) (by first | assumption | exact trivial) ?_
          · intro W hSW; go_simp; try (with_reducible rfl)
          simp only [Act.put, List.getElem_toArray, List.getElem_cons_succ, List.getElem_cons_zero, List.setIfInBounds_toArray, List.set_cons_zero, List.set_cons_succ]
          refine wpAnyH_take (i := 13) (v := ?vz26) rfl (by kernel_rfl) (by kernel_rfl) (by kernel_rfl) (fun _ _ _ h => h) (Or.inl ⟨by rfl, ?hyz26⟩) (by first | assumption | exact trivial) ?restz26
          case hyz26 => intro W hSW; go_simp; try (with_reducible rfl)
          simp only [Act.put, List.getElem_toArray, List.getElem_cons_succ, List.getElem_cons_zero, List.setIfInBounds_toArray, List.set_cons_zero, List.set_cons_succ]
          refine wpAnyH_take (i := 14) (v := ?vz27) rfl (by kernel_rfl) (by kernel_rfl) (by kernel_rfl) (fun _ _ _ h => h) (Or.inl ⟨by rfl, ?hyz27⟩) (by first | assumption | exact trivial) ?restz27
          case hyz27 => intro W hSW; go_simp; try (with_reducible rfl)
          simp only [Act.put, List.getElem_toArray, List.getElem_cons_succ, List.getElem_cons_zero, List.setIfInBounds_toArray, List.set_cons_zero, List.set_cons_succ]
          refine wpAnyH_take (i := 15) (v := ?vz28) rfl (by kernel_rfl) (by kernel_rfl) (by kernel_rfl) (fun _ _ _ h => h) (Or.inl ⟨by rfl, ?hyz28⟩) (by first | assumption | exact trivial) ?restz28
          case hyz28 => intro W hSW; obtain ⟨r0, r1, r2, r3⟩ := hSW.cells; go_simp; try (with_reducible rfl)
          simp only [Act.put, List.getElem_toArray, List.getElem_cons_succ, List.getElem_cons_zero, List.setIfInBounds_toArray, List.set_cons_zero, List.set_cons_succ]
          refine wpAnyH_take (i := 16) (v := ?vz29) rfl (by kernel_rfl) (by kernel_rfl) (by kernel_rfl) (fun _ _ _ h => h) (Or.inl ⟨by rfl, ?hyz29⟩) (by first | assumption | exact trivial) ?restz29
          case hyz29 => intro W hSW; go_simp; try (with_reducible rfl)
          simp only [Act.put, List.getElem_toArray, List.getElem_cons_succ, List.getElem_cons_zero, List.setIfInBounds_toArray, List.set_cons_zero, List.set_cons_succ]
          refine wpAnyH_take (i := 17) (v := ?vz30) rfl (by kernel_rfl) (by kernel_rfl) (by kernel_rfl) (fun _ _ _ h => h) (Or.inl ⟨by rfl, ?hyz30⟩) (by first | assumption | exact trivial) ?restz30
          case hyz30 => intro W hSW; go_simp; try (with_reducible rfl)
          simp only [Act.put, List.getElem_toArray, List.getElem_cons_succ, List.getElem_cons_zero, List.setIfInBounds_toArray, List.set_cons_zero, List.set_cons_succ]
          refine wpAnyH_take (i := 18) (v := ?vz31) rfl (by kernel_rfl) (by kernel_rfl) (by kernel_rfl) (fun _ _ _ h => h) (Or.inl ⟨by rfl, ?hyz31⟩) (by first | assumption | exact trivial) ?restz31
          case hyz31 => intro W hSW; go_simp; try (with_reducible rfl)
          simp only [Act.put, List.getElem_toArray, List.getElem_cons_succ, List.getElem_cons_zero, List.setIfInBounds_toArray, List.set_cons_zero, List.set_cons_succ]
          refine wpAnyH_take (i := 19) (v := ?vz32) rfl (by kernel_rfl) (by kernel_rfl) (by kernel_rfl) (fun _ _ _ h => h) (Or.inl ⟨by rfl, ?hyz32⟩) (by first | assumption | exact trivial) ?restz32
          case hyz32 => intro W hSW; go_simp; try (with_reducible rfl)
          simp only [Act.put, List.getElem_toArray, List.getElem_cons_succ, List.getElem_cons_zero, List.setIfInBounds_toArray, List.set_cons_zero, List.set_cons_succ]
          refine wpAnyH_done (by kernel_rfl) ?_ _
          obtain ⟨y0, y1, y2, y3⟩ := HY3.out.x.cells
          go_wp2_with (refine wpList_store_row rfl 29 (.tmp 6) (.tmp 37) rfl (w.heap.size + 1) (rcs s (.slice A F c)) rfl rfl 29 _ HY3.out.z (by kernel_rfl) rfl (rcs_one _ _ _ _) ?_; have HYF := Lib.hid (HY3.out.store (rcs s (.slice A F c))))
          refine ret_cell rfl rfl HYF.out.z rfl Try.underlying29 (by kernel_rfl) rfl ?_
          exact ⟨A, F, c, by rw [HE.out, HC.out]; rfl, by rw [HE.out]; exact HVO.out _ HYF.out.x, HYF.out.x.b⟩
        · have HC : Hid (appE s n p = 0) := by show _ = _; rw [hE0, if_neg (by rintro (h | ⟨_, h⟩) <;> omega)]
          have h64' : ¬ (64 : Int) ≤ (F : Int) := by omega
          clear hu1 hl1 hc1 h64 hE0
          have CH := Lib.hid (fun (W : World) (A2 : Option Addr) (n2 c2 : Nat) => rchanged_any W s (.slice A F c) A2 n2 c2 hd HOK.out.left (put s.files n (appF (look s.files n) p)))
          have HE : Hid (appS s n p = chg s (put s.files n (appF (look s.files n) p))) := by show _ = _; unfold appS; rw [if_pos HC.out]
          obtain ⟨e12, hsz⟩ := two_strs HOK.out n
          obtain ⟨S1, hS1⟩ : ∃ S, Me.strOf ((fileOf s n).bytes.take (fileOf s n).safe) = S := ⟨_, rfl⟩
          obtain ⟨S2, hS2⟩ : ∃ S, Me.strOf ((fileOf s n).bytes.drop (fileOf s n).safe) = S := ⟨_, rfl⟩
          have HS1 := Lib.hid hS1
          have HS2 := Lib.hid hS2
          rw [hS1, hS2] at e12 hsz
          obtain ⟨SA, hSA⟩ : ∃ S, Me.strOf (fileOf s n).bytes = S := ⟨_, rfl⟩
          have HSA := Lib.hid hSA
          rw [hSA] at e12
          clear hS1 hS2 hSA
          have hfa := fl_app (look s.files n) p (fun g hg => (HOK.out.file hg).1)
          obtain ⟨PS, hPS⟩ : ∃ S, Me.strOf p = S := ⟨_, rfl⟩
          have hS2z : S2.size ≤ 1048576 := by
            have h1 := (HOK.out.fileOf n).2.1
            have h2 := HOK.out.use
            rw [← HS2.out, str_size, List.length_drop]; omega
          have hPSz : PS.size = pl := by rw [← hPS, str_size, HPLL.out]
          obtain ⟨SB, hSB⟩ : ∃ S, S2 ++ PS = S := ⟨_, rfl⟩
          have hsz2 : ¬ 9223372036854775807 < S2.size + PS.size := by rw [hPSz]; omega
          have WI2 : Hid (∀ (W : World), RX w s (.slice A F c) W → Calls Try.prog 57 #[.slice A F c, .agg #[nmV n, .string S1, .string SB]] W (NewF W (put s.files n (appF (look s.files n) p)))) := fun W hW => by
            have h := WI.out W hW (n, appF (look s.files n) p)
            rw [fV_eq] at h
            unfold fV at h
            simp only [hfa.1, hfa.2] at h
            rw [← str_app] at h
            have e1 : Me.strOf (((look s.files n).getD ⟨[], 0⟩).bytes.take ((look s.files n).getD ⟨[], 0⟩).safe) = S1 := HS1.out
            have e2 : Me.strOf (((look s.files n).getD ⟨[], 0⟩).bytes.drop ((look s.files n).getD ⟨[], 0⟩).safe) = S2 := HS2.out
            rw [e1, e2, hPS, hSB] at h
            exact h
          rw [hPS] at HCV
          clear he hd hu hpl WI hfa hPS hS2z hPSz e12 hsz
          go_enter Try.func37, Try.ntmps37
          go_wp2_with (go_at_call 53; rw [HWE.out]; refine (RD.out W0 HY0.out.x).mono ?_; rintro e w1 ⟨rfl, hb1⟩; have HY1 := Lib.hid (HY0.out.grow hb1.out))
          clear y0 y1 y2 y3
          refine wp_region_held_drew (S := RX w s (.slice A F c)) (by kernel_rfl) HY1.out.drew.x (fun hHeld => ?_)
          refine wpAnyH_take (i := 0) (v := ?vz33) rfl (by kernel_rfl) (by kernel_rfl) (by kernel_rfl) (fun _ _ _ h => h) (Or.inl ⟨by rfl, ?hyz33⟩) (by first | assumption | exact trivial) ?restz33
          case hyz33 => intro W hSW; go_simp; try (with_reducible rfl)
          simp only [Act.put, List.getElem_toArray, List.getElem_cons_succ, List.getElem_cons_zero, List.setIfInBounds_toArray, List.set_cons_zero, List.set_cons_succ]
          refine wpAnyH_take (i := 1) (v := ?vz34) rfl (by kernel_rfl) (by kernel_rfl) (by kernel_rfl) (fun _ _ _ h => h) (Or.inl ⟨by rfl, ?hyz34⟩) (by first | assumption | exact trivial) ?restz34
          case hyz34 => intro W hSW; go_simp; try (with_reducible rfl)
          simp only [Act.put, List.getElem_toArray, List.getElem_cons_succ, List.getElem_cons_zero, List.setIfInBounds_toArray, List.set_cons_zero, List.set_cons_succ]
          refine wpAnyH_take (i := 2) (v := ?vz35) rfl (by kernel_rfl) (by kernel_rfl) (by kernel_rfl) (fun _ _ _ h => h) (Or.inl ⟨by rfl, ?hyz35⟩) (by first | assumption | exact trivial) ?restz35
          case hyz35 => intro W hSW; go_simp; try (with_reducible rfl)
          simp only [Act.put, List.getElem_toArray, List.getElem_cons_succ, List.getElem_cons_zero, List.setIfInBounds_toArray, List.set_cons_zero, List.set_cons_succ]
          refine wpAnyH_take (i := 3) (v := ?vz36) rfl (by kernel_rfl) (by kernel_rfl) (by kernel_rfl) (fun _ _ _ h => h) (Or.inl ⟨by rfl, ?hyz36⟩) (by first | assumption | exact trivial) ?restz36
          case hyz36 => intro W hSW; obtain ⟨r0, r1, r2, r3⟩ := hSW.cells; go_simp; try (with_reducible rfl)
          simp only [Act.put, List.getElem_toArray, List.getElem_cons_succ, List.getElem_cons_zero, List.setIfInBounds_toArray, List.set_cons_zero, List.set_cons_succ]
          refine wpAnyH_take (i := 4) (v := ?vz37) rfl (by kernel_rfl) (by kernel_rfl) (by kernel_rfl) (fun _ _ _ h => h) (Or.inl ⟨by rfl, ?hyz37⟩) (by first | assumption | exact trivial) ?restz37
          case hyz37 => intro W hSW; obtain ⟨r0, r1, r2, r3⟩ := hSW.cells; go_simp; try (with_reducible rfl)
          simp only [Act.put, List.getElem_toArray, List.getElem_cons_succ, List.getElem_cons_zero, List.setIfInBounds_toArray, List.set_cons_zero, List.set_cons_succ]
          refine wpAnyH_ready (rs := [5]) (by kernel_rfl) (by simp) ?_
          refine AllReadyH.cons rfl (fun K hK => ?_) AllReadyH.nil
          go_simp
          go_wp2_with (go_at_call 46; refine (US.out w1.drew HY1.out.drew.x).mono ?_; rintro e w2 ⟨rfl, hb2⟩)
          have HY2 := Lib.hid (HY1.out.drew.grow hb2.out)
          refine hK.out _ _ (HY2.out.x) (fun hHeld => ?_)
          clear hK K
          refine wpAnyH_take (i := 6) (v := .int .i64 D) rfl (by kernel_rfl) (by kernel_rfl) (by kernel_rfl) (fun _ _ _ h => h) (Or.inl ⟨by rfl, ?_⟩) (by first | assumption | exact trivial) ?_
          · intro W hSW; go_simp; try (with_reducible rfl)
          simp only [Act.put, List.getElem_toArray, List.getElem_cons_succ, List.getElem_cons_zero, List.setIfInBounds_toArray, List.set_cons_zero, List.set_cons_succ]
          refine wpAnyH_take (i := 7) (v := .bool false) rfl (by kernel_rfl) (by kernel_rfl) (by kernel_rfl) (fun _ _ _ h => h) (Or.inl ⟨by rfl, ?_⟩) (by first | assumption | exact trivial) ?_
          · intro W hSW; go_simp; try (with_reducible rfl)
          simp only [Act.put, List.getElem_toArray, List.getElem_cons_succ, List.getElem_cons_zero, List.setIfInBounds_toArray, List.set_cons_zero, List.set_cons_succ]
          refine wpAnyH_take (i := 8) (v := ?vz38) rfl (by kernel_rfl) (by kernel_rfl) (by kernel_rfl) (fun _ _ _ h => h) (Or.inl ⟨by rfl, ?hyz38⟩) (by first | assumption | exact trivial) ?restz38
          case hyz38 => intro W hSW; go_simp; try (with_reducible rfl)
          simp only [Act.put, List.getElem_toArray, List.getElem_cons_succ, List.getElem_cons_zero, List.setIfInBounds_toArray, List.set_cons_zero, List.set_cons_succ]
          refine wpAnyH_take (i := 9) (v := ?vz39) rfl (by kernel_rfl) (by kernel_rfl) (by kernel_rfl) (fun _ _ _ h => h) (Or.inl ⟨by rfl, ?hyz39⟩) (by first | assumption | exact trivial) ?restz39
          case hyz39 => intro W hSW; obtain ⟨r0, r1, r2, r3⟩ := hSW.cells; go_simp; try (with_reducible rfl)
          simp only [Act.put, List.getElem_toArray, List.getElem_cons_succ, List.getElem_cons_zero, List.setIfInBounds_toArray, List.set_cons_zero, List.set_cons_succ]
          refine wpAnyH_take (i := 10) (v := ?vz40) rfl (by kernel_rfl) (by kernel_rfl) (by kernel_rfl) (fun _ _ _ h => h) (Or.inl ⟨by rfl, ?hyz40⟩) (by first | assumption | exact trivial) ?restz40
          case hyz40 => intro W hSW; go_simp; try (with_reducible rfl)
          simp only [Act.put, List.getElem_toArray, List.getElem_cons_succ, List.getElem_cons_zero, List.setIfInBounds_toArray, List.set_cons_zero, List.set_cons_succ]
          refine wpAnyH_ready (rs := [11]) (by kernel_rfl) (by simp) ?_
          refine AllReadyH.cons rfl (fun K hK => ?_) AllReadyH.nil
          go_simp
          go_wp2_with (go_at_call 54; refine (PL.out w2 HY2.out.x).mono ?_; rintro e w3 ⟨z, rfl, hz, hb3⟩; have hneg := HNG.out z hz.out)
          have HY3 := Lib.hid (HY2.out.grow hb3.out)
          refine hK.out _ _ (HY3.out.x) (fun hHeld => ?_)
          clear hK K
          refine wpAnyH_take (i := 12) (v := .bool true) rfl (by kernel_rfl) (by kernel_rfl) (by kernel_rfl) (fun _ _ _ h => h) (Or.inl ⟨by rfl, ?_⟩) (by first | assumption | exact trivial) ?_
          · intro W hSW; go_simp; try (with_reducible rfl)
          simp only [Act.put, List.getElem_toArray, List.getElem_cons_succ, List.getElem_cons_zero, List.setIfInBounds_toArray, List.set_cons_zero, List.set_cons_succ]
          refine wpAnyH_take (i := 13) (v := ?vz41) rfl (by kernel_rfl) (by kernel_rfl) (by kernel_rfl) (fun _ _ _ h => h) (Or.inl ⟨by rfl, ?hyz41⟩) (by first | assumption | exact trivial) ?restz41
          case hyz41 => intro W hSW; go_simp; try (with_reducible rfl)
          simp only [Act.put, List.getElem_toArray, List.getElem_cons_succ, List.getElem_cons_zero, List.setIfInBounds_toArray, List.set_cons_zero, List.set_cons_succ]
          refine wpAnyH_take (i := 14) (v := ?vz42) rfl (by kernel_rfl) (by kernel_rfl) (by kernel_rfl) (fun _ _ _ h => h) (Or.inl ⟨by rfl, ?hyz42⟩) (by first | assumption | exact trivial) ?restz42
          case hyz42 => intro W hSW; go_simp; try (with_reducible rfl)
          simp only [Act.put, List.getElem_toArray, List.getElem_cons_succ, List.getElem_cons_zero, List.setIfInBounds_toArray, List.set_cons_zero, List.set_cons_succ]
          refine wpAnyH_take (i := 15) (v := ?vz43) rfl (by kernel_rfl) (by kernel_rfl) (by kernel_rfl) (fun _ _ _ h => h) (Or.inl ⟨by rfl, ?hyz43⟩) (by first | assumption | exact trivial) ?restz43
          case hyz43 => intro W hSW; obtain ⟨r0, r1, r2, r3⟩ := hSW.cells; go_simp; try (with_reducible rfl)
          simp only [Act.put, List.getElem_toArray, List.getElem_cons_succ, List.getElem_cons_zero, List.setIfInBounds_toArray, List.set_cons_zero, List.set_cons_succ]
          refine wpAnyH_take (i := 16) (v := ?vz44) rfl (by kernel_rfl) (by kernel_rfl) (by kernel_rfl) (fun _ _ _ h => h) (Or.inl ⟨by rfl, ?hyz44⟩) (by first | assumption | exact trivial) ?restz44
          case hyz44 => intro W hSW; go_simp; try (with_reducible rfl)
          simp only [Act.put, List.getElem_toArray, List.getElem_cons_succ, List.getElem_cons_zero, List.setIfInBounds_toArray, List.set_cons_zero, List.set_cons_succ]
          refine wpAnyH_take (i := 17) (v := ?vz45) rfl (by kernel_rfl) (by kernel_rfl) (by kernel_rfl) (fun _ _ _ h => h) (Or.inl ⟨by rfl, ?hyz45⟩) (by first | assumption | exact trivial) ?restz45
          case hyz45 => intro W hSW; go_simp; try (with_reducible rfl)
          simp only [Act.put, List.getElem_toArray, List.getElem_cons_succ, List.getElem_cons_zero, List.setIfInBounds_toArray, List.set_cons_zero, List.set_cons_succ]
          refine wpAnyH_take (i := 18) (v := ?vz46) rfl (by kernel_rfl) (by kernel_rfl) (by kernel_rfl) (fun _ _ _ h => h) (Or.inl ⟨by rfl, ?hyz46⟩) (by first | assumption | exact trivial) ?restz46
          case hyz46 => intro W hSW; go_simp; try (with_reducible rfl)
          simp only [Act.put, List.getElem_toArray, List.getElem_cons_succ, List.getElem_cons_zero, List.setIfInBounds_toArray, List.set_cons_zero, List.set_cons_succ]
          refine wpAnyH_take (i := 19) (v := ?vz47) rfl (by kernel_rfl) (by kernel_rfl) (by kernel_rfl) (fun _ _ _ h => h) (Or.inl ⟨by rfl, ?hyz47⟩) (by first | assumption | exact trivial) ?restz47
          case hyz47 => intro W hSW; go_simp; try (with_reducible rfl)
          simp only [Act.put, List.getElem_toArray, List.getElem_cons_succ, List.getElem_cons_zero, List.setIfInBounds_toArray, List.set_cons_zero, List.set_cons_succ]
          refine wpAnyH_done (by kernel_rfl) ?_ _
          obtain ⟨y0, y1, y2, y3⟩ := HY3.out.x.cells
          have HYP := HY3
          have HWP : Hid (∀ W, RX w s (.slice A F c) W → Calls Try.prog 55 #[.agg (rcs s (.slice A F c)), nmV n] W fun e w' => e = .returned (.agg (fV n (fileOf s n))) ∧ Hid (Below W.heap.size W w')) := FI.out
          clear HY3
          go_wp2_with (first
            | (go_at_call 55; refine (HWP.out w3 HYP.out.x).mono ?_; rintro e w2' ⟨rfl, hb2'⟩; have HY2' := Lib.hid (HYP.out.grow hb2'.out); clear y0 y1 y2 y3)
            | (refine wpList_store_row rfl 82 (.tmp 8) (.tmp 40) rfl w2'.heap.size (fV n (fileOf s n)) rfl rfl 82 _ (heap_alloc_new w2' _) (by kernel_rfl) rfl (fV_one _ _) ?_; have hbx := file_box HY2'.out n (fileOf s n); unfold zF at hbx; obtain ⟨W3, hW3⟩ : ∃ W3, (w2'.alloc (.cells #[.string ⟨#[]⟩, .string ⟨#[]⟩, .string ⟨#[]⟩] 82)).setRow w2'.heap.size (fV n (fileOf s n)) = W3 := ⟨_, rfl⟩; rw [hW3] at hbx ⊢; have hgl := HY2'.out.lt; obtain ⟨g, hg⟩ : ∃ g, w2'.heap.size = g := ⟨_, rfl⟩; simp only [hg] at hbx hgl ⊢; have HGL := Lib.hid hgl; have HY3 := Lib.hid hbx.1; have HK3 := Lib.hid hbx.2; clear hW3 hbx hg hgl; have HFC : Hid (∀ W, KF w s (.slice A F c) g n (fileOf s n) W → W.cell? ⟨g, 0, none⟩ = some (nmV n) ∧ W.cell? ⟨g, 1, none⟩ = some (.string S1) ∧ W.cell? ⟨g, 2, none⟩ = some (.string S2)) := (fun W hW => by have h := hW.cells; rw [HS1.out, HS2.out] at h; exact h); obtain ⟨_, f1, f2⟩ := HFC.out W3 HK3.out; obtain ⟨y0, y1, y2, y3⟩ := HY3.out.x.cells))
          clear y0 y1 y2 y3 f1 f2
          refine wp_region_held_drew (S := KF w s (.slice A F c) g n (fileOf s n)) (by kernel_rfl) HK3.out.drew (fun hHeld => ?_)
          refine wpAnyH_take (i := 0) (v := ?vz48) rfl (by kernel_rfl) (by kernel_rfl) (by kernel_rfl) (fun _ _ _ h => h) (Or.inl ⟨by rfl, ?hyz48⟩) (by first | assumption | exact trivial) ?restz48
          case hyz48 => intro W hSW; obtain ⟨r0, r1, r2, r3⟩ := hSW.x.cells; go_simp; try (with_reducible rfl)
          simp only [Act.put, List.getElem_toArray, List.getElem_cons_succ, List.getElem_cons_zero, List.setIfInBounds_toArray, List.set_cons_zero, List.set_cons_succ]
          refine wpAnyH_take (i := 1) (v := ?vz49) rfl (by kernel_rfl) (by kernel_rfl) (by kernel_rfl) (fun _ _ _ h => h) (Or.inl ⟨by rfl, ?hyz49⟩) (by first | assumption | exact trivial) ?restz49
          case hyz49 => intro W hSW; go_simp; try (with_reducible rfl)
          simp only [Act.put, List.getElem_toArray, List.getElem_cons_succ, List.getElem_cons_zero, List.setIfInBounds_toArray, List.set_cons_zero, List.set_cons_succ]
          refine wpAnyH_take (i := 2) (v := ?vz50) rfl (by kernel_rfl) (by kernel_rfl) (by kernel_rfl) (fun _ _ _ h => h) (Or.inl ⟨by rfl, ?hyz50⟩) (by first | assumption | exact trivial) ?restz50
          case hyz50 => intro W hSW; obtain ⟨r0, r1, r2, r3⟩ := hSW.x.cells; go_simp; try (with_reducible rfl)
          simp only [Act.put, List.getElem_toArray, List.getElem_cons_succ, List.getElem_cons_zero, List.setIfInBounds_toArray, List.set_cons_zero, List.set_cons_succ]
          refine wpAnyH_take (i := 3) (v := ?vz51) rfl (by kernel_rfl) (by kernel_rfl) (by kernel_rfl) (fun _ _ _ h => h) (Or.inl ⟨by rfl, ?hyz51⟩) (by first | assumption | exact trivial) ?restz51
          case hyz51 => intro W hSW; go_simp; try (with_reducible rfl)
          simp only [Act.put, List.getElem_toArray, List.getElem_cons_succ, List.getElem_cons_zero, List.setIfInBounds_toArray, List.set_cons_zero, List.set_cons_succ]
          refine wpAnyH_take (i := 4) (v := ?vz52) rfl (by kernel_rfl) (by kernel_rfl) (by kernel_rfl) (fun _ _ _ h => h) (Or.inl ⟨by rfl, ?hyz52⟩) (by first | assumption | exact trivial) ?restz52
          case hyz52 => intro W hSW; go_simp; try (with_reducible rfl)
          simp only [Act.put, List.getElem_toArray, List.getElem_cons_succ, List.getElem_cons_zero, List.setIfInBounds_toArray, List.set_cons_zero, List.set_cons_succ]
          refine wpAnyH_take (i := 5) (v := ?vz53) rfl (by kernel_rfl) (by kernel_rfl) (by kernel_rfl) (fun _ _ _ h => h) (Or.inl ⟨by rfl, ?hyz53⟩) (by first | assumption | exact trivial) ?restz53
          case hyz53 => intro W hSW; obtain ⟨_, f1, f2⟩ := HFC.out W hSW; go_simp; try (with_reducible rfl)
          simp only [Act.put, List.getElem_toArray, List.getElem_cons_succ, List.getElem_cons_zero, List.setIfInBounds_toArray, List.set_cons_zero, List.set_cons_succ]
          refine wpAnyH_take (i := 6) (v := ?vz54) rfl (by kernel_rfl) (by kernel_rfl) (by kernel_rfl) (fun _ _ _ h => h) (Or.inl ⟨by rfl, ?hyz54⟩) (by first | assumption | exact trivial) ?restz54
          case hyz54 => intro W hSW; go_simp; try (with_reducible rfl)
          simp only [Act.put, List.getElem_toArray, List.getElem_cons_succ, List.getElem_cons_zero, List.setIfInBounds_toArray, List.set_cons_zero, List.set_cons_succ]
          refine wpAnyH_take (i := 7) (v := ?vz55) rfl (by kernel_rfl) (by kernel_rfl) (by kernel_rfl) (fun _ _ _ h => h) (Or.inl ⟨by rfl, ?hyz55⟩) (by first | assumption | exact trivial) ?restz55
          case hyz55 => intro W hSW; obtain ⟨_, f1, f2⟩ := HFC.out W hSW; go_simp; try (with_reducible rfl)
          simp only [Act.put, List.getElem_toArray, List.getElem_cons_succ, List.getElem_cons_zero, List.setIfInBounds_toArray, List.set_cons_zero, List.set_cons_succ]
          refine wpAnyH_take (i := 8) (v := ?vz56) rfl (by kernel_rfl) (by kernel_rfl) (by kernel_rfl) (fun _ _ _ h => h) (Or.inl ⟨by rfl, ?hyz56⟩) (by first | assumption | exact trivial) ?restz56
          case hyz56 => intro W hSW; go_simp; try (with_reducible rfl)
          simp only [Act.put, List.getElem_toArray, List.getElem_cons_succ, List.getElem_cons_zero, List.setIfInBounds_toArray, List.set_cons_zero, List.set_cons_succ]
          refine wpAnyH_take (i := 9) (v := ?vz57) rfl (by kernel_rfl) (by kernel_rfl) (by kernel_rfl) (fun _ _ _ h => h) (Or.inl ⟨by rfl, ?hyz57⟩) (by first | assumption | exact trivial) ?restz57
          case hyz57 => intro W hSW; have q9 := HCV.out W hSW.x; go_simp; try (with_reducible rfl)
          simp only [Act.put, List.getElem_toArray, List.getElem_cons_succ, List.getElem_cons_zero, List.setIfInBounds_toArray, List.set_cons_zero, List.set_cons_succ]
          refine wpAnyH_take (i := 10) (v := ?vz58) rfl (by kernel_rfl) (by kernel_rfl) (by kernel_rfl) (fun _ _ _ h => h) (Or.inl ⟨by rfl, ?hyz58⟩) (by first | assumption | exact trivial) ?restz58
          case hyz58 => intro W hSW; go_simp; try (with_reducible rfl)
          simp only [Act.put, List.getElem_toArray, List.getElem_cons_succ, List.getElem_cons_zero, List.setIfInBounds_toArray, List.set_cons_zero, List.set_cons_succ]
          refine wpAnyH_take (i := 11) (v := ?vz59) rfl (by kernel_rfl) (by kernel_rfl) (by kernel_rfl) (fun _ _ _ h => h) (Or.inl ⟨by rfl, ?hyz59⟩) (by first | assumption | exact trivial) ?restz59
          case hyz59 => intro W hSW; go_simp; try (with_reducible rfl)
          simp only [Act.put, List.getElem_toArray, List.getElem_cons_succ, List.getElem_cons_zero, List.setIfInBounds_toArray, List.set_cons_zero, List.set_cons_succ]
          refine wpAnyH_ready (rs := [12]) (by kernel_rfl) (by simp) ?_
          refine AllReadyH.cons rfl (fun K hK => ?_) AllReadyH.nil
          go_simp
          go_wp2_with (go_at_call 57; refine (WI2.out W3.drew HY3.out.drew.x).mono ?_; rintro e w4 ⟨v4, rfl, hv4, hb4⟩; obtain ⟨A2, c2, rfl, _, _⟩ := hv4.out.form)
          have HY4 := Lib.hid (HY3.out.drew.grow hb4.out)
          have HK4 := Lib.hid (HK3.out.drew.grow hb4.out)
          refine hK.out _ _ (HK4.out) (fun hHeld => ?_)
          clear hK K
          refine wpAnyH_ready (rs := [13]) (by kernel_rfl) (by simp) ?_
          refine AllReadyH.cons rfl (fun K hK => ?_) AllReadyH.nil
          go_simp
          go_wp2_with (go_at_call 56; refine (CH.out w4 _ _ _).mono ?_; rintro e w5 ⟨rfl, hb5⟩)
          have HY5 := Lib.hid (HY4.out.grow hb5.out)
          have HK5 := Lib.hid (HK4.out.grow hb5.out)
          refine hK.out _ _ (HK5.out) (fun hHeld => ?_)
          clear hK K
          refine wpAnyH_ready (rs := [14]) (by kernel_rfl) (by simp) ?_
          refine AllReadyH.cons rfl (fun K hK => ?_) AllReadyH.nil
          rw [if_pos (by kernel_rfl)]
          refine wp_store_row 29 (.tmp 6) (.tmp 54) rfl (w.heap.size + 1) (rcs (chg s (put s.files n (appF (look s.files n) p))) (.slice A2 ((put s.files n (appF (look s.files n) p))).length c2)) rfl (by rfl) 29 _ HY5.out.z (by kernel_rfl) rfl (rcs_one _ _ _ _) ?_
          simp only [Act.put, List.getElem_toArray, List.getElem_cons_succ, List.getElem_cons_zero, List.setIfInBounds_toArray, List.set_cons_zero, List.set_cons_succ]
          have HY6 := Lib.hid (HY5.out.store (rcs (chg s (put s.files n (appF (look s.files n) p))) (.slice A2 ((put s.files n (appF (look s.files n) p))).length c2)))
          have HK6 := Lib.hid (HK5.out.store HGL.out (rcs (chg s (put s.files n (appF (look s.files n) p))) (.slice A2 ((put s.files n (appF (look s.files n) p))).length c2)))
          refine hK.out _ _ (HK6.out) (fun hHeld => ?_)
          clear hK K
          refine wpAnyH_take (i := 15) (v := ?vz60) rfl (by kernel_rfl) (by kernel_rfl) (by kernel_rfl) (fun _ _ _ h => h) (Or.inl ⟨by rfl, ?hyz60⟩) (by first | assumption | exact trivial) ?restz60
          case hyz60 => intro W hSW; go_simp; try (with_reducible rfl)
          simp only [Act.put, List.getElem_toArray, List.getElem_cons_succ, List.getElem_cons_zero, List.setIfInBounds_toArray, List.set_cons_zero, List.set_cons_succ]
          refine wpAnyH_done (by kernel_rfl) ?_ _
          go_wp2
          refine ret_cell rfl rfl HY6.out.z rfl Try.underlying29 (by kernel_rfl) rfl ?_
          have hz3 := HY3.out.lt
          refine ⟨A2, _, c2, by rw [HE.out, HC.out]; rfl, ?_, HY6.out.x.b⟩
          rw [HE.out]
          have q1 : Fv (fun b => W3.drew.heap.size ≤ b) w5 (.slice A2 ((put s.files n (appF (look s.files n) p))).length c2) ((put s.files n (appF (look s.files n) p))) := hv4.out.below hb5.out
          exact fv_new (fv_keep q1 (by show ¬ W3.heap.size ≤ _; omega) _) (by show w.heap.size ≤ W3.heap.size; omega)
      · have hbf : b = false := by simpa using hno
        subst hbf
        have HC : Hid (appE s n p = 0) := by show _ = _; rw [hE0, if_neg (by rintro (h | ⟨h, _⟩) <;> first | omega | cases h)]
        clear hu1 hl1 hc1 hno hE0
        have CH := Lib.hid (fun (W : World) (A2 : Option Addr) (n2 c2 : Nat) => rchanged_any W s (.slice A F c) A2 n2 c2 hd HOK.out.left (put s.files n (appF (look s.files n) p)))
        have HE : Hid (appS s n p = chg s (put s.files n (appF (look s.files n) p))) := by show _ = _; unfold appS; rw [if_pos HC.out]
        obtain ⟨e12, hsz⟩ := two_strs HOK.out n
        obtain ⟨S1, hS1⟩ : ∃ S, Me.strOf ((fileOf s n).bytes.take (fileOf s n).safe) = S := ⟨_, rfl⟩
        obtain ⟨S2, hS2⟩ : ∃ S, Me.strOf ((fileOf s n).bytes.drop (fileOf s n).safe) = S := ⟨_, rfl⟩
        have HS1 := Lib.hid hS1
        have HS2 := Lib.hid hS2
        rw [hS1, hS2] at e12 hsz
        obtain ⟨SA, hSA⟩ : ∃ S, Me.strOf (fileOf s n).bytes = S := ⟨_, rfl⟩
        have HSA := Lib.hid hSA
        rw [hSA] at e12
        clear hS1 hS2 hSA
        have hfa := fl_app (look s.files n) p (fun g hg => (HOK.out.file hg).1)
        obtain ⟨PS, hPS⟩ : ∃ S, Me.strOf p = S := ⟨_, rfl⟩
        have hS2z : S2.size ≤ 1048576 := by
          have h1 := (HOK.out.fileOf n).2.1
          have h2 := HOK.out.use
          rw [← HS2.out, str_size, List.length_drop]; omega
        have hPSz : PS.size = pl := by rw [← hPS, str_size, HPLL.out]
        obtain ⟨SB, hSB⟩ : ∃ S, S2 ++ PS = S := ⟨_, rfl⟩
        have hsz2 : ¬ 9223372036854775807 < S2.size + PS.size := by rw [hPSz]; omega
        have WI2 : Hid (∀ (W : World), RX w s (.slice A F c) W → Calls Try.prog 57 #[.slice A F c, .agg #[nmV n, .string S1, .string SB]] W (NewF W (put s.files n (appF (look s.files n) p)))) := fun W hW => by
          have h := WI.out W hW (n, appF (look s.files n) p)
          rw [fV_eq] at h
          unfold fV at h
          simp only [hfa.1, hfa.2] at h
          rw [← str_app] at h
          have e1 : Me.strOf (((look s.files n).getD ⟨[], 0⟩).bytes.take ((look s.files n).getD ⟨[], 0⟩).safe) = S1 := HS1.out
          have e2 : Me.strOf (((look s.files n).getD ⟨[], 0⟩).bytes.drop ((look s.files n).getD ⟨[], 0⟩).safe) = S2 := HS2.out
          rw [e1, e2, hPS, hSB] at h
          exact h
        rw [hPS] at HCV
        clear he hd hu hpl WI hfa hPS hS2z hPSz e12 hsz
        go_enter Try.func37, Try.ntmps37
        go_wp2_with (go_at_call 53; rw [HWE.out]; refine (RD.out W0 HY0.out.x).mono ?_; rintro e w1 ⟨rfl, hb1⟩; have HY1 := Lib.hid (HY0.out.grow hb1.out))
        clear y0 y1 y2 y3
        refine wp_region_held_drew (S := RX w s (.slice A F c)) (by kernel_rfl) HY1.out.drew.x (fun hHeld => ?_)
        refine wpAnyH_take (i := 0) (v := ?vz61) rfl (by kernel_rfl) (by kernel_rfl) (by kernel_rfl) (fun _ _ _ h => h) (Or.inl ⟨by rfl, ?hyz61⟩) (by first | assumption | exact trivial) ?restz61
        case hyz61 => intro W hSW; go_simp; try (with_reducible rfl)
        simp only [Act.put, List.getElem_toArray, List.getElem_cons_succ, List.getElem_cons_zero, List.setIfInBounds_toArray, List.set_cons_zero, List.set_cons_succ]
        refine wpAnyH_take (i := 1) (v := ?vz62) rfl (by kernel_rfl) (by kernel_rfl) (by kernel_rfl) (fun _ _ _ h => h) (Or.inl ⟨by rfl, ?hyz62⟩) (by first | assumption | exact trivial) ?restz62
        case hyz62 => intro W hSW; go_simp; try (with_reducible rfl)
        simp only [Act.put, List.getElem_toArray, List.getElem_cons_succ, List.getElem_cons_zero, List.setIfInBounds_toArray, List.set_cons_zero, List.set_cons_succ]
        refine wpAnyH_take (i := 2) (v := ?vz63) rfl (by kernel_rfl) (by kernel_rfl) (by kernel_rfl) (fun _ _ _ h => h) (Or.inl ⟨by rfl, ?hyz63⟩) (by first | assumption | exact trivial) ?restz63
        case hyz63 => intro W hSW; go_simp; try (with_reducible rfl)
        simp only [Act.put, List.getElem_toArray, List.getElem_cons_succ, List.getElem_cons_zero, List.setIfInBounds_toArray, List.set_cons_zero, List.set_cons_succ]
        refine wpAnyH_take (i := 3) (v := ?vz64) rfl (by kernel_rfl) (by kernel_rfl) (by kernel_rfl) (fun _ _ _ h => h) (Or.inl ⟨by rfl, ?hyz64⟩) (by first | assumption | exact trivial) ?restz64
        case hyz64 => intro W hSW; obtain ⟨r0, r1, r2, r3⟩ := hSW.cells; go_simp; try (with_reducible rfl)
        simp only [Act.put, List.getElem_toArray, List.getElem_cons_succ, List.getElem_cons_zero, List.setIfInBounds_toArray, List.set_cons_zero, List.set_cons_succ]
        refine wpAnyH_take (i := 4) (v := ?vz65) rfl (by kernel_rfl) (by kernel_rfl) (by kernel_rfl) (fun _ _ _ h => h) (Or.inl ⟨by rfl, ?hyz65⟩) (by first | assumption | exact trivial) ?restz65
        case hyz65 => intro W hSW; obtain ⟨r0, r1, r2, r3⟩ := hSW.cells; go_simp; try (with_reducible rfl)
        simp only [Act.put, List.getElem_toArray, List.getElem_cons_succ, List.getElem_cons_zero, List.setIfInBounds_toArray, List.set_cons_zero, List.set_cons_succ]
        refine wpAnyH_ready (rs := [5]) (by kernel_rfl) (by simp) ?_
        refine AllReadyH.cons rfl (fun K hK => ?_) AllReadyH.nil
        go_simp
        go_wp2_with (go_at_call 46; refine (US.out w1.drew HY1.out.drew.x).mono ?_; rintro e w2 ⟨rfl, hb2⟩)
        have HY2 := Lib.hid (HY1.out.drew.grow hb2.out)
        refine hK.out _ _ (HY2.out.x) (fun hHeld => ?_)
        clear hK K
        refine wpAnyH_take (i := 6) (v := .int .i64 D) rfl (by kernel_rfl) (by kernel_rfl) (by kernel_rfl) (fun _ _ _ h => h) (Or.inl ⟨by rfl, ?_⟩) (by first | assumption | exact trivial) ?_
        · intro W hSW; go_simp; try (with_reducible rfl)
        simp only [Act.put, List.getElem_toArray, List.getElem_cons_succ, List.getElem_cons_zero, List.setIfInBounds_toArray, List.set_cons_zero, List.set_cons_succ]
        refine wpAnyH_take (i := 7) (v := .bool false) rfl (by kernel_rfl) (by kernel_rfl) (by kernel_rfl) (fun _ _ _ h => h) (Or.inl ⟨by rfl, ?_⟩) (by first | assumption | exact trivial) ?_
        · intro W hSW; go_simp; try (with_reducible rfl)
        simp only [Act.put, List.getElem_toArray, List.getElem_cons_succ, List.getElem_cons_zero, List.setIfInBounds_toArray, List.set_cons_zero, List.set_cons_succ]
        refine wpAnyH_take (i := 8) (v := ?vz66) rfl (by kernel_rfl) (by kernel_rfl) (by kernel_rfl) (fun _ _ _ h => h) (Or.inl ⟨by rfl, ?hyz66⟩) (by first | assumption | exact trivial) ?restz66
        case hyz66 => intro W hSW; go_simp; try (with_reducible rfl)
        simp only [Act.put, List.getElem_toArray, List.getElem_cons_succ, List.getElem_cons_zero, List.setIfInBounds_toArray, List.set_cons_zero, List.set_cons_succ]
        refine wpAnyH_take (i := 9) (v := ?vz67) rfl (by kernel_rfl) (by kernel_rfl) (by kernel_rfl) (fun _ _ _ h => h) (Or.inl ⟨by rfl, ?hyz67⟩) (by first | assumption | exact trivial) ?restz67
        case hyz67 => intro W hSW; obtain ⟨r0, r1, r2, r3⟩ := hSW.cells; go_simp; try (with_reducible rfl)
        simp only [Act.put, List.getElem_toArray, List.getElem_cons_succ, List.getElem_cons_zero, List.setIfInBounds_toArray, List.set_cons_zero, List.set_cons_succ]
        refine wpAnyH_take (i := 10) (v := ?vz68) rfl (by kernel_rfl) (by kernel_rfl) (by kernel_rfl) (fun _ _ _ h => h) (Or.inl ⟨by rfl, ?hyz68⟩) (by first | assumption | exact trivial) ?restz68
        case hyz68 => intro W hSW; go_simp; try (with_reducible rfl)
        simp only [Act.put, List.getElem_toArray, List.getElem_cons_succ, List.getElem_cons_zero, List.setIfInBounds_toArray, List.set_cons_zero, List.set_cons_succ]
        refine wpAnyH_ready (rs := [11]) (by kernel_rfl) (by simp) ?_
        refine AllReadyH.cons rfl (fun K hK => ?_) AllReadyH.nil
        go_simp
        go_wp2_with (go_at_call 54; refine (PL.out w2 HY2.out.x).mono ?_; rintro e w3 ⟨z, rfl, hz, hb3⟩; have hneg := HNG.out z hz.out)
        have HY3 := Lib.hid (HY2.out.grow hb3.out)
        refine hK.out _ _ (HY3.out.x) (fun hHeld => ?_)
        clear hK K
        refine wpAnyH_take (i := 12) (v := .bool false) rfl (by kernel_rfl) (by kernel_rfl) (by kernel_rfl) (fun _ _ _ h => h) (Or.inl ⟨by rfl, ?_⟩) (by first | assumption | exact trivial) ?_
        · intro W hSW; go_simp; try (with_reducible rfl)
        simp only [Act.put, List.getElem_toArray, List.getElem_cons_succ, List.getElem_cons_zero, List.setIfInBounds_toArray, List.set_cons_zero, List.set_cons_succ]
        refine wpAnyH_take (i := 13) (v := ?vz69) rfl (by kernel_rfl) (by kernel_rfl) (by kernel_rfl) (fun _ _ _ h => h) (Or.inl ⟨by rfl, ?hyz69⟩) (by first | assumption | exact trivial) ?restz69
        case hyz69 => intro W hSW; go_simp; try (with_reducible rfl)
        simp only [Act.put, List.getElem_toArray, List.getElem_cons_succ, List.getElem_cons_zero, List.setIfInBounds_toArray, List.set_cons_zero, List.set_cons_succ]
        refine wpAnyH_take (i := 14) (v := undef) rfl (by kernel_rfl) (by kernel_rfl) (by kernel_rfl) (fun _ _ _ h => h) (Or.inr ⟨by rfl, rfl⟩) (by first | assumption | exact trivial) ?restz70
        simp only [Act.put, List.getElem_toArray, List.getElem_cons_succ, List.getElem_cons_zero, List.setIfInBounds_toArray, List.set_cons_zero, List.set_cons_succ]
        refine wpAnyH_take (i := 15) (v := undef) rfl (by kernel_rfl) (by kernel_rfl) (by kernel_rfl) (fun _ _ _ h => h) (Or.inr ⟨by rfl, rfl⟩) (by first | assumption | exact trivial) ?restz71
        simp only [Act.put, List.getElem_toArray, List.getElem_cons_succ, List.getElem_cons_zero, List.setIfInBounds_toArray, List.set_cons_zero, List.set_cons_succ]
        refine wpAnyH_take (i := 16) (v := undef) rfl (by kernel_rfl) (by kernel_rfl) (by kernel_rfl) (fun _ _ _ h => h) (Or.inr ⟨by rfl, rfl⟩) (by first | assumption | exact trivial) ?restz72
        simp only [Act.put, List.getElem_toArray, List.getElem_cons_succ, List.getElem_cons_zero, List.setIfInBounds_toArray, List.set_cons_zero, List.set_cons_succ]
        refine wpAnyH_take (i := 17) (v := undef) rfl (by kernel_rfl) (by kernel_rfl) (by kernel_rfl) (fun _ _ _ h => h) (Or.inr ⟨by rfl, rfl⟩) (by first | assumption | exact trivial) ?restz73
        simp only [Act.put, List.getElem_toArray, List.getElem_cons_succ, List.getElem_cons_zero, List.setIfInBounds_toArray, List.set_cons_zero, List.set_cons_succ]
        refine wpAnyH_take (i := 18) (v := ?vz74) rfl (by kernel_rfl) (by kernel_rfl) (by kernel_rfl) (fun _ _ _ h => h) (Or.inl ⟨by rfl, ?hyz74⟩) (by first | assumption | exact trivial) ?restz74
        case hyz74 => intro W hSW; go_simp; try (with_reducible rfl)
        simp only [Act.put, List.getElem_toArray, List.getElem_cons_succ, List.getElem_cons_zero, List.setIfInBounds_toArray, List.set_cons_zero, List.set_cons_succ]
        refine wpAnyH_take (i := 19) (v := ?vz75) rfl (by kernel_rfl) (by kernel_rfl) (by kernel_rfl) (fun _ _ _ h => h) (Or.inl ⟨by rfl, ?hyz75⟩) (by first | assumption | exact trivial) ?restz75
        case hyz75 => intro W hSW; go_simp; try (with_reducible rfl)
        simp only [Act.put, List.getElem_toArray, List.getElem_cons_succ, List.getElem_cons_zero, List.setIfInBounds_toArray, List.set_cons_zero, List.set_cons_succ]
        refine wpAnyH_done (by kernel_rfl) ?_ _
        obtain ⟨y0, y1, y2, y3⟩ := HY3.out.x.cells
        have HYP := HY3
        have HWP : Hid (∀ W, RX w s (.slice A F c) W → Calls Try.prog 55 #[.agg (rcs s (.slice A F c)), nmV n] W fun e w' => e = .returned (.agg (fV n (fileOf s n))) ∧ Hid (Below W.heap.size W w')) := FI.out
        clear HY3
        go_wp2_with (first
          | (go_at_call 55; refine (HWP.out w3 HYP.out.x).mono ?_; rintro e w2' ⟨rfl, hb2'⟩; have HY2' := Lib.hid (HYP.out.grow hb2'.out); clear y0 y1 y2 y3)
          | (refine wpList_store_row rfl 82 (.tmp 8) (.tmp 40) rfl w2'.heap.size (fV n (fileOf s n)) rfl rfl 82 _ (heap_alloc_new w2' _) (by kernel_rfl) rfl (fV_one _ _) ?_; have hbx := file_box HY2'.out n (fileOf s n); unfold zF at hbx; obtain ⟨W3, hW3⟩ : ∃ W3, (w2'.alloc (.cells #[.string ⟨#[]⟩, .string ⟨#[]⟩, .string ⟨#[]⟩] 82)).setRow w2'.heap.size (fV n (fileOf s n)) = W3 := ⟨_, rfl⟩; rw [hW3] at hbx ⊢; have hgl := HY2'.out.lt; obtain ⟨g, hg⟩ : ∃ g, w2'.heap.size = g := ⟨_, rfl⟩; simp only [hg] at hbx hgl ⊢; have HGL := Lib.hid hgl; have HY3 := Lib.hid hbx.1; have HK3 := Lib.hid hbx.2; clear hW3 hbx hg hgl; have HFC : Hid (∀ W, KF w s (.slice A F c) g n (fileOf s n) W → W.cell? ⟨g, 0, none⟩ = some (nmV n) ∧ W.cell? ⟨g, 1, none⟩ = some (.string S1) ∧ W.cell? ⟨g, 2, none⟩ = some (.string S2)) := (fun W hW => by have h := hW.cells; rw [HS1.out, HS2.out] at h; exact h); obtain ⟨_, f1, f2⟩ := HFC.out W3 HK3.out; obtain ⟨y0, y1, y2, y3⟩ := HY3.out.x.cells))
        clear y0 y1 y2 y3 f1 f2
        refine wp_region_held_drew (S := KF w s (.slice A F c) g n (fileOf s n)) (by kernel_rfl) HK3.out.drew (fun hHeld => ?_)
        refine wpAnyH_take (i := 0) (v := ?vz76) rfl (by kernel_rfl) (by kernel_rfl) (by kernel_rfl) (fun _ _ _ h => h) (Or.inl ⟨by rfl, ?hyz76⟩) (by first | assumption | exact trivial) ?restz76
        case hyz76 => intro W hSW; obtain ⟨r0, r1, r2, r3⟩ := hSW.x.cells; go_simp; try (with_reducible rfl)
        simp only [Act.put, List.getElem_toArray, List.getElem_cons_succ, List.getElem_cons_zero, List.setIfInBounds_toArray, List.set_cons_zero, List.set_cons_succ]
        refine wpAnyH_take (i := 1) (v := ?vz77) rfl (by kernel_rfl) (by kernel_rfl) (by kernel_rfl) (fun _ _ _ h => h) (Or.inl ⟨by rfl, ?hyz77⟩) (by first | assumption | exact trivial) ?restz77
        case hyz77 => intro W hSW; go_simp; try (with_reducible rfl)
        simp only [Act.put, List.getElem_toArray, List.getElem_cons_succ, List.getElem_cons_zero, List.setIfInBounds_toArray, List.set_cons_zero, List.set_cons_succ]
        refine wpAnyH_take (i := 2) (v := ?vz78) rfl (by kernel_rfl) (by kernel_rfl) (by kernel_rfl) (fun _ _ _ h => h) (Or.inl ⟨by rfl, ?hyz78⟩) (by first | assumption | exact trivial) ?restz78
        case hyz78 => intro W hSW; obtain ⟨r0, r1, r2, r3⟩ := hSW.x.cells; go_simp; try (with_reducible rfl)
        simp only [Act.put, List.getElem_toArray, List.getElem_cons_succ, List.getElem_cons_zero, List.setIfInBounds_toArray, List.set_cons_zero, List.set_cons_succ]
        refine wpAnyH_take (i := 3) (v := ?vz79) rfl (by kernel_rfl) (by kernel_rfl) (by kernel_rfl) (fun _ _ _ h => h) (Or.inl ⟨by rfl, ?hyz79⟩) (by first | assumption | exact trivial) ?restz79
        case hyz79 => intro W hSW; go_simp; try (with_reducible rfl)
        simp only [Act.put, List.getElem_toArray, List.getElem_cons_succ, List.getElem_cons_zero, List.setIfInBounds_toArray, List.set_cons_zero, List.set_cons_succ]
        refine wpAnyH_take (i := 4) (v := ?vz80) rfl (by kernel_rfl) (by kernel_rfl) (by kernel_rfl) (fun _ _ _ h => h) (Or.inl ⟨by rfl, ?hyz80⟩) (by first | assumption | exact trivial) ?restz80
        case hyz80 => intro W hSW; go_simp; try (with_reducible rfl)
        simp only [Act.put, List.getElem_toArray, List.getElem_cons_succ, List.getElem_cons_zero, List.setIfInBounds_toArray, List.set_cons_zero, List.set_cons_succ]
        refine wpAnyH_take (i := 5) (v := ?vz81) rfl (by kernel_rfl) (by kernel_rfl) (by kernel_rfl) (fun _ _ _ h => h) (Or.inl ⟨by rfl, ?hyz81⟩) (by first | assumption | exact trivial) ?restz81
        case hyz81 => intro W hSW; obtain ⟨_, f1, f2⟩ := HFC.out W hSW; go_simp; try (with_reducible rfl)
        simp only [Act.put, List.getElem_toArray, List.getElem_cons_succ, List.getElem_cons_zero, List.setIfInBounds_toArray, List.set_cons_zero, List.set_cons_succ]
        refine wpAnyH_take (i := 6) (v := ?vz82) rfl (by kernel_rfl) (by kernel_rfl) (by kernel_rfl) (fun _ _ _ h => h) (Or.inl ⟨by rfl, ?hyz82⟩) (by first | assumption | exact trivial) ?restz82
        case hyz82 => intro W hSW; go_simp; try (with_reducible rfl)
        simp only [Act.put, List.getElem_toArray, List.getElem_cons_succ, List.getElem_cons_zero, List.setIfInBounds_toArray, List.set_cons_zero, List.set_cons_succ]
        refine wpAnyH_take (i := 7) (v := ?vz83) rfl (by kernel_rfl) (by kernel_rfl) (by kernel_rfl) (fun _ _ _ h => h) (Or.inl ⟨by rfl, ?hyz83⟩) (by first | assumption | exact trivial) ?restz83
        case hyz83 => intro W hSW; obtain ⟨_, f1, f2⟩ := HFC.out W hSW; go_simp; try (with_reducible rfl)
        simp only [Act.put, List.getElem_toArray, List.getElem_cons_succ, List.getElem_cons_zero, List.setIfInBounds_toArray, List.set_cons_zero, List.set_cons_succ]
        refine wpAnyH_take (i := 8) (v := ?vz84) rfl (by kernel_rfl) (by kernel_rfl) (by kernel_rfl) (fun _ _ _ h => h) (Or.inl ⟨by rfl, ?hyz84⟩) (by first | assumption | exact trivial) ?restz84
        case hyz84 => intro W hSW; go_simp; try (with_reducible rfl)
        simp only [Act.put, List.getElem_toArray, List.getElem_cons_succ, List.getElem_cons_zero, List.setIfInBounds_toArray, List.set_cons_zero, List.set_cons_succ]
        refine wpAnyH_take (i := 9) (v := ?vz85) rfl (by kernel_rfl) (by kernel_rfl) (by kernel_rfl) (fun _ _ _ h => h) (Or.inl ⟨by rfl, ?hyz85⟩) (by first | assumption | exact trivial) ?restz85
        case hyz85 => intro W hSW; have q9 := HCV.out W hSW.x; go_simp; try (with_reducible rfl)
        simp only [Act.put, List.getElem_toArray, List.getElem_cons_succ, List.getElem_cons_zero, List.setIfInBounds_toArray, List.set_cons_zero, List.set_cons_succ]
        refine wpAnyH_take (i := 10) (v := ?vz86) rfl (by kernel_rfl) (by kernel_rfl) (by kernel_rfl) (fun _ _ _ h => h) (Or.inl ⟨by rfl, ?hyz86⟩) (by first | assumption | exact trivial) ?restz86
        case hyz86 => intro W hSW; go_simp; try (with_reducible rfl)
        simp only [Act.put, List.getElem_toArray, List.getElem_cons_succ, List.getElem_cons_zero, List.setIfInBounds_toArray, List.set_cons_zero, List.set_cons_succ]
        refine wpAnyH_take (i := 11) (v := ?vz87) rfl (by kernel_rfl) (by kernel_rfl) (by kernel_rfl) (fun _ _ _ h => h) (Or.inl ⟨by rfl, ?hyz87⟩) (by first | assumption | exact trivial) ?restz87
        case hyz87 => intro W hSW; go_simp; try (with_reducible rfl)
        simp only [Act.put, List.getElem_toArray, List.getElem_cons_succ, List.getElem_cons_zero, List.setIfInBounds_toArray, List.set_cons_zero, List.set_cons_succ]
        refine wpAnyH_ready (rs := [12]) (by kernel_rfl) (by simp) ?_
        refine AllReadyH.cons rfl (fun K hK => ?_) AllReadyH.nil
        go_simp
        go_wp2_with (go_at_call 57; refine (WI2.out W3.drew HY3.out.drew.x).mono ?_; rintro e w4 ⟨v4, rfl, hv4, hb4⟩; obtain ⟨A2, c2, rfl, _, _⟩ := hv4.out.form)
        have HY4 := Lib.hid (HY3.out.drew.grow hb4.out)
        have HK4 := Lib.hid (HK3.out.drew.grow hb4.out)
        refine hK.out _ _ (HK4.out) (fun hHeld => ?_)
        clear hK K
        refine wpAnyH_ready (rs := [13]) (by kernel_rfl) (by simp) ?_
        refine AllReadyH.cons rfl (fun K hK => ?_) AllReadyH.nil
        go_simp
        go_wp2_with (go_at_call 56; refine (CH.out w4 _ _ _).mono ?_; rintro e w5 ⟨rfl, hb5⟩)
        have HY5 := Lib.hid (HY4.out.grow hb5.out)
        have HK5 := Lib.hid (HK4.out.grow hb5.out)
        refine hK.out _ _ (HK5.out) (fun hHeld => ?_)
        clear hK K
        refine wpAnyH_ready (rs := [14]) (by kernel_rfl) (by simp) ?_
        refine AllReadyH.cons rfl (fun K hK => ?_) AllReadyH.nil
        rw [if_pos (by kernel_rfl)]
        refine wp_store_row 29 (.tmp 6) (.tmp 54) rfl (w.heap.size + 1) (rcs (chg s (put s.files n (appF (look s.files n) p))) (.slice A2 ((put s.files n (appF (look s.files n) p))).length c2)) rfl (by rfl) 29 _ HY5.out.z (by kernel_rfl) rfl (rcs_one _ _ _ _) ?_
        simp only [Act.put, List.getElem_toArray, List.getElem_cons_succ, List.getElem_cons_zero, List.setIfInBounds_toArray, List.set_cons_zero, List.set_cons_succ]
        have HY6 := Lib.hid (HY5.out.store (rcs (chg s (put s.files n (appF (look s.files n) p))) (.slice A2 ((put s.files n (appF (look s.files n) p))).length c2)))
        have HK6 := Lib.hid (HK5.out.store HGL.out (rcs (chg s (put s.files n (appF (look s.files n) p))) (.slice A2 ((put s.files n (appF (look s.files n) p))).length c2)))
        refine hK.out _ _ (HK6.out) (fun hHeld => ?_)
        clear hK K
        refine wpAnyH_take (i := 15) (v := ?vz88) rfl (by kernel_rfl) (by kernel_rfl) (by kernel_rfl) (fun _ _ _ h => h) (Or.inl ⟨by rfl, ?hyz88⟩) (by first | assumption | exact trivial) ?restz88
        case hyz88 => intro W hSW; go_simp; try (with_reducible rfl)
        simp only [Act.put, List.getElem_toArray, List.getElem_cons_succ, List.getElem_cons_zero, List.setIfInBounds_toArray, List.set_cons_zero, List.set_cons_succ]
        refine wpAnyH_done (by kernel_rfl) ?_ _
        go_wp2
        refine ret_cell rfl rfl HY6.out.z rfl Try.underlying29 (by kernel_rfl) rfl ?_
        have hz3 := HY3.out.lt
        refine ⟨A2, _, c2, by rw [HE.out, HC.out]; rfl, ?_, HY6.out.x.b⟩
        rw [HE.out]
        have q1 : Fv (fun b => W3.drew.heap.size ≤ b) w5 (.slice A2 ((put s.files n (appF (look s.files n) p))).length c2) ((put s.files n (appF (look s.files n) p))) := hv4.out.below hb5.out
        exact fv_new (fv_keep q1 (by show ¬ W3.heap.size ≤ _; omega) _) (by show w.heap.size ≤ W3.heap.size; omega)
  · have hE0 : appE s n p = mayE s [n] := by unfold appE; rw [if_pos he]
    have HE : Hid (appS s n p = s) := by show _ = _; unfold appS; rw [if_neg (by rw [hE0]; exact he)]
    obtain ⟨q, hq⟩ : ∃ q, mayE s [n] = q := ⟨_, rfl⟩
    rw [hq] at he RD
    have HQ : Hid (appE s n p = q) := hE0.trans hq
    obtain ⟨pl, hpl⟩ : ∃ pl, p.length = pl := ⟨_, rfl⟩
    rw [hpl]
    have hne : ((q : Int) == 0) = false := beq_eq_false_iff_ne.mpr (by omega)
    have hne2 : ((q : Int) != 0) = true := by rw [bne, hne]; rfl
    clear he hq FI WI US PL hr hA hpl hE0
    go_enter Try.func37, Try.ntmps37
    go_wp2_with (go_at_call 53; rw [HWE.out]; refine (RD.out W0 HY0.out.x).mono ?_; rintro e w1 ⟨rfl, hb1⟩; have HY1 := Lib.hid (HY0.out.grow hb1.out))
    clear y0 y1 y2 y3
    refine wp_region_held_drew (S := RX w s (.slice A F c)) (by kernel_rfl) HY1.out.drew.x (fun hHeld => ?_)
    refine wpAnyH_take (i := 0) (v := ?vz89) rfl (by kernel_rfl) (by kernel_rfl) (by kernel_rfl) (fun _ _ _ h => h) (Or.inl ⟨by rfl, ?hyz89⟩) (by first | assumption | exact trivial) ?restz89
    case hyz89 => intro W hSW; obtain ⟨r0, r1, r2, r3⟩ := hSW.cells; go_simp; try (with_reducible rfl)
    simp only [Act.put, List.getElem_toArray, List.getElem_cons_succ, List.getElem_cons_zero, List.setIfInBounds_toArray, List.set_cons_zero, List.set_cons_succ]
    refine wpAnyH_take (i := 1) (v := ?vz90) rfl (by kernel_rfl) (by kernel_rfl) (by kernel_rfl) (fun _ _ _ h => h) (Or.inl ⟨by rfl, ?hyz90⟩) (by first | assumption | exact trivial) ?restz90
    case hyz90 => intro W hSW; obtain ⟨r0, r1, r2, r3⟩ := hSW.cells; go_simp; try (with_reducible rfl)
    simp only [Act.put, List.getElem_toArray, List.getElem_cons_succ, List.getElem_cons_zero, List.setIfInBounds_toArray, List.set_cons_zero, List.set_cons_succ]
    refine wpAnyH_take (i := 2) (v := ?vz91) rfl (by kernel_rfl) (by kernel_rfl) (by kernel_rfl) (fun _ _ _ h => h) (Or.inl ⟨by rfl, ?hyz91⟩) (by first | assumption | exact trivial) ?restz91
    case hyz91 => intro W hSW; go_simp; try (with_reducible rfl)
    simp only [Act.put, List.getElem_toArray, List.getElem_cons_succ, List.getElem_cons_zero, List.setIfInBounds_toArray, List.set_cons_zero, List.set_cons_succ]
    refine wpAnyH_ready (rs := [3]) (by kernel_rfl) (by simp) ?_
    refine AllReadyH.cons rfl (fun K hK => ?_) AllReadyH.nil
    go_simp
    go_wp2_with (go_at_call 53; refine (RD.out w1.drew HY1.out.drew.x).mono ?_; rintro e wE ⟨rfl, hbE⟩)
    have HYE := Lib.hid (HY1.out.drew.grow hbE.out)
    refine hK.out _ _ (HYE.out.x) (fun hHeld => ?_)
    clear hK K
    refine wpAnyH_ready (rs := [4]) (by kernel_rfl) (by simp) ?_
    refine AllReadyH.cons rfl (fun K hK => ?_) AllReadyH.nil
    rw [if_pos (by kernel_rfl)]
    refine wp_store_row 29 (.tmp 6) (.tmp 13) rfl (w.heap.size + 1) (rcs s (.slice A F c)) rfl (by rfl) 29 _ HYE.out.z (by kernel_rfl) rfl (rcs_one _ _ _ _) ?_
    simp only [Act.put, List.getElem_toArray, List.getElem_cons_succ, List.getElem_cons_zero, List.setIfInBounds_toArray, List.set_cons_zero, List.set_cons_succ]
    have HYF := Lib.hid (HYE.out.store (rcs s (.slice A F c)))
    refine hK.out _ _ (HYF.out.x) (fun hHeld => ?_)
    clear hK K
    refine wpAnyH_take (i := 5) (v := ?vz92) rfl (by kernel_rfl) (by kernel_rfl) (by kernel_rfl) (fun _ _ _ h => h) (Or.inl ⟨by rfl, ?hyz92⟩) (by first | assumption | exact trivial) ?restz92
    case hyz92 => intro W hSW; go_simp; try (with_reducible rfl)
    simp only [Act.put, List.getElem_toArray, List.getElem_cons_succ, List.getElem_cons_zero, List.setIfInBounds_toArray, List.set_cons_zero, List.set_cons_succ]
    refine wpAnyH_done (by kernel_rfl) ?_ _
    go_wp2
    refine ret_cell rfl rfl HYF.out.z rfl Try.underlying29 (by kernel_rfl) rfl ?_
    exact ⟨A, F, c, by rw [HE.out, HQ.out]; rfl, by rw [HE.out]; exact HVO.out _ HYF.out.x, HYF.out.x.b⟩
end
end Go.Proofs.Ytdjgkoklkoahbaa.Dk
