/- The contracts of the reference's Send, Ack, Again, Under, Reset. -/
import Derived.Test.YtdfjlhiliifapaaSnRefB
namespace Go.Proofs.Ytdfjlhiliifapaa.Sn
open Go.RowKit
open Go.Proofs.Ytdfjlhiliifapaa.Me Go.Proofs.Ytdfjlhiliifapaa.Hd
set_option linter.unusedVariables false
set_option linter.unusedSimpArgs false

theorem El.nil (F : Nat → Prop) (w : World) : El F w (.slice none 0 0) [] := ⟨none, 0, rfl, Me.Own.nil _ _, fun a e => by cases e⟩
/-- What a region that draws its order holds: the argument's box, and a payload's cell. -/
def KeptS (g : Nat) (s : Snd) (A : Option Addr) (c : Nat) (q : Addr) (v : Value) (W : World) : Prop := KeptX g s A c W ∧ W.cell? q = some v
/-- What the reference's Send answers. -/
def RSendP (F : Nat → Prop) (w : World) (s : Snd) (A : Option Addr) (c : Nat) (e : Ending) (w' : World) : Prop :=
  ∃ R cr, e = .returned (.tuple #[rval (sendS s) A c, .int .i64 (sendN s : Int), .slice R (sendP s).length cr, .bool (sendOk s)]) ∧ Hid (El F w (.slice R (sendP s).length cr) (sendP s)) ∧ Hid (Below w.heap.size w w')
set_option maxHeartbeats 2000000 in
theorem RSend_any {F : Nat → Prop} (w : World) (s : Snd) (A : Option Addr) (c : Nat) (h : Hid (Ls F w A c s.l)) (ok : Hid s.Ok) : Calls Try.prog 27 #[rval s A c] w (RSendP F w s A c) := by
  rw [show rval s A c = .agg #[.int .i64 (s.size : Int), .int .i64 (s.base : Int), .slice A s.l.length c, .int .i64 (s.under : Int)] from rfl]
  have HT0 : Two w s A c ((w.alloc (.cells #[.int .i64 (s.size : Int), .int .i64 (s.base : Int), .slice A s.l.length c, .int .i64 (s.under : Int)] 29)).alloc (.cells #[.int .i64 0, .int .i64 0, .slice none 0 0, .int .i64 0] 29)) := Two.new w s A c
  have hu := ok.out.u
  have h63 := ok.out.s63
  have hbb := ok.out.b
  by_cases h1 : s.under < s.size
  · by_cases h2 : s.under < s.l.length
    · have HO : Hid (sendOk s = true) := decide_eq_true ⟨h1, h2⟩
      obtain ⟨g, off, R, cr, rfl, hFg, hg, hcell, hown, hR⟩ := h.out.elem h2
      have HEL : Hid (El F w (.slice R (lsAt s.l s.under).length cr) (lsAt s.l s.under)) := ⟨R, cr, rfl, hown, hR⟩
      obtain ⟨p, hp⟩ : ∃ p, lsAt s.l s.under = p := ⟨_, rfl⟩
      have HN : Hid (sendN s = (s.base + s.under) % 128) := by show _ = _; unfold sendN; rw [if_pos HO.out]
      have HP : Hid (sendP s = p) := by show _ = _; unfold sendP; rw [if_pos HO.out, hp]
      have HS : Hid (sendS s = ⟨s.size, s.base, s.under + 1, s.l⟩) := by show _ = _; unfold sendS; rw [if_pos HO.out]
      rw [hp] at hcell HEL
      have HR := Lib.hid (fun W => Wn.RReduce_any ((s.base : Int) + (s.under : Int)) W)
      have HM : Hid (((s.base : Int) + (s.under : Int)) % 128 = (((s.base + s.under) % 128 : Nat) : Int)) := by show _ = _; omega
      obtain ⟨mm, hmm⟩ : ∃ mm, ((s.base : Int) + (s.under : Int)) % 128 = mm := ⟨_, rfl⟩
      rw [hmm] at HM HR
      have HG := Lib.hid hg
      have HC := Lib.hid hcell
      have g1 : ¬ (s.l.length : Int) ≤ (s.under : Int) := by omega
      have g2 : ¬ (s.size : Int) ≤ (s.under : Int) := by omega
      have g3 : (s.under : Int) < (s.l.length : Int) := by omega
      have g4 : IntKind.i64.wrap ((s.base : Int) + (s.under : Int)) = (s.base : Int) + (s.under : Int) := IntWalk.i64_in _ (by omega)
      have g5 : IntKind.i64.wrap ((s.under : Int) + 1) = (s.under : Int) + 1 := IntWalk.i64_in _ (by omega)
      clear h1 h2 hu h63 hbb hFg hown hR hp hg hcell hmm
      go_enter Try.func27, Try.ntmps27
      go_wp2
      generalize ((w.alloc (.cells #[.int .i64 (s.size : Int), .int .i64 (s.base : Int), .slice (some ⟨g, off, none⟩) s.l.length c, .int .i64 (s.under : Int)] 29)).alloc (.cells #[.int .i64 0, .int .i64 0, .slice none 0 0, .int .i64 0] 29)) = W0 at HT0 ⊢
      have HT := Lib.hid HT0
      clear HT0
      have S0 : KeptS w.heap.size s (some ⟨g, off, none⟩) c ⟨g, off + s.under, none⟩ (.slice R p.length cr) W0.drew := ⟨KeptX.two HT.out (Below.refl _ _).drew, (HT.out.b.cell (p := ⟨g, off + s.under, none⟩) HG.out).trans HC.out⟩
      refine wp_region_held_drew (S := KeptS w.heap.size s (some ⟨g, off, none⟩) c ⟨g, off + s.under, none⟩ (.slice R p.length cr)) (by kernel_rfl) S0 (fun hHeld => ?_)
      refine wpAnyH_take (i := 0) (v := ?vz1) rfl (by kernel_rfl) (by kernel_rfl) (by kernel_rfl) (fun _ _ _ h => h) (Or.inl ⟨by rfl, ?hyz1⟩) (by first | assumption | exact trivial) ?restz1
      case hyz1 => intro W hSW; go_simp; try (with_reducible rfl)
      simp only [Act.put, List.getElem_toArray, List.getElem_cons_succ, List.getElem_cons_zero, List.setIfInBounds_toArray, List.set_cons_zero, List.set_cons_succ]
      refine wpAnyH_take (i := 1) (v := ?vz2) rfl (by kernel_rfl) (by kernel_rfl) (by kernel_rfl) (fun _ _ _ h => h) (Or.inl ⟨by rfl, ?hyz2⟩) (by first | assumption | exact trivial) ?restz2
      case hyz2 => intro W hSW; obtain ⟨n0, n1, n2, n3⟩ := KeptX.row hSW.1; go_simp; try (with_reducible rfl)
      simp only [Act.put, List.getElem_toArray, List.getElem_cons_succ, List.getElem_cons_zero, List.setIfInBounds_toArray, List.set_cons_zero, List.set_cons_succ]
      refine wpAnyH_take (i := 2) (v := ?vz3) rfl (by kernel_rfl) (by kernel_rfl) (by kernel_rfl) (fun _ _ _ h => h) (Or.inl ⟨by rfl, ?hyz3⟩) (by first | assumption | exact trivial) ?restz3
      case hyz3 => intro W hSW; go_simp; try (with_reducible rfl)
      simp only [Act.put, List.getElem_toArray, List.getElem_cons_succ, List.getElem_cons_zero, List.setIfInBounds_toArray, List.set_cons_zero, List.set_cons_succ]
      refine wpAnyH_take (i := 3) (v := ?vz4) rfl (by kernel_rfl) (by kernel_rfl) (by kernel_rfl) (fun _ _ _ h => h) (Or.inl ⟨by rfl, ?hyz4⟩) (by first | assumption | exact trivial) ?restz4
      case hyz4 => intro W hSW; obtain ⟨n0, n1, n2, n3⟩ := KeptX.row hSW.1; go_simp; try (with_reducible rfl)
      simp only [Act.put, List.getElem_toArray, List.getElem_cons_succ, List.getElem_cons_zero, List.setIfInBounds_toArray, List.set_cons_zero, List.set_cons_succ]
      refine wpAnyH_take (i := 4) (v := ?vz5) rfl (by kernel_rfl) (by kernel_rfl) (by kernel_rfl) (fun _ _ _ h => h) (Or.inl ⟨by rfl, ?hyz5⟩) (by first | assumption | exact trivial) ?restz5
      case hyz5 => intro W hSW; go_simp; try (with_reducible rfl)
      simp only [Act.put, List.getElem_toArray, List.getElem_cons_succ, List.getElem_cons_zero, List.setIfInBounds_toArray, List.set_cons_zero, List.set_cons_succ]
      refine wpAnyH_take (i := 5) (v := ?vz6) rfl (by kernel_rfl) (by kernel_rfl) (by kernel_rfl) (fun _ _ _ h => h) (Or.inl ⟨by rfl, ?hyz6⟩) (by first | assumption | exact trivial) ?restz6
      case hyz6 => intro W hSW; obtain ⟨n0, n1, n2, n3⟩ := KeptX.row hSW.1; go_simp; try (with_reducible rfl)
      simp only [Act.put, List.getElem_toArray, List.getElem_cons_succ, List.getElem_cons_zero, List.setIfInBounds_toArray, List.set_cons_zero, List.set_cons_succ]
      refine wpAnyH_take (i := 6) (v := ?vz7) rfl (by kernel_rfl) (by kernel_rfl) (by kernel_rfl) (fun _ _ _ h => h) (Or.inl ⟨by rfl, ?hyz7⟩) (by first | assumption | exact trivial) ?restz7
      case hyz7 => intro W hSW; go_simp; try (with_reducible rfl)
      simp only [Act.put, List.getElem_toArray, List.getElem_cons_succ, List.getElem_cons_zero, List.setIfInBounds_toArray, List.set_cons_zero, List.set_cons_succ]
      refine wpAnyH_take (i := 7) (v := ?vz8) rfl (by kernel_rfl) (by kernel_rfl) (by kernel_rfl) (fun _ _ _ h => h) (Or.inl ⟨by rfl, ?hyz8⟩) (by first | assumption | exact trivial) ?restz8
      case hyz8 => intro W hSW; obtain ⟨n0, n1, n2, n3⟩ := KeptX.row hSW.1; go_simp; try (with_reducible rfl)
      simp only [Act.put, List.getElem_toArray, List.getElem_cons_succ, List.getElem_cons_zero, List.setIfInBounds_toArray, List.set_cons_zero, List.set_cons_succ]
      refine wpAnyH_take (i := 8) (v := ?vz9) rfl (by kernel_rfl) (by kernel_rfl) (by kernel_rfl) (fun _ _ _ h => h) (Or.inl ⟨by rfl, ?hyz9⟩) (by first | assumption | exact trivial) ?restz9
      case hyz9 => intro W hSW; go_simp; try (with_reducible rfl)
      simp only [Act.put, List.getElem_toArray, List.getElem_cons_succ, List.getElem_cons_zero, List.setIfInBounds_toArray, List.set_cons_zero, List.set_cons_succ]
      refine wpAnyH_take (i := 9) (v := ?vz10) rfl (by kernel_rfl) (by kernel_rfl) (by kernel_rfl) (fun _ _ _ h => h) (Or.inl ⟨by rfl, ?hyz10⟩) (by first | assumption | exact trivial) ?restz10
      case hyz10 => intro W hSW; go_simp; try (with_reducible rfl)
      simp only [Act.put, List.getElem_toArray, List.getElem_cons_succ, List.getElem_cons_zero, List.setIfInBounds_toArray, List.set_cons_zero, List.set_cons_succ]
      refine wpAnyH_take (i := 10) (v := ?vz11) rfl (by kernel_rfl) (by kernel_rfl) (by kernel_rfl) (fun _ _ _ h => h) (Or.inl ⟨by rfl, ?hyz11⟩) (by first | assumption | exact trivial) ?restz11
      case hyz11 => intro W hSW; go_simp; try (with_reducible rfl)
      simp only [Act.put, List.getElem_toArray, List.getElem_cons_succ, List.getElem_cons_zero, List.setIfInBounds_toArray, List.set_cons_zero, List.set_cons_succ]
      refine wpAnyH_take (i := 11) (v := ?vz12) rfl (by kernel_rfl) (by kernel_rfl) (by kernel_rfl) (fun _ _ _ h => h) (Or.inl ⟨by rfl, ?hyz12⟩) (by first | assumption | exact trivial) ?restz12
      case hyz12 => intro W hSW; obtain ⟨n0, n1, n2, n3⟩ := KeptX.row hSW.1; go_simp; try (with_reducible rfl)
      simp only [Act.put, List.getElem_toArray, List.getElem_cons_succ, List.getElem_cons_zero, List.setIfInBounds_toArray, List.set_cons_zero, List.set_cons_succ]
      refine wpAnyH_take (i := 12) (v := ?vz13) rfl (by kernel_rfl) (by kernel_rfl) (by kernel_rfl) (fun _ _ _ h => h) (Or.inl ⟨by rfl, ?hyz13⟩) (by first | assumption | exact trivial) ?restz13
      case hyz13 => intro W hSW; go_simp; try (with_reducible rfl)
      simp only [Act.put, List.getElem_toArray, List.getElem_cons_succ, List.getElem_cons_zero, List.setIfInBounds_toArray, List.set_cons_zero, List.set_cons_succ]
      refine wpAnyH_take (i := 13) (v := ?vz14) rfl (by kernel_rfl) (by kernel_rfl) (by kernel_rfl) (fun _ _ _ h => h) (Or.inl ⟨by rfl, ?hyz14⟩) (by first | assumption | exact trivial) ?restz14
      case hyz14 => intro W hSW; obtain ⟨n0, n1, n2, n3⟩ := KeptX.row hSW.1; go_simp; try (with_reducible rfl)
      simp only [Act.put, List.getElem_toArray, List.getElem_cons_succ, List.getElem_cons_zero, List.setIfInBounds_toArray, List.set_cons_zero, List.set_cons_succ]
      refine wpAnyH_take (i := 14) (v := ?vz15) rfl (by kernel_rfl) (by kernel_rfl) (by kernel_rfl) (fun _ _ _ h => h) (Or.inl ⟨by rfl, ?hyz15⟩) (by first | assumption | exact trivial) ?restz15
      case hyz15 => intro W hSW; go_simp; try (with_reducible rfl)
      simp only [Act.put, List.getElem_toArray, List.getElem_cons_succ, List.getElem_cons_zero, List.setIfInBounds_toArray, List.set_cons_zero, List.set_cons_succ]
      refine wpAnyH_take (i := 16) (v := ?vz16) rfl (by kernel_rfl) (by kernel_rfl) (by kernel_rfl) (fun _ _ _ h => h) (Or.inl ⟨by rfl, ?hyz16⟩) (by first | assumption | exact trivial) ?restz16
      case hyz16 => intro W hSW; go_simp; try (with_reducible rfl)
      simp only [Act.put, List.getElem_toArray, List.getElem_cons_succ, List.getElem_cons_zero, List.setIfInBounds_toArray, List.set_cons_zero, List.set_cons_succ]
      refine wpAnyH_take (i := 17) (v := ?vz17) rfl (by kernel_rfl) (by kernel_rfl) (by kernel_rfl) (fun _ _ _ h => h) (Or.inl ⟨by rfl, ?hyz17⟩) (by first | assumption | exact trivial) ?restz17
      case hyz17 => intro W hSW; obtain ⟨n0, n1, n2, n3⟩ := KeptX.row hSW.1; go_simp; try (with_reducible rfl)
      simp only [Act.put, List.getElem_toArray, List.getElem_cons_succ, List.getElem_cons_zero, List.setIfInBounds_toArray, List.set_cons_zero, List.set_cons_succ]
      refine wpAnyH_take (i := 18) (v := ?vz18) rfl (by kernel_rfl) (by kernel_rfl) (by kernel_rfl) (fun _ _ _ h => h) (Or.inl ⟨by rfl, ?hyz18⟩) (by first | assumption | exact trivial) ?restz18
      case hyz18 => intro W hSW; go_simp; try (with_reducible rfl)
      simp only [Act.put, List.getElem_toArray, List.getElem_cons_succ, List.getElem_cons_zero, List.setIfInBounds_toArray, List.set_cons_zero, List.set_cons_succ]
      refine wpAnyH_take (i := 19) (v := ?vz19) rfl (by kernel_rfl) (by kernel_rfl) (by kernel_rfl) (fun _ _ _ h => h) (Or.inl ⟨by rfl, ?hyz19⟩) (by first | assumption | exact trivial) ?restz19
      case hyz19 => intro W hSW; obtain ⟨n0, n1, n2, n3⟩ := KeptX.row hSW.1; go_simp; try (with_reducible rfl)
      simp only [Act.put, List.getElem_toArray, List.getElem_cons_succ, List.getElem_cons_zero, List.setIfInBounds_toArray, List.set_cons_zero, List.set_cons_succ]
      refine wpAnyH_take (i := 20) (v := ?vz20) rfl (by kernel_rfl) (by kernel_rfl) (by kernel_rfl) (fun _ _ _ h => h) (Or.inl ⟨by rfl, ?hyz20⟩) (by first | assumption | exact trivial) ?restz20
      case hyz20 => intro W hSW; go_simp; try (with_reducible rfl)
      simp only [Act.put, List.getElem_toArray, List.getElem_cons_succ, List.getElem_cons_zero, List.setIfInBounds_toArray, List.set_cons_zero, List.set_cons_succ]
      refine wpAnyH_take (i := 21) (v := ?vz21) rfl (by kernel_rfl) (by kernel_rfl) (by kernel_rfl) (fun _ _ _ h => h) (Or.inl ⟨by rfl, ?hyz21⟩) (by first | assumption | exact trivial) ?restz21
      case hyz21 => intro W hSW; have q4 := hSW.2; go_simp; try (with_reducible rfl)
      simp only [Act.put, List.getElem_toArray, List.getElem_cons_succ, List.getElem_cons_zero, List.setIfInBounds_toArray, List.set_cons_zero, List.set_cons_succ]
      refine wpAnyH_ready (rs := [15]) (by kernel_rfl) (by simp) ?_
      refine AllReadyH.cons rfl (fun K hK => ?_) AllReadyH.nil
      go_simp
      go_wp2_with (go_at_call 40; refine (HR.out _).mono ?_; rintro e w' ⟨rfl, rfl⟩)
      refine hK.out _ _ (S0) (fun hHeld => ?_)
      clear hK K
      have HD := Lib.hid (HT.out.done (Below.refl W0.heap.size W0).drew (rcells ⟨s.size, s.base, s.under + 1, s.l⟩ (some ⟨g, off, none⟩) c))
      refine wpAnyH_ready (rs := [22]) (by kernel_rfl) (by simp) ?_
      refine AllReadyH.cons rfl (fun K hK => ?_) AllReadyH.nil
      rw [if_pos (by kernel_rfl)]
      refine wp_store_row 29 (.tmp 2) (.tmp 29) rfl (w.heap.size + 1) (rcells ⟨s.size, s.base, s.under + 1, s.l⟩ (some ⟨g, off, none⟩) c) rfl (by simp [rcells]; rfl) 29 _ HT.out.z (by kernel_rfl) rfl (rc_one _ _ _) ?_
      simp only [Act.put, List.getElem_toArray, List.getElem_cons_succ, List.getElem_cons_zero, List.setIfInBounds_toArray, List.set_cons_zero, List.set_cons_succ]
      have S1 : KeptS w.heap.size s (some ⟨g, off, none⟩) c ⟨g, off + s.under, none⟩ (.slice R p.length cr) (W0.drew.setRow (w.heap.size + 1) (rcells ⟨s.size, s.base, s.under + 1, s.l⟩ (some ⟨g, off, none⟩) c)) := ⟨(HD.out.2.2 _ (by omega)).trans S0.1, (World.cell?_of_block (HD.out.2.2 _ (by have := HG.out; simp only; omega))).trans S0.2⟩
      refine hK.out _ _ (S1) (fun hHeld => ?_)
      clear hK K
      refine wpAnyH_take (i := 23) (v := ?vz22) rfl (by kernel_rfl) (by kernel_rfl) (by kernel_rfl) (fun _ _ _ h => h) (Or.inl ⟨by rfl, ?hyz22⟩) (by first | assumption | exact trivial) ?restz22
      case hyz22 => intro W hSW; go_simp; try (with_reducible rfl)
      simp only [Act.put, List.getElem_toArray, List.getElem_cons_succ, List.getElem_cons_zero, List.setIfInBounds_toArray, List.set_cons_zero, List.set_cons_succ]
      refine wpAnyH_take (i := 24) (v := ?vz23) rfl (by kernel_rfl) (by kernel_rfl) (by kernel_rfl) (fun _ _ _ h => h) (Or.inl ⟨by rfl, ?hyz23⟩) (by first | assumption | exact trivial) ?restz23
      case hyz23 => intro W hSW; go_simp; try (with_reducible rfl)
      simp only [Act.put, List.getElem_toArray, List.getElem_cons_succ, List.getElem_cons_zero, List.setIfInBounds_toArray, List.set_cons_zero, List.set_cons_succ]
      refine wpAnyH_take (i := 25) (v := ?vz24) rfl (by kernel_rfl) (by kernel_rfl) (by kernel_rfl) (fun _ _ _ h => h) (Or.inl ⟨by rfl, ?hyz24⟩) (by first | assumption | exact trivial) ?restz24
      case hyz24 => intro W hSW; go_simp; try (with_reducible rfl)
      simp only [Act.put, List.getElem_toArray, List.getElem_cons_succ, List.getElem_cons_zero, List.setIfInBounds_toArray, List.set_cons_zero, List.set_cons_succ]
      refine wpAnyH_done (by kernel_rfl) ?_ _
      go_wp2
      refine ret_cell4 rfl rfl HD.out.1 rfl Try.underlying29 (by kernel_rfl) rfl ?_
      exact ⟨R, cr, by rw [HS.out, HN.out, HP.out, HO.out, ← HM.out]; rfl, by rw [HP.out]; exact HEL, HD.out.2.1⟩
    · have HO : Hid (sendOk s = false) := decide_eq_false (by omega)
      have HN : Hid (sendN s = 0) := by show _ = _; unfold sendN; rw [HO.out]; rfl
      have HP : Hid (sendP s = []) := by show _ = _; unfold sendP; rw [HO.out]; rfl
      have HS : Hid (sendS s = s) := by show _ = _; unfold sendS; rw [HO.out]; rfl
      have g1 : (s.l.length : Int) ≤ (s.under : Int) := by omega
      clear h1 h2 hu h63 hbb HT0
      go_enter Try.func27, Try.ntmps27
      go_wp2
      refine ret_cell4 rfl rfl (two_new w _ _) rfl Try.underlying29 (by kernel_rfl) rfl ?_
      exact ⟨none, 0, by rw [HS.out, HN.out, HP.out, HO.out]; rfl, by rw [HP.out]; exact El.nil _ _, Me.below_alloc (Me.below_alloc (Below.refl _ _))⟩
  · have HO : Hid (sendOk s = false) := decide_eq_false (by omega)
    have HN : Hid (sendN s = 0) := by show _ = _; unfold sendN; rw [HO.out]; rfl
    have HP : Hid (sendP s = []) := by show _ = _; unfold sendP; rw [HO.out]; rfl
    have HS : Hid (sendS s = s) := by show _ = _; unfold sendS; rw [HO.out]; rfl
    have g2 : (s.size : Int) ≤ (s.under : Int) := by omega
    clear h1 hu h63 hbb HT0
    by_cases g1 : (s.l.length : Int) ≤ (s.under : Int)
    all_goals
      go_enter Try.func27, Try.ntmps27
      go_wp2
      refine ret_cell4 rfl rfl (two_new w _ _) rfl Try.underlying29 (by kernel_rfl) rfl ?_
      exact ⟨none, 0, by rw [HS.out, HN.out, HP.out, HO.out]; rfl, by rw [HP.out]; exact El.nil _ _, Me.below_alloc (Me.below_alloc (Below.refl _ _))⟩
/-- What the reference's Ack answers. -/
def RAckP (F : Nat → Prop) (w : World) (s : Snd) (n : Int) (e : Ending) (w' : World) : Prop :=
  ∃ A' c', e = .returned (.tuple #[rval (ackS s n) A' c', .int .i64 (ackN s n : Int), .int .i64 (ackE s n : Int)]) ∧ Hid (Ls F w A' c' (ackS s n).l) ∧ Hid (Below w.heap.size w w')
set_option maxHeartbeats 2000000 in
theorem RAck_any {F : Nat → Prop} (w : World) (s : Snd) (A : Option Addr) (c : Nat) (h : Hid (Ls F w A c s.l)) (ok : Hid s.Ok) (n : Int) : Calls Try.prog 28 #[rval s A c, .int .i64 n] w (RAckP F w s n) := by
  rw [show rval s A c = .agg #[.int .i64 (s.size : Int), .int .i64 (s.base : Int), .slice A s.l.length c, .int .i64 (s.under : Int)] from rfl]
  have HT0 : Two w s A c ((w.alloc (.cells #[.int .i64 (s.size : Int), .int .i64 (s.base : Int), .slice A s.l.length c, .int .i64 (s.under : Int)] 29)).alloc (.cells #[.int .i64 0, .int .i64 0, .slice none 0 0, .int .i64 0] 29)) := Two.new w s A c
  by_cases h0 : n < 0 ∨ 127 < n
  · have HE : Hid (ackE s n = 1) := by show _ = _; unfold ackE; rw [if_pos h0]
    have HN : Hid (ackN s n = 0) := by show _ = _; unfold ackN; rw [HE.out]; rfl
    have HS : Hid (ackS s n = s) := by show _ = _; unfold ackS; rw [HE.out]; rfl
    clear HT0
    rcases h0 with h0 | h0
    · go_enter Try.func28, Try.ntmps28
      go_wp2
      refine ret_cell3 rfl rfl (two_new w _ _) rfl Try.underlying29 (by kernel_rfl) rfl ?_
      exact ⟨A, c, by rw [HS.out, HN.out, HE.out]; rfl, by rw [HS.out]; exact h, Me.below_alloc (Me.below_alloc (Below.refl _ _))⟩
    · have h00 : ¬ n < 0 := by omega
      go_enter Try.func28, Try.ntmps28
      go_wp2
      refine ret_cell3 rfl rfl (two_new w _ _) rfl Try.underlying29 (by kernel_rfl) rfl ?_
      exact ⟨A, c, by rw [HS.out, HN.out, HE.out]; rfl, by rw [HS.out]; exact h, Me.below_alloc (Me.below_alloc (Below.refl _ _))⟩
  · have h01 : ¬ n < 0 := by omega
    have h02 : ¬ 127 < n := by omega
    have HW := Lib.hid (fun W => Wn.RWay_any (s.base : Int) n W)
    rw [wayOf_eq s n] at HW
    have hul := ok.out.ul
    by_cases h1 : s.under < wayOf s n
    · have HE : Hid (ackE s n = 7) := by show _ = _; unfold ackE; rw [if_neg h0, if_pos h1]
      have HN : Hid (ackN s n = 0) := by show _ = _; unfold ackN; rw [HE.out]; rfl
      have HS : Hid (ackS s n = s) := by show _ = _; unfold ackS; rw [HE.out]; rfl
      obtain ⟨m, hm⟩ : ∃ m, wayOf s n = m := ⟨_, rfl⟩
      rw [hm] at HW h1
      have g1 : (s.under : Int) < (m : Int) := by omega
      clear h0 h1 hm hul HT0
      go_enter Try.func28, Try.ntmps28
      go_wp2_with (go_at_call 42; refine (HW.out _).mono ?_; rintro e w' ⟨rfl, rfl⟩)
      refine ret_cell3 rfl rfl (two_new w _ _) rfl Try.underlying29 (by kernel_rfl) rfl ?_
      exact ⟨A, c, by rw [HS.out, HN.out, HE.out]; rfl, by rw [HS.out]; exact h, Me.below_alloc (Me.below_alloc (Below.refl _ _))⟩
    · have HE : Hid (ackE s n = 0) := by show _ = _; unfold ackE; rw [if_neg h0, if_neg h1]
      have HN : Hid (ackN s n = wayOf s n) := by show _ = _; unfold ackN; rw [HE.out]; rfl
      have HS : Hid (ackS s n = ⟨s.size, n.toNat, s.under - wayOf s n, s.l.drop (wayOf s n)⟩) := by show _ = _; unfold ackS; rw [HE.out]; rfl
      obtain ⟨m, hm⟩ : ∃ m, wayOf s n = m := ⟨_, rfl⟩
      rw [hm] at HW h1 HN HS
      obtain ⟨N, rfl⟩ : ∃ N : Nat, n = (N : Int) := ⟨n.toNat, by omega⟩
      rw [Int.toNat_natCast] at HS
      have hml : m ≤ s.l.length := by omega
      obtain ⟨hlc, hc63⟩ := h.out.le
      obtain ⟨A2, hA2⟩ : ∃ A2, (if c = m then A else A.map (fun x => x.add m)) = A2 := ⟨_, rfl⟩
      have HL := h.out.cut hml
      rw [hA2] at HL
      have HL2 := Lib.hid HL
      have g1 : ¬ (s.under : Int) < (m : Int) := by omega
      have g2 : IntKind.i64.wrap ((s.under : Int) - (m : Int)) = ((s.under - m : Nat) : Int) := by
        have := ok.out.u; have := ok.out.s63
        rw [IntWalk.i64_in _ (by omega)]; omega
      have g3 : (0 : Int) ≤ (m : Int) := by omega
      have g4 : (m : Int) ≤ (c : Int) := by omega
      have g5 : (m : Int) ≤ (s.l.length : Int) := by omega
      have HLN : Hid ((s.l.drop m).length = s.l.length - m) := by show _ = _; simp
      clear h0 h1 hm hul HL
      go_enter Try.func28, Try.ntmps28
      go_wp2_with (go_at_call 42; refine (HW.out _).mono ?_; rintro e w' ⟨rfl, rfl⟩)
      generalize ((w.alloc (.cells #[.int .i64 (s.size : Int), .int .i64 (s.base : Int), .slice A s.l.length c, .int .i64 (s.under : Int)] 29)).alloc (.cells #[.int .i64 0, .int .i64 0, .slice none 0 0, .int .i64 0] 29)) = W0 at HT0 ⊢
      have HT := Lib.hid HT0
      clear HT0
      have S0 : KeptX w.heap.size s A c W0.drew := KeptX.two HT.out (Below.refl _ _).drew
      refine wp_region_held_drew (S := KeptX w.heap.size s A c) (by kernel_rfl) S0 (fun hHeld => ?_)
      refine wpAnyH_take (i := 0) (v := ?vz25) rfl (by kernel_rfl) (by kernel_rfl) (by kernel_rfl) (fun _ _ _ h => h) (Or.inl ⟨by rfl, ?hyz25⟩) (by first | assumption | exact trivial) ?restz25
      case hyz25 => intro W hSW; go_simp; try (with_reducible rfl)
      simp only [Act.put, List.getElem_toArray, List.getElem_cons_succ, List.getElem_cons_zero, List.setIfInBounds_toArray, List.set_cons_zero, List.set_cons_succ]
      refine wpAnyH_take (i := 1) (v := ?vz26) rfl (by kernel_rfl) (by kernel_rfl) (by kernel_rfl) (fun _ _ _ h => h) (Or.inl ⟨by rfl, ?hyz26⟩) (by first | assumption | exact trivial) ?restz26
      case hyz26 => intro W hSW; obtain ⟨n0, n1, n2, n3⟩ := KeptX.row hSW; go_simp; try (with_reducible rfl)
      simp only [Act.put, List.getElem_toArray, List.getElem_cons_succ, List.getElem_cons_zero, List.setIfInBounds_toArray, List.set_cons_zero, List.set_cons_succ]
      refine wpAnyH_take (i := 2) (v := ?vz27) rfl (by kernel_rfl) (by kernel_rfl) (by kernel_rfl) (fun _ _ _ h => h) (Or.inl ⟨by rfl, ?hyz27⟩) (by first | assumption | exact trivial) ?restz27
      case hyz27 => intro W hSW; go_simp; try (with_reducible rfl)
      simp only [Act.put, List.getElem_toArray, List.getElem_cons_succ, List.getElem_cons_zero, List.setIfInBounds_toArray, List.set_cons_zero, List.set_cons_succ]
      refine wpAnyH_take (i := 3) (v := ?vz28) rfl (by kernel_rfl) (by kernel_rfl) (by kernel_rfl) (fun _ _ _ h => h) (Or.inl ⟨by rfl, ?hyz28⟩) (by first | assumption | exact trivial) ?restz28
      case hyz28 => intro W hSW; go_simp; try (with_reducible rfl)
      simp only [Act.put, List.getElem_toArray, List.getElem_cons_succ, List.getElem_cons_zero, List.setIfInBounds_toArray, List.set_cons_zero, List.set_cons_succ]
      refine wpAnyH_take (i := 4) (v := ?vz29) rfl (by kernel_rfl) (by kernel_rfl) (by kernel_rfl) (fun _ _ _ h => h) (Or.inl ⟨by rfl, ?hyz29⟩) (by first | assumption | exact trivial) ?restz29
      case hyz29 => intro W hSW; obtain ⟨n0, n1, n2, n3⟩ := KeptX.row hSW; go_simp; try (with_reducible rfl)
      simp only [Act.put, List.getElem_toArray, List.getElem_cons_succ, List.getElem_cons_zero, List.setIfInBounds_toArray, List.set_cons_zero, List.set_cons_succ]
      refine wpAnyH_take (i := 5) (v := ?vz30) rfl (by kernel_rfl) (by kernel_rfl) (by kernel_rfl) (fun _ _ _ h => h) (Or.inl ⟨by rfl, ?hyz30⟩) (by first | assumption | exact trivial) ?restz30
      case hyz30 => intro W hSW; go_simp; try (with_reducible rfl)
      simp only [Act.put, List.getElem_toArray, List.getElem_cons_succ, List.getElem_cons_zero, List.setIfInBounds_toArray, List.set_cons_zero, List.set_cons_succ]
      refine wpAnyH_take (i := 6) (v := ?vz31) rfl (by kernel_rfl) (by kernel_rfl) (by kernel_rfl) (fun _ _ _ h => h) (Or.inl ⟨by rfl, ?hyz31⟩) (by first | assumption | exact trivial) ?restz31
      case hyz31 => intro W hSW; go_simp; try (with_reducible rfl)
      simp only [Act.put, List.getElem_toArray, List.getElem_cons_succ, List.getElem_cons_zero, List.setIfInBounds_toArray, List.set_cons_zero, List.set_cons_succ]
      refine wpAnyH_take (i := 7) (v := ?vz32) rfl (by kernel_rfl) (by kernel_rfl) (by kernel_rfl) (fun _ _ _ h => h) (Or.inl ⟨by rfl, ?hyz32⟩) (by first | assumption | exact trivial) ?restz32
      case hyz32 => intro W hSW; go_simp; try (with_reducible rfl)
      simp only [Act.put, List.getElem_toArray, List.getElem_cons_succ, List.getElem_cons_zero, List.setIfInBounds_toArray, List.set_cons_zero, List.set_cons_succ]
      refine wpAnyH_take (i := 8) (v := ?vz33) rfl (by kernel_rfl) (by kernel_rfl) (by kernel_rfl) (fun _ _ _ h => h) (Or.inl ⟨by rfl, ?hyz33⟩) (by first | assumption | exact trivial) ?restz33
      case hyz33 => intro W hSW; obtain ⟨n0, n1, n2, n3⟩ := KeptX.row hSW; go_simp; try (with_reducible rfl)
      simp only [Act.put, List.getElem_toArray, List.getElem_cons_succ, List.getElem_cons_zero, List.setIfInBounds_toArray, List.set_cons_zero, List.set_cons_succ]
      refine wpAnyH_take (i := 9) (v := ?vz34) rfl (by kernel_rfl) (by kernel_rfl) (by kernel_rfl) (fun _ _ _ h => h) (Or.inl ⟨by rfl, ?hyz34⟩) (by first | assumption | exact trivial) ?restz34
      case hyz34 => intro W hSW; go_simp; try (with_reducible rfl)
      simp only [Act.put, List.getElem_toArray, List.getElem_cons_succ, List.getElem_cons_zero, List.setIfInBounds_toArray, List.set_cons_zero, List.set_cons_succ]
      refine wpAnyH_take (i := 10) (v := ?vz35) rfl (by kernel_rfl) (by kernel_rfl) (by kernel_rfl) (fun _ _ _ h => h) (Or.inl ⟨by rfl, ?hyz35⟩) (by first | assumption | exact trivial) ?restz35
      case hyz35 => intro W hSW; go_simp; try (with_reducible rfl)
      simp only [Act.put, List.getElem_toArray, List.getElem_cons_succ, List.getElem_cons_zero, List.setIfInBounds_toArray, List.set_cons_zero, List.set_cons_succ]
      refine wpAnyH_take (i := 11) (v := ?vz36) rfl (by kernel_rfl) (by kernel_rfl) (by kernel_rfl) (fun _ _ _ h => h) (Or.inl ⟨by rfl, ?hyz36⟩) (by first | assumption | exact trivial) ?restz36
      case hyz36 => intro W hSW; go_simp; try (with_reducible rfl)
      simp only [Act.put, List.getElem_toArray, List.getElem_cons_succ, List.getElem_cons_zero, List.setIfInBounds_toArray, List.set_cons_zero, List.set_cons_succ]
      refine wpAnyH_take (i := 12) (v := ?vz37) rfl (by kernel_rfl) (by kernel_rfl) (by kernel_rfl) (fun _ _ _ h => h) (Or.inl ⟨by rfl, ?hyz37⟩) (by first | assumption | exact trivial) ?restz37
      case hyz37 => intro W hSW; go_simp; try (with_reducible rfl)
      simp only [Act.put, List.getElem_toArray, List.getElem_cons_succ, List.getElem_cons_zero, List.setIfInBounds_toArray, List.set_cons_zero, List.set_cons_succ]
      have HD := Lib.hid (HT.out.done (Below.refl W0.heap.size W0).drew (rcells ⟨s.size, N, s.under - m, s.l.drop m⟩ A2 (c - m)))
      refine wpAnyH_ready (rs := [13]) (by kernel_rfl) (by simp) ?_
      refine AllReadyH.cons rfl (fun K hK => ?_) AllReadyH.nil
      rw [if_pos (by kernel_rfl)]
      refine wp_store_row 29 (.tmp 4) (.tmp 35) rfl (w.heap.size + 1) (rcells ⟨s.size, N, s.under - m, s.l.drop m⟩ A2 (c - m)) rfl (by unfold rcells; rw [HLN.out]; rfl) 29 _ HT.out.z (by kernel_rfl) rfl (rc_one _ _ _) ?_
      simp only [Act.put, List.getElem_toArray, List.getElem_cons_succ, List.getElem_cons_zero, List.setIfInBounds_toArray, List.set_cons_zero, List.set_cons_succ]
      have S1 : KeptX w.heap.size s A c (W0.drew.setRow (w.heap.size + 1) (rcells ⟨s.size, N, s.under - m, s.l.drop m⟩ A2 (c - m))) := (HD.out.2.2 _ (by omega)).trans S0
      refine hK.out _ _ (S1) (fun hHeld => ?_)
      clear hK K
      refine wpAnyH_take (i := 14) (v := ?vz38) rfl (by kernel_rfl) (by kernel_rfl) (by kernel_rfl) (fun _ _ _ h => h) (Or.inl ⟨by rfl, ?hyz38⟩) (by first | assumption | exact trivial) ?restz38
      case hyz38 => intro W hSW; go_simp; try (with_reducible rfl)
      simp only [Act.put, List.getElem_toArray, List.getElem_cons_succ, List.getElem_cons_zero, List.setIfInBounds_toArray, List.set_cons_zero, List.set_cons_succ]
      refine wpAnyH_take (i := 15) (v := ?vz39) rfl (by kernel_rfl) (by kernel_rfl) (by kernel_rfl) (fun _ _ _ h => h) (Or.inl ⟨by rfl, ?hyz39⟩) (by first | assumption | exact trivial) ?restz39
      case hyz39 => intro W hSW; go_simp; try (with_reducible rfl)
      simp only [Act.put, List.getElem_toArray, List.getElem_cons_succ, List.getElem_cons_zero, List.setIfInBounds_toArray, List.set_cons_zero, List.set_cons_succ]
      refine wpAnyH_done (by kernel_rfl) ?_ _
      go_wp2
      refine ret_cell3 rfl rfl HD.out.1 rfl Try.underlying29 (by kernel_rfl) rfl ?_
      exact ⟨A2, c - m, by rw [HS.out, HN.out, HE.out]; rfl, by rw [HS.out]; exact HL2, HD.out.2.1⟩
/-- What the reference's Again answers. -/
def RAgainP (F : Nat → Prop) (w : World) (s : Snd) (n : Int) (e : Ending) (w' : World) : Prop :=
  ∃ R cr, e = .returned (.tuple #[.slice R (againP s n).length cr, .int .i64 (againE s n : Int)]) ∧ Hid (El F w (.slice R (againP s n).length cr) (againP s n)) ∧ Hid (Below w.heap.size w w')
set_option maxHeartbeats 1000000 in
theorem RAgain_any {F : Nat → Prop} (w : World) (s : Snd) (A : Option Addr) (c : Nat) (h : Hid (Ls F w A c s.l)) (ok : Hid s.Ok) (n : Int) : Calls Try.prog 29 #[rval s A c, .int .i64 n] w (RAgainP F w s n) := by
  rw [show rval s A c = .agg #[.int .i64 (s.size : Int), .int .i64 (s.base : Int), .slice A s.l.length c, .int .i64 (s.under : Int)] from rfl]
  by_cases h0 : n < 0 ∨ 127 < n
  · have HE : Hid (againE s n = 1) := by show _ = _; unfold againE; rw [if_pos h0]
    have HP : Hid (againP s n = []) := by show _ = _; unfold againP; rw [HE.out]; rfl
    rcases h0 with h0 | h0
    · go_enter Try.func29, Try.ntmps29
      go_wp2
      go_returns
      exact ⟨none, 0, by rw [HP.out, HE.out]; rfl, by rw [HP.out]; exact El.nil _ _, Me.below_alloc (Below.refl _ _)⟩
    · have h00 : ¬ n < 0 := by omega
      go_enter Try.func29, Try.ntmps29
      go_wp2
      go_returns
      exact ⟨none, 0, by rw [HP.out, HE.out]; rfl, by rw [HP.out]; exact El.nil _ _, Me.below_alloc (Below.refl _ _)⟩
  · have h01 : ¬ n < 0 := by omega
    have h02 : ¬ 127 < n := by omega
    have HW := Lib.hid (fun W => Wn.RWay_any (s.base : Int) n W)
    rw [wayOf_eq s n] at HW
    have hul := ok.out.ul
    by_cases h1 : s.under ≤ wayOf s n
    · have HE : Hid (againE s n = 4) := by show _ = _; unfold againE; rw [if_neg h0, if_pos h1]
      have HP : Hid (againP s n = []) := by show _ = _; unfold againP; rw [HE.out]; rfl
      obtain ⟨m, hm⟩ : ∃ m, wayOf s n = m := ⟨_, rfl⟩
      rw [hm] at HW h1
      have g1 : (s.under : Int) ≤ (m : Int) := by omega
      clear h0 h1 hm hul
      go_enter Try.func29, Try.ntmps29
      go_wp2_with (go_at_call 42; refine (HW.out _).mono ?_; rintro e w' ⟨rfl, rfl⟩)
      go_returns
      exact ⟨none, 0, by rw [HP.out, HE.out]; rfl, by rw [HP.out]; exact El.nil _ _, Me.below_alloc (Below.refl _ _)⟩
    · have HE : Hid (againE s n = 0) := by show _ = _; unfold againE; rw [if_neg h0, if_neg h1]
      have HP0 : Hid (againP s n = lsAt s.l (wayOf s n)) := by show _ = _; unfold againP; rw [HE.out]; rfl
      have h2 : wayOf s n < s.l.length := by omega
      obtain ⟨g, off, R, cr, rfl, hFg, hg, hcell, hown, hR⟩ := h.out.elem h2
      have HEL : Hid (El F w (.slice R (lsAt s.l (wayOf s n)).length cr) (lsAt s.l (wayOf s n))) := ⟨R, cr, rfl, hown, hR⟩
      obtain ⟨m, hm⟩ : ∃ m, wayOf s n = m := ⟨_, rfl⟩
      rw [hm] at HW HP0 hcell HEL h1 h2
      obtain ⟨p, hp⟩ : ∃ p, lsAt s.l m = p := ⟨_, rfl⟩
      rw [hp] at hcell HEL HP0
      have HP := HP0
      have g1 : ¬ (s.under : Int) ≤ (m : Int) := by omega
      have g3 : (m : Int) < (s.l.length : Int) := by omega
      clear h0 h1 hul hm hp hFg hown hR h2
      go_enter Try.func29, Try.ntmps29
      go_wp2_with (go_at_call 42; refine (HW.out _).mono ?_; rintro e w' ⟨rfl, rfl⟩)
      go_returns
      exact ⟨R, cr, by rw [HP.out, HE.out]; rfl, by rw [HP.out]; exact HEL, Me.below_alloc (Below.refl _ _)⟩
theorem RUnder_any (w : World) (s : Snd) (A : Option Addr) (c : Nat) (ok : Hid s.Ok) : Calls Try.prog 16 #[rval s A c] w (Wn.NewI w (Wn.goes (s.base : Int) s.under)) := by
  rw [show rval s A c = .agg #[.int .i64 (s.size : Int), .int .i64 (s.base : Int), .slice A s.l.length c, .int .i64 (s.under : Int)] from rfl]
  have HE := Lib.hid (fun W => Wn.REach_any (s.base : Int) (s.under : Int) W ⟨by omega, by have := ok.out.u; have := ok.out.s63; omega⟩)
  rw [cut_nat (Nat.le_trans ok.out.u ok.out.s63)] at HE
  go_enter Try.func16, Try.ntmps16
  go_wp2_with (go_at_call 33; refine (HE.out _).mono ?_; rintro e w1 ⟨v1, rfl, ho1, hb1⟩)
  go_ret
  refine ⟨v1, rfl, ho1.out.base fun k e => ?_, (Me.below_alloc (Below.refl _ w)).trans (hb1.out.mono (by simp))⟩
  have := (World.ownsRow.lt ho1.out k e).1
  simp at this
  omega
theorem RReset_any (w : World) (s : Snd) (A : Option Addr) (c : Nat) : Calls Try.prog 30 #[rval s A c] w fun e w' => e = .returned (rval (newS s.size) none 0) ∧ Hid (Below w.heap.size w w') := by
  rw [show rval s A c = .agg #[.int .i64 (s.size : Int), .int .i64 (s.base : Int), .slice A s.l.length c, .int .i64 (s.under : Int)] from rfl]
  go_enter Try.func30, Try.ntmps30
  go_wp2
  go_returns
  exact ⟨rfl, Me.below_alloc (Me.below_alloc (Below.refl _ _))⟩
end Go.Proofs.Ytdfjlhiliifapaa.Sn
