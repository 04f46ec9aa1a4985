/- The contracts of a sender's Ack, Again, Reset. -/
import Derived.Test.YtnfjfcoonabmmaaSnFun
namespace Go.Proofs.Ytnfjfcoonabmmaa.Sn
open Go.RowKit
open Go.Proofs.Ytnfjfcoonabmmaa.Me Go.Proofs.Ytnfjfcoonabmmaa.Hd
set_option linter.unusedVariables false
set_option linter.unusedSimpArgs false

theorem Ls.set {F : Nat → Prop} {w : World} {D : Nat} {A : Option Addr} {c : Nat} {ls : List (List Nat)} {C : Array Value} (h : Ls F w A c ls) (hD : w.heap[D]? = some (.cells C 73 (0, 0))) (i : Nat) (u : Value) : Ls F (w.setCell ⟨D, i, none⟩ u) A c ls := by
  have hk : ∀ k, k ≠ D → (w.setCell ⟨D, i, none⟩ u).heap[k]? = w.heap[k]? := fun k hne => Below.heap_setCell w ⟨D, i, none⟩ u k hne
  rcases h with e | ⟨g, off, cur, e1, e2, e3, e4, e5, e6, e7⟩
  · exact .inl e
  · refine .inr ⟨g, off, cur, e1, e2, (hk g fun e => ?_).trans e3, e4, e5, e6, fun j hj => ?_⟩
    · subst e
      rw [hD] at e3
      simp only [Option.some.injEq, Obj.cells.injEq] at e3
      exact absurd e3.2.1 (by decide)
    · obtain ⟨u', u1, u2⟩ := e7 j hj
      refine ⟨u', u1, u2.kept fun k cs hF hc' => ⟨hk k fun e => ?_, hF⟩⟩
      subst e
      rw [hD] at hc'
      simp only [Option.some.injEq, Obj.cells.injEq] at hc'
      exact absurd hc'.2.1 (by decide)
/-- Behind cut and clear. -/
theorem ack_mid {F : Nat → Prop} {w : World} {D : Nat} {s : Snd} {A : Option Addr} {c m : Nat} (h : Sq F w D s A c) (hm : m ≤ s.l.length) (A2 : Option Addr) (hA2 : (if c = m then A else A.map (fun x => x.add m)) = A2) :
    ∃ w2, (∀ ty, (Builtin.clear_ #[29] ty #[.slice A m m]).run Try.prog (w.setCell ⟨D, 3, none⟩ (.slice A2 (s.l.length - m) (c - m))) = .ok (.tuple #[]) w2) ∧
      w2.heap[D]? = some (.cells #[.int .i64 (s.size : Int), .int .i64 (s.base : Int), .int .i64 (s.under : Int), .slice A2 (s.l.length - m) (c - m)] 73 (0, 0)) ∧ Ls F w2 A2 (c - m) (s.l.drop m) ∧ But F w w2 := by
  obtain ⟨w2, h1, h2, h3, h4⟩ := (h.ls.set h.blk 3 (.slice A2 (s.l.length - m) (c - m))).clear hm
  rw [hA2] at h2
  have hb := heap_setCell_same w D 3 _ _ (.slice A2 (s.l.length - m) (c - m)) h.blk
  have hsz : (w.setCell ⟨D, 3, none⟩ (.slice A2 (s.l.length - m) (c - m))).heap.size = w.heap.size := by simp
  refine ⟨w2, h1, ?_, h2, ?_⟩
  · rw [h3.same D (by rw [hsz]; exact h.lt) h.notbk, hb]
    simp [scells]
  · exact ((But.refl F w).set (p := ⟨D, 3, none⟩) (.inl h.f) _).trans h3 fun k _ hk => (h.ls.blk k hk).1
theorem ack_done {F : Nat → Prop} {w w2 : World} {D : Nat} {s : Snd} {A2 : Option Addr} {c m : Nat} {n : Nat} (hF : F D) (hm : m ≤ s.under) (hul : s.under ≤ s.l.length)
    (hb : w2.heap[D]? = some (.cells #[.int .i64 (s.size : Int), .int .i64 (s.base : Int), .int .i64 (s.under : Int), .slice A2 (s.l.length - m) (c - m)] 73 (0, 0))) (hl : Ls F w2 A2 (c - m) (s.l.drop m)) (hbt : But F w w2) :
    After F w D ⟨s.size, n, s.under - m, s.l.drop m⟩ ((w2.setCell ⟨D, 1, none⟩ (.int .i64 (n : Int))).setCell ⟨D, 2, none⟩ (.int .i64 ((s.under - m : Nat) : Int))) := by
  have h1 := heap_setCell_same w2 D 1 _ _ (.int .i64 (n : Int)) hb
  have h2 := heap_setCell_same (w2.setCell ⟨D, 1, none⟩ (.int .i64 (n : Int))) D 2 _ _ (.int .i64 ((s.under - m : Nat) : Int)) h1
  refine ⟨⟨A2, c - m, ⟨?_, .inl hF, ((hl.set hb 1 _).set h1 2 _).mono fun _ _ h => .inl h⟩⟩, (hbt.set (p := ⟨D, 1, none⟩) (.inl hF) _).set (p := ⟨D, 2, none⟩) (.inl hF) _⟩
  rw [h2]
  simp [scells]
set_option maxHeartbeats 1000000 in
theorem Ack_any {F : Nat → Prop} (w : World) (D : Nat) (s : Snd) (A : Option Addr) (c : Nat) (h : Hid (Sq F w D s A c)) (ok : Hid s.Ok) (n : Int) :
    Calls Try.prog 34 #[.pointer (some ⟨D, 0, none⟩), .int .i64 n] w fun e w' => e = .returned (.tuple #[.int .i64 (ackN s n : Int), .int .i64 (ackE s n : Int)]) ∧ Hid (After F w D (ackS s n) w') := by
  have c1 : w.cell? ⟨D, 1, none⟩ = some (.int .i64 (s.base : Int)) := h.out.cell 1
  have c2 : w.cell? ⟨D, 2, none⟩ = some (.int .i64 (s.under : Int)) := h.out.cell 2
  by_cases h0 : n < 0 ∨ 127 < n
  · have HE : Hid (ackE s n = 1) := by show _ = _; unfold ackE; rw [if_pos h0]
    have HN : Hid (ackN s n = 0) := by show _ = _; unfold ackN; rw [HE.out]; rfl
    have HS : Hid (ackS s n = s) := by show _ = _; unfold ackS; rw [HE.out]; rfl
    have HI := Lib.hid (isNumber_no h0)
    clear h0
    go_enter Try.func34, Try.ntmps34
    go_wp2_with (go_at_call 37; refine (HI.out _).mono ?_; rintro e w' ⟨rfl, rfl⟩)
    go_returns
    exact ⟨by rw [HN.out, HE.out]; rfl, by rw [HS.out]; exact After.same h.out (Below.refl _ _)⟩
  · have h01 : 0 ≤ n ∧ n ≤ 127 := by omega
    have HI := Lib.hid (isNumber_yes h01)
    have HW := Lib.hid (fun W => Wn.Way_any (s.base : Int) n W)
    rw [wayOf_eq s n] at HW
    have hul := ok.out.ul
    by_cases h1 : s.under < wayOf s n
    · have HE : Hid (ackE s n = 7) := by show _ = _; unfold ackE; rw [if_neg h0, if_pos h1]
      have HN : Hid (ackN s n = 0) := by show _ = _; unfold ackN; rw [HE.out]; rfl
      have HS : Hid (ackS s n = s) := by show _ = _; unfold ackS; rw [HE.out]; rfl
      obtain ⟨m, hm⟩ : ∃ m, wayOf s n = m := ⟨_, rfl⟩
      rw [hm] at HW h1
      have g1 : (s.under : Int) < (m : Int) := by omega
      clear h0 h01 h1 hm hul
      go_enter Try.func34, Try.ntmps34
      go_wp2_with (first
        | (go_at_call 37; refine (HI.out _).mono ?_; rintro e w' ⟨rfl, rfl⟩)
        | (go_at_call 39; refine (HW.out _).mono ?_; rintro e w' ⟨rfl, rfl⟩))
      go_returns
      exact ⟨by rw [HN.out, HE.out]; rfl, by rw [HS.out]; exact After.same h.out (Below.refl _ _)⟩
    · have HE : Hid (ackE s n = 0) := by show _ = _; unfold ackE; rw [if_neg h0, if_neg h1]
      have HN : Hid (ackN s n = wayOf s n) := by show _ = _; unfold ackN; rw [HE.out]; rfl
      have HS : Hid (ackS s n = ⟨s.size, n.toNat, s.under - wayOf s n, s.l.drop (wayOf s n)⟩) := by show _ = _; unfold ackS; rw [HE.out]; rfl
      obtain ⟨m, hm⟩ : ∃ m, wayOf s n = m := ⟨_, rfl⟩
      rw [hm] at HW h1 HN HS
      obtain ⟨N, rfl⟩ : ∃ N : Nat, n = (N : Int) := ⟨n.toNat, by omega⟩
      rw [Int.toNat_natCast] at HS
      have hml : m ≤ s.l.length := by omega
      have hmu : m ≤ s.under := by omega
      obtain ⟨A2, hA2⟩ : ∃ A2, (if c = m then A else A.map (fun x => x.add m)) = A2 := ⟨_, rfl⟩
      have HC := Lib.hid (cut_any w D s A c m h hml A2 hA2)
      obtain ⟨w2, hcl, hb2, hl2, hbt⟩ := ack_mid h.out hml A2 hA2
      have HAF := Lib.hid (ack_done (n := N) h.out.f hmu hul hb2 hl2 hbt)
      have d2 : w2.cell? ⟨D, 2, none⟩ = some (.int .i64 (s.under : Int)) := by rw [cell_of_row w2 D 2 _ _ (0, 0) hb2]; rfl
      have d1 : w2.cell? ⟨D, 1, none⟩ = some (.int .i64 (s.base : Int)) := by rw [cell_of_row w2 D 1 _ _ (0, 0) hb2]; rfl
      have f2 : w2.frozen? ⟨D, 2, none⟩ = false := frozen_of_row w2 D 2 _ _ hb2
      have f1 : w2.frozen? ⟨D, 1, none⟩ = false := frozen_of_row w2 D 1 _ _ hb2
      have g1 : ¬ (s.under : Int) < (m : Int) := by omega
      have g2 : IntKind.i64.wrap ((s.under : Int) - (m : Int)) = ((s.under - m : Nat) : Int) := by
        have := ok.out.u; have := ok.out.s63
        rw [IntWalk.i64_in _ (by omega)]; omega
      clear h0 h01 h1 hm hul hml hmu hA2 hb2 hl2 hbt
      go_enter Try.func34, Try.ntmps34
      go_wp2_with (first
        | (go_at_call 37; refine (HI.out _).mono ?_; rintro e w' ⟨rfl, rfl⟩)
        | (go_at_call 39; refine (HW.out _).mono ?_; rintro e w' ⟨rfl, rfl⟩)
        | (go_at_call 46; refine HC.out.mono ?_; rintro e w' ⟨rfl, rfl⟩)
        | (simp only [hcl]))
      go_returns
      exact ⟨by rw [HN.out, HE.out]; rfl, by rw [HS.out]; exact HAF⟩
/-- What Again answers. -/
def AgainP {F : Nat → Prop} (w : World) (s : Snd) (n : Int) (e : Ending) (w' : World) : Prop :=
  ∃ A c, e = .returned (.tuple #[.slice A (againP s n).length c, .int .i64 (againE s n : Int)]) ∧ Hid (Me.Own w' w.heap.size (.slice A (againP s n).length c) (againP s n)) ∧ Hid (Below w.heap.size w w')
set_option maxHeartbeats 1000000 in
theorem Again_any {F : Nat → Prop} (w : World) (D : Nat) (s : Snd) (A : Option Addr) (c : Nat) (h : Hid (Sq F w D s A c)) (ok : Hid s.Ok) (n : Int) :
    Calls Try.prog 17 #[.pointer (some ⟨D, 0, none⟩), .int .i64 n] w (AgainP (F := F) w s n) := by
  have c1 : w.cell? ⟨D, 1, none⟩ = some (.int .i64 (s.base : Int)) := h.out.cell 1
  have c2 : w.cell? ⟨D, 2, none⟩ = some (.int .i64 (s.under : Int)) := h.out.cell 2
  have c3 : w.cell? ⟨D, 3, none⟩ = some (.slice A s.l.length c) := h.out.cell 3
  by_cases h0 : n < 0 ∨ 127 < n
  · have HE : Hid (againE s n = 1) := by show _ = _; unfold againE; rw [if_pos h0]
    have HP : Hid (againP s n = []) := by show _ = _; unfold againP; rw [HE.out]; rfl
    have HI := Lib.hid (isNumber_no h0)
    clear h0
    go_enter Try.func17, Try.ntmps17
    go_wp2_with (go_at_call 37; refine (HI.out _).mono ?_; rintro e w' ⟨rfl, rfl⟩)
    go_returns
    exact ⟨none, 0, by rw [HP.out, HE.out]; rfl, by rw [HP.out]; exact Me.Own.nil _ _, Below.refl _ _⟩
  · have h01 : 0 ≤ n ∧ n ≤ 127 := by omega
    have HI := Lib.hid (isNumber_yes h01)
    have HW := Lib.hid (fun W => Wn.Way_any (s.base : Int) n W)
    have HIn := Lib.hid (fun W => Wn.In_any (s.base : Int) (s.under : Int) n W)
    rw [wayOf_eq s n] at HW HIn
    have hul := ok.out.ul
    by_cases h1 : s.under ≤ wayOf s n
    · have HE : Hid (againE s n = 4) := by show _ = _; unfold againE; rw [if_neg h0, if_pos h1]
      have HP : Hid (againP s n = []) := by show _ = _; unfold againP; rw [HE.out]; rfl
      have hd : decide ((wayOf s n : Int) < (s.under : Int)) = false := decide_eq_false (by omega)
      rw [hd] at HIn
      clear h0 h01 h1 hul hd
      go_enter Try.func17, Try.ntmps17
      go_wp2_with (go_at_call 37; refine (HI.out _).mono ?_; rintro e w' ⟨rfl, rfl⟩)
      go_quiet ((go_at_call 38; exact (HIn.out _).mono fun _ _ h => ⟨h.1, _, h.2.symm⟩))
      go_wp2
      go_returns
      exact ⟨none, 0, by rw [HP.out, HE.out]; rfl, by rw [HP.out]; exact Me.Own.nil _ _, below_drewN (Below.refl _ _) _⟩
    · have HE : Hid (againE s n = 0) := by show _ = _; unfold againE; rw [if_neg h0, if_neg h1]
      have HP0 : Hid (againP s n = lsAt s.l (wayOf s n)) := by show _ = _; unfold againP; rw [HE.out]; rfl
      have hd : decide ((wayOf s n : Int) < (s.under : Int)) = true := decide_eq_true (by omega)
      rw [hd] at HIn
      have h2 : wayOf s n < s.l.length := by omega
      obtain ⟨g, off, R, cr, rfl, hFg, hg, hcell, hown, hR⟩ := h.out.ls.elem h2
      obtain ⟨p1, p2, p3⟩ := ok.out.at_ h2
      obtain ⟨m, hm⟩ : ∃ m, wayOf s n = m := ⟨_, rfl⟩
      rw [hm] at HW HP0 hcell hown p1 p2 p3 h2
      obtain ⟨p, hp⟩ : ∃ p, lsAt s.l m = p := ⟨_, rfl⟩
      rw [hp] at hcell hown p1 p2 p3 HP0
      have HP := HP0
      obtain ⟨r1, r2, r3, r4⟩ := own_rd hown p3
      have HC := Lib.hid (fun (W : World) (hW : Hid (Below w.heap.size w W)) => BClone_any R cr w.heap.size p W (r1.below hW.out) r2 hW.out.size (by omega))
      have HPB := Lib.hid p3
      have HD := Lib.hid h.out.lt
      have HG := Lib.hid hg
      have g3 : (m : Int) < (s.l.length : Int) := by omega
      clear h0 h01 h1 hul hd hm hp p1 p2 p3 r1 r2 r3 r4 hFg hown hR hg h2
      go_enter Try.func17, Try.ntmps17
      go_wp2_with (go_at_call 37; refine (HI.out _).mono ?_; rintro e w' ⟨rfl, rfl⟩)
      go_quiet ((go_at_call 38; exact (HIn.out _).mono fun _ _ h => ⟨h.1, _, h.2.symm⟩))
      have HW1 : KeptN w (w.drewN nq) := below_drewN (Below.refl _ _) _
      generalize w.drewN nq = W1 at HW1 ⊢
      go_wp2
      have S0 : KeptN w W1.drew := Below.drew HW1
      refine wp_region_held_drew (S := KeptN w) (by kernel_rfl) S0 (fun hHeld => ?_)
      refine wpAnyH_take (i := 0) (v := ?vz1) rfl (by kernel_rfl) (by kernel_rfl) (by kernel_rfl) (fun _ _ _ h => h) (Or.inl ⟨by rfl, ?hyz1⟩) (by first | assumption | exact trivial) ?restz1
      case hyz1 => intro W hSW; go_simp; try (with_reducible rfl)
      simp only [Act.put, List.getElem_toArray, List.getElem_cons_succ, List.getElem_cons_zero, List.setIfInBounds_toArray, List.set_cons_zero, List.set_cons_succ]
      refine wpAnyH_take (i := 1) (v := ?vz2) rfl (by kernel_rfl) (by kernel_rfl) (by kernel_rfl) (fun _ _ _ h => h) (Or.inl ⟨by rfl, ?hyz2⟩) (by first | assumption | exact trivial) ?restz2
      case hyz2 => intro W hSW; go_simp; try (with_reducible rfl)
      simp only [Act.put, List.getElem_toArray, List.getElem_cons_succ, List.getElem_cons_zero, List.setIfInBounds_toArray, List.set_cons_zero, List.set_cons_succ]
      refine wpAnyH_take (i := 2) (v := ?vz3) rfl (by kernel_rfl) (by kernel_rfl) (by kernel_rfl) (fun _ _ _ h => h) (Or.inl ⟨by rfl, ?hyz3⟩) (by first | assumption | exact trivial) ?restz3
      case hyz3 => intro W hSW; go_simp; try (with_reducible rfl)
      simp only [Act.put, List.getElem_toArray, List.getElem_cons_succ, List.getElem_cons_zero, List.setIfInBounds_toArray, List.set_cons_zero, List.set_cons_succ]
      refine wpAnyH_take (i := 3) (v := ?vz4) rfl (by kernel_rfl) (by kernel_rfl) (by kernel_rfl) (fun _ _ _ h => h) (Or.inl ⟨by rfl, ?hyz4⟩) (by first | assumption | exact trivial) ?restz4
      case hyz4 => intro W hSW; have q3 := (KeptN.cell hSW HD.out 3).trans c3; go_simp; try (with_reducible rfl)
      simp only [Act.put, List.getElem_toArray, List.getElem_cons_succ, List.getElem_cons_zero, List.setIfInBounds_toArray, List.set_cons_zero, List.set_cons_succ]
      refine wpAnyH_take (i := 4) (v := ?vz5) rfl (by kernel_rfl) (by kernel_rfl) (by kernel_rfl) (fun _ _ _ h => h) (Or.inl ⟨by rfl, ?hyz5⟩) (by first | assumption | exact trivial) ?restz5
      case hyz5 => intro W hSW; go_simp; try (with_reducible rfl)
      simp only [Act.put, List.getElem_toArray, List.getElem_cons_succ, List.getElem_cons_zero, List.setIfInBounds_toArray, List.set_cons_zero, List.set_cons_succ]
      refine wpAnyH_take (i := 5) (v := ?vz6) rfl (by kernel_rfl) (by kernel_rfl) (by kernel_rfl) (fun _ _ _ h => h) (Or.inl ⟨by rfl, ?hyz6⟩) (by first | assumption | exact trivial) ?restz6
      case hyz6 => intro W hSW; go_simp; try (with_reducible rfl)
      simp only [Act.put, List.getElem_toArray, List.getElem_cons_succ, List.getElem_cons_zero, List.setIfInBounds_toArray, List.set_cons_zero, List.set_cons_succ]
      refine wpAnyH_take (i := 6) (v := ?vz7) rfl (by kernel_rfl) (by kernel_rfl) (by kernel_rfl) (fun _ _ _ h => h) (Or.inl ⟨by rfl, ?hyz7⟩) (by first | assumption | exact trivial) ?restz7
      case hyz7 => intro W hSW; go_simp; try (with_reducible rfl)
      simp only [Act.put, List.getElem_toArray, List.getElem_cons_succ, List.getElem_cons_zero, List.setIfInBounds_toArray, List.set_cons_zero, List.set_cons_succ]
      refine wpAnyH_take (i := 7) (v := ?vz8) rfl (by kernel_rfl) (by kernel_rfl) (by kernel_rfl) (fun _ _ _ h => h) (Or.inl ⟨by rfl, ?hyz8⟩) (by first | assumption | exact trivial) ?restz8
      case hyz8 => intro W hSW; have q2 := (KeptN.cell hSW HD.out 1).trans c1; go_simp; try (with_reducible rfl)
      simp only [Act.put, List.getElem_toArray, List.getElem_cons_succ, List.getElem_cons_zero, List.setIfInBounds_toArray, List.set_cons_zero, List.set_cons_succ]
      refine wpAnyH_take (i := 8) (v := ?vz9) rfl (by kernel_rfl) (by kernel_rfl) (by kernel_rfl) (fun _ _ _ h => h) (Or.inl ⟨by rfl, ?hyz9⟩) (by first | assumption | exact trivial) ?restz9
      case hyz9 => intro W hSW; go_simp; try (with_reducible rfl)
      simp only [Act.put, List.getElem_toArray, List.getElem_cons_succ, List.getElem_cons_zero, List.setIfInBounds_toArray, List.set_cons_zero, List.set_cons_succ]
      refine wpAnyH_ready (rs := [9]) (by kernel_rfl) (by simp) ?_
      refine AllReadyH.cons rfl (fun K hK => ?_) AllReadyH.nil
      go_simp
      go_wp2_with (go_at_call 39; refine (HW.out _).mono ?_; rintro e w' ⟨rfl, rfl⟩)
      refine hK.out _ _ (S0) (fun hHeld => ?_)
      clear hK K
      refine wpAnyH_take (i := 10) (v := ?vz10) rfl (by kernel_rfl) (by kernel_rfl) (by kernel_rfl) (fun _ _ _ h => h) (Or.inl ⟨by rfl, ?hyz10⟩) (by first | assumption | exact trivial) ?restz10
      case hyz10 => intro W hSW; go_simp; try (with_reducible rfl)
      simp only [Act.put, List.getElem_toArray, List.getElem_cons_succ, List.getElem_cons_zero, List.setIfInBounds_toArray, List.set_cons_zero, List.set_cons_succ]
      refine wpAnyH_take (i := 11) (v := ?vz11) rfl (by kernel_rfl) (by kernel_rfl) (by kernel_rfl) (fun _ _ _ h => h) (Or.inl ⟨by rfl, ?hyz11⟩) (by first | assumption | exact trivial) ?restz11
      case hyz11 => intro W hSW; have q4 := (KeptN.cell hSW HG.out _).trans hcell; go_simp; try (with_reducible rfl)
      simp only [Act.put, List.getElem_toArray, List.getElem_cons_succ, List.getElem_cons_zero, List.setIfInBounds_toArray, List.set_cons_zero, List.set_cons_succ]
      refine wpAnyH_ready (rs := [12]) (by kernel_rfl) (by simp) ?_
      refine AllReadyH.cons rfl (fun K hK => ?_) AllReadyH.nil
      go_simp
      go_wp2_with (go_at_call 26; refine (HC.out _ ?_).mono ?_; (exact (S0)); rintro e w5 ⟨v5, rfl, ho5, hb5⟩; obtain ⟨A5, c5, rfl, _, _, _⟩ := ho5.out.held HPB.out)
      have S5 : KeptN w w5 := Below.trans S0 (hb5.out.mono (Below.size S0))
      refine hK.out _ _ (S5) (fun hHeld => ?_)
      clear hK K
      refine wpAnyH_take (i := 13) (v := ?vz12) rfl (by kernel_rfl) (by kernel_rfl) (by kernel_rfl) (fun _ _ _ h => h) (Or.inl ⟨by rfl, ?hyz12⟩) (by first | assumption | exact trivial) ?restz12
      case hyz12 => intro W hSW; go_simp; try (with_reducible rfl)
      simp only [Act.put, List.getElem_toArray, List.getElem_cons_succ, List.getElem_cons_zero, List.setIfInBounds_toArray, List.set_cons_zero, List.set_cons_succ]
      refine wpAnyH_take (i := 14) (v := ?vz13) rfl (by kernel_rfl) (by kernel_rfl) (by kernel_rfl) (fun _ _ _ h => h) (Or.inl ⟨by rfl, ?hyz13⟩) (by first | assumption | exact trivial) ?restz13
      case hyz13 => intro W hSW; go_simp; try (with_reducible rfl)
      simp only [Act.put, List.getElem_toArray, List.getElem_cons_succ, List.getElem_cons_zero, List.setIfInBounds_toArray, List.set_cons_zero, List.set_cons_succ]
      refine wpAnyH_done (by kernel_rfl) ?_ _
      have HO5 : Hid (Me.Own w5 w.heap.size (.slice A5 p.length c5) p) := own_base ho5.out fun k e => Nat.le_trans (Below.size S0) (ho5.out.lt k e).1
      have HB5 : Hid (Below w.heap.size w w5) := S5
      clear ho5 hb5
      go_wp2
      go_returns
      exact ⟨A5, c5, by rw [HP.out, HE.out]; rfl, by rw [HP.out]; exact HO5, HB5⟩
/-- What Reset answers: all payloads; the sender has none. -/
def ResetP (F : Nat → Prop) (w : World) (D : Nat) (s : Snd) (A : Option Addr) (e : Ending) (w' : World) : Prop :=
  e = .returned (.slice A s.l.length s.l.length) ∧ Hid (Ls F w' A s.l.length s.l) ∧ Hid (Sq (fun k => k = D) w' D (newS s.size) none 0) ∧ Hid (But (fun k => k = D) w w')
theorem newS_one (n : Nat) : (#[.int .i64 (n : Int), .int .i64 0, .int .i64 0, .slice none 0 0] : Array Value).all (·.oneCell') = true := by simp [Value.oneCell']
end Go.Proofs.Ytnfjfcoonabmmaa.Sn
