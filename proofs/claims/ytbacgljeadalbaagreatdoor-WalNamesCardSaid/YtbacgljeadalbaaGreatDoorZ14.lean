/- The walk of the log's load. -/
import Derived.Test.YtbacgljeadalbaaGreatDoorZ13
import Derived.Handy
namespace Go.Proofs.YtbacgljeadalbaaGreatDoor.Wl
open Go.RowKit
open Go.Proofs.YtbacgljeadalbaaGreatDoor.Me Go.Proofs.YtbacgljeadalbaaGreatDoor.Hd Go.Proofs.YtbacgljeadalbaaGreatDoor.Dk Go.Proofs.YtbacgljeadalbaaGreatDoor.Rc
set_option linter.unusedVariables false
set_option linter.unusedSimpArgs false

/-- G's blocks, and some new ones. -/
def Mid (G : Nat → Prop) (t t2 k : Nat) : Prop := G k ∨ (t ≤ k ∧ k < t2)
/-- What load answers, and leaves. -/
def LoP (G : Nat → Prop) (w : World) (X D mb size : Nat) (s : St) (g : Lg) (e : Ending) (w' : World) : Prop :=
  ∃ s' last ps v t t2, e = .returned (.tuple #[v, .int .i64 0]) ∧ Hid (Loads s s' last ps) ∧ Hid (w.heap.size ≤ t) ∧ Hid (Rws (fun k => w.heap.size ≤ k ∧ ¬ (t ≤ k ∧ k < t2)) w' v ps) ∧ Hid (Lq (Mid (Lo G w.heap.size) t t2) w' X D mb s' ⟨last, g.failed⟩ size) ∧ Hid (But (Lo G w.heap.size) w w')
theorem max_step (m : Nat) : max 1 (m + 1) = m + 1 := by omega
section
variable {G : Nat → Prop} (w : World) (X D mb : Nat) (s : St) (g : Lg) (size : Nat)
set_option maxHeartbeats 4000000 in
theorem load_any (h : Hid (Lq (Lo G w.heap.size) w X D mb s g size)) (hc : Hid (Calm s)) (hg : g.last = 1) : Calls Tryz.prog 41 #[.pointer (some ⟨X, 0, none⟩)] w (LoP G w X D mb size s g) := by
  have ok := h.out.good.ok
  have HOK : Hid s.Ok := ok
  have HN := Lib.hid (Names_any w D mb s h.out.dq ok)
  have c0 := h.out.c0
  have hnl : (namesL s.files).length ≤ 64 := by
    rw [show (namesL s.files).length = s.files.length from List.length_map ..]
    exact ok.cnt
  have HNL := Lib.hid hnl
  -- behind the names: their box
  have HNB : Hid (∀ w1 A c, NmS w1 w.heap.size (.slice A (namesL s.files).length c) (namesL s.files) → Below w.heap.size w w1 →
      Nb (w1.alloc (.cells #[.slice A (namesL s.files).length c] 50)) w.heap.size w1.heap.size (namesL s.files) ∧ (w1.alloc (.cells #[.slice A (namesL s.files).length c] 50)).cell? ⟨X, 1, none⟩ = some (.int .i64 1) ∧ Below w.heap.size w (w1.alloc (.cells #[.slice A (namesL s.files).length c] 50))) := fun w1 A c hS hb => by
    have hb2 : Below w1.heap.size w1 (w1.alloc (.cells #[.slice A (namesL s.files).length c] 50)) := Me.below_alloc (Below.refl _ _)
    have hb3 : Below w.heap.size w (w1.alloc (.cells #[.slice A (namesL s.files).length c] 50)) := hb.trans (hb2.mono hb.size)
    refine ⟨⟨by simp, hb.size, A, c, by rw [cell_of_row _ w1.heap.size 0 _ _ (0, 0) (heap_alloc_new w1 _)]; rfl, fun hl => ?_⟩, (h.out.below hb3).c1, hb3⟩
    obtain ⟨A', c', e, _, _, hcells⟩ := hS.form
    injection e with e1 e2 e3
    subst e1 e3
    obtain ⟨g', e, q1, q2, q3⟩ := hcells hl
    exact ⟨g', e, q1, Nat.lt_of_lt_of_le q2 hb2.size, fun i hi => by rw [hb2.cell (p := ⟨g', i, none⟩) q2]; exact q3 i hi⟩
  obtain ⟨N, hNn⟩ : ∃ N, (namesL s.files).length = N := ⟨_, rfl⟩
  have HF : Hid (∀ w1 v, NmS w1 w.heap.size v (namesL s.files) → ∃ A c, v = .slice A N c) := fun w1 v hS => by
    obtain ⟨A, c, e, _⟩ := hS.form
    rw [hNn] at e
    exact ⟨A, c, e⟩
  rw [hNn] at HNB
  clear hNn hnl
  go_enter Tryz.func41, Tryz.ntmps41
  go_wp2
  go_step3
  go_wp2_with (go_at_call 24; refine HN.out.mono ?_; rintro e w1 ⟨v, rfl, hS, b1⟩; obtain ⟨A, c, rfl⟩ := HF.out w1 v hS.out; obtain ⟨nb, k1, bb⟩ := HNB.out w1 A c hS.out b1.out; have NB := Lib.hid nb; have BB := Lib.hid bb; clear nb bb)
  obtain ⟨W0, hW0⟩ : ∃ W0, w1.alloc (.cells #[.slice A N c] 50) = W0 := ⟨_, rfl⟩
  rw [hW0] at NB BB k1 ⊢
  obtain ⟨bN, hbN⟩ : ∃ bN, w1.heap.size = bN := ⟨_, rfl⟩
  rw [hbN] at NB ⊢
  clear hW0 hbN hS b1 HN HF HNB
  have H0 : Hid (Lq (Lo G w.heap.size) W0 X D mb s ⟨max 1 0, g.failed⟩ size) := by
    have := h.out.below BB.out
    have e : g = ⟨max 1 0, g.failed⟩ := by cases g; simp only at hg; subst hg; rfl
    rw [← e]
    exact this
  go_wp2
  go_step3
  go_wp2
  go_loopw [6, 7] (fun v kk wr => ∃ m : Nat, m ≤ 99999 ∧ kk = .int .i64 ((m + 1 : Nat) : Int) ∧ Hid (full s m) ∧ Hid (Rws (fun k => W0.heap.size ≤ k) wr v (pays s m)) ∧ Hid (Lq (Lo G w.heap.size) wr X D mb s ⟨max 1 m, g.failed⟩ size) ∧ Hid (But (fun b => b = X) W0 wr)) (fun _ kk _ => (100001 - intOf kk).toNat)
  case atStart => exact ⟨0, Nat.zero_le _, rfl, fun i h1 h2 => absurd h1 (by omega), Rws.nil _ _, H0, But.refl _ _⟩
  case round =>
    obtain ⟨m, hm, rfl, HFull, HR, HL, HB⟩ := hrel
    have hXn : X < w.heap.size := HL.out.gX.2
    have NBr : Hid (Nb wr w.heap.size bN (namesL s.files)) := NB.out.but HB.out fun k hk e => by omega
    have HT := Lib.hid (there_any wr w.heap.size bN (namesL s.files) NBr HNL.out ((m + 1 : Nat) : Int))
    have BW : Hid (Below w.heap.size w W0) := BB
    have hWn : w.heap.size ≤ W0.heap.size := BB.out.size
    by_cases ht : there s (m + 1)
    · rw [decide_eq_true ((there_mem HOK.out (m + 1)).2 ht)] at HT
      have hk : isN (m + 1) := ht.1
      have hlp := pays_len HOK.out m
      have hrl := recs_len HOK.out (m + 1)
      have hN := fun W => Name_seg hk W
      by_cases hw : whole s (m + 1)
      · have HCl : Hid (∀ W, Below wr.heap.size wr W → Calls Tryz.prog 60 #[.pointer (some ⟨D, 0, none⟩), .string ⟨(nameW (m + 1)).toArray⟩] W fun e W' => ∃ v, e = .returned (.tuple #[v, .bool true, .int .i64 0]) ∧ Hid (Rws (fun j => W.heap.size ≤ j) W' v (recs (bytesOf s (m + 1)))) ∧ Hid (Below W.heap.size W W')) := fun W hW =>
          recordsOf_whole (G := Bx (Lo G w.heap.size) X) W D mb s ((HL.out.below hW).dq.mono fun k hk e => ⟨e, hk⟩) HOK hc.out.1 ht hw
        have HX : Hid (∀ W, Below wr.heap.size wr W → W.cell? ⟨X, 0, none⟩ = some (.pointer (some ⟨D, 0, none⟩)) ∧ W.cell? ⟨X, 2, none⟩ = some (.int .i64 ((max 1 m : Nat) : Int)) ∧ W.frozen? ⟨X, 2, none⟩ = false) := fun W hW => ⟨(HL.out.below hW).c0, (HL.out.below hW).c2, (HL.out.below hW).frozen 2⟩
        have HFull2 : Hid (full s (m + 1)) := fun i h1 h2 => by
          by_cases e : i = m + 1
          · subst e; exact ⟨ht, hw⟩
          · exact HFull.out i h1 (by omega)
        -- behind the store
        have HS : Hid (∀ W v u, Below wr.heap.size wr W → Rws (fun k => W0.heap.size ≤ k) wr v (pays s m) → Rws (fun j => wr.heap.size ≤ j) W u (recs (bytesOf s (m + 1))) →
            Rws (fun k => W0.heap.size ≤ k) (W.setCell ⟨X, 2, none⟩ (.int .i64 ((m + 1 : Nat) : Int))) v (pays s m) ∧ Rws (fun k => W0.heap.size ≤ k) (W.setCell ⟨X, 2, none⟩ (.int .i64 ((m + 1 : Nat) : Int))) u (recs (bytesOf s (m + 1))) ∧ Lq (Lo G w.heap.size) (W.setCell ⟨X, 2, none⟩ (.int .i64 ((m + 1 : Nat) : Int))) X D mb s ⟨max 1 (m + 1), g.failed⟩ size ∧ But (fun b => b = X) W0 (W.setCell ⟨X, 2, none⟩ (.int .i64 ((m + 1 : Nat) : Int)))) := fun W v u hW hv hu => by
          have hX : But (fun b => b = X) W (W.setCell ⟨X, 2, none⟩ (.int .i64 ((m + 1 : Nat) : Int))) := (But.refl (fun b => b = X) W).set (p := ⟨X, 2, none⟩) (.inl rfl) _
          refine ⟨(hv.below hW).but hX fun k hk e => by omega, ((hu.mono (P' := fun k => W0.heap.size ≤ k) fun k _ hk => Nat.le_trans HB.out.size hk)).but hX fun k hk e => by omega, ?_, (HB.out.trans (But.of_below (S := fun b => b = X) hW) fun _ _ e => e).set (p := ⟨X, 2, none⟩) (.inl rfl) _⟩
          rw [max_step]
          exact (HL.out.below hW).set2 (m + 1) hk
        have HE : Hid (∀ w5 w6 v v', Rws (fun k => W0.heap.size ≤ k) w5 v (pays s m) → w5.grownBy w6 v.ownBlock → Lq (Lo G w.heap.size) w5 X D mb s ⟨max 1 (m + 1), g.failed⟩ size → But (fun b => b = X) W0 w5 → Rws (fun k => W0.heap.size ≤ k) w6 v' (pays s m ++ recs (bytesOf s (m + 1))) →
            Hid (Rws (fun k => W0.heap.size ≤ k) w6 v' (pays s (m + 1))) ∧ Hid (Lq (Lo G w.heap.size) w6 X D mb s ⟨max 1 (m + 1), g.failed⟩ size) ∧ Hid (But (fun b => b = X) W0 w6)) := fun w5 w6 v v' hv hg hl hb hv' => by
          have hr : ∀ r, v.ownBlock = some r → W0.heap.size ≤ r := fun r e => hv.own r e
          have hb6 : But (fun b => W0.heap.size ≤ b) w5 w6 := (But.refl _ w5).grown hg fun r e => .inl (hr r e)
          exact ⟨hv', hl.but hb6 fun k hk e => by have := hk.2; omega, hb.grown hg fun r e => .inr (hr r e)⟩
        obtain ⟨ps, hps⟩ : ∃ ps, pays s m = ps := ⟨_, rfl⟩
        obtain ⟨rk, hrk⟩ : ∃ rk, recs (bytesOf s (m + 1)) = rk := ⟨_, rfl⟩
        rw [hps] at HR HS HE hlp
        rw [hrk] at HCl HS HE hrl
        have HLen : Hid ((ps.length + rk.length) * 24 ≤ 140737488355328) := by show _ ≤ _; omega
        have HM : Hid (m + 1 ≤ 99999) := hk.2
        obtain ⟨K, hK⟩ : ∃ K, m + 1 = K := ⟨_, rfl⟩
        have HK := Lib.hid hK
        rw [hK] at HT HS HCl hN HFull2 HE HM ⊢
        obtain ⟨Sn, hSn⟩ : ∃ Sn, (⟨(nameW K).toArray⟩ : ByteArray) = Sn := ⟨_, rfl⟩
        rw [hSn] at hN HCl
        have HN := Lib.hid hN
        have hK9 : (K : Int) ≤ 99999 := by have := HM.out; omega
        have hK0 : (0 : Int) ≤ (K : Int) := by omega
        clear hSn hK hps hrk hlp hrl hN hw ht hk HFull hm
        go_wp2_with ((first | go_at_call 58 | go_at_fn 58); refine HT.out.mono ?_; rintro e w2 ⟨rfl, b2⟩; obtain ⟨x0, x2, xf⟩ := HX.out w2 b2.out; have x0d : w2.drew.cell? ⟨X, 0, none⟩ = some (.pointer (some ⟨D, 0, none⟩)) := x0)
        refine wp_region_held_drew (S := fun W => W.cell? ⟨X, 0, none⟩ = some (.pointer (some ⟨D, 0, none⟩))) (by kernel_rfl) x0d (fun hHeld => ?_)
        refine wpAnyH_take (i := 0) (v := .pointer (some ⟨X, 0, none⟩)) rfl (by kernel_rfl) (by kernel_rfl) (by kernel_rfl) (fun _ _ _ h => h) (Or.inl ⟨by rfl, ?_⟩) (by first | assumption | exact trivial) ?_
        · intro W hSW; go_simp; try (with_reducible rfl)
        simp only [Act.put, List.getElem_toArray, List.getElem_cons_succ, List.getElem_cons_zero, List.setIfInBounds_toArray, List.set_cons_zero, List.set_cons_succ]
        refine wpAnyH_take (i := 1) (v := .pointer (some ⟨X, 0, none⟩)) rfl (by kernel_rfl) (by kernel_rfl) (by kernel_rfl) (fun _ _ _ h => h) (Or.inl ⟨by rfl, ?_⟩) (by first | assumption | exact trivial) ?_
        · intro W hSW; go_simp; try (with_reducible rfl)
        simp only [Act.put, List.getElem_toArray, List.getElem_cons_succ, List.getElem_cons_zero, List.setIfInBounds_toArray, List.set_cons_zero, List.set_cons_succ]
        refine wpAnyH_take (i := 2) (v := .pointer (some ⟨X, 0, none⟩)) rfl (by kernel_rfl) (by kernel_rfl) (by kernel_rfl) (fun _ _ _ h => h) (Or.inl ⟨by rfl, ?_⟩) (by first | assumption | exact trivial) ?_
        · intro W hSW; go_simp; try (with_reducible rfl)
        simp only [Act.put, List.getElem_toArray, List.getElem_cons_succ, List.getElem_cons_zero, List.setIfInBounds_toArray, List.set_cons_zero, List.set_cons_succ]
        refine wpAnyH_take (i := 3) (v := .pointer (some ⟨D, 0, none⟩)) rfl (by kernel_rfl) (by kernel_rfl) (by kernel_rfl) (fun _ _ _ h => h) (Or.inl ⟨by rfl, ?_⟩) (by first | assumption | exact trivial) ?_
        · intro W hSW; go_simp; try (with_reducible rfl)
        simp only [Act.put, List.getElem_toArray, List.getElem_cons_succ, List.getElem_cons_zero, List.setIfInBounds_toArray, List.set_cons_zero, List.set_cons_succ]
        refine wpAnyH_take (i := 4) (v := .int .i64 (K : Int)) rfl (by kernel_rfl) (by kernel_rfl) (by kernel_rfl) (fun _ _ _ h => h) (Or.inl ⟨by rfl, ?_⟩) (by first | assumption | exact trivial) ?_
        · intro W hSW; go_simp; try (with_reducible rfl)
        simp only [Act.put, List.getElem_toArray, List.getElem_cons_succ, List.getElem_cons_zero, List.setIfInBounds_toArray, List.set_cons_zero, List.set_cons_succ]
        refine wpAnyH_ready (rs := [5]) (by kernel_rfl) (by simp) ?_
        refine AllReadyH.cons rfl (fun K hK => ?_) AllReadyH.nil
        go_simp
        go_wp2_with (go_at_call 7; refine (HN.out _).mono ?_; rintro e w3 ⟨rfl, b3⟩; have B3 : Hid (Below wr.heap.size wr w3) := b2.out.trans (((Below.refl _ w2).drew.trans (b3.out.mono (Nat.le_refl _))).mono b2.out.size); have y0 := (HX.out w3 B3.out).1)
        refine hK.out _ _ (y0) (fun hHeld => ?_)
        clear hK K
        refine wpAnyH_ready (rs := [6]) (by kernel_rfl) (by simp) ?_
        refine AllReadyH.cons rfl (fun K hK => ?_) AllReadyH.nil
        go_simp
        go_wp2_with (go_at_call 60; refine (HCl.out w3 B3.out).mono ?_; rintro e w4 ⟨u, rfl, hu, b4⟩; have B4 : Hid (Below wr.heap.size wr w4) := B3.out.trans (b4.out.mono B3.out.size); have z0 := (HX.out w4 B4.out).1)
        refine hK.out _ _ (z0) (fun hHeld => ?_)
        clear hK K
        refine wpAnyH_take (i := 7) (v := .tuple #[u, .bool true, .int .i64 0]) rfl (by kernel_rfl) (by kernel_rfl) (by kernel_rfl) (fun _ _ _ h => h) (Or.inl ⟨by rfl, ?_⟩) (by first | assumption | exact trivial) ?_
        · intro W hSW; go_simp; try (with_reducible rfl)
        simp only [Act.put, List.getElem_toArray, List.getElem_cons_succ, List.getElem_cons_zero, List.setIfInBounds_toArray, List.set_cons_zero, List.set_cons_succ]
        refine wpAnyH_take (i := 8) (v := u) rfl (by kernel_rfl) (by kernel_rfl) (by kernel_rfl) (fun _ _ _ h => h) (Or.inl ⟨by rfl, ?_⟩) (by first | assumption | exact trivial) ?_
        · intro W hSW; go_simp; try (with_reducible rfl)
        simp only [Act.put, List.getElem_toArray, List.getElem_cons_succ, List.getElem_cons_zero, List.setIfInBounds_toArray, List.set_cons_zero, List.set_cons_succ]
        refine wpAnyH_take (i := 9) (v := .bool true) rfl (by kernel_rfl) (by kernel_rfl) (by kernel_rfl) (fun _ _ _ h => h) (Or.inl ⟨by rfl, ?_⟩) (by first | assumption | exact trivial) ?_
        · intro W hSW; go_simp; try (with_reducible rfl)
        simp only [Act.put, List.getElem_toArray, List.getElem_cons_succ, List.getElem_cons_zero, List.setIfInBounds_toArray, List.set_cons_zero, List.set_cons_succ]
        refine wpAnyH_take (i := 10) (v := .int .i64 0) rfl (by kernel_rfl) (by kernel_rfl) (by kernel_rfl) (fun _ _ _ h => h) (Or.inl ⟨by rfl, ?_⟩) (by first | assumption | exact trivial) ?_
        · intro W hSW; go_simp; try (with_reducible rfl)
        simp only [Act.put, List.getElem_toArray, List.getElem_cons_succ, List.getElem_cons_zero, List.setIfInBounds_toArray, List.set_cons_zero, List.set_cons_succ]
        refine wpAnyH_take (i := 11) (v := u) rfl (by kernel_rfl) (by kernel_rfl) (by kernel_rfl) (fun _ _ _ h => h) (Or.inl ⟨by rfl, ?_⟩) (by first | assumption | exact trivial) ?_
        · intro W hSW; go_simp; try (with_reducible rfl)
        simp only [Act.put, List.getElem_toArray, List.getElem_cons_succ, List.getElem_cons_zero, List.setIfInBounds_toArray, List.set_cons_zero, List.set_cons_succ]
        refine wpAnyH_take (i := 12) (v := .bool true) rfl (by kernel_rfl) (by kernel_rfl) (by kernel_rfl) (fun _ _ _ h => h) (Or.inl ⟨by rfl, ?_⟩) (by first | assumption | exact trivial) ?_
        · intro W hSW; go_simp; try (with_reducible rfl)
        simp only [Act.put, List.getElem_toArray, List.getElem_cons_succ, List.getElem_cons_zero, List.setIfInBounds_toArray, List.set_cons_zero, List.set_cons_succ]
        refine wpAnyH_take (i := 13) (v := .int .i64 0) rfl (by kernel_rfl) (by kernel_rfl) (by kernel_rfl) (fun _ _ _ h => h) (Or.inl ⟨by rfl, ?_⟩) (by first | assumption | exact trivial) ?_
        · intro W hSW; go_simp; try (with_reducible rfl)
        simp only [Act.put, List.getElem_toArray, List.getElem_cons_succ, List.getElem_cons_zero, List.setIfInBounds_toArray, List.set_cons_zero, List.set_cons_succ]
        refine wpAnyH_done (by kernel_rfl) ?_ _
        obtain ⟨_, z2, zf⟩ := HX.out w4 B4.out
        obtain ⟨r5, u5, l5, c5⟩ := HS.out w4 _ u B4.out HR.out (hu.out.mono fun j _ hj => Nat.le_trans B3.out.size hj)
        obtain ⟨w5, hw5⟩ : ∃ w5, w4.setCell ⟨X, 2, none⟩ (.int .i64 (K : Int)) = w5 := ⟨_, rfl⟩
        rw [hw5] at r5 u5 l5 c5
        have R5 := Lib.hid r5
        have U5 := Lib.hid u5
        have L5 := Lib.hid l5
        have C5 := Lib.hid c5
        have HW5 := Lib.hid hw5
        clear r5 u5 l5 c5 x0 x2 xf x0d y0 z0 hw5 HX HCl HN HS HT
        go_wp2_with (at_builtin; rw [HW5.out]; refine appQs rfl (.tmp 41) (.tmp 42) rfl (fun k => W0.heap.size ≤ k) _ u ps rk rfl R5.out rfl U5.out (fun k hk => Nat.le_trans C5.out.size hk) HLen.out ?_; intro v6 w6 q1 q2 q3; obtain ⟨r6, l6, c6⟩ := HE.out w5 w6 _ v6 R5.out q2 L5.out C5.out q1; clear q1 q2 q3)
        go_roundw
        case rel => exact ⟨K, HM.out, by go_num, HFull2, r6, l6, c6⟩
        case measure => simp [intOf]; omega
      · obtain ⟨hce, hcs⟩ := cut_is HOK.out hc.out ht
        have hgood : Good (cutS s (nameW (m + 1)) (siz (recs (bytesOf s (m + 1))) : Int)) ⟨max 1 m, g.failed⟩ := ⟨HOK.out.cut _ _, HL.out.good.seg.cut hk _, HL.out.good.num⟩
        have HCl : Hid (∀ W, Below wr.heap.size wr W → Calls Tryz.prog 60 #[.pointer (some ⟨D, 0, none⟩), .string ⟨(nameW (m + 1)).toArray⟩] W fun e W' => ∃ v t, e = .returned (.tuple #[v, .bool false, .int .i64 0]) ∧ Hid (Rws (fun j => W.heap.size ≤ j ∧ j < t) W' v (recs (bytesOf s (m + 1)))) ∧ Hid (Dq (Gn (Lo (Bx (Lo G w.heap.size) X) W.heap.size) t) W' D mb (cutS s (nameW (m + 1)) (siz (recs (bytesOf s (m + 1))) : Int))) ∧ Hid (But (Lo (Bx (Lo G w.heap.size) X) W.heap.size) W W') ∧ Hid (W.heap.size ≤ t)) := fun W hW => by
          have := recordsOf_cut (G := Bx (Lo G w.heap.size) X) W D mb s ((HL.out.below hW).dq.mono fun k hk e => ⟨e, hk⟩) HOK hc.out.1 ht hw
          rw [hce] at this
          exact this
        have HX : Hid (∀ W, Below wr.heap.size wr W → W.cell? ⟨X, 0, none⟩ = some (.pointer (some ⟨D, 0, none⟩))) := fun W hW => (HL.out.below hW).c0
        have HL4 : Hid (∀ W W' t, Below wr.heap.size wr W → But (Lo (Bx (Lo G w.heap.size) X) W.heap.size) W W' → W.heap.size ≤ t → Dq (Gn (Lo (Bx (Lo G w.heap.size) X) W.heap.size) t) W' D mb (cutS s (nameW (m + 1)) (siz (recs (bytesOf s (m + 1))) : Int)) → Lq (Mid (Lo G w.heap.size) t W'.heap.size) W' X D mb (cutS s (nameW (m + 1)) (siz (recs (bytesOf s (m + 1))) : Int)) ⟨max 1 m, g.failed⟩ size) := fun W W' t hW hb ht hd => by
          have hl := HL.out.below hW
          have hsz : w.heap.size ≤ W.heap.size := Nat.le_trans hWn (Nat.le_trans HB.out.size hW.size)
          refine ⟨(hb.same X hl.lt fun e => e.1.2 rfl).trans hl.blk, hd.mono fun k hk e => ?_, .inl HL.out.gX, hgood, HL.out.cap⟩
          rcases e with e | e
          · exact ⟨.inl e.1.1, e.1.2⟩
          · exact ⟨.inr ⟨e, hk⟩, by omega⟩
        -- behind the store
        have HS : Hid (∀ W W' t v u, Below wr.heap.size wr W → But (Lo (Bx (Lo G w.heap.size) X) W.heap.size) W W' → W.heap.size ≤ t → Rws (fun k => W0.heap.size ≤ k) wr v (pays s m) → Rws (fun j => W.heap.size ≤ j ∧ j < t) W' u (recs (bytesOf s (m + 1))) →
            Rws (fun k => w.heap.size ≤ k ∧ ¬ (t ≤ k ∧ k < W'.heap.size)) (W'.setCell ⟨X, 2, none⟩ (.int .i64 ((m + 1 : Nat) : Int))) v (pays s m) ∧ Rws (fun k => w.heap.size ≤ k ∧ ¬ (t ≤ k ∧ k < W'.heap.size)) (W'.setCell ⟨X, 2, none⟩ (.int .i64 ((m + 1 : Nat) : Int))) u (recs (bytesOf s (m + 1))) ∧ (∀ k, (W'.setCell ⟨X, 2, none⟩ (.int .i64 ((m + 1 : Nat) : Int))).heap.size ≤ k → w.heap.size ≤ k ∧ ¬ (t ≤ k ∧ k < W'.heap.size)) ∧ But (Lo G w.heap.size) w (W'.setCell ⟨X, 2, none⟩ (.int .i64 ((m + 1 : Nat) : Int)))) := fun W W' t v u hW hb ht hv hu => by
          have hX : But (fun b => b = X) W' (W'.setCell ⟨X, 2, none⟩ (.int .i64 ((m + 1 : Nat) : Int))) := (But.refl (fun b => b = X) W').set (p := ⟨X, 2, none⟩) (.inl rfl) _
          have hWs : W0.heap.size ≤ W.heap.size := Nat.le_trans HB.out.size hW.size
          have hv3 : Rws (fun k => W0.heap.size ≤ k ∧ k < W.heap.size) W v (pays s m) := (hv.below hW).mono fun k hk e => ⟨e, hk⟩
          have hv4 : Rws (fun k => W0.heap.size ≤ k ∧ k < W.heap.size) W' v (pays s m) := hv3.but hb fun k hk e => by have := e.1.1.2; omega
          refine ⟨(hv4.but hX fun k hk e => by omega).mono fun k _ hk => ⟨by omega, by omega⟩, (hu.but hX fun k hk e => by omega).mono fun k _ hk => ⟨by omega, by omega⟩, fun k hk => ?_, ?_⟩
          · have h1 : W'.heap.size ≤ k := by simpa using hk
            have := hb.size
            exact ⟨by omega, by omega⟩
          · have b1 : But (Lo G w.heap.size) w wr := (But.of_below BB.out).trans HB.out fun b hb e => e ▸ HL.out.gX
            have b2 : But (Lo G w.heap.size) w W := b1.trans (But.of_below (S := fun _ => False) hW) fun _ _ e => e.elim
            have b3 : But (Lo G w.heap.size) w W' := b2.trans hb fun _ _ e => e.1.1
            exact b3.set (p := ⟨X, 2, none⟩) (.inl HL.out.gX) _
        have HQ : Hid (∀ W' t w6 v v', w.heap.size ≤ t → Lq (Mid (Lo G w.heap.size) t W'.heap.size) W' X D mb (cutS s (nameW (m + 1)) (siz (recs (bytesOf s (m + 1))) : Int)) ⟨max 1 m, g.failed⟩ size → Rws (fun k => w.heap.size ≤ k ∧ ¬ (t ≤ k ∧ k < W'.heap.size)) (W'.setCell ⟨X, 2, none⟩ (.int .i64 ((m + 1 : Nat) : Int))) v (pays s m) → But (Lo G w.heap.size) w (W'.setCell ⟨X, 2, none⟩ (.int .i64 ((m + 1 : Nat) : Int))) → (W'.setCell ⟨X, 2, none⟩ (.int .i64 ((m + 1 : Nat) : Int))).grownBy w6 v.ownBlock → Rws (fun k => w.heap.size ≤ k ∧ ¬ (t ≤ k ∧ k < W'.heap.size)) w6 v' (pays s m ++ recs (bytesOf s (m + 1))) → LoP G w X D mb size s g (.returned (.tuple #[v', .int .i64 0])) w6) := fun W' t w6 v v' ht2 hl hv hb hg hv' => by
          have l5 := hl.set2 (m + 1) hk
          have hr := fun r e => hv.own r e
          have hb6 : But (fun k => w.heap.size ≤ k ∧ ¬ (t ≤ k ∧ k < W'.heap.size)) (W'.setCell ⟨X, 2, none⟩ (.int .i64 ((m + 1 : Nat) : Int))) w6 := (But.refl _ _).grown hg fun r e => .inl (hr r e)
          refine ⟨_, m + 1, pays s (m + 1), v', t, W'.heap.size, rfl, ⟨m, HFull.out, .inr ⟨ht, hw, rfl, rfl, rfl⟩⟩, ht2, hv', l5.but hb6 fun k hk e => ?_, hb.grown hg fun r e => .inr (hr r e).1⟩
          rcases hk with hk | hk
          · have := hk.2; omega
          · exact e.2 hk
        obtain ⟨cs, hcs2⟩ : ∃ cs, cutS s (nameW (m + 1)) (siz (recs (bytesOf s (m + 1))) : Int) = cs := ⟨_, rfl⟩
        obtain ⟨ps, hps⟩ : ∃ ps, pays s m = ps := ⟨_, rfl⟩
        obtain ⟨rk, hrk⟩ : ∃ rk, recs (bytesOf s (m + 1)) = rk := ⟨_, rfl⟩
        rw [hcs2] at HCl HL4 HQ
        rw [hps] at HR HS HQ hlp
        rw [hrk] at HCl HS HQ hrl
        have HLen : Hid ((ps.length + rk.length) * 24 ≤ 140737488355328) := by show _ ≤ _; omega
        obtain ⟨K, hK⟩ : ∃ K, m + 1 = K := ⟨_, rfl⟩
        rw [hK] at HT HS HCl hN HQ ⊢
        obtain ⟨Sn, hSn⟩ : ∃ Sn, (⟨(nameW K).toArray⟩ : ByteArray) = Sn := ⟨_, rfl⟩
        rw [hSn] at hN HCl
        have HN := Lib.hid hN
        have HWR : Hid (w.heap.size ≤ wr.heap.size) := Nat.le_trans hWn HB.out.size
        clear hSn hK hps hrk hlp hrl hN hw ht hk HFull hm hce hcs hcs2 hgood
        go_wp2_with ((first | go_at_call 58 | go_at_fn 58); refine HT.out.mono ?_; rintro e w2 ⟨rfl, b2⟩; have x0 := HX.out w2 b2.out; have x0d : w2.drew.cell? ⟨X, 0, none⟩ = some (.pointer (some ⟨D, 0, none⟩)) := x0)
        refine wp_region_held_drew (S := fun W => W.cell? ⟨X, 0, none⟩ = some (.pointer (some ⟨D, 0, none⟩))) (by kernel_rfl) x0d (fun hHeld => ?_)
        refine wpAnyH_take (i := 0) (v := .pointer (some ⟨X, 0, none⟩)) rfl (by kernel_rfl) (by kernel_rfl) (by kernel_rfl) (fun _ _ _ h => h) (Or.inl ⟨by rfl, ?_⟩) (by first | assumption | exact trivial) ?_
        · intro W hSW; go_simp; try (with_reducible rfl)
        simp only [Act.put, List.getElem_toArray, List.getElem_cons_succ, List.getElem_cons_zero, List.setIfInBounds_toArray, List.set_cons_zero, List.set_cons_succ]
        refine wpAnyH_take (i := 1) (v := .pointer (some ⟨X, 0, none⟩)) rfl (by kernel_rfl) (by kernel_rfl) (by kernel_rfl) (fun _ _ _ h => h) (Or.inl ⟨by rfl, ?_⟩) (by first | assumption | exact trivial) ?_
        · intro W hSW; go_simp; try (with_reducible rfl)
        simp only [Act.put, List.getElem_toArray, List.getElem_cons_succ, List.getElem_cons_zero, List.setIfInBounds_toArray, List.set_cons_zero, List.set_cons_succ]
        refine wpAnyH_take (i := 2) (v := .pointer (some ⟨X, 0, none⟩)) rfl (by kernel_rfl) (by kernel_rfl) (by kernel_rfl) (fun _ _ _ h => h) (Or.inl ⟨by rfl, ?_⟩) (by first | assumption | exact trivial) ?_
        · intro W hSW; go_simp; try (with_reducible rfl)
        simp only [Act.put, List.getElem_toArray, List.getElem_cons_succ, List.getElem_cons_zero, List.setIfInBounds_toArray, List.set_cons_zero, List.set_cons_succ]
        refine wpAnyH_take (i := 3) (v := .pointer (some ⟨D, 0, none⟩)) rfl (by kernel_rfl) (by kernel_rfl) (by kernel_rfl) (fun _ _ _ h => h) (Or.inl ⟨by rfl, ?_⟩) (by first | assumption | exact trivial) ?_
        · intro W hSW; go_simp; try (with_reducible rfl)
        simp only [Act.put, List.getElem_toArray, List.getElem_cons_succ, List.getElem_cons_zero, List.setIfInBounds_toArray, List.set_cons_zero, List.set_cons_succ]
        refine wpAnyH_take (i := 4) (v := .int .i64 (K : Int)) rfl (by kernel_rfl) (by kernel_rfl) (by kernel_rfl) (fun _ _ _ h => h) (Or.inl ⟨by rfl, ?_⟩) (by first | assumption | exact trivial) ?_
        · intro W hSW; go_simp; try (with_reducible rfl)
        simp only [Act.put, List.getElem_toArray, List.getElem_cons_succ, List.getElem_cons_zero, List.setIfInBounds_toArray, List.set_cons_zero, List.set_cons_succ]
        refine wpAnyH_ready (rs := [5]) (by kernel_rfl) (by simp) ?_
        refine AllReadyH.cons rfl (fun K hK => ?_) AllReadyH.nil
        go_simp
        go_wp2_with (go_at_call 7; refine (HN.out _).mono ?_; rintro e w3 ⟨rfl, b3⟩; have B3 : Hid (Below wr.heap.size wr w3) := b2.out.trans (((Below.refl _ w2).drew.trans (b3.out.mono (Nat.le_refl _))).mono b2.out.size); have y0 := HX.out w3 B3.out)
        refine hK.out _ _ (y0) (fun hHeld => ?_)
        clear hK K
        refine wpAnyH_ready (rs := [6]) (by kernel_rfl) (by simp) ?_
        refine AllReadyH.cons rfl (fun K hK => ?_) AllReadyH.nil
        go_simp
        go_wp2_with (go_at_call 60; refine (HCl.out w3 B3.out).mono ?_; rintro e w4 ⟨u, t, rfl, hu, hd4, b4, ht4⟩; have L4 := Lib.hid (HL4.out w3 w4 t B3.out b4.out ht4.out hd4.out); have z0 := L4.out.c0)
        refine hK.out _ _ (z0) (fun hHeld => ?_)
        clear hK K
        refine wpAnyH_take (i := 7) (v := .tuple #[u, .bool false, .int .i64 0]) rfl (by kernel_rfl) (by kernel_rfl) (by kernel_rfl) (fun _ _ _ h => h) (Or.inl ⟨by rfl, ?_⟩) (by first | assumption | exact trivial) ?_
        · intro W hSW; go_simp; try (with_reducible rfl)
        simp only [Act.put, List.getElem_toArray, List.getElem_cons_succ, List.getElem_cons_zero, List.setIfInBounds_toArray, List.set_cons_zero, List.set_cons_succ]
        refine wpAnyH_take (i := 8) (v := u) rfl (by kernel_rfl) (by kernel_rfl) (by kernel_rfl) (fun _ _ _ h => h) (Or.inl ⟨by rfl, ?_⟩) (by first | assumption | exact trivial) ?_
        · intro W hSW; go_simp; try (with_reducible rfl)
        simp only [Act.put, List.getElem_toArray, List.getElem_cons_succ, List.getElem_cons_zero, List.setIfInBounds_toArray, List.set_cons_zero, List.set_cons_succ]
        refine wpAnyH_take (i := 9) (v := .bool false) rfl (by kernel_rfl) (by kernel_rfl) (by kernel_rfl) (fun _ _ _ h => h) (Or.inl ⟨by rfl, ?_⟩) (by first | assumption | exact trivial) ?_
        · intro W hSW; go_simp; try (with_reducible rfl)
        simp only [Act.put, List.getElem_toArray, List.getElem_cons_succ, List.getElem_cons_zero, List.setIfInBounds_toArray, List.set_cons_zero, List.set_cons_succ]
        refine wpAnyH_take (i := 10) (v := .int .i64 0) rfl (by kernel_rfl) (by kernel_rfl) (by kernel_rfl) (fun _ _ _ h => h) (Or.inl ⟨by rfl, ?_⟩) (by first | assumption | exact trivial) ?_
        · intro W hSW; go_simp; try (with_reducible rfl)
        simp only [Act.put, List.getElem_toArray, List.getElem_cons_succ, List.getElem_cons_zero, List.setIfInBounds_toArray, List.set_cons_zero, List.set_cons_succ]
        refine wpAnyH_take (i := 11) (v := u) rfl (by kernel_rfl) (by kernel_rfl) (by kernel_rfl) (fun _ _ _ h => h) (Or.inl ⟨by rfl, ?_⟩) (by first | assumption | exact trivial) ?_
        · intro W hSW; go_simp; try (with_reducible rfl)
        simp only [Act.put, List.getElem_toArray, List.getElem_cons_succ, List.getElem_cons_zero, List.setIfInBounds_toArray, List.set_cons_zero, List.set_cons_succ]
        refine wpAnyH_take (i := 12) (v := .bool false) rfl (by kernel_rfl) (by kernel_rfl) (by kernel_rfl) (fun _ _ _ h => h) (Or.inl ⟨by rfl, ?_⟩) (by first | assumption | exact trivial) ?_
        · intro W hSW; go_simp; try (with_reducible rfl)
        simp only [Act.put, List.getElem_toArray, List.getElem_cons_succ, List.getElem_cons_zero, List.setIfInBounds_toArray, List.set_cons_zero, List.set_cons_succ]
        refine wpAnyH_take (i := 13) (v := .int .i64 0) rfl (by kernel_rfl) (by kernel_rfl) (by kernel_rfl) (fun _ _ _ h => h) (Or.inl ⟨by rfl, ?_⟩) (by first | assumption | exact trivial) ?_
        · intro W hSW; go_simp; try (with_reducible rfl)
        simp only [Act.put, List.getElem_toArray, List.getElem_cons_succ, List.getElem_cons_zero, List.setIfInBounds_toArray, List.set_cons_zero, List.set_cons_succ]
        refine wpAnyH_done (by kernel_rfl) ?_ _
        have z2 := L4.out.c2
        have zf := L4.out.frozen 2
        obtain ⟨r5, u5, p5, c5⟩ := HS.out w3 w4 t _ u B3.out b4.out ht4.out HR.out hu.out
        have HQ5 := Lib.hid (fun w6 v' => HQ.out w4 t w6 _ v' (Nat.le_trans HWR.out (Nat.le_trans B3.out.size ht4.out)) L4.out r5 c5)
        obtain ⟨w5, hw5⟩ : ∃ w5, w4.setCell ⟨X, 2, none⟩ (.int .i64 (K : Int)) = w5 := ⟨_, rfl⟩
        rw [hw5] at r5 u5 p5 HQ5
        have R5 := Lib.hid r5
        have U5 := Lib.hid u5
        have P5 := Lib.hid p5
        have HW5 := Lib.hid hw5
        clear r5 u5 p5 c5 x0 x0d y0 z0 hw5 HX HCl HN HS HT HQ HL4
        go_wp2_with (at_builtin; rw [HW5.out]; refine appQs rfl (.tmp 41) (.tmp 42) rfl _ _ u ps rk rfl R5.out rfl U5.out P5.out HLen.out ?_; intro v6 w6 q1 q2 q3; have HF := Lib.hid (HQ5.out w6 v6 q2 q1); clear q1 q2 q3)
        try rw [Exit.noGoto_ret]
        go_returns
        exact HF.out
    · rw [decide_eq_false fun e => ht ((there_mem HOK.out (m + 1)).1 e)] at HT
      have HQ : Hid (∀ w2, Below wr.heap.size wr w2 → ∀ v, Rws (fun k => W0.heap.size ≤ k) wr v (pays s m) → LoP G w X D mb size s g (.returned (.tuple #[v, .int .i64 0])) w2) := fun w2 hb v hv =>
        ⟨s, max 1 m, pays s m, v, w.heap.size, w.heap.size, rfl, ⟨m, HFull.out, .inl ⟨ht, rfl, rfl, rfl⟩⟩, Nat.le_refl _, (hv.below hb).mono (P' := fun k => w.heap.size ≤ k ∧ ¬ (w.heap.size ≤ k ∧ k < w.heap.size)) fun k _ hk => ⟨Nat.le_trans hWn hk, by omega⟩, (HL.out.below hb).mono fun k _ hk => .inl hk, ((But.of_below BB.out).trans HB.out fun b hb e => e ▸ HL.out.gX).trans (But.of_below (S := fun _ => False) hb) fun _ _ e => e.elim⟩
      obtain ⟨K, hK⟩ : ∃ K, m + 1 = K := ⟨_, rfl⟩
      rw [hK] at HT ⊢
      clear hK ht
      go_wp2_with ((first | go_at_call 58 | go_at_fn 58); refine HT.out.mono ?_; rintro e w2 ⟨rfl, b2⟩)
      try rw [Exit.noGoto_ret]
      go_returns
      exact HQ.out w2 b2.out _ HR.out
end
end Go.Proofs.YtbacgljeadalbaaGreatDoor.Wl
/- Numbers turned round in their place; what Open's two functions answer. -/
namespace Go.Proofs.YtbacgljeadalbaaGreatDoor.Wl
open Go.RowKit
open Go.Proofs.YtbacgljeadalbaaGreatDoor.Me Go.Proofs.YtbacgljeadalbaaGreatDoor.Hd Go.Proofs.YtbacgljeadalbaaGreatDoor.Dk Go.Proofs.YtbacgljeadalbaaGreatDoor.Rc
set_option linter.unusedVariables false
set_option linter.unusedSimpArgs false

theorem rev_any (w : World) (B : Nat) (A : Option Addr) (c : Nat) (l : List Int) (h : Mi.Own w B (.slice A l.length c) l) (hl : l.length ≤ 9223372036854775807) :
    Calls Tryz.prog 43 #[.slice A l.length c] w fun e w' => e = .returned (.tuple #[]) ∧ Mi.Rd w' w'.heap.size A l.reverse ∧ But (fun k => B ≤ k) w w' := by
  by_cases h0 : l = []
  · subst h0
    refine (Tryz.RevI0 A c w).mono ?_
    rintro e w' ⟨rfl, rfl⟩
    exact ⟨rfl, Mi.Rd.nil _ _ _, But.refl _ _⟩
  · rcases h.2 with ⟨h1, h2⟩ | ⟨g, cap, cur, h1, h2, h3, h4, h5, h6, h7⟩
    · exact absurd (by simpa using h2) h0
    · injection h1 with a1 a2 a3
      subst a1
      have hlt := h.lt g rfl
      have hH : Sort.Holds (Value.int .i64) w g 0 l.toArray := fun j hj => by
        have hj' : j < l.length := by simpa using hj
        refine ⟨?_, frozen_of_row w g (0 + j) _ _ h3⟩
        rw [Nat.zero_add, World.ownsRow.cellAt h j (by omega)]
        simp [hj', Mi.iV]
      refine (Tryz.RevI g 0 c l w hH hl).mono ?_
      rintro e w' ⟨rfl, n, rfl⟩
      refine ⟨rfl, fun hp => ⟨g, 0, rfl, by simpa using hlt.2, fun i hi => ?_⟩, rfl, rfl, rfl, by simp, fun k hk hS => ?_⟩
      · rw [Sort.cell?_putRow (Value.int .i64) (Sort.ahead w n) g 0 l.toArray l.reverse.toArray hH (by simp) i (by simpa using hi)]
        have hi2 : i < l.length := by simpa using hi
        simp [Mi.at_, List.getD, hi2]
      · have hne : g ≠ k := fun e => hS (e ▸ hlt.1)
        simp [Sort.putRow, Sort.mapBlock, Array.getElem?_modify, hne, Sort.ahead]
theorem lows_any (w : World) (b : Nat) (k : Int) (hb : w.cell? ⟨b, 0, none⟩ = some (.int .i64 1)) : Calls Tryz.prog 39 #[.int .i64 k, .pointer (some ⟨b, 0, none⟩)] w fun e w' => e = .returned (.bool (decide (k < 1))) ∧ w = w' := by
  go_enter Tryz.func39, Tryz.ntmps39
  go_wp2
  go_ret
  exact ⟨rfl, rfl⟩
theorem highs_any (w : World) (b X : Nat) (k last : Int) (hb : w.cell? ⟨b, 0, none⟩ = some (.pointer (some ⟨X, 0, none⟩))) (hx : w.cell? ⟨X, 2, none⟩ = some (.int .i64 last)) : Calls Tryz.prog 42 #[.int .i64 k, .pointer (some ⟨b, 0, none⟩)] w fun e w' => e = .returned (.bool (decide (last < k))) ∧ w = w' := by
  go_enter Tryz.func42, Tryz.ntmps42
  go_wp2
  go_ret
  exact ⟨rfl, rfl⟩
theorem ask_lows {w : World} {b : Nat} (hb : w.cell? ⟨b, 0, none⟩ = some (.int .i64 1)) (hl : b < w.heap.size) : Ask w 39 #[.pointer (some ⟨b, 0, none⟩)] (fun k => decide (k < 1)) := fun k W hk hW => by
  have e : decide ((k : Int) < 1) = decide (k < 1) := by rw [decide_eq_decide]; omega
  have := lows_any W b (k : Int) (by rw [hW.cell (p := ⟨b, 0, none⟩) hl]; exact hb)
  rw [e] at this
  exact this.mono fun e W' ⟨h1, h2⟩ => ⟨h1, h2 ▸ Below.refl _ _⟩
theorem ask_highs {w : World} {b X last : Nat} (hb : w.cell? ⟨b, 0, none⟩ = some (.pointer (some ⟨X, 0, none⟩))) (hl : b < w.heap.size) (hx : w.cell? ⟨X, 2, none⟩ = some (.int .i64 (last : Int))) (hlX : X < w.heap.size) : Ask w 42 #[.pointer (some ⟨b, 0, none⟩)] (fun k => decide (last < k)) := fun k W hk hW => by
  have e : decide ((last : Int) < (k : Int)) = decide (last < k) := by rw [decide_eq_decide]; omega
  have := highs_any W b X (k : Int) (last : Int) (by rw [hW.cell (p := ⟨b, 0, none⟩) hl]; exact hb) (by rw [hW.cell (p := ⟨X, 2, none⟩) hlX]; exact hx)
  rw [e] at this
  exact this.mono fun e W' ⟨h1, h2⟩ => ⟨h1, h2 ▸ Below.refl _ _⟩
theorem loads_calm {s s1 : St} {last : Nat} {ps : List (List Nat)} (ok : s.Ok) (hc : Calm s) (h : Loads s s1 last ps) : Calm s1 := by
  obtain ⟨m, _, ⟨_, _, _, rfl⟩ | ⟨ht, _, _, _, rfl⟩⟩ := h
  · exact hc
  · rw [(cut_is ok hc ht).2]
    exact ⟨rfl, rfl⟩
end Go.Proofs.YtbacgljeadalbaaGreatDoor.Wl
