/- The log's Sync and Begin. -/
import Derived.Test.YtbacgljeadalbaaGreatDoorZ7
import Derived.Test.YtbacgljeadalbaaGreatDoorZ8
import Derived.Test.YtbacgljeadalbaaGreatDoorZ11
namespace Go.Proofs.YtbacgljeadalbaaGreatDoor.Wl
open Go.RowKit
open Go.Proofs.YtbacgljeadalbaaGreatDoor.Me Go.Proofs.YtbacgljeadalbaaGreatDoor.Hd Go.Proofs.YtbacgljeadalbaaGreatDoor.Dk
set_option linter.unusedVariables false
set_option linter.unusedSimpArgs false

theorem sx_drew {w W : World} {X D last : Nat} (h : Sx w X D last W) : Sx w X D last W.drew := ⟨h.1, h.2.1, h.2.2.drew⟩
section
variable {G : Nat → Prop} (w : World) (X D mb : Nat) (s : St) (g : Lg) (size : Nat)
set_option maxHeartbeats 2000000 in
theorem Sync_any (h : Hid (Lq G w X D mb s g size)) : Calls Tryz.prog 13 #[.pointer (some ⟨X, 0, none⟩)] w (WlP G w X D mb size (syncR s g)) := by
  have c0 := h.out.c0
  have c4 := h.out.c4
  cases hf : g.failed with
  | true =>
    rw [hf] at c4
    have HR : Hid (syncR s g = ⟨s, g, 7⟩) := by show _ = _; simp [syncR, hf]
    have HQ : Hid (WlP G w X D mb size (syncR s g) (.returned (.int .i64 7)) w) := by
      show WlP _ _ _ _ _ _ _ _ _
      rw [HR.out]
      exact ⟨rfl, h.out.wide _, But.refl _ _⟩
    clear hf HR c0
    go_enter Tryz.func13, Tryz.ntmps13
    go_wp2
    go_ret
    exact HQ.out
  | false =>
    rw [hf] at c4
    have HDn := Lib.hid (Down_any w D mb s h.out.dq)
    cases hd : s.down with
    | true =>
      rw [hd] at HDn
      have HR : Hid (syncR s g = note s g 9) := by show _ = _; simp [syncR, hf, hd]
      have HNt := Lib.hid (noted_any w X D mb s g size h 9)
      have HQ : Hid (∀ w', Lq G w' X D mb s (note s g 9).g size → But G w w' → WlP G w X D mb size (syncR s g) (.returned (.int .i64 9)) w') := fun w' h1 h2 => by
        rw [HR.out]
        exact ⟨rfl, h1.wide _, h2⟩
      rw [show ((9 : Nat) : Int) = 9 from rfl] at HNt
      clear hf hd HR
      go_enter Tryz.func13, Tryz.ntmps13
      go_wp2_with (first
        | (go_at_call 33; refine HDn.out.mono ?_; rintro e w' ⟨rfl, rfl⟩)
        | (go_at_call 32; refine HNt.out.mono ?_; rintro e w2 ⟨rfl, h2, hb2⟩))
      go_ret
      exact HQ.out w2 h2.out hb2.out
    | false =>
      rw [hd] at HDn
      have hk := h.out.good.num
      have HL : Hid (∀ W, Sx w X D g.last W → Calls Tryz.prog 31 #[.pointer (some ⟨X, 0, none⟩), .int .i64 (g.last : Int)] W fun e W' => e = .returned (.int .i64 (lenS s g.last : Int)) ∧ Sx w X D g.last W') := fun W hW =>
        (length_any W X D mb s g size (h.out.below hW.2.2) hk).mono fun e W' ⟨h1, h2⟩ => ⟨h1, h.out.sx (hW.2.2.trans (h2.out.mono hW.2.2.size))⟩
      have HN : Hid (∀ W, Sx w X D g.last W → Calls Tryz.prog 7 #[.int .i64 (g.last : Int)] W fun e W' => e = .returned (.string ⟨(nameW g.last).toArray⟩) ∧ Sx w X D g.last W') := fun W hW =>
        (Name_seg hk W).mono fun e W' ⟨h1, h2⟩ => ⟨h1, h.out.sx (hW.2.2.trans (h2.out.mono hW.2.2.size))⟩
      have HS : Hid (∀ W, Sx w X D g.last W → Calls Tryz.prog 34 #[.pointer (some ⟨D, 0, none⟩), .string ⟨(nameW g.last).toArray⟩] W fun e W' => e = .returned (.int .i64 ((fileOf s (nameW g.last)).safe : Int)) ∧ Sx w X D g.last W') := fun W hW =>
        (Safe_any W D mb s (h.out.dq.below hW.2.2) (nameW g.last) (by rw [nameW_len]; unfold maxLen; omega)).mono fun e W' ⟨h1, h2⟩ => ⟨h1, h2 ▸ hW⟩
      have S0 : Hid (Sx w X D g.last w.drew) := h.out.sx (Below.refl _ w).drew
      by_cases he : lenS s g.last = (fileOf s (nameW g.last)).safe
      · have HR : Hid (syncR s g = ⟨s, g, 0⟩) := by show _ = _; simp [syncR, hf, hd, he]
        have HQ : Hid (∀ w', Below w.heap.size w w' → WlP G w X D mb size (syncR s g) (.returned (.int .i64 0)) w') := fun w' h1 => by
          rw [HR.out]
          exact ⟨rfl, (h.out.below h1).wide _, But.of_below h1⟩
        rw [← he] at HS
        obtain ⟨n, hn⟩ : ∃ n, lenS s g.last = n := ⟨_, rfl⟩
        obtain ⟨S, hS⟩ : ∃ S, (⟨(nameW g.last).toArray⟩ : ByteArray) = S := ⟨_, rfl⟩
        rw [hn] at HL HS
        rw [hS] at HN HS
        obtain ⟨l, hl⟩ : ∃ l, g.last = l := ⟨_, rfl⟩
        rw [hl] at HL HS HN S0
        clear hf hd HR hk he hn hS hl
        go_enter Tryz.func13, Tryz.ntmps13
        go_wp2_with (go_at_call 33; refine HDn.out.mono ?_; rintro e w' ⟨rfl, rfl⟩)
        go_region_held (fun W => W.cell? ⟨X, 0, none⟩ = some (.pointer (some ⟨D, 0, none⟩)) ∧ W.cell? ⟨X, 2, none⟩ = some (.int .i64 (l : Int)) ∧ Below w.heap.size w W) (first | assumption | exact S0.out)
          (first
            | (go_at_call 31; (refine (HL.out _ ?_).mono ?_); (exact (by assumption)); rintro e w1 ⟨rfl, hS1⟩)
            | (go_at_call 7; (refine (HN.out _ ?_).mono ?_); (exact (by assumption)); rintro e w2 ⟨rfl, hS2⟩)
            | (go_at_call 34; (refine (HS.out _ ?_).mono ?_); (exact (by assumption)); rintro e w3 ⟨rfl, hS3⟩))
        all_goals
          rename_i hfin
          have HB := Lib.hid hfin.2.2
          clear hfin
          go_wp2
          go_ret
          exact HQ.out _ HB.out
      · have HR : Hid (syncR s g = note (syncS s (nameW g.last)) g (findE s (nameW g.last))) := by show _ = _; simp [syncR, hf, hd, he]
        have hne : ((lenS s g.last : Int) == ((fileOf s (nameW g.last)).safe : Int)) = false := by
          have : ¬ (lenS s g.last : Int) = ((fileOf s (nameW g.last)).safe : Int) := by omega
          simpa using this
        have hg : Good (syncS s (nameW g.last)) g := ⟨h.out.good.ok.sync _, h.out.good.seg.sync hk, hk⟩
        have HG : Hid (Good (syncS s (nameW g.last)) g) := hg
        have HY : Hid (∀ W, Sx w X D g.last W → Calls Tryz.prog 35 #[.pointer (some ⟨D, 0, none⟩), .string ⟨(nameW g.last).toArray⟩] W fun e W' => e = .returned (.int .i64 (findE s (nameW g.last) : Int)) ∧ Hid (Lq (Gn G w.heap.size) W' X D mb (syncS s (nameW g.last)) g size) ∧ Hid (But G w W')) := fun W hW =>
          (Dk.Sync_any W D mb s (h.out.below hW.2.2).dq h.out.good.ok (nameW g.last)).mono fun e W' ⟨h1, h2, h3⟩ => by
            obtain ⟨q1, q2⟩ := (h.out.below hW.2.2).disk h2.out h3.out HG.out
            exact ⟨h1, q1.mono fun k _ hk => hk.imp id fun e => Nat.le_trans hW.2.2.size e, (But.of_below hW.2.2).trans q2 fun _ _ e => e⟩
        have HNt := Lib.hid (fun (W : World) (hW : Hid (Lq (Gn G w.heap.size) W X D mb (syncS s (nameW g.last)) g size)) => noted_any W X D mb (syncS s (nameW g.last)) g size hW (findE s (nameW g.last)))
        have HQ : Hid (∀ w1 w', But G w w1 → Lq (Gn G w.heap.size) w' X D mb (syncS s (nameW g.last)) (note (syncS s (nameW g.last)) g (findE s (nameW g.last))).g size → But (Gn G w.heap.size) w1 w' → WlP G w X D mb size (syncR s g) (.returned (.int .i64 (findE s (nameW g.last) : Int))) w') := fun w1 w' h1 h2 h3 => by
          rw [HR.out]
          exact ⟨rfl, h2, But.loosen h1 h3 rfl⟩
        obtain ⟨n, hn⟩ : ∃ n, lenS s g.last = n := ⟨_, rfl⟩
        obtain ⟨sf, hsf⟩ : ∃ sf, (fileOf s (nameW g.last)).safe = sf := ⟨_, rfl⟩
        obtain ⟨fe, hfe⟩ : ∃ fe, findE s (nameW g.last) = fe := ⟨_, rfl⟩
        rw [hn] at HL hne
        rw [hsf] at HS hne
        rw [hfe] at HY HNt HQ
        obtain ⟨sy, hsy⟩ : ∃ sy, syncS s (nameW g.last) = sy := ⟨_, rfl⟩
        rw [hsy] at HY HNt HQ
        have HC2 : Hid (∀ W, Lq (Gn G w.heap.size) W X D mb sy g size → W.cell? ⟨X, 0, none⟩ = some (.pointer (some ⟨D, 0, none⟩)) ∧ W.cell? ⟨X, 2, none⟩ = some (.int .i64 (g.last : Int))) := fun W hW => ⟨hW.c0, hW.c2⟩
        have HC3 : Hid (∀ W, Lq (Gn G w.heap.size) W X D mb sy (note sy g fe).g size → W.cell? ⟨X, 0, none⟩ = some (.pointer (some ⟨D, 0, none⟩)) ∧ W.cell? ⟨X, 2, none⟩ = some (.int .i64 (g.last : Int))) := fun W hW => ⟨hW.c0, hW.c2⟩
        obtain ⟨S, hS⟩ : ∃ S, (⟨(nameW g.last).toArray⟩ : ByteArray) = S := ⟨_, rfl⟩
        rw [hS] at HN HS HY
        obtain ⟨l, hl⟩ : ∃ l, g.last = l := ⟨_, rfl⟩
        rw [hl] at HL HS HN S0 HY HC2 HC3
        clear hf hd HR hk he hn hS hl hsf hfe hsy hg HG
        go_enter Tryz.func13, Tryz.ntmps13
        go_wp2_with (go_at_call 33; refine HDn.out.mono ?_; rintro e w' ⟨rfl, rfl⟩)
        go_region_held (fun W => W.cell? ⟨X, 0, none⟩ = some (.pointer (some ⟨D, 0, none⟩)) ∧ W.cell? ⟨X, 2, none⟩ = some (.int .i64 (l : Int)) ∧ Below w.heap.size w W) (first | assumption | exact S0.out)
          (first
            | (go_at_call 31; (refine (HL.out _ ?_).mono ?_); (exact (by assumption)); rintro e w1 ⟨rfl, hS1⟩)
            | (go_at_call 7; (refine (HN.out _ ?_).mono ?_); (exact (by assumption)); rintro e w2 ⟨rfl, hS2⟩)
            | (go_at_call 34; (refine (HS.out _ ?_).mono ?_); (exact (by assumption)); rintro e w3 ⟨rfl, hS3⟩))
        all_goals
          rename_i hfin
          have hdr := sx_drew hfin
          go_wp2
          refine wp_region_held_drew (S := fun W => W.cell? ⟨X, 0, none⟩ = some (.pointer (some ⟨D, 0, none⟩)) ∧ W.cell? ⟨X, 2, none⟩ = some (.int .i64 (l : Int))) (by kernel_rfl) ⟨hdr.1, hdr.2.1⟩ (fun hHeld => ?_)
          refine wpAnyH_take (i := 0) (v := .pointer (some ⟨X, 0, none⟩)) rfl (by kernel_rfl) (by kernel_rfl) (by kernel_rfl) (fun _ _ _ h => h) (Or.inl ⟨by rfl, ?_⟩) (by first | assumption | exact trivial) ?_
          · intro W hSW; go_simp; try (with_reducible rfl)
          simp only [Act.put, List.getElem_toArray, List.getElem_cons_succ, List.getElem_cons_zero, List.setIfInBounds_toArray, List.set_cons_zero, List.set_cons_succ]
          refine wpAnyH_take (i := 1) (v := .pointer (some ⟨X, 0, none⟩)) rfl (by kernel_rfl) (by kernel_rfl) (by kernel_rfl) (fun _ _ _ h => h) (Or.inl ⟨by rfl, ?_⟩) (by first | assumption | exact trivial) ?_
          · intro W hSW; go_simp; try (with_reducible rfl)
          simp only [Act.put, List.getElem_toArray, List.getElem_cons_succ, List.getElem_cons_zero, List.setIfInBounds_toArray, List.set_cons_zero, List.set_cons_succ]
          refine wpAnyH_take (i := 2) (v := .pointer (some ⟨X, 0, none⟩)) rfl (by kernel_rfl) (by kernel_rfl) (by kernel_rfl) (fun _ _ _ h => h) (Or.inl ⟨by rfl, ?_⟩) (by first | assumption | exact trivial) ?_
          · intro W hSW; go_simp; try (with_reducible rfl)
          simp only [Act.put, List.getElem_toArray, List.getElem_cons_succ, List.getElem_cons_zero, List.setIfInBounds_toArray, List.set_cons_zero, List.set_cons_succ]
          refine wpAnyH_take (i := 3) (v := .pointer (some ⟨X, 0, none⟩)) rfl (by kernel_rfl) (by kernel_rfl) (by kernel_rfl) (fun _ _ _ h => h) (Or.inl ⟨by rfl, ?_⟩) (by first | assumption | exact trivial) ?_
          · intro W hSW; go_simp; try (with_reducible rfl)
          simp only [Act.put, List.getElem_toArray, List.getElem_cons_succ, List.getElem_cons_zero, List.setIfInBounds_toArray, List.set_cons_zero, List.set_cons_succ]
          refine wpAnyH_take (i := 4) (v := .pointer (some ⟨D, 0, none⟩)) rfl (by kernel_rfl) (by kernel_rfl) (by kernel_rfl) (fun _ _ _ h => h) (Or.inl ⟨by rfl, ?_⟩) (by first | assumption | exact trivial) ?_
          · intro W hSW; have q4 := hSW.1; go_simp; try (with_reducible rfl)
          simp only [Act.put, List.getElem_toArray, List.getElem_cons_succ, List.getElem_cons_zero, List.setIfInBounds_toArray, List.set_cons_zero, List.set_cons_succ]
          refine wpAnyH_take (i := 5) (v := .pointer (some ⟨X, 0, none⟩)) rfl (by kernel_rfl) (by kernel_rfl) (by kernel_rfl) (fun _ _ _ h => h) (Or.inl ⟨by rfl, ?_⟩) (by first | assumption | exact trivial) ?_
          · intro W hSW; go_simp; try (with_reducible rfl)
          simp only [Act.put, List.getElem_toArray, List.getElem_cons_succ, List.getElem_cons_zero, List.setIfInBounds_toArray, List.set_cons_zero, List.set_cons_succ]
          refine wpAnyH_take (i := 6) (v := .pointer (some ⟨X, 0, none⟩)) rfl (by kernel_rfl) (by kernel_rfl) (by kernel_rfl) (fun _ _ _ h => h) (Or.inl ⟨by rfl, ?_⟩) (by first | assumption | exact trivial) ?_
          · intro W hSW; go_simp; try (with_reducible rfl)
          simp only [Act.put, List.getElem_toArray, List.getElem_cons_succ, List.getElem_cons_zero, List.setIfInBounds_toArray, List.set_cons_zero, List.set_cons_succ]
          refine wpAnyH_take (i := 7) (v := .pointer (some ⟨X, 2, none⟩)) rfl (by kernel_rfl) (by kernel_rfl) (by kernel_rfl) (fun _ _ _ h => h) (Or.inl ⟨by rfl, ?_⟩) (by first | assumption | exact trivial) ?_
          · intro W hSW; go_simp; try (with_reducible rfl)
          simp only [Act.put, List.getElem_toArray, List.getElem_cons_succ, List.getElem_cons_zero, List.setIfInBounds_toArray, List.set_cons_zero, List.set_cons_succ]
          refine wpAnyH_take (i := 8) (v := .int .i64 (l : Int)) rfl (by kernel_rfl) (by kernel_rfl) (by kernel_rfl) (fun _ _ _ h => h) (Or.inl ⟨by rfl, ?_⟩) (by first | assumption | exact trivial) ?_
          · intro W hSW; have q8 := hSW.2; go_simp; try (with_reducible rfl)
          simp only [Act.put, List.getElem_toArray, List.getElem_cons_succ, List.getElem_cons_zero, List.setIfInBounds_toArray, List.set_cons_zero, List.set_cons_succ]
          refine wpAnyH_ready (rs := [9]) (by kernel_rfl) (by simp) ?_
          refine AllReadyH.cons rfl (fun K hK => ?_) AllReadyH.nil
          go_simp
          go_wp2_with (go_at_call 7; refine (HN.out _ hdr).mono ?_; rintro e w4 ⟨rfl, hS4⟩)
          refine hK.out _ _ (⟨hS4.1, hS4.2.1⟩) (fun hHeld => ?_)
          clear hK K
          refine wpAnyH_ready (rs := [10]) (by kernel_rfl) (by simp) ?_
          refine AllReadyH.cons rfl (fun K hK => ?_) AllReadyH.nil
          go_simp
          go_wp2_with (go_at_call 35; refine (HY.out _ hS4).mono ?_; rintro e w5 ⟨rfl, h5, hb5⟩)
          refine hK.out _ _ (HC2.out _ h5.out) (fun hHeld => ?_)
          clear hK K
          refine wpAnyH_ready (rs := [11]) (by kernel_rfl) (by simp) ?_
          refine AllReadyH.cons rfl (fun K hK => ?_) AllReadyH.nil
          go_simp
          go_wp2_with (go_at_call 32; refine (HNt.out _ h5).mono ?_; rintro e w6 ⟨rfl, h6, hb6⟩)
          refine hK.out _ _ (HC3.out _ h6.out) (fun hHeld => ?_)
          clear hK K
          refine wpAnyH_take (i := 12) (v := .int .i64 (fe : Int)) rfl (by kernel_rfl) (by kernel_rfl) (by kernel_rfl) (fun _ _ _ h => h) (Or.inl ⟨by rfl, ?_⟩) (by first | assumption | exact trivial) ?_
          · intro W hSW; go_simp; try (with_reducible rfl)
          simp only [Act.put, List.getElem_toArray, List.getElem_cons_succ, List.getElem_cons_zero, List.setIfInBounds_toArray, List.set_cons_zero, List.set_cons_succ]
          refine wpAnyH_done (by kernel_rfl) ?_ _
          clear hfin hdr hS4
          go_wp2
          go_ret
          exact HQ.out _ _ hb5.out h6.out hb6.out
/-- What Begin answers, and leaves. -/
def BgP (G : Nat → Prop) (w : World) (X D mb size : Nat) (r : Rs) (e : Ending) (w' : World) : Prop := e = .returned (.tuple #[.int .i64 ((if r.e = 0 then r.g.last else 0 : Nat) : Int), .int .i64 (r.e : Int)]) ∧ Hid (Lq (Gn G w.heap.size) w' X D mb r.s r.g size) ∧ Hid (But G w w')
set_option maxHeartbeats 2000000 in
theorem Begin_any (h : Hid (Lq G w X D mb s g size)) : Calls Tryz.prog 14 #[.pointer (some ⟨X, 0, none⟩)] w (BgP G w X D mb size (beginR s g)) := by
  obtain ⟨r, hr⟩ : ∃ r, syncR s g = r := ⟨_, rfl⟩
  have HS : Hid (Calls Tryz.prog 13 #[.pointer (some ⟨X, 0, none⟩)] w fun e w' => e = .returned (.int .i64 (r.e : Int)) ∧ Hid (Lq (Gn G w.heap.size) w' X D mb r.s r.g size) ∧ Hid (But G w w')) := by
    have := Sync_any w X D mb s g size h
    rw [hr] at this
    exact this
  have HB : Hid (beginR s g = if r.e ≠ 0 then r else if safeS r.s r.g.last = 0 then r else if r.g.last = 99999 then ⟨r.s, r.g, 1⟩ else ⟨r.s, ⟨r.g.last + 1, r.g.failed⟩, 0⟩) := by
    show _ = _
    unfold beginR
    rw [hr]
  clear hr h
  by_cases he : r.e = 0
  · have HNm : Hid (∀ w1, Hid (Lq (Gn G w.heap.size) w1 X D mb r.s r.g size) → ∀ W, Sx w1 X D r.g.last W → Calls Tryz.prog 7 #[.int .i64 (r.g.last : Int)] W fun e W' => e = .returned (.string ⟨(nameW r.g.last).toArray⟩) ∧ Sx w1 X D r.g.last W') := fun w1 h1 W hW =>
      (Name_seg h1.out.good.num W).mono fun e W' ⟨q1, q2⟩ => ⟨q1, h1.out.sx (hW.2.2.trans (q2.out.mono hW.2.2.size))⟩
    have HSf : Hid (∀ w1, Hid (Lq (Gn G w.heap.size) w1 X D mb r.s r.g size) → ∀ W, Sx w1 X D r.g.last W → Calls Tryz.prog 34 #[.pointer (some ⟨D, 0, none⟩), .string ⟨(nameW r.g.last).toArray⟩] W fun e W' => e = .returned (.int .i64 (safeS r.s r.g.last : Int)) ∧ Sx w1 X D r.g.last W') := fun w1 h1 W hW =>
      (Safe_any W D mb r.s (h1.out.dq.below hW.2.2) (nameW r.g.last) (by rw [nameW_len]; unfold maxLen; omega)).mono fun e W' ⟨q1, q2⟩ => ⟨q1, q2 ▸ hW⟩
    have HC : Hid (∀ W, Lq (Gn G w.heap.size) W X D mb r.s r.g size → W.cell? ⟨X, 0, none⟩ = some (.pointer (some ⟨D, 0, none⟩)) ∧ W.cell? ⟨X, 2, none⟩ = some (.int .i64 (r.g.last : Int)) ∧ W.frozen? ⟨X, 2, none⟩ = false) := fun W hW => ⟨hW.c0, hW.c2, hW.frozen 2⟩
    have HBl : Hid (∀ w1 w', But G w w1 → Below w1.heap.size w1 w' → But G w w') := fun w1 w' h1 h3 => h1.trans (But.of_below (S := fun _ => False) h3) fun _ _ e => e.elim
    have HS0 : Hid (∀ w1, Lq (Gn G w.heap.size) w1 X D mb r.s r.g size → Sx w1 X D r.g.last w1.drew) := fun w1 h1 => h1.sx (Below.refl _ w1).drew
    obtain ⟨S, hS⟩ : ∃ S, (⟨(nameW r.g.last).toArray⟩ : ByteArray) = S := ⟨_, rfl⟩
    rw [hS] at HNm HSf
    clear hS
    by_cases hl : safeS r.s r.g.last = 0
    · have HQ : Hid (∀ w1 w', But G w w1 → Lq (Gn G w.heap.size) w1 X D mb r.s r.g size → Below w1.heap.size w1 w' → BgP G w X D mb size (beginR s g) (.returned (.tuple #[.int .i64 (r.g.last : Int), .int .i64 0])) w') := fun w1 w' h1 h2 h3 => by
        rw [HB.out, if_neg (by simp [he]), if_pos hl]
        refine ⟨?_, h2.below h3, HBl.out w1 w' h1 h3⟩
        rw [he]; rfl
      rw [he, show ((0 : Nat) : Int) = 0 from rfl] at HS
      rw [hl, show ((0 : Nat) : Int) = 0 from rfl] at HSf
      obtain ⟨l, hll⟩ : ∃ l, r.g.last = l := ⟨_, rfl⟩
      rw [hll] at HNm HSf HC HQ HS0
      clear he hl hll HB HBl
      go_enter Tryz.func14, Tryz.ntmps14
      go_wp2_with (go_at_call 13; refine HS.out.mono ?_; rintro e w1 ⟨rfl, h1, b1⟩; have S0 := Lib.hid (HS0.out w1 h1.out))
      go_region_held (fun W => W.cell? ⟨X, 0, none⟩ = some (.pointer (some ⟨D, 0, none⟩)) ∧ W.cell? ⟨X, 2, none⟩ = some (.int .i64 (l : Int)) ∧ Below w1.heap.size w1 W) (first | assumption | exact S0.out)
        (first
          | (go_at_call 7; (refine (HNm.out w1 h1 _ ?_).mono ?_); (exact (by assumption)); rintro e w2 ⟨rfl, hS2⟩)
          | (go_at_call 34; (refine (HSf.out w1 h1 _ ?_).mono ?_); (exact (by assumption)); rintro e w3 ⟨rfl, hS3⟩))
      all_goals
        rename_i hfin
        have HBf := Lib.hid hfin.2.2
        have k3 := (HC.out _ (h1.out.below HBf.out)).2.1
        clear hfin
        go_wp2
        go_returns
        exact HQ.out w1 _ b1.out h1.out HBf.out
    · have hn0 : ((safeS r.s r.g.last : Int) == 0) = false := by
        have : ¬ (safeS r.s r.g.last : Int) = 0 := by omega
        simpa using this
      by_cases h9 : r.g.last = 99999
      · have HQ : Hid (∀ w1 w', But G w w1 → Lq (Gn G w.heap.size) w1 X D mb r.s r.g size → Below w1.heap.size w1 w' → BgP G w X D mb size (beginR s g) (.returned (.tuple #[.int .i64 0, .int .i64 1])) w') := fun w1 w' h1 h2 h3 => by
          rw [HB.out, if_neg (by simp [he]), if_neg hl, if_pos h9]
          exact ⟨rfl, h2.below h3, HBl.out w1 w' h1 h3⟩
        rw [he, show ((0 : Nat) : Int) = 0 from rfl] at HS
        obtain ⟨n, hn⟩ : ∃ n, safeS r.s r.g.last = n := ⟨_, rfl⟩
        rw [hn] at HSf hn0
        have h9b : ((r.g.last : Int) == 99999) = true := by rw [h9]; rfl
        obtain ⟨l, hll⟩ : ∃ l, r.g.last = l := ⟨_, rfl⟩
        rw [hll] at HNm HSf HC HS0 h9b
        clear he hl hn h9 hll HB HBl
        go_enter Tryz.func14, Tryz.ntmps14
        go_wp2_with (go_at_call 13; refine HS.out.mono ?_; rintro e w1 ⟨rfl, h1, b1⟩; have S0 := Lib.hid (HS0.out w1 h1.out))
        go_region_held (fun W => W.cell? ⟨X, 0, none⟩ = some (.pointer (some ⟨D, 0, none⟩)) ∧ W.cell? ⟨X, 2, none⟩ = some (.int .i64 (l : Int)) ∧ Below w1.heap.size w1 W) (first | assumption | exact S0.out)
          (first
            | (go_at_call 7; (refine (HNm.out w1 h1 _ ?_).mono ?_); (exact (by assumption)); rintro e w2 ⟨rfl, hS2⟩)
            | (go_at_call 34; (refine (HSf.out w1 h1 _ ?_).mono ?_); (exact (by assumption)); rintro e w3 ⟨rfl, hS3⟩))
        all_goals
          rename_i hfin
          have HBf := Lib.hid hfin.2.2
          have k3 := (HC.out _ (h1.out.below HBf.out)).2.1
          clear hfin
          go_wp2
          go_returns
          exact HQ.out w1 _ b1.out h1.out HBf.out
      · have h9n : ((r.g.last : Int) == 99999) = false := by
          have : ¬ (r.g.last : Int) = 99999 := by omega
          simpa using this
        have HQ : Hid (∀ w1 w2 w', But G w w1 → Lq (Gn G w.heap.size) w1 X D mb r.s r.g size → Below w1.heap.size w1 w2 → w' = w2.setCell ⟨X, 2, none⟩ (.int .i64 ((r.g.last : Int) + 1)) → BgP G w X D mb size (beginR s g) (.returned (.tuple #[.int .i64 ((r.g.last : Int) + 1), .int .i64 0])) w' ∧ w'.cell? ⟨X, 2, none⟩ = some (.int .i64 ((r.g.last : Int) + 1))) := fun w1 w2 w' h1 h2 h3 e => by
          subst e
          rw [HB.out, if_neg (by simp [he]), if_neg hl, if_neg h9]
          have h4 := (h2.below h3).set2 (r.g.last + 1) (by have := h2.good.num; unfold isN at this ⊢; omega)
          refine ⟨⟨rfl, h4, (HBl.out w1 w2 h1 h3).set (p := ⟨X, 2, none⟩) ?_ _⟩, h4.c2⟩
          rcases h2.gX with hx | hx
          · exact .inl hx
          · exact .inr hx
        have hnum : Hid (∀ W, Lq (Gn G w.heap.size) W X D mb r.s r.g size → r.g.last ≤ 99999) := fun W hW => hW.good.num.2
        rw [he, show ((0 : Nat) : Int) = 0 from rfl] at HS
        obtain ⟨n, hn⟩ : ∃ n, safeS r.s r.g.last = n := ⟨_, rfl⟩
        rw [hn] at HSf hn0
        obtain ⟨l, hll⟩ : ∃ l, r.g.last = l := ⟨_, rfl⟩
        rw [hll] at HNm HSf HC HQ h9n hnum HS0
        clear he hl hn h9 hll HB HBl
        go_enter Tryz.func14, Tryz.ntmps14
        go_wp2_with (go_at_call 13; refine HS.out.mono ?_; rintro e w1 ⟨rfl, h1, b1⟩; have S0 := Lib.hid (HS0.out w1 h1.out))
        go_region_held (fun W => W.cell? ⟨X, 0, none⟩ = some (.pointer (some ⟨D, 0, none⟩)) ∧ W.cell? ⟨X, 2, none⟩ = some (.int .i64 (l : Int)) ∧ Below w1.heap.size w1 W) (first | assumption | exact S0.out)
          (first
            | (go_at_call 7; (refine (HNm.out w1 h1 _ ?_).mono ?_); (exact (by assumption)); rintro e w2 ⟨rfl, hS2⟩)
            | (go_at_call 34; (refine (HSf.out w1 h1 _ ?_).mono ?_); (exact (by assumption)); rintro e w3 ⟨rfl, hS3⟩))
        all_goals
          rename_i hfin
          have HBf := Lib.hid hfin.2.2
          obtain ⟨_, k3, k4⟩ := HC.out _ (h1.out.below HBf.out)
          have k9 := hnum.out w1 h1.out
          have k8 : (l : Int) + 1 ≤ 100000 := by omega
          have k7 : (0 : Int) ≤ (l : Int) + 1 := by omega
          clear hfin
          go_wp2
          go_returns
          exact (HQ.out w1 _ _ b1.out h1.out HBf.out rfl).1
  · have HQ : Hid (∀ w', Lq (Gn G w.heap.size) w' X D mb r.s r.g size → But G w w' → BgP G w X D mb size (beginR s g) (.returned (.tuple #[.int .i64 0, .int .i64 (r.e : Int)])) w') := fun w' h1 h2 => by
      rw [HB.out, if_pos he]
      refine ⟨?_, h1, h2⟩
      rw [if_neg he]; rfl
    have hz := nz he
    obtain ⟨c, hc⟩ : ∃ c, r.e = c := ⟨_, rfl⟩
    rw [hc] at HS HQ hz
    clear he hc HB
    go_enter Tryz.func14, Tryz.ntmps14
    go_wp2_with (go_at_call 13; refine HS.out.mono ?_; rintro e w1 ⟨rfl, h1, b1⟩)
    go_returns
    exact HQ.out w1 h1.out b1.out
end
end Go.Proofs.YtbacgljeadalbaaGreatDoor.Wl
/- The log's Append. -/
namespace Go.Proofs.YtbacgljeadalbaaGreatDoor.Wl
open Go.RowKit
open Go.Proofs.YtbacgljeadalbaaGreatDoor.Me Go.Proofs.YtbacgljeadalbaaGreatDoor.Hd Go.Proofs.YtbacgljeadalbaaGreatDoor.Dk Go.Proofs.YtbacgljeadalbaaGreatDoor.Rc
set_option linter.unusedVariables false
set_option linter.unusedSimpArgs false

/-- The number of record.Put's error. -/
def peN (p : List Nat) : Nat := if p.length = 0 then 2 else if 65536 < p.length then 3 else 0
theorem putE_pe (p : List Nat) : putE p = (peN p : Int) := by
  unfold putE peN
  split
  · rfl
  · split <;> rfl
theorem pe_fit {p : List Nat} : peN p = 0 ↔ fitR p = true := by
  rw [fit_iff]
  unfold peN
  split
  · omega
  · split <;> omega
section
variable {G Ga : Nat → Prop} {w wa w5 w6 : World} {X D mb size : Nat} {s sa : St} {g ga : Lg} {l : List Nat}
theorem Lq.low (h : Lq G w X D mb s g size) : Lq (Lo G w.heap.size) w X D mb s g size := h.mono fun k hk e => ⟨e, hk⟩
theorem app_end {s6 : St} {g6 : Lg} (hb : But (Lo G w.heap.size) w wa) (hGa : ∀ k, Ga k → Lo G w.heap.size k ∨ w.heap.size ≤ k) (h5 : But Ga wa w5) (h6 : Lq (Gn Ga wa.heap.size) w6 X D mb s6 g6 size) (h56 : But (Gn Ga wa.heap.size) w5 w6) : Lq (Gn G w.heap.size) w6 X D mb s6 g6 size ∧ But G w w6 := by
  have hs := hb.size
  refine ⟨h6.mono fun k _ hk => ?_, ((hb.trans h5 fun b hb1 e => ?_).trans h56 fun b hb1 e => ?_).mono fun k _ e => e.1⟩
  · rcases hk with hk | hk
    · rcases hGa k hk with h | h
      · exact .inl h.1
      · exact .inr h
    · exact .inr (Nat.le_trans hs hk)
  · rcases hGa b e with h | h
    · exact h
    · omega
  · rcases e with e | e
    · rcases hGa b e with h | h
      · exact h
      · omega
    · omega
/-- The calls of 'l.noted(l.disk.Append(Name(l.last), row))'. -/
theorem put_facts (h : Hid (Lq Ga wa X D mb sa ga size)) (hl : Hid (∀ z ∈ l, z < 256)) (h6 : l.length ≤ 65536) (A : Option Addr) (c : Nat) (hr : Hid (∀ W, Below wa.heap.size wa W → Me.Rd W W.heap.size A (recL l))) (hA : Hid (A = none → (recL l).length = 0 ∧ c = 0)) :
    Hid (∀ W, Sx wa X D ga.last W → Calls Tryz.prog 7 #[.int .i64 (ga.last : Int)] W fun e W' => e = .returned (.string ⟨(nameW ga.last).toArray⟩) ∧ Sx wa X D ga.last W') ∧
    Hid (∀ W, Sx wa X D ga.last W → Calls Tryz.prog 19 #[.pointer (some ⟨D, 0, none⟩), .string ⟨(nameW ga.last).toArray⟩, .slice A (recL l).length c] W fun e W' => e = .returned (.int .i64 ((putR sa ga l).e : Int)) ∧ Hid (Lq (Gn Ga wa.heap.size) W' X D mb (putR sa ga l).s ga size) ∧ Hid (But Ga wa W')) ∧
    Hid (∀ W, Hid (Lq (Gn Ga wa.heap.size) W X D mb (putR sa ga l).s ga size) → Calls Tryz.prog 32 #[.pointer (some ⟨X, 0, none⟩), .int .i64 ((putR sa ga l).e : Int)] W fun e W' => e = .returned (.int .i64 ((putR sa ga l).e : Int)) ∧ Hid (Lq (Gn Ga wa.heap.size) W' X D mb (putR sa ga l).s (putR sa ga l).g size) ∧ Hid (But (Gn Ga wa.heap.size) W W')) := by
  have hk := h.out.good.num
  refine ⟨fun W hW => (Name_seg hk W).mono fun e W' ⟨h1, h2⟩ => ⟨h1, h.out.sx (hW.2.2.trans (h2.out.mono hW.2.2.size))⟩, fun W hW => ?_, fun W hW => ?_⟩
  · have hg := (h.out.good.put hl.out)
    have hg2 : Good (putR sa ga l).s ga := ⟨hg.ok, hg.seg, hk⟩
    refine (Dk.Append_any W D mb sa (h.out.below hW.2.2).dq h.out.good.ok (nameW ga.last) A c (recL l) (hr.out W hW.2.2) hA (by rw [rec_len]; omega)).mono fun e W' ⟨h1, h2, h3⟩ => ?_
    obtain ⟨q1, q2⟩ := (h.out.below hW.2.2).disk h2.out h3.out hg2
    exact ⟨h1, q1.mono fun k _ hk => hk.imp id fun e => Nat.le_trans hW.2.2.size e, (But.of_below hW.2.2).trans q2 fun _ _ e => e⟩
  · exact noted_any W X D mb (putR sa ga l).s ga size hW (putR sa ga l).e
end
section
variable {G : Nat → Prop} (w : World) (X D mb : Nat) (s : St) (g : Lg) (size : Nat)
set_option maxHeartbeats 4000000 in
theorem Append_any (h : Hid (Lq G w X D mb s g size)) (A : Option Addr) (cap : Nat) (l : List Nat) (hr : Hid (Rd w w.heap.size A l)) (hA : Hid (A = none → l.length = 0 ∧ cap = 0)) (hlc : l.length ≤ cap) (hc : cap ≤ 9223372036854775807) :
    Calls Tryz.prog 12 #[.pointer (some ⟨X, 0, none⟩), .slice A l.length cap] w (WlP G w X D mb size (appR s g l size (peN l))) := by
  have c0 := h.out.c0
  have c4 := h.out.c4
  cases hf : g.failed with
  | true =>
    rw [hf] at c4
    have HQ : Hid (WlP G w X D mb size (appR s g l size (peN l)) (.returned (.int .i64 7)) w) := by
      show WlP _ _ _ _ _ _ _ _ _
      have HR : appR s g l size (peN l) = ⟨s, g, 7⟩ := by simp [appR, hf]
      rw [HR]
      exact ⟨rfl, h.out.wide _, But.refl _ _⟩
    obtain ⟨n, hn⟩ : ∃ n, l.length = n := ⟨_, rfl⟩
    rw [hn]
    clear hf c0 hn hlc hc hr hA
    go_enter Tryz.func12, Tryz.ntmps12
    go_wp2
    go_ret
    exact HQ.out
  | false =>
    rw [hf] at c4
    have HPut := Lib.hid (Put_any A cap l w hr hA hlc hc)
    by_cases hp : peN l = 0
    · have hfit := pe_fit.1 hp
      obtain ⟨e1, e2⟩ := put_fit hfit
      have hl := hr.out.1
      have HLB := Lib.hid hl
      obtain ⟨p1, p2⟩ := fit_iff.1 hfit
      have HPut2 : Hid (Calls Tryz.prog 30 #[.slice A l.length cap] w fun e w' => ∃ b k, e = .returned (.tuple #[.slice (some ⟨b, 0, none⟩) (8 + l.length) k, .int .i64 0]) ∧ Hid (∀ W, But (Lo G w.heap.size) w' W → Me.Rd W W.heap.size (some ⟨b, 0, none⟩) (recL l)) ∧ Hid (Below w.heap.size w w')) := HPut.out.mono fun e w' hq => by
        obtain ⟨A', k, q1, q2, q3⟩ := hq.q
        rw [e1] at q1 q2
        rw [e2] at q1
        obtain ⟨b, c, q4, q5, q6⟩ := q2.out.form (by rw [rec_len]; omega)
        injection q4 with q7 q8 q9
        subst q7
        rw [rec_len] at q1
        refine ⟨b, k, q1, fun W hW => ?_, q3⟩
        refine hW.rd (rd_own (own_base q2.out fun _ _ => Nat.zero_le _) q6 (rec_bytes hl)) fun a e => ?_
        cases e
        exact fun e => by have h2 : b < w.heap.size := e.2; omega
      have hlow := h.out.low
      have HL0 : Hid (Lq (Lo G w.heap.size) w X D mb s g size) := hlow
      have HLn : Hid (∀ W, Below w.heap.size w W → Calls Tryz.prog 31 #[.pointer (some ⟨X, 0, none⟩), .int .i64 (g.last : Int)] W fun e w' => e = .returned (.int .i64 (lenS s g.last : Int)) ∧ Hid (Below W.heap.size W w')) := fun W hW => length_any W X D mb s g size (h.out.below hW) h.out.good.num
      have HC : Hid (∀ W, Below w.heap.size w W → W.cell? ⟨X, 0, none⟩ = some (.pointer (some ⟨D, 0, none⟩)) ∧ W.cell? ⟨X, 2, none⟩ = some (.int .i64 (g.last : Int)) ∧ W.cell? ⟨X, 3, none⟩ = some (.int .i64 (size : Int))) := fun W hW => ⟨(h.out.below hW).c0, (h.out.below hW).c2, (h.out.below hW).c3⟩
      have HBG : Hid (∀ W, Below w.heap.size w W → Lq (Lo G w.heap.size) W X D mb s g size ∧ But (Lo G w.heap.size) w W) := fun W hW => ⟨HL0.out.below hW, But.of_below hW⟩
      have hnl : lenS s g.last ≤ 1048576 := by
        unfold lenS readP
        split
        · have := h.out.good.ok.fileOf (nameW g.last)
          have := h.out.good.ok.use
          omega
        · exact Nat.zero_le _
      have hcap := h.out.cap
      by_cases hm : moves s g l size = true
      · have HM := Lib.hid hm
        have HR : Hid (appR s g l size (peN l) = if (beginR s g).e ≠ 0 then beginR s g else putR (beginR s g).s (beginR s g).g l) := by
          show _ = _
          simp [appR, hf, hp, hm]
        have hm2 : 0 < lenS s g.last ∧ size < lenS s g.last + (8 + l.length) := by
          unfold moves at hm
          rw [rec_len] at hm
          simpa using hm
        have HBeg : Hid (∀ W, Hid (Lq (Lo G w.heap.size) W X D mb s g size) → Calls Tryz.prog 14 #[.pointer (some ⟨X, 0, none⟩)] W (BgP (Lo G w.heap.size) W X D mb size (beginR s g))) := fun W hW => Begin_any W X D mb s g size hW
        obtain ⟨r, hr⟩ : ∃ r, beginR s g = r := ⟨_, rfl⟩
        rw [hr] at HR HBeg
        obtain ⟨n, hn⟩ : ∃ n, lenS s g.last = n := ⟨_, rfl⟩
        rw [hn] at HLn hm2 hnl
        by_cases hre : r.e = 0
        · have HRE := Lib.hid hre
          have HBeg2 : Hid (∀ W, Hid (Lq (Lo G w.heap.size) W X D mb s g size) → Calls Tryz.prog 14 #[.pointer (some ⟨X, 0, none⟩)] W fun e w' => e = .returned (.tuple #[.int .i64 (r.g.last : Int), .int .i64 0]) ∧ Hid (Lq (Gn (Lo G w.heap.size) W.heap.size) w' X D mb r.s r.g size) ∧ Hid (But (Lo G w.heap.size) W w')) := fun W hW => (HBeg.out W hW).mono fun e w' ⟨q1, q2, q3⟩ => ⟨by rw [q1, if_pos HRE.out, HRE.out]; rfl, q2, q3⟩
          have HQ : Hid (∀ W0 w3 w5 w6, Below w.heap.size w W0 → But (Lo G w.heap.size) W0 w3 → But (Gn (Lo G w.heap.size) W0.heap.size) w3 w5 → Lq (Gn (Gn (Lo G w.heap.size) W0.heap.size) w3.heap.size) w6 X D mb (putR r.s r.g l).s (putR r.s r.g l).g size → But (Gn (Gn (Lo G w.heap.size) W0.heap.size) w3.heap.size) w5 w6 → WlP G w X D mb size (appR s g l size (peN l)) (.returned (.int .i64 ((putR r.s r.g l).e : Int))) w6) := fun W0 w3 w5 w6 k1 k2 k3 k4 k5 => by
            rw [HR.out, if_neg (by simp [HRE.out])]
            obtain ⟨q1, q2⟩ := app_end ((But.of_below k1).trans k2 fun _ _ e => e) (fun k hk => hk.imp id fun e => Nat.le_trans k1.size e) k3 k4 k5
            exact ⟨rfl, q1, q2⟩
          have HPF : Hid (∀ w3 (Ga : Nat → Prop) (b k : Nat), Hid (Lq Ga w3 X D mb r.s r.g size) → Hid (∀ W, Below w3.heap.size w3 W → Me.Rd W W.heap.size (some ⟨b, 0, none⟩) (recL l)) → _) := fun w3 Ga b k q1 q2 => put_facts (l := l) q1 HLB (by omega) (some ⟨b, 0, none⟩) k q2 (fun e => by cases e)
          have hrl : (recL l).length = 8 + l.length := rec_len l
          rw [hrl] at HPF
          obtain ⟨m, hml⟩ : ∃ m, l.length = m := ⟨_, rfl⟩
          rw [hml] at HPut2 HPF hm2 p1 p2 ⊢
          clear hr hn hre hf hp hfit e1 e2 hl HPut hlow hm HM HBeg hA hlc hrl hml HR h
          go_enter Tryz.func12, Tryz.ntmps12
          go_wp2_with (first
            | (go_at_call 30; refine HPut2.out.mono ?_; rintro e w1 ⟨b, kr, rfl, hrow, B1⟩; obtain ⟨x0, x2, x3⟩ := HC.out w1 B1.out)
            | (go_at_call 31; refine (HLn.out w1 B1.out).mono ?_; rintro e w2 ⟨rfl, b2⟩; have B2 : Hid (Below w.heap.size w w2) := B1.out.trans (b2.out.mono B1.out.size); obtain ⟨y0, y2, y3⟩ := HC.out w2 B2.out; have HL2 := Lib.hid (HBG.out w2 B2.out).1)
            | (go_at_call 14; refine (HBeg2.out w2 HL2).mono ?_; rintro e w3 ⟨rfl, h3, b3⟩; have B13 : Hid (But (Lo G w.heap.size) w1 w3) := (But.of_below (S := Lo G w.heap.size) b2.out).trans b3.out (fun _ _ e => e); have HROW : Hid (∀ W, Below w3.heap.size w3 W → Me.Rd W W.heap.size (some ⟨b, 0, none⟩) (recL l)) := (fun W hW => hrow.out W (B13.out.trans (But.of_below (S := fun _ => False) hW) (fun _ _ e => e.elim))); obtain ⟨HNm, HAp, HNt⟩ := HPF.out w3 _ b kr h3 HROW; have S3 := Lib.hid (h3.out.sx (Below.refl _ w3).drew); obtain ⟨HC5, HC6⟩ : Hid (∀ W, Lq (Gn (Gn (Lo G w.heap.size) w2.heap.size) w3.heap.size) W X D mb (putR r.s r.g l).s r.g size → W.cell? ⟨X, 0, none⟩ = some (.pointer (some ⟨D, 0, none⟩)) ∧ W.cell? ⟨X, 2, none⟩ = some (.int .i64 (r.g.last : Int))) ∧ Hid (∀ W, Lq (Gn (Gn (Lo G w.heap.size) w2.heap.size) w3.heap.size) W X D mb (putR r.s r.g l).s (putR r.s r.g l).g size → W.cell? ⟨X, 0, none⟩ = some (.pointer (some ⟨D, 0, none⟩)) ∧ W.cell? ⟨X, 2, none⟩ = some (.int .i64 (r.g.last : Int))) := ⟨fun W hW => ⟨hW.c0, hW.c2⟩, fun W hW => ⟨hW.c0, hW.c2⟩⟩))
          refine wp_region_held_drew (S := fun W => W.cell? ⟨X, 0, none⟩ = some (.pointer (some ⟨D, 0, none⟩)) ∧ W.cell? ⟨X, 2, none⟩ = some (.int .i64 (r.g.last : Int))) (by kernel_rfl) ⟨S3.out.1, S3.out.2.1⟩ (fun hHeld => ?_)
          refine wpAnyH_take (i := 0) (v := .pointer (some ⟨X, 0, none⟩)) rfl (by kernel_rfl) (by kernel_rfl) (by kernel_rfl) (fun _ _ _ h => h) (Or.inl ⟨by rfl, ?_⟩) (by first | assumption | exact trivial) ?_
          · intro W hSW; go_simp; try (with_reducible rfl)
          simp only [Act.put, List.getElem_toArray, List.getElem_cons_succ, List.getElem_cons_zero, List.setIfInBounds_toArray, List.set_cons_zero, List.set_cons_succ]
          refine wpAnyH_take (i := 1) (v := .pointer (some ⟨X, 0, none⟩)) rfl (by kernel_rfl) (by kernel_rfl) (by kernel_rfl) (fun _ _ _ h => h) (Or.inl ⟨by rfl, ?_⟩) (by first | assumption | exact trivial) ?_
          · intro W hSW; go_simp; try (with_reducible rfl)
          simp only [Act.put, List.getElem_toArray, List.getElem_cons_succ, List.getElem_cons_zero, List.setIfInBounds_toArray, List.set_cons_zero, List.set_cons_succ]
          refine wpAnyH_take (i := 2) (v := .pointer (some ⟨X, 0, none⟩)) rfl (by kernel_rfl) (by kernel_rfl) (by kernel_rfl) (fun _ _ _ h => h) (Or.inl ⟨by rfl, ?_⟩) (by first | assumption | exact trivial) ?_
          · intro W hSW; go_simp; try (with_reducible rfl)
          simp only [Act.put, List.getElem_toArray, List.getElem_cons_succ, List.getElem_cons_zero, List.setIfInBounds_toArray, List.set_cons_zero, List.set_cons_succ]
          refine wpAnyH_take (i := 3) (v := .pointer (some ⟨X, 0, none⟩)) rfl (by kernel_rfl) (by kernel_rfl) (by kernel_rfl) (fun _ _ _ h => h) (Or.inl ⟨by rfl, ?_⟩) (by first | assumption | exact trivial) ?_
          · intro W hSW; go_simp; try (with_reducible rfl)
          simp only [Act.put, List.getElem_toArray, List.getElem_cons_succ, List.getElem_cons_zero, List.setIfInBounds_toArray, List.set_cons_zero, List.set_cons_succ]
          refine wpAnyH_take (i := 4) (v := .pointer (some ⟨D, 0, none⟩)) rfl (by kernel_rfl) (by kernel_rfl) (by kernel_rfl) (fun _ _ _ h => h) (Or.inl ⟨by rfl, ?_⟩) (by first | assumption | exact trivial) ?_
          · intro W hSW; have q4 := hSW.1; go_simp; try (with_reducible rfl)
          simp only [Act.put, List.getElem_toArray, List.getElem_cons_succ, List.getElem_cons_zero, List.setIfInBounds_toArray, List.set_cons_zero, List.set_cons_succ]
          refine wpAnyH_take (i := 5) (v := .pointer (some ⟨X, 0, none⟩)) rfl (by kernel_rfl) (by kernel_rfl) (by kernel_rfl) (fun _ _ _ h => h) (Or.inl ⟨by rfl, ?_⟩) (by first | assumption | exact trivial) ?_
          · intro W hSW; go_simp; try (with_reducible rfl)
          simp only [Act.put, List.getElem_toArray, List.getElem_cons_succ, List.getElem_cons_zero, List.setIfInBounds_toArray, List.set_cons_zero, List.set_cons_succ]
          refine wpAnyH_take (i := 6) (v := .pointer (some ⟨X, 0, none⟩)) rfl (by kernel_rfl) (by kernel_rfl) (by kernel_rfl) (fun _ _ _ h => h) (Or.inl ⟨by rfl, ?_⟩) (by first | assumption | exact trivial) ?_
          · intro W hSW; go_simp; try (with_reducible rfl)
          simp only [Act.put, List.getElem_toArray, List.getElem_cons_succ, List.getElem_cons_zero, List.setIfInBounds_toArray, List.set_cons_zero, List.set_cons_succ]
          refine wpAnyH_take (i := 7) (v := .pointer (some ⟨X, 2, none⟩)) rfl (by kernel_rfl) (by kernel_rfl) (by kernel_rfl) (fun _ _ _ h => h) (Or.inl ⟨by rfl, ?_⟩) (by first | assumption | exact trivial) ?_
          · intro W hSW; go_simp; try (with_reducible rfl)
          simp only [Act.put, List.getElem_toArray, List.getElem_cons_succ, List.getElem_cons_zero, List.setIfInBounds_toArray, List.set_cons_zero, List.set_cons_succ]
          refine wpAnyH_take (i := 8) (v := .int .i64 (r.g.last : Int)) rfl (by kernel_rfl) (by kernel_rfl) (by kernel_rfl) (fun _ _ _ h => h) (Or.inl ⟨by rfl, ?_⟩) (by first | assumption | exact trivial) ?_
          · intro W hSW; have q8 := hSW.2; go_simp; try (with_reducible rfl)
          simp only [Act.put, List.getElem_toArray, List.getElem_cons_succ, List.getElem_cons_zero, List.setIfInBounds_toArray, List.set_cons_zero, List.set_cons_succ]
          refine wpAnyH_take (i := 10) (v := .slice (some ⟨b, 0, none⟩) (8 + m) kr) rfl (by kernel_rfl) (by kernel_rfl) (by kernel_rfl) (fun _ _ _ h => h) (Or.inl ⟨by rfl, ?_⟩) (by first | assumption | exact trivial) ?_
          · intro W hSW; go_simp; try (with_reducible rfl)
          simp only [Act.put, List.getElem_toArray, List.getElem_cons_succ, List.getElem_cons_zero, List.setIfInBounds_toArray, List.set_cons_zero, List.set_cons_succ]
          refine wpAnyH_ready (rs := [9]) (by kernel_rfl) (by simp) ?_
          refine AllReadyH.cons rfl (fun K hK => ?_) AllReadyH.nil
          go_simp
          go_wp2_with (go_at_call 7; refine (HNm.out _ S3.out).mono ?_; rintro e w4 ⟨rfl, hS4⟩)
          refine hK.out _ _ (⟨hS4.1, hS4.2.1⟩) (fun hHeld => ?_)
          clear hK K
          refine wpAnyH_ready (rs := [11]) (by kernel_rfl) (by simp) ?_
          refine AllReadyH.cons rfl (fun K hK => ?_) AllReadyH.nil
          go_simp
          go_wp2_with (go_at_call 19; refine (HAp.out _ hS4).mono ?_; rintro e w5 ⟨rfl, h5, hb5⟩)
          refine hK.out _ _ (HC5.out _ h5.out) (fun hHeld => ?_)
          clear hK K
          refine wpAnyH_ready (rs := [12]) (by kernel_rfl) (by simp) ?_
          refine AllReadyH.cons rfl (fun K hK => ?_) AllReadyH.nil
          go_simp
          go_wp2_with (go_at_call 32; refine (HNt.out _ h5).mono ?_; rintro e w6 ⟨rfl, h6, hb6⟩)
          refine hK.out _ _ (HC6.out _ h6.out) (fun hHeld => ?_)
          clear hK K
          refine wpAnyH_take (i := 13) (v := .int .i64 ((putR r.s r.g l).e : Int)) rfl (by kernel_rfl) (by kernel_rfl) (by kernel_rfl) (fun _ _ _ h => h) (Or.inl ⟨by rfl, ?_⟩) (by first | assumption | exact trivial) ?_
          · intro W hSW; go_simp; try (with_reducible rfl)
          simp only [Act.put, List.getElem_toArray, List.getElem_cons_succ, List.getElem_cons_zero, List.setIfInBounds_toArray, List.set_cons_zero, List.set_cons_succ]
          refine wpAnyH_done (by kernel_rfl) ?_ _
          clear hS4
          go_wp2
          go_ret
          exact HQ.out w2 w3 _ _ B2.out b3.out hb5.out h6.out hb6.out
        · have HQ : Hid (∀ W0 w3, Below w.heap.size w W0 → Lq (Gn (Lo G w.heap.size) W0.heap.size) w3 X D mb r.s r.g size → But (Lo G w.heap.size) W0 w3 → WlP G w X D mb size (appR s g l size (peN l)) (.returned (.int .i64 (r.e : Int))) w3) := fun W0 w3 k1 k2 k3 => by
            rw [HR.out, if_pos hre]
            refine ⟨rfl, k2.mono fun k _ hk => ?_, ((But.of_below k1).trans k3 fun _ _ e => e).mono fun k _ e => e.1⟩
            rcases hk with hk | hk
            · exact .inl hk.1
            · exact .inr (Nat.le_trans k1.size hk)
          have HBeg2 : Hid (∀ W, Hid (Lq (Lo G w.heap.size) W X D mb s g size) → Calls Tryz.prog 14 #[.pointer (some ⟨X, 0, none⟩)] W fun e w' => e = .returned (.tuple #[.int .i64 0, .int .i64 (r.e : Int)]) ∧ Hid (Lq (Gn (Lo G w.heap.size) W.heap.size) w' X D mb r.s r.g size) ∧ Hid (But (Lo G w.heap.size) W w')) := fun W hW => (HBeg.out W hW).mono fun e w' ⟨q1, q2, q3⟩ => ⟨by rw [q1, if_neg hre]; rfl, q2, q3⟩
          have hz := nz hre
          obtain ⟨c, hcc⟩ : ∃ c, r.e = c := ⟨_, rfl⟩
          rw [hcc] at HQ HBeg2 hz
          obtain ⟨m, hml⟩ : ∃ m, l.length = m := ⟨_, rfl⟩
          rw [hml] at HPut2 hm2 p1 p2 ⊢
          clear hr hn hre hf hp hfit e1 e2 hl HPut hlow hm HM HBeg hA hlc hml HR h hcc
          go_enter Tryz.func12, Tryz.ntmps12
          go_wp2_with (first
            | (go_at_call 30; refine HPut2.out.mono ?_; rintro e w1 ⟨b, kr, rfl, hrow, B1⟩; obtain ⟨x0, x2, x3⟩ := HC.out w1 B1.out)
            | (go_at_call 31; refine (HLn.out w1 B1.out).mono ?_; rintro e w2 ⟨rfl, b2⟩; have B2 : Hid (Below w.heap.size w w2) := B1.out.trans (b2.out.mono B1.out.size); obtain ⟨y0, y2, y3⟩ := HC.out w2 B2.out; have HL2 := Lib.hid (HBG.out w2 B2.out).1)
            | (go_at_call 14; refine (HBeg2.out w2 HL2).mono ?_; rintro e w3 ⟨rfl, h3, b3⟩))
          go_ret
          exact HQ.out w2 w3 B2.out h3.out b3.out
      · have HR : Hid (appR s g l size (peN l) = putR s g l) := by
          show _ = _
          simp [appR, hf, hp, hm]
        have hm2 : lenS s g.last = 0 ∨ (0 < lenS s g.last ∧ lenS s g.last + (8 + l.length) ≤ size) := by
          unfold moves at hm
          rw [rec_len] at hm
          simp only [Bool.and_eq_true, decide_eq_true_eq] at hm
          omega
        obtain ⟨n, hn⟩ : ∃ n, lenS s g.last = n := ⟨_, rfl⟩
        rw [hn] at HLn hm2 hnl
        have HQ : Hid (∀ w2 w5 w6, Below w.heap.size w w2 → But (Lo G w.heap.size) w2 w5 → Lq (Gn (Lo G w.heap.size) w2.heap.size) w6 X D mb (putR s g l).s (putR s g l).g size → But (Gn (Lo G w.heap.size) w2.heap.size) w5 w6 → WlP G w X D mb size (appR s g l size (peN l)) (.returned (.int .i64 ((putR s g l).e : Int))) w6) := fun w2 w5 w6 k1 k3 k4 k5 => by
          rw [HR.out]
          obtain ⟨q1, q2⟩ := app_end (But.of_below k1) (fun k hk => .inl hk) k3 k4 k5
          exact ⟨rfl, q1, q2⟩
        have HPF : Hid (∀ w3 (Ga : Nat → Prop) (b k : Nat), Hid (Lq Ga w3 X D mb s g size) → Hid (∀ W, Below w3.heap.size w3 W → Me.Rd W W.heap.size (some ⟨b, 0, none⟩) (recL l)) → _) := fun w3 Ga b k q1 q2 => put_facts (l := l) q1 HLB (by omega) (some ⟨b, 0, none⟩) k q2 (fun e => by cases e)
        have hrl : (recL l).length = 8 + l.length := rec_len l
        rw [hrl] at HPF
        obtain ⟨m, hml⟩ : ∃ m, l.length = m := ⟨_, rfl⟩
        rw [hml] at HPut2 HPF hm2 p1 p2 ⊢
        clear hn hf hp hfit e1 e2 hl HPut hlow hm hA hlc hrl hml HR h
        rcases hm2 with hm2 | hm2
        case' inl => subst hm2
        case' inr => skip
        all_goals
          go_enter Tryz.func12, Tryz.ntmps12
          go_wp2_with (first
            | (go_at_call 30; refine HPut2.out.mono ?_; rintro e w1 ⟨b, kr, rfl, hrow, B1⟩; obtain ⟨x0, x2, x3⟩ := HC.out w1 B1.out)
            | (go_at_call 31; refine (HLn.out w1 B1.out).mono ?_; rintro e w2 ⟨rfl, b2⟩; have B2 : Hid (Below w.heap.size w w2) := B1.out.trans (b2.out.mono B1.out.size); obtain ⟨y0, y2, y3⟩ := HC.out w2 B2.out; have HL2 := Lib.hid (HBG.out w2 B2.out).1; have HROW : Hid (∀ W, Below w2.heap.size w2 W → Me.Rd W W.heap.size (some ⟨b, 0, none⟩) (recL l)) := (fun W hW => hrow.out W (But.of_below (b2.out.trans (hW.mono b2.out.size)))); obtain ⟨HNm, HAp, HNt⟩ := HPF.out w2 _ b kr HL2 HROW; have S3 := Lib.hid (HL2.out.sx (Below.refl _ w2).drew); obtain ⟨HC5, HC6⟩ : Hid (∀ W, Lq (Gn (Lo G w.heap.size) w2.heap.size) W X D mb (putR s g l).s g size → W.cell? ⟨X, 0, none⟩ = some (.pointer (some ⟨D, 0, none⟩)) ∧ W.cell? ⟨X, 2, none⟩ = some (.int .i64 (g.last : Int))) ∧ Hid (∀ W, Lq (Gn (Lo G w.heap.size) w2.heap.size) W X D mb (putR s g l).s (putR s g l).g size → W.cell? ⟨X, 0, none⟩ = some (.pointer (some ⟨D, 0, none⟩)) ∧ W.cell? ⟨X, 2, none⟩ = some (.int .i64 (g.last : Int))) := ⟨fun W hW => ⟨hW.c0, hW.c2⟩, fun W hW => ⟨hW.c0, hW.c2⟩⟩))
          refine wp_region_held_drew (S := fun W => W.cell? ⟨X, 0, none⟩ = some (.pointer (some ⟨D, 0, none⟩)) ∧ W.cell? ⟨X, 2, none⟩ = some (.int .i64 (g.last : Int))) (by kernel_rfl) ⟨S3.out.1, S3.out.2.1⟩ (fun hHeld => ?_)
          refine wpAnyH_take (i := 0) (v := .pointer (some ⟨X, 0, none⟩)) rfl (by kernel_rfl) (by kernel_rfl) (by kernel_rfl) (fun _ _ _ h => h) (Or.inl ⟨by rfl, ?_⟩) (by first | assumption | exact trivial) ?_
          · intro W hSW; go_simp; try (with_reducible rfl)
          simp only [Act.put, List.getElem_toArray, List.getElem_cons_succ, List.getElem_cons_zero, List.setIfInBounds_toArray, List.set_cons_zero, List.set_cons_succ]
          refine wpAnyH_take (i := 1) (v := .pointer (some ⟨X, 0, none⟩)) rfl (by kernel_rfl) (by kernel_rfl) (by kernel_rfl) (fun _ _ _ h => h) (Or.inl ⟨by rfl, ?_⟩) (by first | assumption | exact trivial) ?_
          · intro W hSW; go_simp; try (with_reducible rfl)
          simp only [Act.put, List.getElem_toArray, List.getElem_cons_succ, List.getElem_cons_zero, List.setIfInBounds_toArray, List.set_cons_zero, List.set_cons_succ]
          refine wpAnyH_take (i := 2) (v := .pointer (some ⟨X, 0, none⟩)) rfl (by kernel_rfl) (by kernel_rfl) (by kernel_rfl) (fun _ _ _ h => h) (Or.inl ⟨by rfl, ?_⟩) (by first | assumption | exact trivial) ?_
          · intro W hSW; go_simp; try (with_reducible rfl)
          simp only [Act.put, List.getElem_toArray, List.getElem_cons_succ, List.getElem_cons_zero, List.setIfInBounds_toArray, List.set_cons_zero, List.set_cons_succ]
          refine wpAnyH_take (i := 3) (v := .pointer (some ⟨X, 0, none⟩)) rfl (by kernel_rfl) (by kernel_rfl) (by kernel_rfl) (fun _ _ _ h => h) (Or.inl ⟨by rfl, ?_⟩) (by first | assumption | exact trivial) ?_
          · intro W hSW; go_simp; try (with_reducible rfl)
          simp only [Act.put, List.getElem_toArray, List.getElem_cons_succ, List.getElem_cons_zero, List.setIfInBounds_toArray, List.set_cons_zero, List.set_cons_succ]
          refine wpAnyH_take (i := 4) (v := .pointer (some ⟨D, 0, none⟩)) rfl (by kernel_rfl) (by kernel_rfl) (by kernel_rfl) (fun _ _ _ h => h) (Or.inl ⟨by rfl, ?_⟩) (by first | assumption | exact trivial) ?_
          · intro W hSW; have q4 := hSW.1; go_simp; try (with_reducible rfl)
          simp only [Act.put, List.getElem_toArray, List.getElem_cons_succ, List.getElem_cons_zero, List.setIfInBounds_toArray, List.set_cons_zero, List.set_cons_succ]
          refine wpAnyH_take (i := 5) (v := .pointer (some ⟨X, 0, none⟩)) rfl (by kernel_rfl) (by kernel_rfl) (by kernel_rfl) (fun _ _ _ h => h) (Or.inl ⟨by rfl, ?_⟩) (by first | assumption | exact trivial) ?_
          · intro W hSW; go_simp; try (with_reducible rfl)
          simp only [Act.put, List.getElem_toArray, List.getElem_cons_succ, List.getElem_cons_zero, List.setIfInBounds_toArray, List.set_cons_zero, List.set_cons_succ]
          refine wpAnyH_take (i := 6) (v := .pointer (some ⟨X, 0, none⟩)) rfl (by kernel_rfl) (by kernel_rfl) (by kernel_rfl) (fun _ _ _ h => h) (Or.inl ⟨by rfl, ?_⟩) (by first | assumption | exact trivial) ?_
          · intro W hSW; go_simp; try (with_reducible rfl)
          simp only [Act.put, List.getElem_toArray, List.getElem_cons_succ, List.getElem_cons_zero, List.setIfInBounds_toArray, List.set_cons_zero, List.set_cons_succ]
          refine wpAnyH_take (i := 7) (v := .pointer (some ⟨X, 2, none⟩)) rfl (by kernel_rfl) (by kernel_rfl) (by kernel_rfl) (fun _ _ _ h => h) (Or.inl ⟨by rfl, ?_⟩) (by first | assumption | exact trivial) ?_
          · intro W hSW; go_simp; try (with_reducible rfl)
          simp only [Act.put, List.getElem_toArray, List.getElem_cons_succ, List.getElem_cons_zero, List.setIfInBounds_toArray, List.set_cons_zero, List.set_cons_succ]
          refine wpAnyH_take (i := 8) (v := .int .i64 (g.last : Int)) rfl (by kernel_rfl) (by kernel_rfl) (by kernel_rfl) (fun _ _ _ h => h) (Or.inl ⟨by rfl, ?_⟩) (by first | assumption | exact trivial) ?_
          · intro W hSW; have q8 := hSW.2; go_simp; try (with_reducible rfl)
          simp only [Act.put, List.getElem_toArray, List.getElem_cons_succ, List.getElem_cons_zero, List.setIfInBounds_toArray, List.set_cons_zero, List.set_cons_succ]
          refine wpAnyH_take (i := 10) (v := .slice (some ⟨b, 0, none⟩) (8 + m) kr) rfl (by kernel_rfl) (by kernel_rfl) (by kernel_rfl) (fun _ _ _ h => h) (Or.inl ⟨by rfl, ?_⟩) (by first | assumption | exact trivial) ?_
          · intro W hSW; go_simp; try (with_reducible rfl)
          simp only [Act.put, List.getElem_toArray, List.getElem_cons_succ, List.getElem_cons_zero, List.setIfInBounds_toArray, List.set_cons_zero, List.set_cons_succ]
          refine wpAnyH_ready (rs := [9]) (by kernel_rfl) (by simp) ?_
          refine AllReadyH.cons rfl (fun K hK => ?_) AllReadyH.nil
          go_simp
          go_wp2_with (go_at_call 7; refine (HNm.out _ S3.out).mono ?_; rintro e w4 ⟨rfl, hS4⟩)
          refine hK.out _ _ (⟨hS4.1, hS4.2.1⟩) (fun hHeld => ?_)
          clear hK K
          refine wpAnyH_ready (rs := [11]) (by kernel_rfl) (by simp) ?_
          refine AllReadyH.cons rfl (fun K hK => ?_) AllReadyH.nil
          go_simp
          go_wp2_with (go_at_call 19; refine (HAp.out _ hS4).mono ?_; rintro e w5 ⟨rfl, h5, hb5⟩)
          refine hK.out _ _ (HC5.out _ h5.out) (fun hHeld => ?_)
          clear hK K
          refine wpAnyH_ready (rs := [12]) (by kernel_rfl) (by simp) ?_
          refine AllReadyH.cons rfl (fun K hK => ?_) AllReadyH.nil
          go_simp
          go_wp2_with (go_at_call 32; refine (HNt.out _ h5).mono ?_; rintro e w6 ⟨rfl, h6, hb6⟩)
          refine hK.out _ _ (HC6.out _ h6.out) (fun hHeld => ?_)
          clear hK K
          refine wpAnyH_take (i := 13) (v := .int .i64 ((putR s g l).e : Int)) rfl (by kernel_rfl) (by kernel_rfl) (by kernel_rfl) (fun _ _ _ h => h) (Or.inl ⟨by rfl, ?_⟩) (by first | assumption | exact trivial) ?_
          · intro W hSW; go_simp; try (with_reducible rfl)
          simp only [Act.put, List.getElem_toArray, List.getElem_cons_succ, List.getElem_cons_zero, List.setIfInBounds_toArray, List.set_cons_zero, List.set_cons_succ]
          refine wpAnyH_done (by kernel_rfl) ?_ _
          clear hS4
          go_wp2
          go_ret
          exact HQ.out w2 _ _ B2.out hb5.out h6.out hb6.out
    · have hz : ((peN l : Int) == 0) = false := nz hp
      have HR : Hid (appR s g l size (peN l) = ⟨s, g, peN l⟩) := by
        show _ = _
        simp [appR, hf, hp]
      have hfit : ¬ fitR l = true := fun e => hp (pe_fit.2 e)
      obtain ⟨e1, _⟩ := put_nofit hfit
      have HQ : Hid (∀ w', Below w.heap.size w w' → WlP G w X D mb size (appR s g l size (peN l)) (.returned (.int .i64 (peN l : Int))) w') := fun w' h1 => by
        rw [HR.out]
        exact ⟨rfl, (h.out.below h1).wide _, But.of_below h1⟩
      have HPut2 : Hid (Calls Tryz.prog 30 #[.slice A l.length cap] w fun e w' => ∃ b k, e = .returned (.tuple #[.slice b 0 k, .int .i64 (peN l : Int)]) ∧ Hid (Below w.heap.size w w')) := HPut.out.mono fun e w' hq => by
        obtain ⟨A', k, q1, q2, q3⟩ := hq.q
        rw [e1, putE_pe] at q1
        exact ⟨A', k, q1, q3⟩
      obtain ⟨c, hcc⟩ : ∃ c, peN l = c := ⟨_, rfl⟩
      rw [hcc] at HPut2 HQ hz ⊢
      obtain ⟨m, hml⟩ : ∃ m, l.length = m := ⟨_, rfl⟩
      rw [hml] at HPut2 ⊢
      clear hp hf hfit e1 HPut HR hr hA hlc hc hcc hml c0
      go_enter Tryz.func12, Tryz.ntmps12
      go_wp2_with (go_at_call 30; refine HPut2.out.mono ?_; rintro e w1 ⟨b, kr, rfl, B1⟩)
      go_ret
      exact HQ.out _ B1.out
end
end Go.Proofs.YtbacgljeadalbaaGreatDoor.Wl
