/- The walk of the law WalAgain. -/
import Derived.Test.YtbacgljeadalbaaGreatDoorZ19
namespace Go.Proofs.YtbacgljeadalbaaGreatDoor.Wl
open Go.RowKit
open Go.Proofs.YtbacgljeadalbaaGreatDoor.Me Go.Proofs.YtbacgljeadalbaaGreatDoor.Hd Go.Proofs.YtbacgljeadalbaaGreatDoor.Dk Go.Proofs.YtbacgljeadalbaaGreatDoor.Rc
set_option linter.unusedVariables false
set_option linter.unusedSimpArgs false

set_option maxRecDepth 100000 in
set_option maxHeartbeats 8000000 in
theorem wagain (n : Int) (al : Option Addr) (ll cl : Nat) (ls : List Ac) (ak : Option Addr) (lk ck : Nat) (ks : List Int) (w : World) (hn : (Lit.int .i64 n).wf = true) (hl : ll = ls.length ∧ ll ≤ cl ∧ cl ≤ 9223372036854775807 ∧ Acts w al ls) (hk : Mi.BySlice w ak lk ck ks) (hck : ck * 8 ≤ 140737488351232) :
    Calls Tryz.prog 5 #[.int .i64 n, .slice al ll cl, .slice ak lk ck] w fun e w' => e = .returned (.bool true) ∧ Below w.heap.size w w' := by
  by_cases hs : 16 ≤ n ∧ n ≤ 1048576
  · obtain ⟨size, rfl⟩ : ∃ size : Nat, n = (size : Int) := ⟨n.toNat, by omega⟩
    have hs1 : 16 ≤ size := by omega
    have hs2 : size ≤ 1048576 := by omega
    obtain ⟨rfl, hl1, hl2, hact⟩ := hl
    obtain ⟨rfl, hk1, hk2, hk3, hk4, hk5⟩ := hk
    have HBg := Lib.hid (begin_any size hs1 hs2 w)
    have HACT := Lib.hid hact
    have HKR := Lib.hid hk3
    have HK1 := Lib.hid hk1
    have HK2 := Lib.hid hk2
    have HS1 := Lib.hid hs1
    have HS2 := Lib.hid hs2
    obtain ⟨mb, hmb⟩ : ∃ mb, w.heap.size = mb := ⟨_, rfl⟩
    have H0 : Hid (∀ w1 X, Lq (From w.heap.size) w1 X (mb + 1) mb (newS 1048576) ⟨1, false⟩ size → Below w.heap.size w w1 → Wa w w1 X (mb + 1) mb size (newS 1048576) ⟨1, false⟩ (Lo (From w.heap.size) w1.heap.size)) := fun w1 X h1 h2 => ⟨h1.low, fun k e => e, h2⟩
    obtain ⟨D, hD⟩ : ∃ D, mb + 1 = D := ⟨_, rfl⟩
    rw [hmb, hD] at HBg
    rw [hD] at H0
    obtain ⟨L, hL⟩ : ∃ L, ls.length = L := ⟨_, rfl⟩
    have HL := Lib.hid hL
    rw [hL] at hl1 ⊢
    obtain ⟨K, hK⟩ : ∃ K, ks.length = K := ⟨_, rfl⟩
    have HKK := Lib.hid hK
    rw [hK] at ⊢
    have HMB := Lib.hid hmb
    have g1 : (size : Int) ≤ 1048576 := by omega
    have hL63 : (L : Int) ≤ 9223372036854775807 := by omega
    clear hs hs1 hs2 hn hact hk1 hk2 hk3 hk4 hk5 hL hK hmb hD hck
    go_enter Tryz.func5, Tryz.ntmps5
    go_wp2_with (go_at_call 10; refine HBg.out.mono ?_; rintro e w1 ⟨X, rfl, h1, b1⟩; have I0 := Lib.hid (H0.out w1 X (HMB.out.symm ▸ h1.out) (HMB.out.symm ▸ b1.out)))
    clear H0 HBg
    go_loopw [9] (fun iv wr => ∃ (i : Nat) (s : St) (g : Lg) (G : Nat → Prop), i ≤ L ∧ i ≤ 60 ∧ iv = .int .i64 i ∧ Hid (Wa w wr X D mb size s g G)) (fun iv _ => 60 - (intOf iv).toNat)
    case atStart => exact ⟨0, _, _, _, Nat.zero_le _, Nat.zero_le _, rfl, I0⟩
    case round =>
      obtain ⟨i, s, g, G, hiL, hi60, rfl, HI⟩ := hrel
      by_cases hgo : i < L ∧ i < 60
      · have hi1 : (i : Int) < (L : Int) := by omega
        have hi2 : (i : Int) < 60 := by omega
        have hj1 := hgo.1
        obtain ⟨b, off, R, cr, rfl, hb, c0, c1, c2, p1, p2, p3, p4, p5⟩ := HACT.out i (by have := HL.out; omega)
        obtain ⟨a, ha⟩ : ∃ a, acAt ls i = a := ⟨_, rfl⟩
        rw [ha] at c0 c1 c2 p1 p3 p4 p5
        obtain ⟨k, m, p⟩ := a
        simp only at c0 c1 c2 p1 p3 p4 p5
        have bw := HI.out.bel
        have d0 : wr.cell? ⟨b, off + i * 4, none⟩ = some (.int .i64 k) := by rw [bw.cell (p := ⟨b, off + i * 4, none⟩) hb]; exact c0
        have d1 : wr.cell? ⟨b, off + i * 4 + 1, none⟩ = some (.int .i64 m) := by rw [bw.cell (p := ⟨b, off + i * 4 + 1, none⟩) hb]; exact c1
        have d2 : wr.cell? ⟨b, off + i * 4 + 2, none⟩ = some (.slice R p.length cr) := by rw [bw.cell (p := ⟨b, off + i * 4 + 2, none⟩) hb]; exact c2
        have HR : Hid (Me.Rd wr wr.heap.size R p) := (p3.below bw).more bw.size
        have HP4 : Hid (R = none → p.length = 0 ∧ cr = 0) := p4
        have HCells : Hid (∀ W, Below w.heap.size w W → W.cell? ⟨b, off + i * 4 + 1, none⟩ = some (.int .i64 m) ∧ W.cell? ⟨b, off + i * 4 + 2, none⟩ = some (.slice R p.length cr)) := fun W h => ⟨by rw [h.cell (p := ⟨b, off + i * 4 + 1, none⟩) hb]; exact c1, by rw [h.cell (p := ⟨b, off + i * 4 + 2, none⟩) hb]; exact c2⟩
        have HN : Hid (∀ W, Calls Tryz.prog 7 #[.int .i64 m] W fun e w' => e = .returned (.string ⟨(nameI m).toArray⟩) ∧ Hid (Below W.heap.size W w')) := fun W => Name_any m W
        by_cases k0 : k = 0
        · subst k0
          have HA2 : Hid (Calls Tryz.prog 12 #[.pointer (some ⟨X, 0, none⟩), .slice R p.length cr] wr fun e w' => ∃ c : Nat, e = .returned (.int .i64 (c : Int)) ∧ Hid (∃ (s' : St) (g' : Lg) (G' : Nat → Prop), Wa w w' X D mb size s' g' G')) :=
            (Append_any wr X D mb s g size (Lib.hid HI.out.lq) R cr p HR (Lib.hid p4) p1 (by omega)).mono fun e w' ⟨q1, q2, q3⟩ => ⟨_, q1, HI.out.call q2.out q3.out⟩
          obtain ⟨N, hN⟩ : ∃ N, p.length = N := ⟨_, rfl⟩
          rw [hN] at HA2 d2
          clear hN c0 c1 c2 p1 p2 p3 p4 p5 ha hgo HCells HN d1
          go_wp2_with (go_at_call 12; refine HA2.out.mono ?_; rintro e w3 ⟨c, rfl, HW⟩)
          go_roundw
          case rel =>
            obtain ⟨s', g', G', hW⟩ := HW.out
            exact ⟨i + 1, s', g', G', by omega, by omega, by go_num, hW⟩
          case measure => simp [intOf]; omega
        by_cases k1 : k = 1
        · subst k1
          have HA2 : Hid (Calls Tryz.prog 13 #[.pointer (some ⟨X, 0, none⟩)] wr fun e w' => ∃ c : Nat, e = .returned (.int .i64 (c : Int)) ∧ Hid (∃ (s' : St) (g' : Lg) (G' : Nat → Prop), Wa w w' X D mb size s' g' G')) :=
            (Sync_any wr X D mb s g size (Lib.hid HI.out.lq)).mono fun e w' ⟨q1, q2, q3⟩ => ⟨_, q1, HI.out.call q2.out q3.out⟩
          clear c0 c1 c2 p1 p2 p3 p4 p5 ha hgo HCells HN d1 d2
          go_wp2_with (go_at_call 13; refine HA2.out.mono ?_; rintro e w3 ⟨c, rfl, HW⟩)
          go_roundw
          case rel =>
            obtain ⟨s', g', G', hW⟩ := HW.out
            exact ⟨i + 1, s', g', G', by omega, by omega, by go_num, hW⟩
          case measure => simp [intOf]; omega
        by_cases k2 : k = 2
        · subst k2
          have HA2 : Hid (Calls Tryz.prog 14 #[.pointer (some ⟨X, 0, none⟩)] wr fun e w' => ∃ z c : Nat, e = .returned (.tuple #[.int .i64 (z : Int), .int .i64 (c : Int)]) ∧ Hid (∃ (s' : St) (g' : Lg) (G' : Nat → Prop), Wa w w' X D mb size s' g' G')) :=
            (Begin_any wr X D mb s g size (Lib.hid HI.out.lq)).mono fun e w' ⟨q1, q2, q3⟩ => ⟨_, _, q1, HI.out.call q2.out q3.out⟩
          clear c0 c1 c2 p1 p2 p3 p4 p5 ha hgo HCells HN d1 d2
          go_wp2_with (go_at_call 14; refine HA2.out.mono ?_; rintro e w3 ⟨z, c, rfl, HW⟩)
          go_roundw
          case rel =>
            obtain ⟨s', g', G', hW⟩ := HW.out
            exact ⟨i + 1, s', g', G', by omega, by omega, by go_num, hW⟩
          case measure => simp [intOf]; omega
        by_cases k7 : k = 7
        · subst k7
          have hpb := p3.1
          have HA2 : Hid (∀ W, Below wr.heap.size wr W → Calls Tryz.prog 19 #[.pointer (some ⟨D, 0, none⟩), .string ⟨(nameI m).toArray⟩, .slice R p.length cr] W fun e w' => ∃ c : Nat, e = .returned (.int .i64 (c : Int)) ∧ Hid (∃ (s' : St) (g' : Lg) (G' : Nat → Prop), Wa w w' X D mb size s' g' G')) := fun W hW =>
            (Dk.Append_any W D mb s (HI.out.lq.below hW).dq HI.out.lq.good.ok (nameI m) R cr p ((HR.out.below hW).more hW.size) HP4 (by omega)).mono fun e w' ⟨q1, q2, q3⟩ => ⟨_, q1, HI.out.disk hW q2.out q3.out ⟨HI.out.lq.good.ok.app _ hpb, HI.out.lq.good.seg.app m p, HI.out.lq.good.num⟩⟩
          obtain ⟨N, hN⟩ : ∃ N, p.length = N := ⟨_, rfl⟩
          rw [hN] at HA2 d2 HCells
          obtain ⟨Sn, hSn⟩ : ∃ Sn, (⟨(nameI m).toArray⟩ : ByteArray) = Sn := ⟨_, rfl⟩
          rw [hSn] at HN HA2
          have S0 : Hid (wr.drew.cell? ⟨b, off + i * 4 + 1, none⟩ = some (.int .i64 m) ∧ wr.drew.cell? ⟨b, off + i * 4 + 2, none⟩ = some (.slice R N cr)) := ⟨d1, d2⟩
          have BW := Lib.hid bw
          clear hN hSn c0 c1 c2 p1 p2 p3 p4 p5 ha hgo d1 d2 bw hpb
          go_wp2
          refine wp_region_held_drew (S := fun W => W.cell? ⟨b, off + i * 4 + 1, none⟩ = some (.int .i64 m) ∧ W.cell? ⟨b, off + i * 4 + 2, none⟩ = some (.slice R N cr)) (by kernel_rfl) S0.out (fun hHeld => ?_)
          refine wpAnyH_take (i := 0) (v := .pointer (some ⟨D, 0, none⟩)) rfl (by kernel_rfl) (by kernel_rfl) (by kernel_rfl) (fun _ _ _ h => h) (Or.inl ⟨by rfl, ?_⟩) (by first | assumption | exact trivial) ?_
          · intro W hSW; go_simp; try (with_reducible rfl)
          simp only [Act.put, List.getElem_toArray, List.getElem_cons_succ, List.getElem_cons_zero, List.setIfInBounds_toArray, List.set_cons_zero, List.set_cons_succ]
          refine wpAnyH_take (i := 1) (v := .slice (some ⟨b, off, none⟩) L cl) rfl (by kernel_rfl) (by kernel_rfl) (by kernel_rfl) (fun _ _ _ h => h) (Or.inl ⟨by rfl, ?_⟩) (by first | assumption | exact trivial) ?_
          · intro W hSW; go_simp; try (with_reducible rfl)
          simp only [Act.put, List.getElem_toArray, List.getElem_cons_succ, List.getElem_cons_zero, List.setIfInBounds_toArray, List.set_cons_zero, List.set_cons_succ]
          refine wpAnyH_take (i := 2) (v := .int .i64 (i : Int)) rfl (by kernel_rfl) (by kernel_rfl) (by kernel_rfl) (fun _ _ _ h => h) (Or.inl ⟨by rfl, ?_⟩) (by first | assumption | exact trivial) ?_
          · intro W hSW; go_simp; try (with_reducible rfl)
          simp only [Act.put, List.getElem_toArray, List.getElem_cons_succ, List.getElem_cons_zero, List.setIfInBounds_toArray, List.set_cons_zero, List.set_cons_succ]
          refine wpAnyH_take (i := 3) (v := .pointer (some ⟨b, off + i * 4, none⟩)) rfl (by kernel_rfl) (by kernel_rfl) (by kernel_rfl) (fun _ _ _ h => h) (Or.inl ⟨by rfl, ?_⟩) (by first | assumption | exact trivial) ?_
          · intro W hSW; go_simp; try (with_reducible rfl)
          simp only [Act.put, List.getElem_toArray, List.getElem_cons_succ, List.getElem_cons_zero, List.setIfInBounds_toArray, List.set_cons_zero, List.set_cons_succ]
          refine wpAnyH_take (i := 4) (v := .pointer (some ⟨b, off + i * 4 + 1, none⟩)) rfl (by kernel_rfl) (by kernel_rfl) (by kernel_rfl) (fun _ _ _ h => h) (Or.inl ⟨by rfl, ?_⟩) (by first | assumption | exact trivial) ?_
          · intro W hSW; go_simp; try (with_reducible rfl)
          simp only [Act.put, List.getElem_toArray, List.getElem_cons_succ, List.getElem_cons_zero, List.setIfInBounds_toArray, List.set_cons_zero, List.set_cons_succ]
          refine wpAnyH_take (i := 5) (v := .int .i64 m) rfl (by kernel_rfl) (by kernel_rfl) (by kernel_rfl) (fun _ _ _ h => h) (Or.inl ⟨by rfl, ?_⟩) (by first | assumption | exact trivial) ?_
          · intro W hSW; have q5 := hSW.1; go_simp; try (with_reducible rfl)
          simp only [Act.put, List.getElem_toArray, List.getElem_cons_succ, List.getElem_cons_zero, List.setIfInBounds_toArray, List.set_cons_zero, List.set_cons_succ]
          refine wpAnyH_take (i := 7) (v := .slice (some ⟨b, off, none⟩) L cl) rfl (by kernel_rfl) (by kernel_rfl) (by kernel_rfl) (fun _ _ _ h => h) (Or.inl ⟨by rfl, ?_⟩) (by first | assumption | exact trivial) ?_
          · intro W hSW; go_simp; try (with_reducible rfl)
          simp only [Act.put, List.getElem_toArray, List.getElem_cons_succ, List.getElem_cons_zero, List.setIfInBounds_toArray, List.set_cons_zero, List.set_cons_succ]
          refine wpAnyH_take (i := 8) (v := .int .i64 (i : Int)) rfl (by kernel_rfl) (by kernel_rfl) (by kernel_rfl) (fun _ _ _ h => h) (Or.inl ⟨by rfl, ?_⟩) (by first | assumption | exact trivial) ?_
          · intro W hSW; go_simp; try (with_reducible rfl)
          simp only [Act.put, List.getElem_toArray, List.getElem_cons_succ, List.getElem_cons_zero, List.setIfInBounds_toArray, List.set_cons_zero, List.set_cons_succ]
          refine wpAnyH_take (i := 9) (v := .pointer (some ⟨b, off + i * 4, none⟩)) rfl (by kernel_rfl) (by kernel_rfl) (by kernel_rfl) (fun _ _ _ h => h) (Or.inl ⟨by rfl, ?_⟩) (by first | assumption | exact trivial) ?_
          · intro W hSW; go_simp; try (with_reducible rfl)
          simp only [Act.put, List.getElem_toArray, List.getElem_cons_succ, List.getElem_cons_zero, List.setIfInBounds_toArray, List.set_cons_zero, List.set_cons_succ]
          refine wpAnyH_take (i := 10) (v := .pointer (some ⟨b, off + i * 4 + 2, none⟩)) rfl (by kernel_rfl) (by kernel_rfl) (by kernel_rfl) (fun _ _ _ h => h) (Or.inl ⟨by rfl, ?_⟩) (by first | assumption | exact trivial) ?_
          · intro W hSW; go_simp; try (with_reducible rfl)
          simp only [Act.put, List.getElem_toArray, List.getElem_cons_succ, List.getElem_cons_zero, List.setIfInBounds_toArray, List.set_cons_zero, List.set_cons_succ]
          refine wpAnyH_take (i := 11) (v := .slice R N cr) rfl (by kernel_rfl) (by kernel_rfl) (by kernel_rfl) (fun _ _ _ h => h) (Or.inl ⟨by rfl, ?_⟩) (by first | assumption | exact trivial) ?_
          · intro W hSW; have q11 := hSW.2; go_simp; try (with_reducible rfl)
          simp only [Act.put, List.getElem_toArray, List.getElem_cons_succ, List.getElem_cons_zero, List.setIfInBounds_toArray, List.set_cons_zero, List.set_cons_succ]
          refine wpAnyH_ready (rs := [6]) (by kernel_rfl) (by simp) ?_
          refine AllReadyH.cons rfl (fun K hK => ?_) AllReadyH.nil
          go_simp
          go_wp2_with (go_at_call 7; refine (HN.out _).mono ?_; rintro e w3 ⟨rfl, b3⟩; have B3 : Hid (Below wr.heap.size wr w3) := (Below.refl _ wr).drew.trans (b3.out.mono (Nat.le_refl _)))
          refine hK.out _ _ (HCells.out w3 (BW.out.trans (B3.out.mono BW.out.size))) (fun hHeld => ?_)
          clear hK K
          refine wpAnyH_ready (rs := [12]) (by kernel_rfl) (by simp) ?_
          refine AllReadyH.cons rfl (fun K hK => ?_) AllReadyH.nil
          go_simp
          go_wp2_with (go_at_call 19; refine (HA2.out w3 B3.out).mono ?_; rintro e w4 ⟨c, rfl, HW⟩; have y4 := HCells.out w4 (by obtain ⟨s', g', G', hW⟩ := HW.out; exact hW.bel))
          refine hK.out _ _ (y4) (fun hHeld => ?_)
          clear hK K
          refine wpAnyH_done (by kernel_rfl) ?_ _
          go_wp2
          go_roundw
          case rel =>
            obtain ⟨s', g', G', hW⟩ := HW.out
            exact ⟨i + 1, s', g', G', by omega, by omega, by go_num, hW⟩
          case measure => simp [intOf]; omega
        by_cases k8 : k = 8
        · subst k8
          have HA2 : Hid (∀ W, Below wr.heap.size wr W → Calls Tryz.prog 20 #[.pointer (some ⟨D, 0, none⟩), .string ⟨(nameI m).toArray⟩] W fun e w' => ∃ c : Nat, e = .returned (.int .i64 (c : Int)) ∧ Hid (∃ (s' : St) (g' : Lg) (G' : Nat → Prop), Wa w w' X D mb size s' g' G')) := fun W hW =>
            (Dk.Remove_any W D mb s (HI.out.lq.below hW).dq HI.out.lq.good.ok (nameI m)).mono fun e w' ⟨q1, q2, q3⟩ => ⟨_, q1, HI.out.disk hW q2.out q3.out ⟨HI.out.lq.good.ok.rem _, HI.out.lq.good.seg.rem _, HI.out.lq.good.num⟩⟩
          obtain ⟨Sn, hSn⟩ : ∃ Sn, (⟨(nameI m).toArray⟩ : ByteArray) = Sn := ⟨_, rfl⟩
          rw [hSn] at HN HA2
          clear hSn c0 c1 c2 p1 p2 p3 p4 p5 ha hgo d2 HCells
          go_wp2_with (first
            | (go_at_call 7; refine (HN.out _).mono ?_; rintro e w3 ⟨rfl, b3⟩)
            | (go_at_call 20; refine (HA2.out w3 b3.out).mono ?_; rintro e w4 ⟨c, rfl, HW⟩))
          go_roundw
          case rel =>
            obtain ⟨s', g', G', hW⟩ := HW.out
            exact ⟨i + 1, s', g', G', by omega, by omega, by go_num, hW⟩
          case measure => simp [intOf]; omega
        · have n0 : (k == 0) = false := by simpa using k0
          have n1 : (k == 1) = false := by simpa using k1
          have n2 : (k == 2) = false := by simpa using k2
          have n7 : (k == 7) = false := by simpa using k7
          have n8 : (k == 8) = false := by simpa using k8
          clear k0 k1 k2 k7 k8 c0 c1 c2 p1 p2 p3 p4 p5 ha hgo HCells HN d1 d2
          go_wp2
          go_roundw
          case rel => exact ⟨i + 1, s, g, G, by omega, by omega, by go_num, HI⟩
          case measure => simp [intOf]; omega
      · have HCr : Hid (Calls Tryz.prog 16 #[.pointer (some ⟨D, 0, none⟩), .slice ak K ck] wr fun e w3 => e = .returned (.int .i64 0) ∧ Hid (Dq (G2 G X wr w3) w3 D mb (crashS s ks)) ∧ Hid (But (Bx G X) wr w3)) := by
          have := wa_crash HI.out HKR.out HK1.out HK2.out
          rw [HKK.out] at this
          exact this
        have HO1 := Lib.hid (fun w3 hd hb => wa_open (w3 := w3) (ks := ks) HI.out hd hb HS1.out HS2.out)
        have hlt : (¬ (i : Int) < (L : Int)) ∨ ((i : Int) < (L : Int) ∧ ¬ (i : Int) < 60) := by omega
        clear hgo
        rcases hlt with hlt | hlt
        case' inr => obtain ⟨hlt1, hlt2⟩ := hlt
        all_goals
          go_wp2_with (first
            | (go_at_call 16; refine HCr.out.mono ?_; rintro e w3 ⟨rfl, d3, b3⟩; have O1 := Lib.hid (HO1.out w3 d3.out b3.out))
            | (go_at_call 17; (with_reducible refine O1.out.mono ?_); rintro e w4 ⟨X1, last, A1, c1, ps, s1, G1, rfl, ho⟩; have HFk := Lib.hid (oa_fork ho.out); obtain ⟨n1, hn1⟩ : ∃ n1, ps.length = n1 := ⟨_, rfl⟩; have HN1 := Lib.hid hn1; rw [hn1] at ⊢; clear hn1)
            | (go_at_call 21; refine HFk.out.mono ?_; rintro e w5 ⟨rfl, d5, b5⟩; have O2 := Lib.hid (oa_open ho.out d5.out b5.out HS1.out HS2.out); rw [HN1.out] at O2)
            | (go_at_call 17; (with_reducible refine O2.out.mono ?_); rintro e w6 ⟨X2, A2, c2, z, rfl, HAg⟩; have BA6 := Lib.hid (Below.refl w6.heap.size w6))
            | (go_at_call 18; refine (HAg.out.same w6 BA6.out).mono ?_; rintro e w7 ⟨rfl, b7⟩; have B7 : Hid (Below w6.heap.size w6 w7) := b7)
            | (go_at_call 22; (with_reducible refine (HAg.out.last1 w7 B7.out).mono ?_); rintro e w' ⟨rfl, rfl⟩)
            | (go_at_call 22; (with_reducible refine (HAg.out.last2 w7 B7.out).mono ?_); rintro e w' ⟨rfl, rfl⟩)
            | (go_at_call 23; (with_reducible refine (HAg.out.size1 w7 B7.out).mono ?_); rintro e w8 ⟨rfl, b8⟩; have B8 : Hid (Below w6.heap.size w6 w8) := B7.out.trans (b8.out.mono B7.out.size))
            | (go_at_call 23; (with_reducible refine (HAg.out.size2 w8 B8.out).mono ?_); rintro e w9 ⟨rfl, b9⟩; have B9 : Hid (Below w6.heap.size w6 w9) := B8.out.trans (b9.out.mono B8.out.size))
            | (go_at_call 24; (with_reducible refine (HAg.out.names1 w9 B9.out).mono ?_); rintro e w10 ⟨va, rfl, hSa, b10⟩; obtain ⟨Aa, ca, rfl, hla, hma, hcells⟩ := hSa.out.form; rw [show (namesL s1.files).length = s1.files.length from List.length_map ..] at hla hcells ⊢; have HCa := Lib.hid hcells; have B10 : Hid (Below w6.heap.size w6 w10) := B9.out.trans (b10.out.mono B9.out.size); clear hcells hSa)
            | (go_at_call 24; (with_reducible refine (HAg.out.names2 w10 B10.out).mono ?_); rintro e w11 ⟨vb, rfl, hSb, b11⟩; obtain ⟨Ab, cb, rfl, hlb, hmb, hcells⟩ := hSb.out.form; rw [show (namesL s1.files).length = s1.files.length from List.length_map ..] at hlb hcells ⊢; have HCb := Lib.hid hcells; have B11 : Hid (Below w6.heap.size w6 w11) := B10.out.trans (b11.out.mono B10.out.size); clear hcells hSb))
          obtain ⟨F, hF⟩ : ∃ F, s1.files.length = F := ⟨_, rfl⟩
          have HF := Lib.hid hF
          have hF64 : F ≤ 64 := by rw [← hF]; exact HAg.out.cnt
          rw [hF] at hla hlb HCa HCb ⊢
          clear hF
          have B6 := Lib.hid HAg.out.bel
          go_loopw [19] (fun v wr => ∃ k : Nat, k ≤ F ∧ v = .int .i64 k ∧ Hid (Below w11.heap.size w11 wr)) (fun v _ => F - (intOf v).toNat)
          case atStart => exact ⟨0, Nat.zero_le _, rfl, Below.refl _ _⟩
          case round =>
            obtain ⟨k, hk, rfl, hb⟩ := hrel
            have BW : Hid (Below w6.heap.size w6 wr) := B11.out.trans (hb.out.mono B11.out.size)
            by_cases hlt2 : k < F
            · have hkF : k < s1.files.length := by rw [HF.out]; exact hlt2
              obtain ⟨g1, e1, g1a, g1b, hc1⟩ := HCa.out (by omega)
              obtain ⟨g2, e2, g2a, g2b, hc2⟩ := HCb.out (by omega)
              subst e1 e2
              obtain ⟨nm, hnm⟩ : ∃ nm, s1.files[k].1 = nm := ⟨_, rfl⟩
              have en : (namesL s1.files).getD k [] = nm := by simp [namesL, hkF, hnm]
              have x1 := hc1 k hlt2
              have x2 := hc2 k hlt2
              rw [en] at x1 x2
              have hsz1 : w10.heap.size ≤ w11.heap.size := b11.out.size
              have X1' : Hid (∀ W, Below w11.heap.size w11 W → W.cell? ⟨g1, k, none⟩ = some (nmV nm)) := fun W hW => by
                rw [hW.cell (p := ⟨g1, k, none⟩) (show g1 < _ by omega), b11.out.cell (p := ⟨g1, k, none⟩) (show g1 < _ by omega)]; exact x1
              have X2' : Hid (∀ W, Below w11.heap.size w11 W → W.cell? ⟨g2, k, none⟩ = some (nmV nm)) := fun W hW => by
                rw [hW.cell (p := ⟨g2, k, none⟩) (show g2 < _ by omega)]; exact x2
              have R1 := Lib.hid (fun W => HAg.out.read1 W nm)
              have R2 := Lib.hid (fun W => HAg.out.read2 W nm)
              unfold ReadP at R1 R2
              obtain ⟨fe, hfe⟩ : ∃ fe : Int, (findE s1 nm : Int) = fe := ⟨_, rfl⟩
              obtain ⟨l, hl⟩ : ∃ l, readP s1 nm = l := ⟨_, rfl⟩
              rw [hfe, hl] at R1 R2
              obtain ⟨q, hq⟩ : ∃ q, l.length = q := ⟨_, rfl⟩
              have HQ := Lib.hid hq
              rw [hq] at R1 R2
              obtain ⟨ns, hns⟩ : ∃ ns, (⟨nm.toArray⟩ : ByteArray) = ns := ⟨_, rfl⟩
              have y1 := X1'.out wr hb.out
              simp only [nmV] at X1' X2' R1 R2 y1
              rw [hns] at X1' X2' R1 R2 y1
              have q1 : (k : Int) < (F : Int) := by omega
              have q0 : (0 : Int) ≤ (k : Int) := by omega
              clear hns en x1 x2 hnm hc1 hc2 HCa HCb hsz1 hkF hfe hl hq
              go_wp2_with (first
                | (go_at_call 25; (with_reducible refine (R1.out wr BW.out).mono ?_); rintro e w12 ⟨A5, rfl, r5, n5, _, hb5⟩; have B5 : Hid (Below w11.heap.size w11 w12) := hb.out.trans (hb5.out.mono hb.out.size); have BW5 : Hid (Below w6.heap.size w6 w12) := BW.out.trans (hb5.out.mono BW.out.size); have y2 := X2'.out w12 B5.out; clear hb5)
                | (go_at_call 25; (with_reducible refine (R2.out w12 BW5.out).mono ?_); rintro e w13 ⟨A6, rfl, r6, n6, _, hb6⟩; have B13 : Hid (Below w11.heap.size w11 w13) := B5.out.trans (hb6.out.mono B5.out.size); have y3 := X1'.out w13 B13.out; have y4 := X2'.out w13 B13.out; have r5' := Lib.hid ((r5.out.below hb6.out).more hb6.out.size); clear hb6))
              have hv1 : ∀ x, (convert 32 9 (.slice A5 q q)).run Tryz.prog (w13.drewN x) = .ok (.string (Me.strOf l)) (w13.drewN x) := fun x => by
                have := conv_rd (w13.drewN x) _ A5 l q (r5'.out.below (Me.below_drewN (Below.refl _ w13) x)) (fun e => by have := n5.out e; rw [HQ.out]; omega)
                rwa [HQ.out] at this
              have hv2 : ∀ x, (convert 32 9 (.slice A6 q q)).run Tryz.prog (w13.drewN x) = .ok (.string (Me.strOf l)) (w13.drewN x) := fun x => by
                have := conv_rd (w13.drewN x) _ A6 l q (r6.out.below (Me.below_drewN (Below.refl _ w13) x)) (fun e => by have := n6.out e; rw [HQ.out]; omega)
                rwa [HQ.out] at this
              go_quiet (fail)
              go_wp2
              go_roundw
              case rel => exact ⟨k + 1, by omega, by go_num, by show Below _ _ _; exact B13.out.trans ⟨rfl, rfl, rfl, Nat.le_refl _, fun _ _ => rfl⟩⟩
              case measure => simp [intOf]; omega
            · obtain rfl : k = F := by omega
              have BF : Hid (Below w.heap.size w wr) := B6.out.trans (BW.out.mono B6.out.size)
              go_wp2_with (go_at_call 9; refine (awake_below BF).mono ?_; rintro e w14 ⟨rfl, b14⟩)
              go_ret
              exact ⟨rfl, b14.out⟩
  · have HBg := Lib.hid (begin_bad n (by omega) w)
    have HMy : Hid (∀ W, Calls Tryz.prog 11 #[.int .i64 n] W fun e w' => e = .returned (.bool false) ∧ W = w') := fun W => by
      have := may_any n W
      rw [decide_eq_false hs] at this
      exact this
    clear hs hl hk hck
    go_enter Tryz.func5, Tryz.ntmps5
    go_wp2_with (first
      | (go_at_call 10; refine HBg.out.mono ?_; rintro e w1 ⟨rfl, b1⟩)
      | (go_at_call 11; refine (HMy.out _).mono ?_; rintro e w' ⟨rfl, rfl⟩)
      | (go_at_call 9; refine (awake_below b1).mono ?_; rintro e w2 ⟨rfl, b2⟩))
    go_ret
    exact ⟨rfl, b2.out⟩
end Go.Proofs.YtbacgljeadalbaaGreatDoor.Wl
