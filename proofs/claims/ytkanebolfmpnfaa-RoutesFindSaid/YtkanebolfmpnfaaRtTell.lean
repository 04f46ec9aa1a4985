/- The law's tell: all tables tell all their neighbours. -/
import Derived.Test.YtkanebolfmpnfaaRtTell0
namespace Go.Proofs.Ytkanebolfmpnfaa.Rt
open Go.RowKit Go.Maps
open Go.Proofs.Ytkanebolfmpnfaa.Sb
set_option linter.unusedVariables false
set_option linter.unusedSimpArgs false

set_option maxRecDepth 100000 in
set_option maxHeartbeats 8000000 in
theorem tell_any (N : Int) (L : Nat) (hL : L < 18446744073709551616) (n : Nat) (hn : 1 ≤ n ∧ n ≤ 8) (B P c : Nat) (D mb : Nat → Nat) (v : Nat → Value) (T : Nat → Tb) (w : World) (hT : Hid (NetT n (lkB L) T)) (h : Hid (Ts B w n D mb v T)) (hP : Hid (Ps w P n D)) (hB : Hid (B ≤ w.heap.size)) :
    Calls Try.prog 27 #[.agg (netV N L), .slice (some ⟨P, 0, none⟩) n c] w fun e w' => e = .returned (.tuple #[]) ∧ Hid (Ts B w' n D mb v fun k => toldK (lkB L) T k n) ∧ Hid (Ps w' P n D) ∧ Hid (Below B w w') := by
  obtain ⟨i0, hi, hz0, hz1, hz2⟩ := info_parts (P := Try.prog) (e := 55) (z := .slice none 0 0) (size := 1) (bytes := 24) (by kernel_rfl)
  obtain ⟨hn1, hn8⟩ := hn
  have HBX : Hid ((w.alloc (.cells (netV N L) 61)).heap[w.heap.size]? = some (.cells (netV N L) 61 (0, 0))) := heap_alloc_new w _
  have HB0 : Hid (Below w.heap.size w (w.alloc (.cells (netV N L) 61))) := Mi.below_alloc (Below.refl _ _)
  have HSZ : Hid ((w.alloc (.cells (netV N L) 61)).heap.size = w.heap.size + 1) := World.size_alloc _ _
  obtain ⟨w1, hw1⟩ : ∃ w1, w.alloc (.cells (netV N L) 61) = w1 := ⟨_, rfl⟩
  have HW1 : Hid (w.alloc (.cells (netV N L) 61) = w1) := hw1
  rw [hw1] at HBX HB0 HSZ
  clear hw1
  have HLK := Lib.hid (fun (i k : Nat) (hi : i < n) (hk : k < n) (W : World) => linked_any N L hL i k (by omega) (by omega) W)
  go_enter Try.func27, Try.ntmps27
  go_wp2_with (first
    | (refine Mi.allocTo rfl (.pointer (some ⟨_, 0, none⟩)) (.cells (netV N L) 61 (0, 0)) (exec_boxn _ _ N L (.tmp 0) rfl rfl _) ?_; rw [HW1.out])
    | (at_make; refine wpList_make_full _ rfl (.tmp 10) (.tmp 10) 92 rfl w1.heap.size 55 i0 (.slice none 0 0) 1 Try.underlying92 hi hz0 hz1 .i64 .i64 _ _ n rfl rfl rfl rfl (by rw [hz2]; omega) (by unfold maxLen; omega) (Nat.le_refl _) ?_; intro w2 hown2 hg2))
  have hsy := made_sy T (Nat.le_refl _) hown2
  have hb2 := Lib.hid (grown_below hg2)
  obtain ⟨g, hg⟩ : ∃ g, w1.heap.size = g := ⟨_, rfl⟩
  have HG : Hid (w1.heap.size = g) := hg
  rw [hg] at hsy ⊢
  clear hg hown2 hg2
  have HSY := Lib.hid hsy
  have HBW : Hid (Below g w1 w2) := by rw [← HG.out]; exact hb2
  have HT1 : Hid (∀ W, Below g w1 W → Ts B W n D mb v T) := fun W hW => (h.out.below HB0.out).below (by rw [HG.out]; exact hW)
  have HP1 : Hid (∀ W, Below g w1 W → Ps W P n D) := fun W hW => (hP.out.below HB0.out).below (by rw [HG.out]; exact hW)
  have HX1 : Hid (∀ W, Below g w1 W → W.heap[w.heap.size]? = some (.cells (netV N L) 61 (0, 0))) := fun W hW => (hW.block _ (by have := HSZ.out; have := HG.out; omega)).trans HBX.out
  have HBB : Hid (∀ W, Below g w1 W → Below B w W) := fun W hW => (HB0.out.mono hB.out).trans (hW.mono (by have := HSZ.out; have := HG.out; have := hB.out; omega))
  clear hsy hb2
  go_loopw [5] (fun k wr => ∃ (i : Nat) (sv : Nat → Value) (xs : Nat → List Value), i ≤ n ∧ k = .int .i64 i ∧ Hid (Sy g wr g n (lsAt T n i 0) sv xs) ∧ Hid (Below g w1 wr)) (fun k _ => n - (intOf k).toNat)
  case atStart => exact ⟨0, _, _, Nat.zero_le _, rfl, HSY, HBW⟩
  case round =>
    obtain ⟨i, sv, xs, hin, rfl, hsi, hbi⟩ := hrel
    by_cases hlt : i < n
    · go_wp2
      go_loopw [6] (fun k wr => ∃ (b : Nat) (sv : Nat → Value) (xs : Nat → List Value), b ≤ n ∧ k = .int .i64 b ∧ Hid (Sy g wr g n (lsAt T n i b) sv xs) ∧ Hid (Below g w1 wr)) (fun k _ => n - (intOf k).toNat)
      case atStart => exact ⟨0, sv, xs, Nat.zero_le _, rfl, hsi, hbi⟩
      case round =>
        clear hsi hbi sv xs
        obtain ⟨b, sv, xs, hbn, rfl, hsk, hbk⟩ := hrel
        by_cases hlb : b < n
        · obtain ⟨A5, m5, c5, hv5⟩ := (hsk.out.row i hlt).form
          have HV5 : Hid (sv i = .slice A5 m5 c5) := hv5
          have c5w : wr.cell? ⟨g, i, none⟩ = some (.slice A5 m5 c5) := by rw [← hv5]; exact hsk.out.cell hlt
          have c5d : wr.drew.cell? ⟨g, i, none⟩ = some (.slice A5 m5 c5) := c5w
          have HLen : Hid ((xs i).length ≤ 1000000) := by
            have := (hsk.out.row i hlt).len
            rw [lsAt_here, vls_len] at this
            show _ ≤ _
            omega
          have HCP : Hid (∀ W, Below g w1 W → W.cell? ⟨P, i, none⟩ = some (.pointer (some ⟨D i, 0, none⟩))) := fun W hW => (HP1.out W hW).cell hlt
          have HV := Lib.hid (fun (W : World) (hW : Below g w1 W) => Vec_f ((HT1.out W hW).tn i hlt) (b : Int))
          have HgS : Hid (g ≤ wr.heap.size) := Nat.le_of_lt hsk.out.lt
          clear hv5
          go_wp2
          refine wp_region_held_drew (S := fun W => Below g w1 W) (by kernel_rfl) hbk.out.drew (fun hHeld => ?_)
          refine wpAnyH_take (i := 0) (v := .slice (some ⟨g, 0, none⟩) n n) rfl (by kernel_rfl) (by kernel_rfl) (by kernel_rfl) (fun _ _ _ h => h) (Or.inl ⟨by rfl, ?_⟩) (by first | assumption | exact trivial) ?_
          · intro W hSW; go_simp; try (with_reducible rfl)
          simp only [Act.put, List.getElem_toArray, List.getElem_cons_succ, List.getElem_cons_zero, List.setIfInBounds_toArray, List.set_cons_zero, List.set_cons_succ]
          refine wpAnyH_take (i := 1) (v := .int .i64 (i : Int)) rfl (by kernel_rfl) (by kernel_rfl) (by kernel_rfl) (fun _ _ _ h => h) (Or.inl ⟨by rfl, ?_⟩) (by first | assumption | exact trivial) ?_
          · intro W hSW; go_simp; try (with_reducible rfl)
          simp only [Act.put, List.getElem_toArray, List.getElem_cons_succ, List.getElem_cons_zero, List.setIfInBounds_toArray, List.set_cons_zero, List.set_cons_succ]
          refine wpAnyH_take (i := 2) (v := .slice (some ⟨g, 0, none⟩) n n) rfl (by kernel_rfl) (by kernel_rfl) (by kernel_rfl) (fun _ _ _ h => h) (Or.inl ⟨by rfl, ?_⟩) (by first | assumption | exact trivial) ?_
          · intro W hSW; go_simp; try (with_reducible rfl)
          simp only [Act.put, List.getElem_toArray, List.getElem_cons_succ, List.getElem_cons_zero, List.setIfInBounds_toArray, List.set_cons_zero, List.set_cons_succ]
          refine wpAnyH_take (i := 3) (v := .int .i64 (i : Int)) rfl (by kernel_rfl) (by kernel_rfl) (by kernel_rfl) (fun _ _ _ h => h) (Or.inl ⟨by rfl, ?_⟩) (by first | assumption | exact trivial) ?_
          · intro W hSW; go_simp; try (with_reducible rfl)
          simp only [Act.put, List.getElem_toArray, List.getElem_cons_succ, List.getElem_cons_zero, List.setIfInBounds_toArray, List.set_cons_zero, List.set_cons_succ]
          refine wpAnyH_take (i := 4) (v := .pointer (some ⟨g, i, none⟩)) rfl (by kernel_rfl) (by kernel_rfl) (by kernel_rfl) (fun _ _ _ h => h) (Or.inl ⟨by rfl, ?_⟩) (by first | assumption | exact trivial) ?_
          · intro W hSW; have q6 := hlt; go_simp; try (with_reducible rfl)
          simp only [Act.put, List.getElem_toArray, List.getElem_cons_succ, List.getElem_cons_zero, List.setIfInBounds_toArray, List.set_cons_zero, List.set_cons_succ]
          refine wpAnyH_take (i := 6) (v := .slice (some ⟨P, 0, none⟩) n c) rfl (by kernel_rfl) (by kernel_rfl) (by kernel_rfl) (fun _ _ _ h => h) (Or.inl ⟨by rfl, ?_⟩) (by first | assumption | exact trivial) ?_
          · intro W hSW; go_simp; try (with_reducible rfl)
          simp only [Act.put, List.getElem_toArray, List.getElem_cons_succ, List.getElem_cons_zero, List.setIfInBounds_toArray, List.set_cons_zero, List.set_cons_succ]
          refine wpAnyH_take (i := 7) (v := .int .i64 (i : Int)) rfl (by kernel_rfl) (by kernel_rfl) (by kernel_rfl) (fun _ _ _ h => h) (Or.inl ⟨by rfl, ?_⟩) (by first | assumption | exact trivial) ?_
          · intro W hSW; go_simp; try (with_reducible rfl)
          simp only [Act.put, List.getElem_toArray, List.getElem_cons_succ, List.getElem_cons_zero, List.setIfInBounds_toArray, List.set_cons_zero, List.set_cons_succ]
          refine wpAnyH_take (i := 8) (v := .pointer (some ⟨P, i, none⟩)) rfl (by kernel_rfl) (by kernel_rfl) (by kernel_rfl) (fun _ _ _ h => h) (Or.inl ⟨by rfl, ?_⟩) (by first | assumption | exact trivial) ?_
          · intro W hSW; have q6 := hlt; go_simp; try (with_reducible rfl)
          simp only [Act.put, List.getElem_toArray, List.getElem_cons_succ, List.getElem_cons_zero, List.setIfInBounds_toArray, List.set_cons_zero, List.set_cons_succ]
          refine wpAnyH_take (i := 9) (v := .pointer (some ⟨D i, 0, none⟩)) rfl (by kernel_rfl) (by kernel_rfl) (by kernel_rfl) (fun _ _ _ h => h) (Or.inl ⟨by rfl, ?_⟩) (by first | assumption | exact trivial) ?_
          · intro W hSW; have q7 := HCP.out W hSW; go_simp; try (with_reducible rfl)
          simp only [Act.put, List.getElem_toArray, List.getElem_cons_succ, List.getElem_cons_zero, List.setIfInBounds_toArray, List.set_cons_zero, List.set_cons_succ]
          refine wpAnyH_take (i := 10) (v := .int .i64 (b : Int)) rfl (by kernel_rfl) (by kernel_rfl) (by kernel_rfl) (fun _ _ _ h => h) (Or.inl ⟨by rfl, ?_⟩) (by first | assumption | exact trivial) ?_
          · intro W hSW; go_simp; try (with_reducible rfl)
          simp only [Act.put, List.getElem_toArray, List.getElem_cons_succ, List.getElem_cons_zero, List.setIfInBounds_toArray, List.set_cons_zero, List.set_cons_succ]
          refine wpAnyH_ready (rs := [5, 11]) (by kernel_rfl) (by simp) ?_
          refine AllReadyH.cons rfl (fun K hK => ?pa) (AllReadyH.cons rfl (fun K hK => ?pb) AllReadyH.nil)
          case' pa =>
            go_simp
            refine hK.out _ _ (hbk.out.drew) (fun hHeld => ?_)
            clear hK K
            refine wpAnyH_ready (rs := [11]) (by kernel_rfl) (by simp) ?_
            refine AllReadyH.cons rfl (fun K hK => ?_) AllReadyH.nil
            go_simp
            go_wp2_with (go_at_call 21; refine (HV.out _ hbk.out.drew).mono ?_; rintro e wV ⟨A7, n7, c7, rfl, hx, hbV⟩)
            have hV0 : Hid (Below wr.heap.size wr wV) := ((Below.refl _ _).drew).trans hbV.out
            have hB7 : Hid (Below g w1 wV) := hbk.out.trans (hV0.out.mono HgS.out)
            obtain ⟨W5, hW5⟩ : ∃ W5, wV.alloc (.cells #[.slice A7 n7 c7] 22) = W5 := ⟨_, rfl⟩
            have HW5 : Hid (wV.alloc (.cells #[.slice A7 n7 c7] 22) = W5) := hW5
            have hB8 : Hid (Below g w1 W5) := by rw [← hW5]; exact hB7.out.alloc (Nat.le_trans HgS.out hV0.out.size) _
            clear hW5 hbV
            refine hK.out _ _ (hB7.out) (fun hHeld => ?_)
            clear hK K
            refine wpAnyH_ready (rs := [12]) (by kernel_rfl) (by simp) ?_
            refine AllReadyH.cons rfl (fun K hK => ?_) AllReadyH.nil
            go_simp
            rw [HW5.out]
            refine hK.out _ _ (hB8.out) (fun hHeld => ?_)
            clear hK K
          case' pb =>
            go_simp
            go_wp2_with (go_at_call 21; refine (HV.out _ hbk.out.drew).mono ?_; rintro e wV ⟨A7, n7, c7, rfl, hx, hbV⟩)
            have hV0 : Hid (Below wr.heap.size wr wV) := ((Below.refl _ _).drew).trans hbV.out
            have hB7 : Hid (Below g w1 wV) := hbk.out.trans (hV0.out.mono HgS.out)
            obtain ⟨W5, hW5⟩ : ∃ W5, wV.alloc (.cells #[.slice A7 n7 c7] 22) = W5 := ⟨_, rfl⟩
            have HW5 : Hid (wV.alloc (.cells #[.slice A7 n7 c7] 22) = W5) := hW5
            have hB8 : Hid (Below g w1 W5) := by rw [← hW5]; exact hB7.out.alloc (Nat.le_trans HgS.out hV0.out.size) _
            have c5V : wV.cell? ⟨g, i, none⟩ = some (.slice A5 m5 c5) := (hV0.out.cell (p := ⟨g, i, none⟩) hsk.out.lt).trans c5w
            have c5A : W5.cell? ⟨g, i, none⟩ = some (.slice A5 m5 c5) := by rw [← hW5]; exact ((Mi.below_alloc (Below.refl _ _)).cell (p := ⟨g, i, none⟩) (Nat.lt_of_lt_of_le hsk.out.lt hV0.out.size)).trans c5V
            clear hW5 hbV
            refine hK.out _ _ (hB7.out) (fun hHeld => ?_)
            clear hK K
            refine wpAnyH_ready (rs := [5, 12]) (by kernel_rfl) (by simp) ?_
            refine AllReadyH.cons rfl (fun K hK => ?pc) (AllReadyH.cons rfl (fun K hK => ?pd) AllReadyH.nil)
            case' pc =>
              go_simp
              refine hK.out _ _ (hB7.out) (fun hHeld => ?_)
              clear hK K
              refine wpAnyH_ready (rs := [12]) (by kernel_rfl) (by simp) ?_
              refine AllReadyH.cons rfl (fun K hK => ?_) AllReadyH.nil
              go_simp
              rw [HW5.out]
              refine hK.out _ _ (hB8.out) (fun hHeld => ?_)
              clear hK K
            case' pd =>
              go_simp
              rw [HW5.out]
              refine hK.out _ _ (hB8.out) (fun hHeld => ?_)
              clear hK K
              refine wpAnyH_ready (rs := [5]) (by kernel_rfl) (by simp) ?_
              refine AllReadyH.cons rfl (fun K hK => ?_) AllReadyH.nil
              go_simp
              refine hK.out _ _ (hB8.out) (fun hHeld => ?_)
              clear hK K
          all_goals
            have h2 : Hid (Below wV.heap.size wV W5) := by rw [← HW5.out]; exact Mi.below_alloc (Below.refl _ _)
            have hox : Sown W5 (.slice A5 m5 c5) (xs i) := by
              have h1 := (hsk.out.row i hlt).own
              rw [HV5.out] at h1
              exact own_same h1 fun k _ hk => (h2.out.block k (Nat.lt_of_lt_of_le hk hV0.out.size)).trans (hV0.out.block k hk)
            have hcx : W5.cell? ⟨wV.heap.size, 0, none⟩ = some (.slice A7 n7 c7) := by rw [← HW5.out, cell_of_row _ wV.heap.size 0 _ _ (0, 0) (heap_alloc_new wV _)]; rfl
            have HOX := Lib.hid hox
            have HCX := Lib.hid hcx
            clear hox hcx
            refine wpAnyH_ready (rs := [13]) (by kernel_rfl) (by simp) ?_
            refine AllReadyH.cons rfl (fun K hK => ?_) AllReadyH.nil
            rw [if_pos (by kernel_rfl)]
            refine appL (.tmp 29) (.tmp 36) rfl (.slice A5 m5 c5) (xs i) (.slice A7 n7 c7) rfl rfl HOX.out wV.heap.size HCX.out rfl HLen.out ?_
            intro v8 w8 ho8 hg8 hk8
            have hst := hsk.out.step hlt hV0.out hx.out h2.out ho8 (by rw [HV5.out]; exact hg8) (by rw [HV5.out]; exact hk8)
            rw [lsAt_step] at hst
            have HST := Lib.hid hst
            have hg0 : w8.heap[g]? = wr.heap[g]? := (hg8.block g (Nat.lt_of_lt_of_le hsk.out.lt (Nat.le_trans hV0.out.size h2.out.size)) fun e => hsk.out.own_ne hlt (by rw [HV5.out]; exact e.symm)).trans ((h2.out.block g (Nat.lt_of_lt_of_le hsk.out.lt hV0.out.size)).trans (hV0.out.block g hsk.out.lt))
            have HB9 : Hid (Below g w1 w8) := hB8.out.grown hg8 (Nat.le_trans HgS.out (Nat.le_trans hV0.out.size h2.out.size)) fun k hk => hsk.out.ge i hlt k (by rw [HV5.out]; exact hk)
            obtain ⟨A8, n8, c8, hv8⟩ : ∃ A8 n8 c8, v8 = .slice A8 n8 c8 := by
              rcases ho8.2 with ⟨h1, _⟩ | ⟨_, _, _, h1, _⟩
              · exact ⟨_, _, _, h1⟩
              · exact ⟨_, _, _, h1⟩
            subst hv8
            have c9 : w8.cell? ⟨g, i, none⟩ = some (.slice A5 m5 c5) := (World.cell?_of_block (w := wr) (a := ⟨g, i, none⟩) hg0).trans c5w
            have z9 : w8.frozen? ⟨g, i, none⟩ = false := by
              obtain ⟨cs, h1, _⟩ := hsk.out.blk
              exact frozen_of_row w8 g i _ _ (hg0.trans h1)
            simp only [Act.put, List.getElem_toArray, List.getElem_cons_succ, List.getElem_cons_zero, List.setIfInBounds_toArray, List.set_cons_zero, List.set_cons_succ]
            clear ho8 hg8 hk8 hst hg0
            refine hK.out _ _ (HB9.out) (fun hHeld => ?_)
            clear hK K
            refine wpAnyH_take (i := 14) (v := .pointer (some ⟨g, i, none⟩)) rfl (by kernel_rfl) (by kernel_rfl) (by kernel_rfl) (fun _ _ _ h => h) (Or.inl ⟨by rfl, ?_⟩) (by first | assumption | exact trivial) ?_
            · intro W hSW; have q6 := hlt; go_simp; try (with_reducible rfl)
            simp only [Act.put, List.getElem_toArray, List.getElem_cons_succ, List.getElem_cons_zero, List.setIfInBounds_toArray, List.set_cons_zero, List.set_cons_succ]
            refine wpAnyH_ready (rs := [15]) (by kernel_rfl) (by simp) ?_
            refine AllReadyH.cons rfl (fun K hK => ?_) AllReadyH.nil
            go_simp
            have HBX9 := Lib.hid (HST.out.2 w1 hbk.out)
            refine hK.out _ _ (HBX9.out) (fun hHeld => ?_)
            clear hK K
            refine wpAnyH_done (by kernel_rfl) ?_ _
            go_wp2
            go_roundw
            case rel => exact ⟨b + 1, _, _, by omega, by go_num, HST.out.1, HBX9⟩
            case measure => simp [intOf]; omega
        · obtain rfl : n = b := by omega
          go_wp2
          go_roundw
          case rel => exact ⟨i + 1, sv, xs, by omega, by go_num, by rw [← lsAt_next]; exact hsk, hbk⟩
          case measure => simp [intOf]; omega
    · obtain rfl : n = i := by omega
      go_wp2
      have HS0 : Hid (Ts B wr n D mb v (tAt (lkB L) T 0 0)) := by rw [tAt_zero]; exact HT1.out wr hbi.out
      go_loopw [7] (fun k wr => ∃ a : Nat, a ≤ n ∧ k = .int .i64 a ∧ Hid (Sy g wr g n (lsAt T n n 0) sv xs) ∧ Hid (Ts B wr n D mb v (tAt (lkB L) T a 0)) ∧ Hid (Ps wr P n D) ∧ Hid (wr.heap[w.heap.size]? = some (.cells (netV N L) 61 (0, 0))) ∧ Hid (Below B w wr)) (fun k _ => n - (intOf k).toNat)
      case atStart => exact ⟨0, Nat.zero_le _, rfl, hsi, HS0, HP1.out wr hbi.out, HX1.out wr hbi.out, HBB.out wr hbi.out⟩
      case round =>
        clear hsi hbi HS0
        obtain ⟨a, han, rfl, hsa, hta, hpa, hxa, hba⟩ := hrel
        by_cases hal : a < n
        · go_wp2
          go_loopw [8] (fun k wr => ∃ b : Nat, b ≤ n ∧ k = .int .i64 b ∧ Hid (Sy g wr g n (lsAt T n n 0) sv xs) ∧ Hid (Ts B wr n D mb v (tAt (lkB L) T a b)) ∧ Hid (Ps wr P n D) ∧ Hid (wr.heap[w.heap.size]? = some (.cells (netV N L) 61 (0, 0))) ∧ Hid (Below B w wr)) (fun k _ => n - (intOf k).toNat)
          case atStart => exact ⟨0, Nat.zero_le _, rfl, hsa, hta, hpa, hxa, hba⟩
          case round =>
            clear hsa hta hpa hxa hba
            obtain ⟨b, hbn, rfl, hsb, htb, hpb, hxb, hbb⟩ := hrel
            by_cases hbl : b < n
            · by_cases hab : a = b
              · subst hab
                have g1 : ((a : Int) != (a : Int)) = false := by simp
                go_wp2
                go_roundw
                case rel => exact ⟨a + 1, by omega, by go_num, hsb, by rw [← tAt_idle (lkB_self L a)]; exact htb, hpb, hxb, hbb⟩
                case measure => simp [intOf]; omega
              · have g1 : ((a : Int) != (b : Int)) = true := by simp only [bne_iff_ne, ne_eq]; omega
                have HLKJ := HLK.out a b hal hbl
                unfold netV at HLKJ
                have HLKJ := Lib.hid HLKJ
                have x0 : wr.cell? ⟨w.heap.size, 0, none⟩ = some (.int .i64 N) := by rw [cell_of_row wr _ 0 _ _ (0, 0) hxb.out]; rfl
                have x1 : wr.cell? ⟨w.heap.size, 1, none⟩ = some (.int .u64 (L : Int)) := by rw [cell_of_row wr _ 1 _ _ (0, 0) hxb.out]; rfl
                cases hlk : lkB L a b
                all_goals
                  rw [hlk] at HLKJ
                case false =>
                  have HNX : Hid (tAt (lkB L) T a b = tAt (lkB L) T a (b + 1)) := tAt_idle hlk
                  clear hlk
                  go_wp2_with (go_at_call 29; (with_reducible refine (HLKJ.out wr).mono ?_); rintro e wl ⟨rfl, hblw⟩)
                  go_roundw
                  case rel => exact ⟨b + 1, by omega, by go_num, hsb.out.below hblw.out, by rw [← HNX.out]; exact htb.out.below hblw.out, hpb.out.below hblw.out, (Ck.below hblw.out _ _ _ hxb.out).trans hxb.out, hbb.out.trans (hblw.out.mono (Nat.le_trans hB.out hbb.out.size))⟩
                  case measure => simp [intOf]; omega
                case true =>
                  have HNX : Hid (updT (tAt (lkB L) T a b) b (hearT (tAt (lkB L) T a b b) (a : Int) (vcL (T a) (b : Int))) = tAt (lkB L) T a (b + 1)) := by rw [tAt_here]; exact tAt_heard hT.out (lkB_sym L) hal hbl hlk
                  clear hlk
                  go_wp2_with (go_at_call 29; (with_reducible refine (HLKJ.out wr).mono ?_); rintro e wl ⟨rfl, hblw⟩)
                  have HSl : Hid (Sy g wl g n (lsAt T n n 0) sv xs) := hsb.out.below hblw.out
                  have HTl : Hid (Ts B wl n D mb v (tAt (lkB L) T a b)) := htb.out.below hblw.out
                  have HPl : Hid (Ps wl P n D) := hpb.out.below hblw.out
                  have HXl : Hid (wl.heap[w.heap.size]? = some (.cells (netV N L) 61 (0, 0))) := (Ck.below hblw.out _ _ _ hxb.out).trans hxb.out
                  have HBl : Hid (Below B w wl) := hbb.out.trans (hblw.out.mono (Nat.le_trans hB.out hbb.out.size))
                  clear hsb htb hpb hxb hbb hblw
                  have hrow := HSl.out.row a hal
                  rw [lsAt_all T hal] at hrow
                  obtain ⟨ga, cap, cur, A6, c6, hva, hga, hca, hrd, hl6⟩ := hrow.get (j := b) (by rw [vls_len]; exact hbl)
                  rw [vls_at T a hbl] at hca hrd hl6
                  rw [vls_len] at hva
                  obtain ⟨l6, he6⟩ : ∃ l6, vcL (T a) (b : Int) = l6 := ⟨_, rfl⟩
                  rw [he6] at hca hrd hl6 HNX
                  have HCK : Hid (∀ W, Ck wl W → W.cell? ⟨g, a, none⟩ = some (.slice (some ⟨ga, 0, none⟩) n cap) ∧ W.cell? ⟨P, b, none⟩ = some (.pointer (some ⟨D b, 0, none⟩)) ∧ W.cell? ⟨ga, b, none⟩ = some (.slice A6 l6.length c6)) := fun W hW =>
                    ⟨by rw [← hva]; exact (HSl.out.keep hW).cell hal, (HPl.out.keep hW).cell hbl, (World.cell?_of_block (w := wl) (a := ⟨ga, b, none⟩) (hW ga _ _ hga)).trans hca⟩
                  have HH := Lib.hid (Hear_map (w := wl.drew) (t := tAt (lkB L) T a b b) (Lib.hid ((HTl.out.below (Below.refl _ _).drew).tn b hbl)) (a : Int) A6 c6 wl.heap.size l6 (Lib.hid hrd) (Nat.le_refl _) (by omega))
                  obtain ⟨E, hE⟩ : ∃ E : Int, ((hearE (tAt (lkB L) T a b b) (a : Int) l6 : Nat) : Int) = E := ⟨_, rfl⟩
                  rw [hE] at HH
                  clear hE hrow hva hga hca hrd hl6 he6
                  refine wp_region_held_drew (S := fun W => Ck wl W) (by kernel_rfl) (Ck.refl wl) (fun hHeld => ?_)
                  refine wpAnyH_take (i := 0) (v := .slice (some ⟨P, 0, none⟩) n c) rfl (by kernel_rfl) (by kernel_rfl) (by kernel_rfl) (fun _ _ _ h => h) (Or.inl ⟨by rfl, ?_⟩) (by first | assumption | exact trivial) ?_
                  · intro W hSW; go_simp; try (with_reducible rfl)
                  simp only [Act.put, List.getElem_toArray, List.getElem_cons_succ, List.getElem_cons_zero, List.setIfInBounds_toArray, List.set_cons_zero, List.set_cons_succ]
                  refine wpAnyH_take (i := 1) (v := .int .i64 (b : Int)) rfl (by kernel_rfl) (by kernel_rfl) (by kernel_rfl) (fun _ _ _ h => h) (Or.inl ⟨by rfl, ?_⟩) (by first | assumption | exact trivial) ?_
                  · intro W hSW; go_simp; try (with_reducible rfl)
                  simp only [Act.put, List.getElem_toArray, List.getElem_cons_succ, List.getElem_cons_zero, List.setIfInBounds_toArray, List.set_cons_zero, List.set_cons_succ]
                  refine wpAnyH_take (i := 2) (v := .pointer (some ⟨P, b, none⟩)) rfl (by kernel_rfl) (by kernel_rfl) (by kernel_rfl) (fun _ _ _ h => h) (Or.inl ⟨by rfl, ?_⟩) (by first | assumption | exact trivial) ?_
                  · intro W hSW; have q6 := hbl; go_simp; try (with_reducible rfl)
                  simp only [Act.put, List.getElem_toArray, List.getElem_cons_succ, List.getElem_cons_zero, List.setIfInBounds_toArray, List.set_cons_zero, List.set_cons_succ]
                  refine wpAnyH_take (i := 3) (v := .pointer (some ⟨D b, 0, none⟩)) rfl (by kernel_rfl) (by kernel_rfl) (by kernel_rfl) (fun _ _ _ h => h) (Or.inl ⟨by rfl, ?_⟩) (by first | assumption | exact trivial) ?_
                  · intro W hSW; have q7 := (HCK.out W hSW).2.1; go_simp; try (with_reducible rfl)
                  simp only [Act.put, List.getElem_toArray, List.getElem_cons_succ, List.getElem_cons_zero, List.setIfInBounds_toArray, List.set_cons_zero, List.set_cons_succ]
                  refine wpAnyH_take (i := 4) (v := .int .i64 (a : Int)) rfl (by kernel_rfl) (by kernel_rfl) (by kernel_rfl) (fun _ _ _ h => h) (Or.inl ⟨by rfl, ?_⟩) (by first | assumption | exact trivial) ?_
                  · intro W hSW; go_simp; try (with_reducible rfl)
                  simp only [Act.put, List.getElem_toArray, List.getElem_cons_succ, List.getElem_cons_zero, List.setIfInBounds_toArray, List.set_cons_zero, List.set_cons_succ]
                  refine wpAnyH_take (i := 5) (v := .slice (some ⟨g, 0, none⟩) n n) rfl (by kernel_rfl) (by kernel_rfl) (by kernel_rfl) (fun _ _ _ h => h) (Or.inl ⟨by rfl, ?_⟩) (by first | assumption | exact trivial) ?_
                  · intro W hSW; go_simp; try (with_reducible rfl)
                  simp only [Act.put, List.getElem_toArray, List.getElem_cons_succ, List.getElem_cons_zero, List.setIfInBounds_toArray, List.set_cons_zero, List.set_cons_succ]
                  refine wpAnyH_take (i := 6) (v := .int .i64 (a : Int)) rfl (by kernel_rfl) (by kernel_rfl) (by kernel_rfl) (fun _ _ _ h => h) (Or.inl ⟨by rfl, ?_⟩) (by first | assumption | exact trivial) ?_
                  · intro W hSW; go_simp; try (with_reducible rfl)
                  simp only [Act.put, List.getElem_toArray, List.getElem_cons_succ, List.getElem_cons_zero, List.setIfInBounds_toArray, List.set_cons_zero, List.set_cons_succ]
                  refine wpAnyH_take (i := 7) (v := .pointer (some ⟨g, a, none⟩)) rfl (by kernel_rfl) (by kernel_rfl) (by kernel_rfl) (fun _ _ _ h => h) (Or.inl ⟨by rfl, ?_⟩) (by first | assumption | exact trivial) ?_
                  · intro W hSW; have q6 := hal; go_simp; try (with_reducible rfl)
                  simp only [Act.put, List.getElem_toArray, List.getElem_cons_succ, List.getElem_cons_zero, List.setIfInBounds_toArray, List.set_cons_zero, List.set_cons_succ]
                  refine wpAnyH_take (i := 8) (v := .slice (some ⟨ga, 0, none⟩) n cap) rfl (by kernel_rfl) (by kernel_rfl) (by kernel_rfl) (fun _ _ _ h => h) (Or.inl ⟨by rfl, ?_⟩) (by first | assumption | exact trivial) ?_
                  · intro W hSW; have q7 := (HCK.out W hSW).1; go_simp; try (with_reducible rfl)
                  simp only [Act.put, List.getElem_toArray, List.getElem_cons_succ, List.getElem_cons_zero, List.setIfInBounds_toArray, List.set_cons_zero, List.set_cons_succ]
                  refine wpAnyH_take (i := 9) (v := .int .i64 (b : Int)) rfl (by kernel_rfl) (by kernel_rfl) (by kernel_rfl) (fun _ _ _ h => h) (Or.inl ⟨by rfl, ?_⟩) (by first | assumption | exact trivial) ?_
                  · intro W hSW; go_simp; try (with_reducible rfl)
                  simp only [Act.put, List.getElem_toArray, List.getElem_cons_succ, List.getElem_cons_zero, List.setIfInBounds_toArray, List.set_cons_zero, List.set_cons_succ]
                  refine wpAnyH_take (i := 10) (v := .pointer (some ⟨ga, b, none⟩)) rfl (by kernel_rfl) (by kernel_rfl) (by kernel_rfl) (fun _ _ _ h => h) (Or.inl ⟨by rfl, ?_⟩) (by first | assumption | exact trivial) ?_
                  · intro W hSW; have q6 := hbl; go_simp; try (with_reducible rfl)
                  simp only [Act.put, List.getElem_toArray, List.getElem_cons_succ, List.getElem_cons_zero, List.setIfInBounds_toArray, List.set_cons_zero, List.set_cons_succ]
                  refine wpAnyH_take (i := 11) (v := .slice A6 l6.length c6) rfl (by kernel_rfl) (by kernel_rfl) (by kernel_rfl) (fun _ _ _ h => h) (Or.inl ⟨by rfl, ?_⟩) (by first | assumption | exact trivial) ?_
                  · intro W hSW; have q7 := (HCK.out W hSW).2.2; go_simp; try (with_reducible rfl)
                  simp only [Act.put, List.getElem_toArray, List.getElem_cons_succ, List.getElem_cons_zero, List.setIfInBounds_toArray, List.set_cons_zero, List.set_cons_succ]
                  refine wpAnyH_ready (rs := [12]) (by kernel_rfl) (by simp) ?_
                  refine AllReadyH.cons rfl (fun K hK => ?_) AllReadyH.nil
                  go_simp
                  go_wp2_with (go_at_call 23; refine HH.out.mono ?_; rintro e wh ⟨rfl, hth, hbh⟩)
                  have hbh' : But (fun k => k = mb b) wl wh := (But.of_below (Below.refl _ _).drew).trans hbh.out fun _ _ e => e
                  have hmp := (HTl.out.tn b hbl).tq.mp.isMap
                  have hck : Ck wl wh := Ck.map hmp hbh'
                  have HS9 : Hid (Sy g wh g n (lsAt T n n 0) sv xs) := HSl.out.keep hck
                  have HT9 : Hid (Ts B wh n D mb v (tAt (lkB L) T a (b + 1))) := by rw [← HNX.out]; exact HTl.out.put hbl hth.out hbh'
                  have HP9 : Hid (Ps wh P n D) := HPl.out.keep hck
                  have HX9 : Hid (wh.heap[w.heap.size]? = some (.cells (netV N L) 61 (0, 0))) := (hck _ _ _ HXl.out).trans HXl.out
                  have HB9 : Hid (Below B w wh) := HBl.out.trans (hbh'.below (Nat.le_trans hB.out HBl.out.size) fun k e => by rw [e]; exact (HTl.out.tn b hbl).gm)
                  clear hth hbh hbh' hmp
                  refine hK.out _ _ (hck) (fun hHeld => ?_)
                  clear hK K
                  refine wpAnyH_done (by kernel_rfl) ?_ _
                  go_wp2
                  go_roundw
                  case rel => exact ⟨b + 1, by omega, by go_num, HS9, HT9, HP9, HX9, HB9⟩
                  case measure => simp [intOf]; omega
            · obtain rfl : n = b := by omega
              go_wp2
              go_roundw
              case rel => exact ⟨a + 1, by omega, by go_num, hsb, htb.out.eq (tAt_next _ _ _), hpb, hxb, hbb⟩
              case measure => simp [intOf]; omega
        · obtain rfl : n = a := by omega
          go_wp2
          refine bodyPost_end (results_none rfl _ _ _) rfl ?_
          exact ⟨rfl, by rw [← tAt_first]; exact hta, hpa, hba⟩
end Go.Proofs.Ytkanebolfmpnfaa.Rt
