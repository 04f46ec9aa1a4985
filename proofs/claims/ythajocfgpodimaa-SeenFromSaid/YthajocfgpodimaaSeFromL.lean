/- The program's From, marks that are right: the lists of its set lie apart. -/
import Derived.Test.YthajocfgpodimaaZ14
import Derived.Test.YthajocfgpodimaaSeAddL
namespace Go.Proofs.Ythajocfgpodimaa.Se
open Go.RowKit
open Go.Proofs.Ythajocfgpodimaa.Me Go.Proofs.Ythajocfgpodimaa.Sb
set_option linter.unusedVariables false
set_option linter.unusedSimpArgs false

set_option maxRecDepth 100000 in
set_option maxHeartbeats 8000000 in
theorem From_goodL (F : Nat → Prop) (g : Int) (A : Option Addr) (n c : Nat) (P : List Pm) (ms : List Mr) (w : World) (hF : Hid (∀ k, w.heap.size ≤ k → F k)) (hv : Hid (Mv w (.slice A n c) P)) (hz : Hid (Msn P)) (hms : Hid (P.map Pm.m = ms)) (h0 : 0 ≤ g) (h1 : g ≤ 256) (hok : okMs ms ms.length) :
    Calls Try.prog 26 #[.int .i64 g, .slice A n c] w fun e w' => Hid (Below w.heap.size w w') ∧ ((g < gapsTo ms ms.length ∧ e = .returned (.tuple #[.pointer none, .int .i64 6])) ∨ (¬ g < gapsTo ms ms.length ∧ ∃ D b, e = .returned (.tuple #[.pointer (some ⟨D, 0, none⟩), .int .i64 0]) ∧ Hid (SetL F w' D b ms.length ⟨g, gapsTo ms ms.length, keptTo ms ms.length⟩) ∧ w.heap.size ≤ D ∧ w.heap.size ≤ b)) := by
  obtain ⟨hn, hml, hR⟩ := rowsM hv.out hz.out hms.out
  have hcap := hz.out.len
  have hnc : P.length ≤ c := by
    obtain ⟨A0, c0, e0, hc1, _⟩ := hv.out
    injection e0 with e1 e2 e3
    omega
  have HN := Lib.hid (fun W => New_ok g h0 h1 W)
  have HO : Hid (∀ W, Below w.heap.size w W → Calls Try.prog 40 #[.slice A n c] W fun e w' => ∃ B : Bool, e = .returned (.bool B) ∧ Hid (B = true ↔ okMs ms ms.length) ∧ Hid (Below W.heap.size W w')) := fun W hW => inOrder_any A n c P ms W (hv.out.below hW) hms (by omega)
  obtain ⟨N, hN⟩ : ∃ N, P.length = N := ⟨_, rfl⟩
  rw [hN] at hn hml hR
  rw [hn] at HO ⊢
  have hl := okMs_len hok
  have HOk := Lib.hid hok
  have HMl := Lib.hid hml
  have HR := Lib.hid hR
  have hN2 : N ≤ 4194304 := by omega
  rw [hml] at HO hl ⊢
  clear hN hn hml hR hcap hnc hok hl
  go_enter Try.func26, Try.ntmps26
  go_wp2_with (first
    | (go_at_call 9; refine (HN.out _).mono ?_; rintro e w1 ⟨D, b, rfl, hS, hD, hb, hb1⟩)
    | (go_at_call 40; refine (HO.out w1 hb1.out).mono ?_; rintro e w2 ⟨B, rfl, hB, hb2⟩; obtain rfl : B = true := hB.out.2 (by have := HOk.out; rwa [HMl.out] at this)))
  have hS2 := hS.below hb2.out
  have HM2 : Hid (MpL F w2 b 0 (keptTo ms 0)) := by
    obtain ⟨D0, q1, q2⟩ := hS2.map
    refine ⟨D0, q1, ⟨q2.keys, q2.no, fun o e m hp hk => (by cases hk), fun o e o' e' hp _ _ u A n c u' A' n' c' h1 _ => ?_⟩⟩
    have hno := q2.no o e hp rfl
    have := h1 (.held (.int .i64 0))
    rw [Go.Maps.atKey_of_not_has hno] at this
    cases this
  have HX2 : Hid (w2.heap[D]? = some (.cells #[.int .i64 g, .int .i64 (gapsTo ms 0), .map (some b)] 61 (0, 0))) := hS2.box
  have HB2 : Hid (Below w.heap.size w w2) := go_on hb1.out hb2.out
  have HDb : Hid (D ≠ b ∧ w.heap.size ≤ D ∧ w.heap.size ≤ b) := ⟨hS2.ne, hD, hb⟩
  clear hS hS2 hD hb hb1 hb2 hB HN HO
  go_loopw [25] (fun v25 wr => ∃ j : Nat, j ≤ N ∧ v25 = .int .i64 (j : Int) ∧ Hid (wr.heap[D]? = some (.cells #[.int .i64 g, .int .i64 (gapsTo ms j), .map (some b)] 61 (0, 0))) ∧ Hid (MpL F wr b 0 (keptTo ms 0)) ∧ Hid (Below w.heap.size w wr)) (fun v25 _ => N - (intOf v25).toNat)
  case atStart => exact ⟨0, Nat.zero_le _, rfl, HX2, HM2, HB2⟩
  case round =>
    obtain ⟨j, hj, rfl, HX, HM, HB⟩ := hrel
    by_cases hjl : j < N
    · obtain ⟨bl, off, pA, pc, rfl, hbl, ⟨c0, c1, c2, c3⟩, hrd, hnil⟩ := HR.out j hjl
      have x0 := (HB.out.cell (p := ⟨bl, off + j * 4, none⟩) hbl).trans c0
      have x1 := (HB.out.cell (p := ⟨bl, off + j * 4 + 1, none⟩) hbl).trans c1
      have x2 := (HB.out.cell (p := ⟨bl, off + j * 4 + 2, none⟩) hbl).trans c2
      have x3 := (HB.out.cell (p := ⟨bl, off + j * 4 + 3, none⟩) hbl).trans c3
      have hG := gapsTo_le (ms := ms) j (okMs_le HOk.out (by have := HMl.out; omega))
      have hG2 := hG.2 (by have := HMl.out; omega)
      have hGs := gapsTo_succ (ms := ms) (j := j) (by have := HMl.out; omega)
      have hM6 := rgt_len (HOk.out j (by have := HMl.out; omega)).1
      obtain ⟨⟨o, e, u, ml⟩, hm⟩ : ∃ m : Mr, mrAt ms j = m := ⟨_, rfl⟩
      rw [hm] at x0 x1 x2 x3 hGs hM6
      simp only at x0 x1 x2 x3 hGs hM6
      obtain ⟨M, hMl⟩ : ∃ M, ml.length = M := ⟨_, rfl⟩
      rw [hMl] at x3 hGs hM6
      obtain ⟨G, hGe⟩ : ∃ G, gapsTo ms j = G := ⟨_, rfl⟩
      rw [hGe] at hG hG2 hGs HX
      have HGs := Lib.hid hGs
      have q1 : 0 ≤ G := hG.1
      have q2 : G ≤ 1000000000000 := by omega
      have HWr : Hid (IntKind.i64.wrap (G + (M : Int)) = G + (M : Int)) := Mi.fits' ⟨by omega, by omega⟩
      have t1 : (j : Int) < (N : Int) := by omega
      have t2 : ¬ ((N : Int) ≤ (j : Int)) := by omega
      obtain ⟨V, hV⟩ : ∃ V, wr.alloc (.cells #[.int .i64 o, .int .i64 e, .int .i64 u, .slice pA M pc] 55) = V := ⟨_, rfl⟩
      have hbv : Below wr.heap.size wr V := by rw [← hV]; exact Me.below_alloc (Below.refl _ _)
      have hxv : V.heap[wr.heap.size]? = some (.cells #[.int .i64 o, .int .i64 e, .int .i64 u, .slice pA M pc] 55 (0, 0)) := by rw [← hV]; exact heap_alloc_new wr _
      have hDl : D < wr.heap.size := (Array.getElem?_eq_some_iff.1 HX.out).1
      have HV := Lib.hid hV
      have HBv := Lib.hid hbv
      have HXv := Lib.hid hxv
      have HXD : Hid (V.heap[D]? = some (.cells #[.int .i64 g, .int .i64 G, .map (some b)] 61 (0, 0))) := (hbv.block _ hDl).trans HX.out
      have HMv : Hid (MpL F V b 0 (keptTo ms 0)) := HM.out.keep (hbv.block _ HM.out.lt) (IntsF.below hbv) fun _ _ h => h
      have HBw : Hid (Below w.heap.size w V) := go_on HB.out hbv
      have HDX : Hid (D < wr.heap.size) := hDl
      clear hV hbv hxv hDl c0 c1 c2 c3 hrd hnil hbl hG hG2 hGs hGe hMl hm
      go_wp2
      rw [HV.out]
      have S0 : But (fun k => k = D) V V.drew := But.of_below (Below.refl _ _).drew
      refine wp_region_held_drew (S := fun W => But (fun k => k = D) V W) (by kernel_rfl) S0 (fun hHeld => ?_)
      refine wpAnyH_take (i := 0) (v := .pointer (some ⟨D, 0, none⟩)) rfl (by kernel_rfl) (by kernel_rfl) (by kernel_rfl) (fun _ _ _ h => h) (Or.inl ⟨by rfl, ?_⟩) (by first | assumption | exact trivial) ?_
      · intro W hSW; go_simp; try (with_reducible rfl)
      simp only [Act.put, List.getElem_toArray, List.getElem_cons_succ, List.getElem_cons_zero, List.setIfInBounds_toArray, List.set_cons_zero, List.set_cons_succ]
      refine wpAnyH_take (i := 1) (v := .pointer (some ⟨D, 0, none⟩)) rfl (by kernel_rfl) (by kernel_rfl) (by kernel_rfl) (fun _ _ _ h => h) (Or.inl ⟨by rfl, ?_⟩) (by first | assumption | exact trivial) ?_
      · intro W hSW; go_simp; try (with_reducible rfl)
      simp only [Act.put, List.getElem_toArray, List.getElem_cons_succ, List.getElem_cons_zero, List.setIfInBounds_toArray, List.set_cons_zero, List.set_cons_succ]
      refine wpAnyH_take (i := 2) (v := .pointer (some ⟨D, 1, none⟩)) rfl (by kernel_rfl) (by kernel_rfl) (by kernel_rfl) (fun _ _ _ h => h) (Or.inl ⟨by rfl, ?_⟩) (by first | assumption | exact trivial) ?_
      · intro W hSW; go_simp; try (with_reducible rfl)
      simp only [Act.put, List.getElem_toArray, List.getElem_cons_succ, List.getElem_cons_zero, List.setIfInBounds_toArray, List.set_cons_zero, List.set_cons_succ]
      refine wpAnyH_take (i := 4) (v := .pointer (some ⟨wr.heap.size, 3, none⟩)) rfl (by kernel_rfl) (by kernel_rfl) (by kernel_rfl) (fun _ _ _ h => h) (Or.inl ⟨by rfl, ?_⟩) (by first | assumption | exact trivial) ?_
      · intro W hSW; go_simp; try (with_reducible rfl)
      simp only [Act.put, List.getElem_toArray, List.getElem_cons_succ, List.getElem_cons_zero, List.setIfInBounds_toArray, List.set_cons_zero, List.set_cons_succ]
      refine wpAnyH_take (i := 5) (v := .slice pA M pc) rfl (by kernel_rfl) (by kernel_rfl) (by kernel_rfl) (fun _ _ _ h => h) (Or.inl ⟨by rfl, ?_⟩) (by first | assumption | exact trivial) ?_
      · intro W hSW; have y := cell_of_row W wr.heap.size 3 _ _ (0, 0) (hSW.at_ HXv.out (by have := HDX.out; omega)); go_simp; try (with_reducible rfl)
      simp only [Act.put, List.getElem_toArray, List.getElem_cons_succ, List.getElem_cons_zero, List.setIfInBounds_toArray, List.set_cons_zero, List.set_cons_succ]
      refine wpAnyH_take (i := 6) (v := .int .i64 (M : Int)) rfl (by kernel_rfl) (by kernel_rfl) (by kernel_rfl) (fun _ _ _ h => h) (Or.inl ⟨by rfl, ?_⟩) (by first | assumption | exact trivial) ?_
      · intro W hSW; go_simp; try (with_reducible rfl)
      simp only [Act.put, List.getElem_toArray, List.getElem_cons_succ, List.getElem_cons_zero, List.setIfInBounds_toArray, List.set_cons_zero, List.set_cons_succ]
      refine wpAnyH_ready (rs := [3]) (by kernel_rfl) (by simp) ?_
      refine AllReadyH.cons rfl (fun K hK => ?_) AllReadyH.nil
      have yD := cell_of_row V.drew D 1 _ _ (0, 0) HXD.out
      go_simp
      refine hK.out _ _ (S0) (fun hHeld => ?_)
      clear hK K
      refine wpAnyH_take (i := 7) (v := .int .i64 (G + M)) rfl (by kernel_rfl) (by kernel_rfl) (by kernel_rfl) (fun _ _ _ h => h) (Or.inl ⟨by rfl, ?_⟩) (by first | assumption | exact trivial) ?_
      · intro W hSW; have qw := HWr.out; go_simp; try (with_reducible rfl)
      simp only [Act.put, List.getElem_toArray, List.getElem_cons_succ, List.getElem_cons_zero, List.setIfInBounds_toArray, List.set_cons_zero, List.set_cons_succ]
      refine wpAnyH_take (i := 8) (v := .pointer (some ⟨D, 0, none⟩)) rfl (by kernel_rfl) (by kernel_rfl) (by kernel_rfl) (fun _ _ _ h => h) (Or.inl ⟨by rfl, ?_⟩) (by first | assumption | exact trivial) ?_
      · intro W hSW; go_simp; try (with_reducible rfl)
      simp only [Act.put, List.getElem_toArray, List.getElem_cons_succ, List.getElem_cons_zero, List.setIfInBounds_toArray, List.set_cons_zero, List.set_cons_succ]
      refine wpAnyH_take (i := 9) (v := .pointer (some ⟨D, 1, none⟩)) rfl (by kernel_rfl) (by kernel_rfl) (by kernel_rfl) (fun _ _ _ h => h) (Or.inl ⟨by rfl, ?_⟩) (by first | assumption | exact trivial) ?_
      · intro W hSW; go_simp; try (with_reducible rfl)
      simp only [Act.put, List.getElem_toArray, List.getElem_cons_succ, List.getElem_cons_zero, List.setIfInBounds_toArray, List.set_cons_zero, List.set_cons_succ]
      refine wpAnyH_ready (rs := [10]) (by kernel_rfl) (by simp) ?_
      refine AllReadyH.cons rfl (fun K hK => ?_) AllReadyH.nil
      have fD : V.drew.frozen? ⟨D, 1, none⟩ = false := frozen_of_row V.drew D 1 _ _ HXD.out
      go_simp
      obtain ⟨V3, hV3⟩ : ∃ V3, (V.setCell ⟨D, 1, none⟩ (.int .i64 (G + (M : Int)))).drew = V3 := ⟨_, rfl⟩
      have hB3 : But (fun k => k = D) V V3 := by
        rw [← hV3]
        exact ((But.refl (fun k => k = D) V).set (p := ⟨D, 1, none⟩) (.inl rfl) _).trans (But.of_below (S := fun _ => False) (Below.refl _ _).drew) (fun _ _ h => h.elim)
      have hX3 : V3.heap[D]? = some (.cells #[.int .i64 g, .int .i64 (G + (M : Int)), .map (some b)] 61 (0, 0)) := by
        rw [← hV3]
        have := heap_setCell_same V D 1 _ _ (.int .i64 (G + (M : Int))) HXD.out
        show (V.setCell ⟨D, 1, none⟩ (.int .i64 (G + (M : Int)))).heap[D]? = _
        simpa using this
      rw [hV3]
      clear hV3
      refine hK.out _ _ (hB3) (fun hHeld => ?_)
      clear hK K
      refine wpAnyH_done (by kernel_rfl) ?_ _
      have HX3 := Lib.hid hX3
      have HM3 : Hid (MpL F V3 b 0 (keptTo ms 0)) := HMv.out.keep (hB3.same b HMv.out.lt (fun h => HDb.out.1 h.symm)) (IntsF.but hB3 fun k cs _ hk hkD => by
        subst hkD
        rw [HXD.out] at hk
        injection hk with hk
        injection hk with _ hT _
        exact absurd hT (by decide)) fun _ _ h => h
      have HB3 : Hid (Below w.heap.size w V3) := HBw.out.trans (hB3.below HBw.out.size fun k hk => by have := HDb.out.2.1; omega)
      clear hHeld S0 hB3 hX3 yD fD
      go_wp2
      go_roundw
      case rel => exact ⟨j + 1, hjl, by go_num, by rw [HGs.out]; exact HX3.out, HM3, HB3⟩
      case measure => simp [intOf]; omega
    · obtain rfl : j = N := by omega
      have t1 : ¬ (j : Int) < (j : Int) := by omega
      have y0 := cell_of_row wr D 0 _ _ (0, 0) HX.out
      have y1 := cell_of_row wr D 1 _ _ (0, 0) HX.out
      simp at y0 y1
      by_cases hs : g < gapsTo ms j
      · have d1 : decide (g < gapsTo ms j) = true := by simpa using hs
        have HBq := Lib.hid HB.out
        have HS := Lib.hid hs
        obtain ⟨G, hGe⟩ : ∃ G, gapsTo ms j = G := ⟨_, rfl⟩
        rw [hGe] at y1 d1 hs
        clear hGe
        go_wp2
        go_quiet (fail)
        go_wp2
        go_ret2
        exact ⟨Me.below_drewN HBq.out _, .inl ⟨HS.out, rfl⟩⟩
      · have d1 : decide (g < gapsTo ms j) = false := by simpa using hs
        have HS := Lib.hid hs
        have HX0 : Hid (∀ n, (wr.drewN n).heap[D]? = some (.cells #[.int .i64 g, .int .i64 (gapsTo ms j), .map (some b)] 61 (0, 0))) := fun n => HX.out
        have HM0 : Hid (∀ n, MpL F (wr.drewN n) b 0 (keptTo ms 0)) := fun n => HM.out.keep ((Me.below_drewN (Below.refl wr.heap.size wr) n).block b HM.out.lt) (IntsF.below (Me.below_drewN (Below.refl _ _) n)) fun _ _ h => h
        have HB0 : Hid (∀ n, Below w.heap.size w (wr.drewN n)) := fun n => Me.below_drewN HB.out n
        obtain ⟨G, hGe⟩ : ∃ G, gapsTo ms j = G := ⟨_, rfl⟩
        have HGe := Lib.hid hGe
        rw [hGe] at y1 d1 hs HX0
        clear hGe HX HM HB hs
        go_wp2
        go_quiet (fail)
        have HXq := Lib.hid (HX0.out nq)
        have HMq := Lib.hid (HM0.out nq)
        have HBq := Lib.hid (HB0.out nq)
        obtain ⟨Wq, hWq⟩ : ∃ Wq, wr.drewN nq = Wq := ⟨_, rfl⟩
        rw [hWq] at HXq HMq HBq ⊢
        clear hWq HX0 HM0 HB0 y0 y1
        go_wp2
        go_loopw [51] (fun v51 wx => ∃ k : Nat, k ≤ j ∧ v51 = .int .i64 (k : Int) ∧ Hid (wx.heap[D]? = some (.cells #[.int .i64 g, .int .i64 G, .map (some b)] 61 (0, 0))) ∧ Hid (MpL F wx b k (keptTo ms k)) ∧ Hid (Below w.heap.size w wx)) (fun v51 _ => j - (intOf v51).toNat)
        case atStart => exact ⟨0, Nat.zero_le _, rfl, HXq, HMq, HBq⟩
        case round =>
          obtain ⟨k, hk, rfl, HX, HM, HB⟩ := hrel
          by_cases hkl : k < j
          · obtain ⟨bl, off, pA, pc, rfl, hbl, ⟨c0, c1, c2, c3⟩, hrd, hnil⟩ := HR.out k hkl
            have x0 := (HB.out.cell (p := ⟨bl, off + k * 4, none⟩) hbl).trans c0
            have x1 := (HB.out.cell (p := ⟨bl, off + k * 4 + 1, none⟩) hbl).trans c1
            have x2 := (HB.out.cell (p := ⟨bl, off + k * 4 + 2, none⟩) hbl).trans c2
            have x3 := (HB.out.cell (p := ⟨bl, off + k * 4 + 3, none⟩) hbl).trans c3
            have hrk := (HOk.out k (by have := HMl.out; omega)).1
            have hM6 := rgt_len hrk
            have hpp := rgt_pp hrk
            have HKs : Hid (keptTo ms (k + 1) = setM (keptTo ms k) (mrAt ms k).o (mrAt ms k).e ⟨(mrAt ms k).up, (mrAt ms k).more⟩) := rfl
            obtain ⟨⟨o, e, u, ml⟩, hm⟩ : ∃ m : Mr, mrAt ms k = m := ⟨_, rfl⟩
            rw [hm] at x0 x1 x2 x3 hM6 hpp HKs hrd hnil
            simp only at x0 x1 x2 x3 hM6 hpp HKs hrd hnil
            have HCl : Hid (∀ W, Below w.heap.size w W → Calls Try.prog 29 #[.slice pA ml.length pc] W fun e' w' => ∃ v, e' = .returned v ∧ Hid (Mi.Own w' W.heap.size v ml) ∧ Hid (Below W.heap.size W w')) := fun W hW => IClone_any pA pc w.heap.size ml W (hrd.below hW) hnil hW.size (by omega)
            obtain ⟨M, hMl⟩ : ∃ M, ml.length = M := ⟨_, rfl⟩
            rw [hMl] at x3 HCl
            have HMM := Lib.hid hMl
            have Hpp := Lib.hid hpp
            have t3 : (k : Int) < (j : Int) := by omega
            have t4 : ¬ ((j : Int) ≤ (k : Int)) := by omega
            obtain ⟨V, hV⟩ : ∃ V, wr.alloc (.cells #[.int .i64 o, .int .i64 e, .int .i64 u, .slice pA M pc] 55) = V := ⟨_, rfl⟩
            have hbv : Below wr.heap.size wr V := by rw [← hV]; exact Me.below_alloc (Below.refl _ _)
            have hxv : V.heap[wr.heap.size]? = some (.cells #[.int .i64 o, .int .i64 e, .int .i64 u, .slice pA M pc] 55 (0, 0)) := by rw [← hV]; exact heap_alloc_new wr _
            have HV := Lib.hid hV
            have HXv := Lib.hid hxv
            have HXD : Hid (V.heap[D]? = some (.cells #[.int .i64 g, .int .i64 G, .map (some b)] 61 (0, 0))) := (hbv.block _ (Array.getElem?_eq_some_iff.1 HX.out).1).trans HX.out
            have HMv : Hid (MpL F V b k (keptTo ms k)) := HM.out.keep (hbv.block _ HM.out.lt) (IntsF.below hbv) fun _ _ h => h
            have HBw : Hid (Below w.heap.size w V) := go_on HB.out hbv
            have HbX : Hid (b < wr.heap.size) := HM.out.lt
            clear hV hbv hxv c0 c1 c2 c3 hrd hnil hbl hMl hm hpp hrk hM6
            go_wp2
            rw [HV.out]
            have S0 : But (fun k => k = b) V V.drew := But.of_below (Below.refl _ _).drew
            refine wp_region_held_drew (S := fun W => But (fun k => k = b) V W) (by kernel_rfl) S0 (fun hHeld => ?_)
            refine wpAnyH_take (i := 0) (v := .pointer (some ⟨D, 0, none⟩)) rfl (by kernel_rfl) (by kernel_rfl) (by kernel_rfl) (fun _ _ _ h => h) (Or.inl ⟨by rfl, ?_⟩) (by first | assumption | exact trivial) ?_
            · intro W hSW; go_simp; try (with_reducible rfl)
            simp only [Act.put, List.getElem_toArray, List.getElem_cons_succ, List.getElem_cons_zero, List.setIfInBounds_toArray, List.set_cons_zero, List.set_cons_succ]
            refine wpAnyH_take (i := 1) (v := .pointer (some ⟨D, 0, none⟩)) rfl (by kernel_rfl) (by kernel_rfl) (by kernel_rfl) (fun _ _ _ h => h) (Or.inl ⟨by rfl, ?_⟩) (by first | assumption | exact trivial) ?_
            · intro W hSW; go_simp; try (with_reducible rfl)
            simp only [Act.put, List.getElem_toArray, List.getElem_cons_succ, List.getElem_cons_zero, List.setIfInBounds_toArray, List.set_cons_zero, List.set_cons_succ]
            refine wpAnyH_take (i := 2) (v := .pointer (some ⟨D, 2, none⟩)) rfl (by kernel_rfl) (by kernel_rfl) (by kernel_rfl) (fun _ _ _ h => h) (Or.inl ⟨by rfl, ?_⟩) (by first | assumption | exact trivial) ?_
            · intro W hSW; go_simp; try (with_reducible rfl)
            simp only [Act.put, List.getElem_toArray, List.getElem_cons_succ, List.getElem_cons_zero, List.setIfInBounds_toArray, List.set_cons_zero, List.set_cons_succ]
            refine wpAnyH_take (i := 3) (v := .map (some b)) rfl (by kernel_rfl) (by kernel_rfl) (by kernel_rfl) (fun _ _ _ h => h) (Or.inl ⟨by rfl, ?_⟩) (by first | assumption | exact trivial) ?_
            · intro W hSW; have y := cell_of_row W D 2 _ _ (0, 0) (hSW.at_ HXD.out HDb.out.1); go_simp; try (with_reducible rfl)
            simp only [Act.put, List.getElem_toArray, List.getElem_cons_succ, List.getElem_cons_zero, List.setIfInBounds_toArray, List.set_cons_zero, List.set_cons_succ]
            refine wpAnyH_take (i := 4) (v := .pointer (some ⟨wr.heap.size, 0, none⟩)) rfl (by kernel_rfl) (by kernel_rfl) (by kernel_rfl) (fun _ _ _ h => h) (Or.inl ⟨by rfl, ?_⟩) (by first | assumption | exact trivial) ?_
            · intro W hSW; go_simp; try (with_reducible rfl)
            simp only [Act.put, List.getElem_toArray, List.getElem_cons_succ, List.getElem_cons_zero, List.setIfInBounds_toArray, List.set_cons_zero, List.set_cons_succ]
            refine wpAnyH_take (i := 5) (v := .int .i64 o) rfl (by kernel_rfl) (by kernel_rfl) (by kernel_rfl) (fun _ _ _ h => h) (Or.inl ⟨by rfl, ?_⟩) (by first | assumption | exact trivial) ?_
            · intro W hSW; have y := cell_of_row W wr.heap.size 0 _ _ (0, 0) (hSW.at_ HXv.out (by have := HbX.out; omega)); go_simp; try (with_reducible rfl)
            simp only [Act.put, List.getElem_toArray, List.getElem_cons_succ, List.getElem_cons_zero, List.setIfInBounds_toArray, List.set_cons_zero, List.set_cons_succ]
            refine wpAnyH_take (i := 6) (v := .pointer (some ⟨wr.heap.size, 1, none⟩)) rfl (by kernel_rfl) (by kernel_rfl) (by kernel_rfl) (fun _ _ _ h => h) (Or.inl ⟨by rfl, ?_⟩) (by first | assumption | exact trivial) ?_
            · intro W hSW; go_simp; try (with_reducible rfl)
            simp only [Act.put, List.getElem_toArray, List.getElem_cons_succ, List.getElem_cons_zero, List.setIfInBounds_toArray, List.set_cons_zero, List.set_cons_succ]
            refine wpAnyH_take (i := 7) (v := .int .i64 e) rfl (by kernel_rfl) (by kernel_rfl) (by kernel_rfl) (fun _ _ _ h => h) (Or.inl ⟨by rfl, ?_⟩) (by first | assumption | exact trivial) ?_
            · intro W hSW; have y := cell_of_row W wr.heap.size 1 _ _ (0, 0) (hSW.at_ HXv.out (by have := HbX.out; omega)); go_simp; try (with_reducible rfl)
            simp only [Act.put, List.getElem_toArray, List.getElem_cons_succ, List.getElem_cons_zero, List.setIfInBounds_toArray, List.set_cons_zero, List.set_cons_succ]
            refine wpAnyH_take (i := 8) (v := .agg #[.int .i64 o, .int .i64 e]) rfl (by kernel_rfl) (by kernel_rfl) (by kernel_rfl) (fun _ _ _ h => h) (Or.inl ⟨by rfl, ?_⟩) (by first | assumption | exact trivial) ?_
            · intro W hSW; go_simp; try (with_reducible rfl)
            simp only [Act.put, List.getElem_toArray, List.getElem_cons_succ, List.getElem_cons_zero, List.setIfInBounds_toArray, List.set_cons_zero, List.set_cons_succ]
            refine wpAnyH_take (i := 9) (v := .pointer (some ⟨wr.heap.size, 2, none⟩)) rfl (by kernel_rfl) (by kernel_rfl) (by kernel_rfl) (fun _ _ _ h => h) (Or.inl ⟨by rfl, ?_⟩) (by first | assumption | exact trivial) ?_
            · intro W hSW; go_simp; try (with_reducible rfl)
            simp only [Act.put, List.getElem_toArray, List.getElem_cons_succ, List.getElem_cons_zero, List.setIfInBounds_toArray, List.set_cons_zero, List.set_cons_succ]
            refine wpAnyH_take (i := 10) (v := .int .i64 u) rfl (by kernel_rfl) (by kernel_rfl) (by kernel_rfl) (fun _ _ _ h => h) (Or.inl ⟨by rfl, ?_⟩) (by first | assumption | exact trivial) ?_
            · intro W hSW; have y := cell_of_row W wr.heap.size 2 _ _ (0, 0) (hSW.at_ HXv.out (by have := HbX.out; omega)); go_simp; try (with_reducible rfl)
            simp only [Act.put, List.getElem_toArray, List.getElem_cons_succ, List.getElem_cons_zero, List.setIfInBounds_toArray, List.set_cons_zero, List.set_cons_succ]
            refine wpAnyH_take (i := 11) (v := .pointer (some ⟨wr.heap.size, 3, none⟩)) rfl (by kernel_rfl) (by kernel_rfl) (by kernel_rfl) (fun _ _ _ h => h) (Or.inl ⟨by rfl, ?_⟩) (by first | assumption | exact trivial) ?_
            · intro W hSW; go_simp; try (with_reducible rfl)
            simp only [Act.put, List.getElem_toArray, List.getElem_cons_succ, List.getElem_cons_zero, List.setIfInBounds_toArray, List.set_cons_zero, List.set_cons_succ]
            refine wpAnyH_take (i := 12) (v := .slice pA M pc) rfl (by kernel_rfl) (by kernel_rfl) (by kernel_rfl) (fun _ _ _ h => h) (Or.inl ⟨by rfl, ?_⟩) (by first | assumption | exact trivial) ?_
            · intro W hSW; have y := cell_of_row W wr.heap.size 3 _ _ (0, 0) (hSW.at_ HXv.out (by have := HbX.out; omega)); go_simp; try (with_reducible rfl)
            simp only [Act.put, List.getElem_toArray, List.getElem_cons_succ, List.getElem_cons_zero, List.setIfInBounds_toArray, List.set_cons_zero, List.set_cons_succ]
            refine wpAnyH_ready (rs := [13]) (by kernel_rfl) (by simp) ?_
            refine AllReadyH.cons rfl (fun K hK => ?_) AllReadyH.nil
            go_simp
            go_wp2_with (go_at_call 29; refine (HCl.out _ HBw.out.drew).mono ?_; rintro e' w3 ⟨vc, rfl, ho3, hb3⟩)
            obtain ⟨Ac, cc, rfl, hsl3, hge3⟩ := Lw.of_own (F := F) ho3.out fun k hk _ => hF.out k (Nat.le_trans HBw.out.size hk)
            rw [HMM.out]
            have hb83 : Below V.heap.size V w3 := (Below.refl _ _).drew.trans hb3.out
            have S3 : But (fun k => k = b) V w3 := But.of_below hb83
            refine hK.out _ _ (S3) (fun hHeld => ?_)
            clear hK K
            refine wpAnyH_take (i := 14) (v := .agg #[.int .i64 u, .slice Ac M cc]) rfl (by kernel_rfl) (by kernel_rfl) (by kernel_rfl) (fun _ _ _ h => h) (Or.inl ⟨by rfl, ?_⟩) (by first | assumption | exact trivial) ?_
            · intro W hSW; go_simp; try (with_reducible rfl)
            simp only [Act.put, List.getElem_toArray, List.getElem_cons_succ, List.getElem_cons_zero, List.setIfInBounds_toArray, List.set_cons_zero, List.set_cons_succ]
            refine wpAnyH_ready (rs := [15]) (by kernel_rfl) (by simp) ?_
            refine AllReadyH.cons rfl (fun K hK => ?_) AllReadyH.nil
            rw [if_pos (by kernel_rfl)]
            obtain ⟨Aq, cq, _, _, hput⟩ := HMv.out.at_ (o := o) (e := e) Hpp.out
            obtain ⟨w4, hr4, hM4, hB4, hz4⟩ := hput w3 ⟨u, ml⟩ Ac cc (hb83.block _ HMv.out.lt) (fun k cs _ hk _ => hb83.block k (Array.getElem?_eq_some_iff.1 hk).1) hsl3 (fun a' ha' => .inr (hge3 a' ha')) (by omega)
            refine put_run (.tmp 58) (.tmp 63) (.tmp 69) rfl (.map (some b)) (.agg #[.int .i64 o, .int .i64 e]) (.agg #[.int .i64 u, .slice Ac M cc]) rfl rfl rfl (by rw [← HMM.out]; exact hr4) ?_
            simp only [Act.put, List.getElem_toArray, List.getElem_cons_succ, List.getElem_cons_zero, List.setIfInBounds_toArray, List.set_cons_zero, List.set_cons_succ]
            have S4 : But (fun k => k = b) V w4 := S3.trans hB4 (fun _ _ h => h)
            refine hK.out _ _ (S4) (fun hHeld => ?_)
            clear hK K
            refine wpAnyH_done (by kernel_rfl) ?_ _
            have HM4 : Hid (MpL F w4 b (k + 1) (keptTo ms (k + 1))) := by
              show MpL _ _ _ _ _
              rw [HKs.out]
              exact hM4
            have HD4 := Lib.hid (S4.at_ HXD.out HDb.out.1)
            have HB4 : Hid (Below w.heap.size w w4) := HBw.out.trans (S4.below HBw.out.size fun k' hk' => by have := HDb.out.2.2; omega)
            clear hHeld S0 S3 S4 hM4 hB4 hz4 hb83 ho3 hb3 hsl3 hge3 hput hr4
            go_wp2
            go_roundw
            case rel => exact ⟨k + 1, hkl, by go_num, HD4, HM4, HB4⟩
            case measure => simp [intOf]; omega
          · obtain rfl : k = j := by omega
            have t3 : ¬ (k : Int) < (k : Int) := by omega
            have HSet : Hid (SetL F wr D b k ⟨g, G, keptTo ms k⟩) := ⟨HX.out, HM.out, by
              have h2 := HS.out
              have h3 := okk_from (g := g) h0 h1 HOk.out (by rw [HMl.out]; omega)
              rw [HMl.out, HGe.out] at h3
              exact h3⟩
            go_wp2
            go_ret2
            refine ⟨HB.out, .inr ⟨HS.out, D, rfl, b, ?_, HDb.out.2.1, HDb.out.2.2⟩⟩
            rw [HGe.out]
            exact HSet.out
end Go.Proofs.Ythajocfgpodimaa.Se
