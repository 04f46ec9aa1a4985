/- The reference's GetId. -/
import Derived.Test.YtohfoieibgmmdaaZ10
namespace Go.Proofs.Ytohfoieibgmmdaa.Mg
open Go.RowKit
open Go.Proofs.Ytohfoieibgmmdaa.Me Go.Proofs.Ytohfoieibgmmdaa.Ba Go.Proofs.Ytohfoieibgmmdaa.Ma Go.Proofs.Ytohfoieibgmmdaa.Bt Go.Proofs.Ytohfoieibgmmdaa.Hd
set_option linter.unusedVariables false
set_option linter.unusedSimpArgs false

theorem numP_one {l : List Nat} {a : Nat} (h : a < l.length) : numP l a 1 = by_ l a := by
  rw [numP_step (k := 0) (by omega)]
  simp [numP, num]
theorem below_setRow {B : Nat} {w W : World} {D : Nat} (cs : Array Value) (h : Below B w W) (hD : B ≤ D) : Below B w (W.setRow D cs) :=
  ⟨h.os, h.tape, h.output, by simpa using h.size, fun c hc => (setRow_other _ _ c _ (by omega)).trans (h.block c hc)⟩
theorem numP_two_lt {l : List Nat} (hz : ∀ b ∈ l, b < 256) (a : Nat) : numP l a 2 < 65536 := num_part_lt hz a 2
set_option maxRecDepth 100000 in
set_option maxHeartbeats 8000000 in
theorem RGetId_any (A : Option Addr) (n cap : Nat) (l : List Nat) (w : World) (hi : Hid (BySlice w A n cap l)) :
    Calls Try.prog 76 #[.slice A n cap] w fun e w' => e = .returned (.tuple #[.agg (idC (getI l)), .int .i64 (getZ l : Int)]) ∧ Hid (Below w.heap.size w w') := by
  obtain rfl : n = l.length := hi.out.1
  obtain ⟨W1, hW1⟩ : ∃ W, w.alloc (.cells #[.int .i64 0, .int .i64 0, .int .i64 0, .int .i64 0] 23) = W := ⟨_, rfl⟩
  have b1 : Below w.heap.size w W1 := by rw [← hW1]; exact Me.below_alloc (Below.refl _ _)
  have z1 : W1.heap.size = w.heap.size + 1 := by rw [← hW1]; simp
  have r1 : W1.heap[w.heap.size]? = some (.cells #[.int .i64 0, .int .i64 0, .int .i64 0, .int .i64 0] 23 (0, 0)) := by
    rw [← hW1]
    exact heap_alloc_new w _
  have HW := Lib.hid hW1; have B1 := Lib.hid b1; have Z1 := Lib.hid z1; have R1 := Lib.hid r1
  clear hW1 z1 r1
  by_cases h6 : l.length = 6
  · obtain ⟨b, off, rfl, hbl, hc⟩ := hi.out.2.2.2.1.2 (by omega)
    have hlt : ∀ k, k < 6 → by_ l k < 256 := fun k hk => hi.out.2.2.2.1.lt (by omega)
    have HC : Hid (∀ W, Below W1.heap.size W1 W → W.cell? ⟨b, off, none⟩ = some (.int .u8 (by_ l 0 : Int)) ∧ W.cell? ⟨b, off + 1, none⟩ = some (.int .u8 (by_ l 1 : Int))) := fun W hW => by
      have h := b1.trans (hW.mono b1.size)
      exact ⟨(h.cell (p := ⟨b, off, none⟩) hbl).trans (hc 0 (by omega)), (h.cell (p := ⟨b, off + 1, none⟩) hbl).trans (hc 1 (by omega))⟩
    have HG : Hid (∀ a : Nat, a + 2 ≤ 6 → Calls Try.prog 75 #[.slice (some ⟨b, off, none⟩) l.length cap, .int .i64 (a : Int), .int .i64 2] W1 fun e w' => e = .returned (.tuple #[.int .u64 (numP l a 2 : Int), .int .i64 0]) ∧ W1 = w') := fun a ha => by
      have := RGet_any l a 2 (some ⟨b, off, none⟩) cap W1.heap.size hi.out.2.1 hi.out.2.2.1 W1 (by_below hi.out b1).2.2.2.1 (by omega)
      have e := getE_ok (l := l) (a := a) (s := 2) (by decide) (by omega)
      rw [show ((2 : Nat) : Int) = 2 from rfl] at e
      rw [e] at this
      exact this
    have HG2 : Hid (Calls Try.prog 75 #[.slice (some ⟨b, off, none⟩) l.length cap, .int .i64 2, .int .i64 2] W1 fun e w' => e = .returned (.tuple #[.int .u64 (numP l 2 2 : Int), .int .i64 0]) ∧ W1 = w') := HG.out 2 (by omega)
    have HG4 : Hid (Calls Try.prog 75 #[.slice (some ⟨b, off, none⟩) l.length cap, .int .i64 4, .int .i64 2] W1 fun e w' => e = .returned (.tuple #[.int .u64 (numP l 4 2 : Int), .int .i64 0]) ∧ W1 = w') := HG.out 4 (by omega)
    have hz := hi.out.2.2.2.1.1
    have hid : idOf l = ⟨by_ l 0, by_ l 1, numP l 2 2, numP l 4 2⟩ := by unfold idOf; rw [numP_one (by omega), numP_one (by omega)]
    have l0 := hlt 0 (by omega); have l1 := hlt 1 (by omega)
    have n2 := numP_two_lt hz 2; have n4 := numP_two_lt hz 4
    have HK := Lib.hid (fun W => Check_any (idOf l) W)
    have HRK := Lib.hid (fun W => RCheck_any (idOf l) W)
    have hI : getI l = if chkN (idOf l) = 0 then idOf l else ⟨0, 0, 0, 0⟩ := by unfold getI; simp [h6]
    have hZ : getZ l = if chkN (idOf l) = 0 then 0 else 2 := by unfold getZ; simp [h6]
    rw [hI, hZ]
    rw [hid] at HRK ⊢
    obtain ⟨x0, hx0⟩ : ∃ x, by_ l 0 = x := ⟨_, rfl⟩
    obtain ⟨x1, hx1⟩ : ∃ x, by_ l 1 = x := ⟨_, rfl⟩
    obtain ⟨x2, hx2⟩ : ∃ x, numP l 2 2 = x := ⟨_, rfl⟩
    obtain ⟨x4, hx4⟩ : ∃ x, numP l 4 2 = x := ⟨_, rfl⟩
    rw [hx0] at HC HRK l0 ⊢
    rw [hx1] at HC HRK l1 ⊢
    rw [hx2] at HG2 HRK n2 ⊢
    rw [hx4] at HG4 HRK n4 ⊢
    have u2 : Mi.I64 (x2 : Int) := Mi.small (by omega) (by omega)
    have u4 : Mi.I64 (x4 : Int) := Mi.small (by omega) (by omega)
    have t0 : Mi.I64 (x0 : Int) := Mi.small (by omega) (by omega)
    have t1 : Mi.I64 (x1 : Int) := Mi.small (by omega) (by omega)
    have w2 := Mi.fits u2; have w4 := Mi.fits u4; have v0 := Mi.fits t0; have v1 := Mi.fits t1
    have w2' := Mi.fits' u2; have w4' := Mi.fits' u4; have v0' := Mi.fits' t0; have v1' := Mi.fits' t1
    clear u2 u4 t0 t1
    obtain ⟨L, hL⟩ : ∃ L, l.length = L := ⟨_, rfl⟩
    rw [hL] at HG2 HG4 h6 ⊢
    subst h6
    by_cases hk : chkN ⟨x0, x1, x2, x4⟩ = 0
    · rw [hk] at HRK
      rw [if_pos hk, if_pos hk]
      simp only [idC, show ((0 : Nat) : Int) = 0 from rfl] at HRK ⊢
      clear hi hc hlt HG hz hid HK hI hZ hx0 hx1 hx2 hx4 hL b1 l0 l1 n2 n4 hk
      go_enter Try.func76, Try.ntmps76
      go_wp2_with (go_at_call 75; (try rw [HW.out]); first
        | (with_reducible refine HG2.out.mono ?_; rintro e w' ⟨rfl, rfl⟩)
        | (with_reducible refine HG4.out.mono ?_; rintro e w' ⟨rfl, rfl⟩))
      have S0 := (Below.refl W1.heap.size W1).drew
      refine wp_region_held_drew (S := fun W => Below W1.heap.size W1 W) (by kernel_rfl) S0 (fun hHeld => ?_)
      refine wpAnyH_take (i := 0) (v := .slice (some ⟨b, off, none⟩) 6 cap) rfl (by kernel_rfl) (by kernel_rfl) (by kernel_rfl) (fun _ _ _ h => h) (Or.inl ⟨by rfl, ?_⟩) (by first | assumption | exact trivial) ?_
      · intro W hSW; go_simp; try (with_reducible rfl)
      simp only [Act.put, List.getElem_toArray, List.getElem_cons_succ, List.getElem_cons_zero, List.setIfInBounds_toArray, List.set_cons_zero, List.set_cons_succ]
      refine wpAnyH_take (i := 1) (v := .pointer (some ⟨b, off, none⟩)) rfl (by kernel_rfl) (by kernel_rfl) (by kernel_rfl) (fun _ _ _ h => h) (Or.inl ⟨by rfl, ?_⟩) (by first | assumption | exact trivial) ?_
      · intro W hSW; go_simp; try (with_reducible rfl)
      simp only [Act.put, List.getElem_toArray, List.getElem_cons_succ, List.getElem_cons_zero, List.setIfInBounds_toArray, List.set_cons_zero, List.set_cons_succ]
      refine wpAnyH_take (i := 2) (v := .int .u8 (x0 : Int)) rfl (by kernel_rfl) (by kernel_rfl) (by kernel_rfl) (fun _ _ _ h => h) (Or.inl ⟨by rfl, ?_⟩) (by first | assumption | exact trivial) ?_
      · intro W hSW; obtain ⟨y0, y1⟩ := HC.out W hSW; go_simp; try (with_reducible rfl)
      simp only [Act.put, List.getElem_toArray, List.getElem_cons_succ, List.getElem_cons_zero, List.setIfInBounds_toArray, List.set_cons_zero, List.set_cons_succ]
      refine wpAnyH_take (i := 3) (v := .int .i64 (x0 : Int)) rfl (by kernel_rfl) (by kernel_rfl) (by kernel_rfl) (fun _ _ _ h => h) (Or.inl ⟨by rfl, ?_⟩) (by first | assumption | exact trivial) ?_
      · intro W hSW; go_simp; try (with_reducible rfl)
      simp only [Act.put, List.getElem_toArray, List.getElem_cons_succ, List.getElem_cons_zero, List.setIfInBounds_toArray, List.set_cons_zero, List.set_cons_succ]
      refine wpAnyH_take (i := 4) (v := .slice (some ⟨b, off, none⟩) 6 cap) rfl (by kernel_rfl) (by kernel_rfl) (by kernel_rfl) (fun _ _ _ h => h) (Or.inl ⟨by rfl, ?_⟩) (by first | assumption | exact trivial) ?_
      · intro W hSW; go_simp; try (with_reducible rfl)
      simp only [Act.put, List.getElem_toArray, List.getElem_cons_succ, List.getElem_cons_zero, List.setIfInBounds_toArray, List.set_cons_zero, List.set_cons_succ]
      refine wpAnyH_take (i := 5) (v := .pointer (some ⟨b, off + 1, none⟩)) rfl (by kernel_rfl) (by kernel_rfl) (by kernel_rfl) (fun _ _ _ h => h) (Or.inl ⟨by rfl, ?_⟩) (by first | assumption | exact trivial) ?_
      · intro W hSW; go_simp; try (with_reducible rfl)
      simp only [Act.put, List.getElem_toArray, List.getElem_cons_succ, List.getElem_cons_zero, List.setIfInBounds_toArray, List.set_cons_zero, List.set_cons_succ]
      refine wpAnyH_take (i := 6) (v := .int .u8 (x1 : Int)) rfl (by kernel_rfl) (by kernel_rfl) (by kernel_rfl) (fun _ _ _ h => h) (Or.inl ⟨by rfl, ?_⟩) (by first | assumption | exact trivial) ?_
      · intro W hSW; obtain ⟨y0, y1⟩ := HC.out W hSW; go_simp; try (with_reducible rfl)
      simp only [Act.put, List.getElem_toArray, List.getElem_cons_succ, List.getElem_cons_zero, List.setIfInBounds_toArray, List.set_cons_zero, List.set_cons_succ]
      refine wpAnyH_take (i := 7) (v := .int .i64 (x1 : Int)) rfl (by kernel_rfl) (by kernel_rfl) (by kernel_rfl) (fun _ _ _ h => h) (Or.inl ⟨by rfl, ?_⟩) (by first | assumption | exact trivial) ?_
      · intro W hSW; go_simp; try (with_reducible rfl)
      simp only [Act.put, List.getElem_toArray, List.getElem_cons_succ, List.getElem_cons_zero, List.setIfInBounds_toArray, List.set_cons_zero, List.set_cons_succ]
      refine wpAnyH_take (i := 8) (v := .int .u64 (x2 : Int)) rfl (by kernel_rfl) (by kernel_rfl) (by kernel_rfl) (fun _ _ _ h => h) (Or.inl ⟨by rfl, ?_⟩) (by first | assumption | exact trivial) ?_
      · intro W hSW; go_simp; try (with_reducible rfl)
      simp only [Act.put, List.getElem_toArray, List.getElem_cons_succ, List.getElem_cons_zero, List.setIfInBounds_toArray, List.set_cons_zero, List.set_cons_succ]
      refine wpAnyH_take (i := 9) (v := .int .i64 (x2 : Int)) rfl (by kernel_rfl) (by kernel_rfl) (by kernel_rfl) (fun _ _ _ h => h) (Or.inl ⟨by rfl, ?_⟩) (by first | assumption | exact trivial) ?_
      · intro W hSW; go_simp; try (with_reducible rfl)
      simp only [Act.put, List.getElem_toArray, List.getElem_cons_succ, List.getElem_cons_zero, List.setIfInBounds_toArray, List.set_cons_zero, List.set_cons_succ]
      refine wpAnyH_take (i := 10) (v := .int .u64 (x4 : Int)) rfl (by kernel_rfl) (by kernel_rfl) (by kernel_rfl) (fun _ _ _ h => h) (Or.inl ⟨by rfl, ?_⟩) (by first | assumption | exact trivial) ?_
      · intro W hSW; go_simp; try (with_reducible rfl)
      simp only [Act.put, List.getElem_toArray, List.getElem_cons_succ, List.getElem_cons_zero, List.setIfInBounds_toArray, List.set_cons_zero, List.set_cons_succ]
      refine wpAnyH_take (i := 11) (v := .int .i64 (x4 : Int)) rfl (by kernel_rfl) (by kernel_rfl) (by kernel_rfl) (fun _ _ _ h => h) (Or.inl ⟨by rfl, ?_⟩) (by first | assumption | exact trivial) ?_
      · intro W hSW; go_simp; try (with_reducible rfl)
      simp only [Act.put, List.getElem_toArray, List.getElem_cons_succ, List.getElem_cons_zero, List.setIfInBounds_toArray, List.set_cons_zero, List.set_cons_succ]
      refine wpAnyH_take (i := 12) (v := .agg #[.int .i64 (x0 : Int), .int .i64 (x1 : Int), .int .i64 (x2 : Int), .int .i64 (x4 : Int)]) rfl (by kernel_rfl) (by kernel_rfl) (by kernel_rfl) (fun _ _ _ h => h) (Or.inl ⟨by rfl, ?_⟩) (by first | assumption | exact trivial) ?_
      · intro W hSW; go_simp; try (with_reducible rfl)
      simp only [Act.put, List.getElem_toArray, List.getElem_cons_succ, List.getElem_cons_zero, List.setIfInBounds_toArray, List.set_cons_zero, List.set_cons_succ]
      refine wpAnyH_ready (rs := [13]) (by kernel_rfl) (by simp) ?_
      refine AllReadyH.cons rfl (fun K hK => ?_) AllReadyH.nil
      go_simp
      obtain ⟨V6, hV6⟩ : ∃ V, (W1.alloc (.cells #[.int .i64 0, .int .i64 0, .int .i64 0, .int .i64 0] 23)).drew = V := ⟨_, rfl⟩
      have hb6 : Below W1.heap.size W1 V6 := by rw [← hV6]; exact (Me.below_alloc (Below.refl _ _)).drew
      have hD6 : V6.heap[W1.heap.size]? = some (.cells #[.int .i64 0, .int .i64 0, .int .i64 0, .int .i64 0] 23 (0, 0)) := by rw [← hV6]; exact heap_alloc_new W1 _
      rw [hV6]
      clear hV6
      obtain ⟨D, hDD⟩ : ∃ D, W1.heap.size = D := ⟨_, rfl⟩
      have hd := Lib.hid hDD
      rw [hDD] at hD6 ⊢
      refine hK.out _ _ (hb6) (fun hHeld => ?_)
      clear hK K
      refine wpAnyH_ready (rs := [14]) (by kernel_rfl) (by simp) ?_
      refine AllReadyH.cons rfl (fun K hK => ?_) AllReadyH.nil
      rw [if_pos (by kernel_rfl)]
      refine wp_store_row 23 (.tmp 8) (.tmp 35) rfl D #[.int .i64 (x0 : Int), .int .i64 (x1 : Int), .int .i64 (x2 : Int), .int .i64 (x4 : Int)] rfl (by rfl) 23 _ hD6 (by kernel_rfl) rfl (id_one _ _ _ _) ?_
      simp only [Act.put, List.getElem_toArray, List.getElem_cons_succ, List.getElem_cons_zero, List.setIfInBounds_toArray, List.set_cons_zero, List.set_cons_succ]
      obtain ⟨V9, hV9⟩ : ∃ V, V6.setRow D #[.int .i64 (x0 : Int), .int .i64 (x1 : Int), .int .i64 (x2 : Int), .int .i64 (x4 : Int)] = V := ⟨_, rfl⟩
      have hb9 : Below W1.heap.size W1 V9 := by
        rw [← hV9]
        exact below_setRow _ hb6 (Nat.le_of_eq hd.out)
      have hD9 : V9.heap[D]? = some (.cells #[.int .i64 (x0 : Int), .int .i64 (x1 : Int), .int .i64 (x2 : Int), .int .i64 (x4 : Int)] 23 (0, 0)) := by rw [← hV9]; exact setRow_heap _ _ _ _ _ _ hD6
      rw [hV9]
      refine hK.out _ _ (hb9) (fun hHeld => ?_)
      clear hK K
      refine wpAnyH_done (by kernel_rfl) ?_ _
      clear w2 w4 v0 v1 w2' w4' v0' v1'
      have HB9 := Lib.hid hb9
      have HDl : Hid (D < V9.heap.size) := (Array.getElem?_eq_some_iff.1 hD9).1
      have HD9 := Lib.hid hD9
      have f0 : V9.cell? ⟨D, 0, none⟩ = some (.int .i64 (x0 : Int)) := cell_of_row V9 D 0 _ _ (0, 0) hD9
      have f1 : V9.cell? ⟨D, 1, none⟩ = some (.int .i64 (x1 : Int)) := cell_of_row V9 D 1 _ _ (0, 0) hD9
      have f2 : V9.cell? ⟨D, 2, none⟩ = some (.int .i64 (x2 : Int)) := cell_of_row V9 D 2 _ _ (0, 0) hD9
      have f3 : V9.cell? ⟨D, 3, none⟩ = some (.int .i64 (x4 : Int)) := cell_of_row V9 D 3 _ _ (0, 0) hD9
      clear hV9 hb6 hD6 hb9 hD9 S0 hDD
      have HRR : Hid (∀ w5, Below V9.heap.size V9 w5 → w5.heap[w.heap.size]? = some (.cells #[.int .i64 0, .int .i64 0, .int .i64 0, .int .i64 0] 23 (0, 0))) := fun w5 h => (h.block _ (by have := HB9.out.size; have := Z1.out; omega)).trans ((HB9.out.block _ (by have := Z1.out; omega)).trans R1.out)
      have HBW : Hid (∀ w5 cs, Below V9.heap.size V9 w5 → Below w.heap.size w (w5.setRow w.heap.size cs)) := fun w5 cs h => by
        have e := (B1.out.trans (HB9.out.mono B1.out.size)).trans (h.mono (Nat.le_trans B1.out.size HB9.out.size))
        exact ⟨e.os, e.tape, e.output, by simpa using e.size, fun c hc => (setRow_other _ _ c _ (by omega)).trans (e.block c hc)⟩
      have HCE : Hid (∀ w5, Below V9.heap.size V9 w5 → w5.heap[D]? = some (.cells #[.int .i64 (x0 : Int), .int .i64 (x1 : Int), .int .i64 (x2 : Int), .int .i64 (x4 : Int)] 23 (0, 0))) := fun w5 h => (h.block _ HDl.out).trans HD9.out
      clear HC HG2 HG4 HB9 HDl HD9 HW B1 Z1 R1 hd
      go_wp2_with (first
        | (go_at_call 43; refine (HRK.out _).mono ?_; rintro e w5 ⟨rfl, hb5⟩; have hce := HCE.out w5 hb5.out; have e0 : w5.cell? ⟨D, 0, none⟩ = some (.int .i64 (x0 : Int)) := cell_of_row w5 D 0 _ _ (0, 0) hce; have e1 : w5.cell? ⟨D, 1, none⟩ = some (.int .i64 (x1 : Int)) := cell_of_row w5 D 1 _ _ (0, 0) hce; have e2 : w5.cell? ⟨D, 2, none⟩ = some (.int .i64 (x2 : Int)) := cell_of_row w5 D 2 _ _ (0, 0) hce; have e3 : w5.cell? ⟨D, 3, none⟩ = some (.int .i64 (x4 : Int)) := cell_of_row w5 D 3 _ _ (0, 0) hce; clear hce; have HR5 := Lib.hid (HRR.out w5 hb5.out))
        | (refine wpList_store_row rfl 23 (.tmp 2) (.tmp 40) rfl w.heap.size #[.int .i64 (x0 : Int), .int .i64 (x1 : Int), .int .i64 (x2 : Int), .int .i64 (x4 : Int)] rfl rfl 23 _ HR5.out (by kernel_rfl) rfl (id_one _ _ _ _) ?_))
      exact ret_box2 (g := w.heap.size) rfl (by rfl) (setRow_heap _ _ _ _ _ _ HR5.out) rfl Try.underlying23 (by kernel_rfl) rfl ⟨rfl, HBW.out _ _ hb5.out⟩
    · obtain ⟨kk, hkk⟩ : ∃ k, chkN ⟨x0, x1, x2, x4⟩ = k := ⟨_, rfl⟩
      rw [if_neg hk, if_neg hk]
      rw [hkk] at HRK hk
      have hne := nz hk
      simp only [idC] at HRK ⊢
      clear hi hc hlt HG hz hid HK hI hZ hx0 hx1 hx2 hx4 hL hkk b1 l0 l1 n2 n4 hk
      go_enter Try.func76, Try.ntmps76
      go_wp2_with (go_at_call 75; (try rw [HW.out]); first
        | (with_reducible refine HG2.out.mono ?_; rintro e w' ⟨rfl, rfl⟩)
        | (with_reducible refine HG4.out.mono ?_; rintro e w' ⟨rfl, rfl⟩))
      have S0 := (Below.refl W1.heap.size W1).drew
      refine wp_region_held_drew (S := fun W => Below W1.heap.size W1 W) (by kernel_rfl) S0 (fun hHeld => ?_)
      refine wpAnyH_take (i := 0) (v := .slice (some ⟨b, off, none⟩) 6 cap) rfl (by kernel_rfl) (by kernel_rfl) (by kernel_rfl) (fun _ _ _ h => h) (Or.inl ⟨by rfl, ?_⟩) (by first | assumption | exact trivial) ?_
      · intro W hSW; go_simp; try (with_reducible rfl)
      simp only [Act.put, List.getElem_toArray, List.getElem_cons_succ, List.getElem_cons_zero, List.setIfInBounds_toArray, List.set_cons_zero, List.set_cons_succ]
      refine wpAnyH_take (i := 1) (v := .pointer (some ⟨b, off, none⟩)) rfl (by kernel_rfl) (by kernel_rfl) (by kernel_rfl) (fun _ _ _ h => h) (Or.inl ⟨by rfl, ?_⟩) (by first | assumption | exact trivial) ?_
      · intro W hSW; go_simp; try (with_reducible rfl)
      simp only [Act.put, List.getElem_toArray, List.getElem_cons_succ, List.getElem_cons_zero, List.setIfInBounds_toArray, List.set_cons_zero, List.set_cons_succ]
      refine wpAnyH_take (i := 2) (v := .int .u8 (x0 : Int)) rfl (by kernel_rfl) (by kernel_rfl) (by kernel_rfl) (fun _ _ _ h => h) (Or.inl ⟨by rfl, ?_⟩) (by first | assumption | exact trivial) ?_
      · intro W hSW; obtain ⟨y0, y1⟩ := HC.out W hSW; go_simp; try (with_reducible rfl)
      simp only [Act.put, List.getElem_toArray, List.getElem_cons_succ, List.getElem_cons_zero, List.setIfInBounds_toArray, List.set_cons_zero, List.set_cons_succ]
      refine wpAnyH_take (i := 3) (v := .int .i64 (x0 : Int)) rfl (by kernel_rfl) (by kernel_rfl) (by kernel_rfl) (fun _ _ _ h => h) (Or.inl ⟨by rfl, ?_⟩) (by first | assumption | exact trivial) ?_
      · intro W hSW; go_simp; try (with_reducible rfl)
      simp only [Act.put, List.getElem_toArray, List.getElem_cons_succ, List.getElem_cons_zero, List.setIfInBounds_toArray, List.set_cons_zero, List.set_cons_succ]
      refine wpAnyH_take (i := 4) (v := .slice (some ⟨b, off, none⟩) 6 cap) rfl (by kernel_rfl) (by kernel_rfl) (by kernel_rfl) (fun _ _ _ h => h) (Or.inl ⟨by rfl, ?_⟩) (by first | assumption | exact trivial) ?_
      · intro W hSW; go_simp; try (with_reducible rfl)
      simp only [Act.put, List.getElem_toArray, List.getElem_cons_succ, List.getElem_cons_zero, List.setIfInBounds_toArray, List.set_cons_zero, List.set_cons_succ]
      refine wpAnyH_take (i := 5) (v := .pointer (some ⟨b, off + 1, none⟩)) rfl (by kernel_rfl) (by kernel_rfl) (by kernel_rfl) (fun _ _ _ h => h) (Or.inl ⟨by rfl, ?_⟩) (by first | assumption | exact trivial) ?_
      · intro W hSW; go_simp; try (with_reducible rfl)
      simp only [Act.put, List.getElem_toArray, List.getElem_cons_succ, List.getElem_cons_zero, List.setIfInBounds_toArray, List.set_cons_zero, List.set_cons_succ]
      refine wpAnyH_take (i := 6) (v := .int .u8 (x1 : Int)) rfl (by kernel_rfl) (by kernel_rfl) (by kernel_rfl) (fun _ _ _ h => h) (Or.inl ⟨by rfl, ?_⟩) (by first | assumption | exact trivial) ?_
      · intro W hSW; obtain ⟨y0, y1⟩ := HC.out W hSW; go_simp; try (with_reducible rfl)
      simp only [Act.put, List.getElem_toArray, List.getElem_cons_succ, List.getElem_cons_zero, List.setIfInBounds_toArray, List.set_cons_zero, List.set_cons_succ]
      refine wpAnyH_take (i := 7) (v := .int .i64 (x1 : Int)) rfl (by kernel_rfl) (by kernel_rfl) (by kernel_rfl) (fun _ _ _ h => h) (Or.inl ⟨by rfl, ?_⟩) (by first | assumption | exact trivial) ?_
      · intro W hSW; go_simp; try (with_reducible rfl)
      simp only [Act.put, List.getElem_toArray, List.getElem_cons_succ, List.getElem_cons_zero, List.setIfInBounds_toArray, List.set_cons_zero, List.set_cons_succ]
      refine wpAnyH_take (i := 8) (v := .int .u64 (x2 : Int)) rfl (by kernel_rfl) (by kernel_rfl) (by kernel_rfl) (fun _ _ _ h => h) (Or.inl ⟨by rfl, ?_⟩) (by first | assumption | exact trivial) ?_
      · intro W hSW; go_simp; try (with_reducible rfl)
      simp only [Act.put, List.getElem_toArray, List.getElem_cons_succ, List.getElem_cons_zero, List.setIfInBounds_toArray, List.set_cons_zero, List.set_cons_succ]
      refine wpAnyH_take (i := 9) (v := .int .i64 (x2 : Int)) rfl (by kernel_rfl) (by kernel_rfl) (by kernel_rfl) (fun _ _ _ h => h) (Or.inl ⟨by rfl, ?_⟩) (by first | assumption | exact trivial) ?_
      · intro W hSW; go_simp; try (with_reducible rfl)
      simp only [Act.put, List.getElem_toArray, List.getElem_cons_succ, List.getElem_cons_zero, List.setIfInBounds_toArray, List.set_cons_zero, List.set_cons_succ]
      refine wpAnyH_take (i := 10) (v := .int .u64 (x4 : Int)) rfl (by kernel_rfl) (by kernel_rfl) (by kernel_rfl) (fun _ _ _ h => h) (Or.inl ⟨by rfl, ?_⟩) (by first | assumption | exact trivial) ?_
      · intro W hSW; go_simp; try (with_reducible rfl)
      simp only [Act.put, List.getElem_toArray, List.getElem_cons_succ, List.getElem_cons_zero, List.setIfInBounds_toArray, List.set_cons_zero, List.set_cons_succ]
      refine wpAnyH_take (i := 11) (v := .int .i64 (x4 : Int)) rfl (by kernel_rfl) (by kernel_rfl) (by kernel_rfl) (fun _ _ _ h => h) (Or.inl ⟨by rfl, ?_⟩) (by first | assumption | exact trivial) ?_
      · intro W hSW; go_simp; try (with_reducible rfl)
      simp only [Act.put, List.getElem_toArray, List.getElem_cons_succ, List.getElem_cons_zero, List.setIfInBounds_toArray, List.set_cons_zero, List.set_cons_succ]
      refine wpAnyH_take (i := 12) (v := .agg #[.int .i64 (x0 : Int), .int .i64 (x1 : Int), .int .i64 (x2 : Int), .int .i64 (x4 : Int)]) rfl (by kernel_rfl) (by kernel_rfl) (by kernel_rfl) (fun _ _ _ h => h) (Or.inl ⟨by rfl, ?_⟩) (by first | assumption | exact trivial) ?_
      · intro W hSW; go_simp; try (with_reducible rfl)
      simp only [Act.put, List.getElem_toArray, List.getElem_cons_succ, List.getElem_cons_zero, List.setIfInBounds_toArray, List.set_cons_zero, List.set_cons_succ]
      refine wpAnyH_ready (rs := [13]) (by kernel_rfl) (by simp) ?_
      refine AllReadyH.cons rfl (fun K hK => ?_) AllReadyH.nil
      go_simp
      obtain ⟨V6, hV6⟩ : ∃ V, (W1.alloc (.cells #[.int .i64 0, .int .i64 0, .int .i64 0, .int .i64 0] 23)).drew = V := ⟨_, rfl⟩
      have hb6 : Below W1.heap.size W1 V6 := by rw [← hV6]; exact (Me.below_alloc (Below.refl _ _)).drew
      have hD6 : V6.heap[W1.heap.size]? = some (.cells #[.int .i64 0, .int .i64 0, .int .i64 0, .int .i64 0] 23 (0, 0)) := by rw [← hV6]; exact heap_alloc_new W1 _
      rw [hV6]
      clear hV6
      obtain ⟨D, hDD⟩ : ∃ D, W1.heap.size = D := ⟨_, rfl⟩
      have hd := Lib.hid hDD
      rw [hDD] at hD6 ⊢
      refine hK.out _ _ (hb6) (fun hHeld => ?_)
      clear hK K
      refine wpAnyH_ready (rs := [14]) (by kernel_rfl) (by simp) ?_
      refine AllReadyH.cons rfl (fun K hK => ?_) AllReadyH.nil
      rw [if_pos (by kernel_rfl)]
      refine wp_store_row 23 (.tmp 8) (.tmp 35) rfl D #[.int .i64 (x0 : Int), .int .i64 (x1 : Int), .int .i64 (x2 : Int), .int .i64 (x4 : Int)] rfl (by rfl) 23 _ hD6 (by kernel_rfl) rfl (id_one _ _ _ _) ?_
      simp only [Act.put, List.getElem_toArray, List.getElem_cons_succ, List.getElem_cons_zero, List.setIfInBounds_toArray, List.set_cons_zero, List.set_cons_succ]
      obtain ⟨V9, hV9⟩ : ∃ V, V6.setRow D #[.int .i64 (x0 : Int), .int .i64 (x1 : Int), .int .i64 (x2 : Int), .int .i64 (x4 : Int)] = V := ⟨_, rfl⟩
      have hb9 : Below W1.heap.size W1 V9 := by
        rw [← hV9]
        exact below_setRow _ hb6 (Nat.le_of_eq hd.out)
      have hD9 : V9.heap[D]? = some (.cells #[.int .i64 (x0 : Int), .int .i64 (x1 : Int), .int .i64 (x2 : Int), .int .i64 (x4 : Int)] 23 (0, 0)) := by rw [← hV9]; exact setRow_heap _ _ _ _ _ _ hD6
      rw [hV9]
      refine hK.out _ _ (hb9) (fun hHeld => ?_)
      clear hK K
      refine wpAnyH_done (by kernel_rfl) ?_ _
      clear w2 w4 v0 v1 w2' w4' v0' v1'
      have HB9 := Lib.hid hb9
      have HDl : Hid (D < V9.heap.size) := (Array.getElem?_eq_some_iff.1 hD9).1
      have HD9 := Lib.hid hD9
      have f0 : V9.cell? ⟨D, 0, none⟩ = some (.int .i64 (x0 : Int)) := cell_of_row V9 D 0 _ _ (0, 0) hD9
      have f1 : V9.cell? ⟨D, 1, none⟩ = some (.int .i64 (x1 : Int)) := cell_of_row V9 D 1 _ _ (0, 0) hD9
      have f2 : V9.cell? ⟨D, 2, none⟩ = some (.int .i64 (x2 : Int)) := cell_of_row V9 D 2 _ _ (0, 0) hD9
      have f3 : V9.cell? ⟨D, 3, none⟩ = some (.int .i64 (x4 : Int)) := cell_of_row V9 D 3 _ _ (0, 0) hD9
      clear hV9 hb6 hD6 hb9 hD9 S0 hDD
      have HRR : Hid (∀ w5, Below V9.heap.size V9 w5 → w5.heap[w.heap.size]? = some (.cells #[.int .i64 0, .int .i64 0, .int .i64 0, .int .i64 0] 23 (0, 0))) := fun w5 h => (h.block _ (by have := HB9.out.size; have := Z1.out; omega)).trans ((HB9.out.block _ (by have := Z1.out; omega)).trans R1.out)
      have HBW : Hid (∀ w5 cs, Below V9.heap.size V9 w5 → Below w.heap.size w (w5.setRow w.heap.size cs)) := fun w5 cs h => by
        have e := (B1.out.trans (HB9.out.mono B1.out.size)).trans (h.mono (Nat.le_trans B1.out.size HB9.out.size))
        exact ⟨e.os, e.tape, e.output, by simpa using e.size, fun c hc => (setRow_other _ _ c _ (by omega)).trans (e.block c hc)⟩
      have HCE : Hid (∀ w5, Below V9.heap.size V9 w5 → w5.heap[D]? = some (.cells #[.int .i64 (x0 : Int), .int .i64 (x1 : Int), .int .i64 (x2 : Int), .int .i64 (x4 : Int)] 23 (0, 0))) := fun w5 h => (h.block _ HDl.out).trans HD9.out
      clear HC HG2 HG4 HB9 HDl HD9 HW B1 Z1 R1 hd
      go_wp2_with (first
        | (go_at_call 43; refine (HRK.out _).mono ?_; rintro e w5 ⟨rfl, hb5⟩; have HR5 := Lib.hid (HRR.out w5 hb5.out))
        | (refine wpList_store_row rfl 23 (.tmp 2) (.tmp 39) rfl w.heap.size #[.int .i64 0, .int .i64 0, .int .i64 0, .int .i64 0] rfl rfl 23 _ HR5.out (by kernel_rfl) rfl (id_one _ _ _ _) ?_))
      exact ret_box2 (g := w.heap.size) rfl (by rfl) (setRow_heap _ _ _ _ _ _ HR5.out) rfl Try.underlying23 (by kernel_rfl) rfl ⟨rfl, HBW.out _ _ hb5.out⟩
  · have hlen : ((l.length : Int) == 6) = false := by
      have : ¬ (l.length : Int) = 6 := by omega
      simpa using this
    have hI : getI l = ⟨0, 0, 0, 0⟩ := by unfold getI; rw [if_neg (by simp [h6])]
    have hZ : getZ l = 2 := by unfold getZ; rw [if_neg (by simp [h6])]
    rw [hI, hZ]
    simp only [idC]
    have HBE : Hid (Below w.heap.size w (W1.setRow w.heap.size #[.int .i64 0, .int .i64 0, .int .i64 0, .int .i64 0])) := ⟨B1.out.os, B1.out.tape, B1.out.output, by simpa using B1.out.size, fun b hb => (setRow_other _ _ b _ (by omega)).trans (B1.out.block b hb)⟩
    have HRE := Lib.hid (setRow_heap W1 w.heap.size _ #[.int .i64 0, .int .i64 0, .int .i64 0, .int .i64 0] _ _ R1.out)
    clear hI hZ h6 hi b1
    go_enter Try.func76, Try.ntmps76
    go_wp2_with (refine wpList_store_row rfl 23 (.tmp 2) (.tmp 12) rfl w.heap.size #[.int .i64 0, .int .i64 0, .int .i64 0, .int .i64 0] rfl rfl 23 _ (by rw [HW.out]; exact R1.out) (by kernel_rfl) rfl (id_one _ _ _ _) ?_)
    first
      | (rw [HW.out]; exact ret_box2 (g := w.heap.size) rfl (by rfl) HRE.out rfl Try.underlying23 (by kernel_rfl) rfl ⟨rfl, HBE.out⟩)
      | (rw [HW.out]; exact ret_box2 (g := w.heap.size) rfl (by rfl) R1.out rfl Try.underlying23 (by kernel_rfl) rfl ⟨rfl, B1.out⟩)
end Go.Proofs.Ytohfoieibgmmdaa.Mg
