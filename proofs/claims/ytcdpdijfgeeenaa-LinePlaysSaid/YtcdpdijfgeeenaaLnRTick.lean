/- The document's line: Tick. -/
import Derived.Test.YtcdpdijfgeeenaaLnRPut
namespace Go.Proofs.Ytcdpdijfgeeenaa.Li
open Go.RowKit
open Go.Proofs.Ytcdpdijfgeeenaa.Sb
set_option linter.unusedVariables false
set_option linter.unusedSimpArgs false

def tickW (L : List Wy) : List Wy := L.map fun p => (p.1, max 0 (p.2 - 1))
set_option maxRecDepth 100000 in
set_option maxHeartbeats 4000000 in
theorem RTick_any (d : Nat) (A : Option Addr) (n c : Nat) (L : List Wy) (w : World) (hr : Hid (RW w A n c L)) (hn : n ≤ 65536) (hd : d ≤ 64) (hne : Hid (∀ p ∈ L, 0 ≤ p.2 ∧ p.2 ≤ 2000000)) :
    Calls Try.prog 21 #[.agg (lnV d A n c)] w fun e w' => ∃ A' n' c', e = .returned (.agg (lnV d A' n' c')) ∧ Hid (RW w' A' n' c' (tickW L)) ∧ Hid (Below w.heap.size w w') := by
  obtain ⟨w1, hw1, B1, B2, hsz, hb, hr1⟩ := two_ln w d A n c L hr.out
  have HW1 := Lib.hid hw1
  have HB2 := Lib.hid B2
  have HB1 := Lib.hid B1
  have HB := Lib.hid hb
  have HR1 := Lib.hid hr1
  obtain ⟨e0, e1⟩ := B1.cells
  have HS := Lib.hid hsz
  have HL : Hid (n = L.length) := hr.out.len
  have HO0 : Hid (OW (w1.alloc (.cells #[] 62)) w1.heap.size (.slice (some ⟨w1.heap.size, 0, none⟩) 0 0) []) := OW.made w1
  clear hw1 B1 B2 hsz hb hr1
  go_enter Try.func21, Try.ntmps21
  go_wp2_with (first
    | (refine Mi.allocTo rfl (.pointer (some ⟨_, 0, none⟩)) (.cells (lnV d A n c) 29 (0, 0)) (exec_boxl _ _ d A n c (.tmp 0) rfl rfl _) ?_)
    | (refine Mi.allocTo rfl (.pointer (some ⟨_, 0, none⟩)) (.cells (lnV 0 none 0 0) 29 (0, 0)) (alloc_ln _ _ rfl _) ?_; rw [HW1.out]))
  go_loopw [3, 4] (fun u3 u4 wr => ∃ k : Nat, k ≤ n ∧ u4 = .int .i64 (k : Int) ∧ Hid (OW wr w1.heap.size u3 (tickW (L.take k))) ∧ Hid (Below w1.heap.size w1 wr)) (fun _ u4 _ => n - (intOf u4).toNat)
  case atStart => exact ⟨0, Nat.zero_le _, rfl, HO0, Me.below_alloc (Below.refl _ _)⟩
  case round =>
    obtain ⟨k, hk, rfl, HO, HBr⟩ := hrel
    clear e0 e1 HO0
    obtain ⟨e0, e1⟩ := (HB1.out.below HBr.out).cells
    by_cases hkm : k < n
    · have q2 : (k : Int) < (n : Int) := by omega
      obtain ⟨p, hp⟩ : ∃ p, L[k]? = some p := ⟨_, List.getElem?_eq_getElem (by rw [← HL.out]; exact hkm)⟩
      have HC : Hid (∀ W, Below w1.heap.size w1 W → ∃ g off, A = some ⟨g, off, none⟩ ∧ W.cell? ⟨g, off + k * 2, none⟩ = some (.int .u8 (p.1 : Int)) ∧ W.cell? ⟨g, off + k * 2 + 1, none⟩ = some (.int .i64 p.2)) := fun W hW => (HR1.out.below hW).cells hp
      obtain ⟨g, off, hA, x0, x1⟩ := HC.out wr HBr.out
      have hmem := hne.out p (List.mem_of_getElem? hp)
      have HPb : Hid (tickW (L.take k) ++ [(p.1, max 0 (p.2 - 1))] = tickW (L.take (k + 1))) := by
        show _ = _
        unfold tickW
        rw [List.take_add_one, hp, List.map_append]
        rfl
      obtain ⟨pb, hpb⟩ : ∃ x, p.1 = x := ⟨_, rfl⟩
      obtain ⟨pn, hpn⟩ : ∃ x, p.2 = x := ⟨_, rfl⟩
      rw [hpb] at x0 HPb HC
      rw [hpn] at x1 HPb hmem HC
      have HWr : Hid (IntKind.i64.wrap (pn - 1) = pn - 1) := Mi.fits' (by unfold Mi.I64; omega)
      have HMx : Hid ((if (1 : Int) < pn then pn - 1 else 0) = max 0 (pn - 1)) := by
        show _ = _
        split <;> omega
      obtain ⟨px, hpx⟩ : ∃ x, max 0 (pn - 1) = x := ⟨_, rfl⟩
      rw [hpx] at HPb HMx
      subst hA
      have HLk : Hid ((tickW (L.take k)).length + [((pb, px) : Wy)].length ≤ 1000000) := by
        show _ ≤ _
        simp only [tickW, List.length_map, List.length_take, List.length_cons, List.length_nil]
        omega
      have hkm2 : k < n := hkm
      have HCC : Hid (∀ W, Below w1.heap.size w1 W → W.cell? ⟨g, off + k * 2, none⟩ = some (.int .u8 (pb : Int)) ∧ W.cell? ⟨g, off + k * 2 + 1, none⟩ = some (.int .i64 pn) ∧ W.cell? ⟨w.heap.size, 1, none⟩ = some (.slice (some ⟨g, off, none⟩) n c)) := fun W hW => by
        obtain ⟨g2, off2, e2, y0, y1⟩ := HC.out W hW
        injection e2 with e2
        injection e2 with e3 e4 e5
        subst e3 e4
        exact ⟨y0, y1, (HB1.out.below hW).cells.2⟩
      clear hp hpb hpn hpx HC hmem
      go_wp2
      refine wp_region_held_drew (S := fun W => W.cell? ⟨g, off + k * 2, none⟩ = some (.int .u8 (pb : Int)) ∧ W.cell? ⟨g, off + k * 2 + 1, none⟩ = some (.int .i64 pn) ∧ W.cell? ⟨w.heap.size, 1, none⟩ = some (.slice (some ⟨g, off, none⟩) n c)) (by kernel_rfl) (HCC.out wr.drew HBr.out.drew) (fun hHeld => ?_)
      refine wpAnyH_take (i := 0) (v := ?vz1) rfl (by kernel_rfl) (by kernel_rfl) (by kernel_rfl) (fun _ _ _ h => h) (Or.inl ⟨by rfl, ?hyz1⟩) (by first | assumption | exact trivial) ?restz1
      case hyz1 => intro W hSW; go_simp; try (with_reducible rfl)
      simp only [Act.put, List.getElem_toArray, List.getElem_cons_succ, List.getElem_cons_zero, List.setIfInBounds_toArray, List.set_cons_zero, List.set_cons_succ]
      refine wpAnyH_take (i := 1) (v := .pointer (some ⟨w.heap.size, 1, none⟩)) rfl (by kernel_rfl) (by kernel_rfl) (by kernel_rfl) (fun _ _ _ h => h) (Or.inl ⟨by rfl, ?_⟩) (by first | assumption | exact trivial) ?_
      · intro W hSW; go_simp; try (with_reducible rfl)
      simp only [Act.put, List.getElem_toArray, List.getElem_cons_succ, List.getElem_cons_zero, List.setIfInBounds_toArray, List.set_cons_zero, List.set_cons_succ]
      refine wpAnyH_take (i := 2) (v := .slice (some ⟨g, off, none⟩) n c) rfl (by kernel_rfl) (by kernel_rfl) (by kernel_rfl) (fun _ _ _ h => h) (Or.inl ⟨by rfl, ?_⟩) (by first | assumption | exact trivial) ?_
      · intro W hSW; have y := hSW.2.2; go_simp; try (with_reducible rfl)
      simp only [Act.put, List.getElem_toArray, List.getElem_cons_succ, List.getElem_cons_zero, List.setIfInBounds_toArray, List.set_cons_zero, List.set_cons_succ]
      refine wpAnyH_take (i := 3) (v := .int .i64 (k : Int)) rfl (by kernel_rfl) (by kernel_rfl) (by kernel_rfl) (fun _ _ _ h => h) (Or.inl ⟨by rfl, ?_⟩) (by first | assumption | exact trivial) ?_
      · intro W hSW; go_simp; try (with_reducible rfl)
      simp only [Act.put, List.getElem_toArray, List.getElem_cons_succ, List.getElem_cons_zero, List.setIfInBounds_toArray, List.set_cons_zero, List.set_cons_succ]
      refine wpAnyH_take (i := 4) (v := .pointer (some ⟨g, off + k * 2, none⟩)) rfl (by kernel_rfl) (by kernel_rfl) (by kernel_rfl) (fun _ _ _ h => h) (Or.inl ⟨by rfl, ?_⟩) (by first | assumption | exact trivial) ?_
      · intro W hSW; go_simp; try (with_reducible rfl)
      simp only [Act.put, List.getElem_toArray, List.getElem_cons_succ, List.getElem_cons_zero, List.setIfInBounds_toArray, List.set_cons_zero, List.set_cons_succ]
      refine wpAnyH_take (i := 5) (v := .pointer (some ⟨g, off + k * 2, none⟩)) rfl (by kernel_rfl) (by kernel_rfl) (by kernel_rfl) (fun _ _ _ h => h) (Or.inl ⟨by rfl, ?_⟩) (by first | assumption | exact trivial) ?_
      · intro W hSW; go_simp; try (with_reducible rfl)
      simp only [Act.put, List.getElem_toArray, List.getElem_cons_succ, List.getElem_cons_zero, List.setIfInBounds_toArray, List.set_cons_zero, List.set_cons_succ]
      refine wpAnyH_take (i := 6) (v := .int .u8 (pb : Int)) rfl (by kernel_rfl) (by kernel_rfl) (by kernel_rfl) (fun _ _ _ h => h) (Or.inl ⟨by rfl, ?_⟩) (by first | assumption | exact trivial) ?_
      · intro W hSW; have y := hSW.1; go_simp; try (with_reducible rfl)
      simp only [Act.put, List.getElem_toArray, List.getElem_cons_succ, List.getElem_cons_zero, List.setIfInBounds_toArray, List.set_cons_zero, List.set_cons_succ]
      refine wpAnyH_take (i := 7) (v := .pointer (some ⟨w.heap.size, 1, none⟩)) rfl (by kernel_rfl) (by kernel_rfl) (by kernel_rfl) (fun _ _ _ h => h) (Or.inl ⟨by rfl, ?_⟩) (by first | assumption | exact trivial) ?_
      · intro W hSW; go_simp; try (with_reducible rfl)
      simp only [Act.put, List.getElem_toArray, List.getElem_cons_succ, List.getElem_cons_zero, List.setIfInBounds_toArray, List.set_cons_zero, List.set_cons_succ]
      refine wpAnyH_take (i := 8) (v := .slice (some ⟨g, off, none⟩) n c) rfl (by kernel_rfl) (by kernel_rfl) (by kernel_rfl) (fun _ _ _ h => h) (Or.inl ⟨by rfl, ?_⟩) (by first | assumption | exact trivial) ?_
      · intro W hSW; have y := hSW.2.2; go_simp; try (with_reducible rfl)
      simp only [Act.put, List.getElem_toArray, List.getElem_cons_succ, List.getElem_cons_zero, List.setIfInBounds_toArray, List.set_cons_zero, List.set_cons_succ]
      refine wpAnyH_take (i := 9) (v := .int .i64 (k : Int)) rfl (by kernel_rfl) (by kernel_rfl) (by kernel_rfl) (fun _ _ _ h => h) (Or.inl ⟨by rfl, ?_⟩) (by first | assumption | exact trivial) ?_
      · intro W hSW; go_simp; try (with_reducible rfl)
      simp only [Act.put, List.getElem_toArray, List.getElem_cons_succ, List.getElem_cons_zero, List.setIfInBounds_toArray, List.set_cons_zero, List.set_cons_succ]
      refine wpAnyH_take (i := 10) (v := .pointer (some ⟨g, off + k * 2, none⟩)) rfl (by kernel_rfl) (by kernel_rfl) (by kernel_rfl) (fun _ _ _ h => h) (Or.inl ⟨by rfl, ?_⟩) (by first | assumption | exact trivial) ?_
      · intro W hSW; go_simp; try (with_reducible rfl)
      simp only [Act.put, List.getElem_toArray, List.getElem_cons_succ, List.getElem_cons_zero, List.setIfInBounds_toArray, List.set_cons_zero, List.set_cons_succ]
      refine wpAnyH_take (i := 11) (v := .pointer (some ⟨g, off + k * 2 + 1, none⟩)) rfl (by kernel_rfl) (by kernel_rfl) (by kernel_rfl) (fun _ _ _ h => h) (Or.inl ⟨by rfl, ?_⟩) (by first | assumption | exact trivial) ?_
      · intro W hSW; go_simp; try (with_reducible rfl)
      simp only [Act.put, List.getElem_toArray, List.getElem_cons_succ, List.getElem_cons_zero, List.setIfInBounds_toArray, List.set_cons_zero, List.set_cons_succ]
      refine wpAnyH_take (i := 12) (v := .int .i64 pn) rfl (by kernel_rfl) (by kernel_rfl) (by kernel_rfl) (fun _ _ _ h => h) (Or.inl ⟨by rfl, ?_⟩) (by first | assumption | exact trivial) ?_
      · intro W hSW; have y := hSW.2.1; go_simp; try (with_reducible rfl)
      simp only [Act.put, List.getElem_toArray, List.getElem_cons_succ, List.getElem_cons_zero, List.setIfInBounds_toArray, List.set_cons_zero, List.set_cons_succ]
      refine wpAnyH_take (i := 13) (v := .int .i64 (pn - 1)) rfl (by kernel_rfl) (by kernel_rfl) (by kernel_rfl) (fun _ _ _ h => h) (Or.inl ⟨by rfl, ?_⟩) (by first | assumption | exact trivial) ?_
      · intro W hSW; have y := HWr.out; go_simp; try (with_reducible rfl)
      simp only [Act.put, List.getElem_toArray, List.getElem_cons_succ, List.getElem_cons_zero, List.setIfInBounds_toArray, List.set_cons_zero, List.set_cons_succ]
      refine wpAnyH_take (i := 14) (v := .int .i64 px) rfl (by kernel_rfl) (by kernel_rfl) (by kernel_rfl) (fun _ _ _ h => h) (Or.inl ⟨by rfl, ?_⟩) (by first | assumption | exact trivial) ?_
      · intro W hSW; have y := HMx.out; go_simp; try (with_reducible rfl)
      simp only [Act.put, List.getElem_toArray, List.getElem_cons_succ, List.getElem_cons_zero, List.setIfInBounds_toArray, List.set_cons_zero, List.set_cons_succ]
      refine wpAnyH_take (i := 15) (v := .agg #[.int .u8 (pb : Int), .int .i64 px]) rfl (by kernel_rfl) (by kernel_rfl) (by kernel_rfl) (fun _ _ _ h => h) (Or.inl ⟨by rfl, ?_⟩) (by first | assumption | exact trivial) ?_
      · intro W hSW; go_simp; try (with_reducible rfl)
      simp only [Act.put, List.getElem_toArray, List.getElem_cons_succ, List.getElem_cons_zero, List.setIfInBounds_toArray, List.set_cons_zero, List.set_cons_succ]
      refine wpAnyH_ready (rs := [16]) (by kernel_rfl) (by simp) ?_
      refine AllReadyH.cons rfl (fun K hK => ?_) AllReadyH.nil
      go_simp
      have hbl : Below wr.heap.size wr (wr.alloc (.cells #[.int .u8 (pb : Int), .int .i64 px] 62)).drew := (Me.below_alloc (Below.refl _ wr)).drew
      have hrn : RW (wr.alloc (.cells #[.int .u8 (pb : Int), .int .i64 px] 62)).drew (some ⟨wr.heap.size, 0, none⟩) 1 1 [(pb, px)] := rw_new wr (pb, px) _ (heap_alloc_new wr _)
      refine hK.out _ _ ((HCC.out _ (HBr.out.trans (hbl.mono HBr.out.size)))) (fun hHeld => ?_)
      clear hK K
      refine wpAnyH_ready (rs := [17]) (by kernel_rfl) (by simp) ?_
      refine AllReadyH.cons rfl (fun K hK => ?_) AllReadyH.nil
      rw [if_pos (by kernel_rfl)]
      refine appW (w0 := w1) (.tmp 13) (.tmp 29) rfl w1.heap.size u3 (tickW (L.take k)) [(pb, px)] rfl (HO.out.below hbl) (HBr.out.trans (hbl.mono HBr.out.size)) (Nat.le_trans HBr.out.size hbl.size) (some ⟨wr.heap.size, 0, none⟩) 1 1 rfl hrn HLk.out ?_
      intro v9 w9 ho9 hb9
      rw [HPb.out] at ho9
      have HO9 := Lib.hid ho9
      have HB9 := Lib.hid hb9
      clear ho9 hb9
      simp only [Act.put, List.getElem_toArray, List.getElem_cons_succ, List.getElem_cons_zero, List.setIfInBounds_toArray, List.set_cons_zero, List.set_cons_succ]
      refine hK.out _ _ ((HCC.out _ HB9.out)) (fun hHeld => ?_)
      clear hK K
      refine wpAnyH_take (i := 18) (v := v9) rfl (by kernel_rfl) (by kernel_rfl) (by kernel_rfl) (fun _ _ _ h => h) (Or.inl ⟨by rfl, ?_⟩) (by first | assumption | exact trivial) ?_
      · intro W hSW; go_simp; try (with_reducible rfl)
      simp only [Act.put, List.getElem_toArray, List.getElem_cons_succ, List.getElem_cons_zero, List.setIfInBounds_toArray, List.set_cons_zero, List.set_cons_succ]
      refine wpAnyH_done (by kernel_rfl) ?_ _
      go_wp2
      go_roundw
      case rel => exact ⟨k + 1, by omega, by go_num, HO9, HB9⟩
      case measure => simp [intOf]; omega
    · obtain rfl : k = n := by omega
      have q2 : ¬ (k : Int) < (k : Int) := by omega
      have hfull : L.take k = L := List.take_of_length_le (by rw [← HL.out]; exact Nat.le_refl _)
      have HO2 := HO.out
      rw [hfull] at HO2
      obtain ⟨A5, c5, hu, hrw⟩ := OW.rw HO2
      have HRW5 := Lib.hid hrw
      obtain ⟨n5, hn5⟩ : ∃ x, (tickW L).length = x := ⟨_, rfl⟩
      rw [hn5] at hu HRW5
      subst hu
      have HB5 : Hid (Bl wr (w.heap.size + 1) 0 none 0 0) := HB2.out.below HBr.out
      clear hfull HO2 hrw hn5
      go_wp2_with (refine wpList_store_row rfl 29 (.tmp 2) (.tmp 34) rfl (w.heap.size + 1) (lnV d A5 n5 c5) rfl rfl 29 _ HB5.out (ln_size _ _ _ _) rfl (ln_one _ _ _ _) ?_)
      have hbw : Below w.heap.size w (wr.setRow (w.heap.size + 1) (lnV d A5 n5 c5)) := Sb.below_setRow _ (HB.out.trans (HBr.out.mono HB.out.size)) (Nat.le_succ _)
      exact ret_box rfl rfl (setRow_heap _ _ _ _ _ _ HB5.out) rfl Try.underlying29 (ln_size _ _ _ _) rfl ⟨A5, n5, c5, rfl, HB5.out.rw_set HRW5.out _, hbw⟩
end Go.Proofs.Ytcdpdijfgeeenaa.Li
