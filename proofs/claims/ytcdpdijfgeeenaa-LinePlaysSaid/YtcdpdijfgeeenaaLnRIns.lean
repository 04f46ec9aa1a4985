/- The document's line: Insert. -/
import Derived.Test.YtcdpdijfgeeenaaLnRTick
namespace Go.Proofs.Ytcdpdijfgeeenaa.Li
open Go.RowKit
open Go.Proofs.Ytcdpdijfgeeenaa.Sb
set_option linter.unusedVariables false
set_option linter.unusedSimpArgs false

theorem RIns_bad (d : Nat) (A : Option Addr) (n c : Nat) (L : List Wy) (k : Int) (b : Value) (w : World) (hr : Hid (RW w A n c L)) (hn : n ≤ 65536) (hb : k < 0 ∨ (n : Int) < k) :
    Calls Try.prog 25 #[.agg (lnV d A n c), .int .i64 k, b] w fun e w' => e = .returned (.tuple #[.agg (lnV d A n c), .int .i64 1]) ∧ Hid (Below w.heap.size w w') := by
  obtain ⟨w1, hw1, B1, B2, hsz, hbw, hr1⟩ := two_ln w d A n c L hr.out
  have HW1 := Lib.hid hw1
  have HB2 := Lib.hid B2
  have HB1 := Lib.hid B1
  have HB := Lib.hid hbw
  obtain ⟨e0, e1⟩ := B1.cells
  clear hw1 B1 B2 hsz hbw hr1
  by_cases h0 : k < 0
  · clear hb
    go_enter Try.func25, Try.ntmps25
    go_wp2_with (first
      | (refine Mi.allocTo rfl (.pointer (some ⟨_, 0, none⟩)) (.cells (lnV d A n c) 29 (0, 0)) (exec_boxl _ _ d A n c (.tmp 0) rfl rfl _) ?_)
      | (refine Mi.allocTo rfl (.pointer (some ⟨_, 0, none⟩)) (.cells (lnV 0 none 0 0) 29 (0, 0)) (alloc_ln _ _ rfl _) ?_; rw [HW1.out])
      | (refine wpList_load_row rfl 29 (.tmp 3) rfl w.heap.size rfl 29 _ (0, 0) _ HB1.out Try.underlying29 rfl (ln_size _ _ _ _) ?_)
      | (refine wpList_store_row rfl 29 (.tmp 6) (.tmp 19) rfl (w.heap.size + 1) (lnV d A n c) rfl rfl 29 _ HB2.out (ln_size _ _ _ _) rfl (ln_one _ _ _ _) ?_))
    exact ret_box2 rfl rfl (setRow_heap _ _ _ _ _ _ HB2.out) rfl Try.underlying29 (ln_size _ _ _ _) rfl ⟨rfl, Sb.below_setRow _ HB.out (Nat.le_succ _)⟩
  · have h1 : (n : Int) < k := by omega
    clear hb
    go_enter Try.func25, Try.ntmps25
    go_wp2_with (first
      | (refine Mi.allocTo rfl (.pointer (some ⟨_, 0, none⟩)) (.cells (lnV d A n c) 29 (0, 0)) (exec_boxl _ _ d A n c (.tmp 0) rfl rfl _) ?_)
      | (refine Mi.allocTo rfl (.pointer (some ⟨_, 0, none⟩)) (.cells (lnV 0 none 0 0) 29 (0, 0)) (alloc_ln _ _ rfl _) ?_; rw [HW1.out])
      | (refine wpList_load_row rfl 29 (.tmp 3) rfl w.heap.size rfl 29 _ (0, 0) _ HB1.out Try.underlying29 rfl (ln_size _ _ _ _) ?_)
      | (refine wpList_store_row rfl 29 (.tmp 6) (.tmp 19) rfl (w.heap.size + 1) (lnV d A n c) rfl rfl 29 _ HB2.out (ln_size _ _ _ _) rfl (ln_one _ _ _ _) ?_))
    exact ret_box2 rfl rfl (setRow_heap _ _ _ _ _ _ HB2.out) rfl Try.underlying29 (ln_size _ _ _ _) rfl ⟨rfl, Sb.below_setRow _ HB.out (Nat.le_succ _)⟩
theorem RIns_full (d : Nat) (A : Option Addr) (n c : Nat) (L : List Wy) (k : Nat) (b : Value) (w : World) (hr : Hid (RW w A n c L)) (hn : n = 65536) (hk : k ≤ n) :
    Calls Try.prog 25 #[.agg (lnV d A n c), .int .i64 (k : Int), b] w fun e w' => e = .returned (.tuple #[.agg (lnV d A n c), .int .i64 6]) ∧ Hid (Below w.heap.size w w') := by
  obtain ⟨w1, hw1, B1, B2, hsz, hbw, hr1⟩ := two_ln w d A n c L hr.out
  have HW1 := Lib.hid hw1
  have HB2 := Lib.hid B2
  have HB1 := Lib.hid B1
  have HB := Lib.hid hbw
  obtain ⟨e0, e1⟩ := B1.cells
  have h1 : ¬ (n : Int) < (k : Int) := by omega
  have h2 : (65536 : Int) ≤ (n : Int) := by omega
  clear hw1 B1 B2 hsz hbw hr1 hn
  go_enter Try.func25, Try.ntmps25
  go_wp2_with (first
    | (refine Mi.allocTo rfl (.pointer (some ⟨_, 0, none⟩)) (.cells (lnV d A n c) 29 (0, 0)) (exec_boxl _ _ d A n c (.tmp 0) rfl rfl _) ?_)
    | (refine Mi.allocTo rfl (.pointer (some ⟨_, 0, none⟩)) (.cells (lnV 0 none 0 0) 29 (0, 0)) (alloc_ln _ _ rfl _) ?_; rw [HW1.out])
    | (refine wpList_load_row rfl 29 (.tmp 3) rfl w.heap.size rfl 29 _ (0, 0) _ HB1.out Try.underlying29 rfl (ln_size _ _ _ _) ?_)
    | (refine wpList_store_row rfl 29 (.tmp 6) (.tmp 24) rfl (w.heap.size + 1) (lnV d A n c) rfl rfl 29 _ HB2.out (ln_size _ _ _ _) rfl (ln_one _ _ _ _) ?_))
  exact ret_box2 rfl rfl (setRow_heap _ _ _ _ _ _ HB2.out) rfl Try.underlying29 (ln_size _ _ _ _) rfl ⟨rfl, Sb.below_setRow _ HB.out (Nat.le_succ _)⟩
/-- How many ticks a byte needs that comes in. -/
def needs (d : Nat) (L : List Wy) (k : Nat) : Int := if L.length = 0 then (d : Int) else if k = L.length then (L.getD (k - 1) (0, 0)).2 else (L.getD k (0, 0)).2
set_option maxRecDepth 100000 in
set_option maxHeartbeats 4000000 in
theorem RIns_ok (d : Nat) (A : Option Addr) (n c : Nat) (L : List Wy) (k b : Nat) (w : World) (hr : Hid (RW w A n c L)) (hn : n < 65536) (hd : d ≤ 64) (hk : k ≤ n) :
    Calls Try.prog 25 #[.agg (lnV d A n c), .int .i64 (k : Int), .int .u8 (b : Int)] w fun e w' => ∃ A' n' c', e = .returned (.tuple #[.agg (lnV d A' n' c'), .int .i64 0]) ∧ Hid (RW w' A' n' c' (L.take k ++ (b, needs d L k) :: L.drop k)) ∧ Hid (Below w.heap.size w w') := by
  obtain ⟨w1, hw1, B1, B2, hsz, hb, hr1⟩ := two_ln w d A n c L hr.out
  have HW1 := Lib.hid hw1
  have HB2 := Lib.hid B2
  have HB1 := Lib.hid B1
  have HB := Lib.hid hb
  have HR1 := Lib.hid hr1
  obtain ⟨e0, e1⟩ := B1.cells
  obtain ⟨f0, f1⟩ := B1.alloc (.cells #[] 62)
  have HS := Lib.hid hsz
  have HL : Hid (n = L.length) := hr.out.len
  have hnc : n ≤ c := hr.out.le
  have HO0 : Hid (OW (w1.alloc (.cells #[] 62)) w1.heap.size (.slice (some ⟨w1.heap.size, 0, none⟩) 0 0) []) := OW.made w1
  have HLm : Hid (([] : List Wy).length + (L.take k).length ≤ 1000000) := by show _ ≤ _; rw [List.length_take]; simp; omega
  have q1 : ¬ (n : Int) < (k : Int) := by omega
  have q2 : ¬ (65536 : Int) ≤ (n : Int) := by omega
  have q3 : k ≤ c := by omega
  have q4 : (k : Int) ≤ (n : Int) := by omega
  have HRt : Hid (∀ W, Below w1.heap.size w1 W → RW W A k c (L.take k)) := fun W hW => (HR1.out.below hW).take k (by omega)
  obtain ⟨A2, hA2⟩ : ∃ A2, (if c = k then A else Option.map (fun x => x.add (k * 2)) A) = A2 := ⟨_, rfl⟩
  have HA2 : Hid ((if c = k then A else Option.map (fun x => x.add (k * 2)) A) = A2) := hA2
  have HRd : Hid (∀ W, Below w1.heap.size w1 W → RW W A2 (n - k) (c - k) (L.drop k)) := fun W hW => (HR1.out.below hW).drop k (by omega) hA2
  have HBx : Hid (∀ W, Below w1.heap.size w1 W → W.cell? ⟨w.heap.size, 0, none⟩ = some (.int .i64 (d : Int)) ∧ W.cell? ⟨w.heap.size, 1, none⟩ = some (.slice A n c)) := fun W hW => (HB1.out.below hW).cells
  have HKN : Hid ((k : Int) ≤ (n : Int) ∧ 0 ≤ (k : Int) ∧ k ≤ n ∧ (k : Int).toNat = k) := ⟨by omega, by omega, by omega, by omega⟩
  have HLk : Hid (∀ (x : Int), (L.take k ++ [((b, x) : Wy)]).length + (L.drop k).length ≤ 1000000) := fun x => by simp only [List.length_append, List.length_take, List.length_drop, List.length_cons, List.length_nil]; rw [← HL.out]; omega
  have HLj : Hid (∀ (x : Int), (L.take k).length + [((b, x) : Wy)].length ≤ 1000000) := fun x => by simp only [List.length_take, List.length_cons, List.length_nil]; omega
  have hneed : ∀ (j : Nat) (p : Wy), L[j]? = some p → (if k = n then k - 1 else k) = j → 0 < n → needs d L k = p.2 := fun j p hp hj h0 => by
    unfold needs
    rw [← HL.out, if_neg (by omega)]
    split
    · rename_i h; rw [if_pos h] at hj; subst hj; rw [List.getD_eq_getElem?_getD, hp]; rfl
    · rename_i h; rw [if_neg h] at hj; subst hj; rw [List.getD_eq_getElem?_getD, hp]; rfl
  have HNd := Lib.hid hneed
  clear hw1 B1 B2 hsz hb hr1 hA2 hneed
  by_cases h0 : n = 0
  · have HNe : Hid (needs d L k = (d : Int)) := by show _ = _; unfold needs; rw [if_pos (by rw [← HL.out]; exact h0)]
    rw [HNe.out]
    have q5 : ¬ (0 : Int) < (n : Int) := by omega
    have HN0 := Lib.hid h0
    clear h0
    go_enter Try.func25, Try.ntmps25
    go_wp2_with (first
      | (refine Mi.allocTo rfl (.pointer (some ⟨_, 0, none⟩)) (.cells (lnV d A n c) 29 (0, 0)) (exec_boxl _ _ d A n c (.tmp 0) rfl rfl _) ?_)
      | (refine Mi.allocTo rfl (.pointer (some ⟨_, 0, none⟩)) (.cells (lnV 0 none 0 0) 29 (0, 0)) (alloc_ln _ _ rfl _) ?_; rw [HW1.out])
      | (at_builtin; refine appWL (w0 := w1) rfl (.tmp 42) (.tmp 46) rfl w1.heap.size _ [] (L.take k) rfl HO0.out (Me.below_alloc (Below.refl _ _)) (by simp) A k c rfl (HRt.out _ (Me.below_alloc (Below.refl _ _))) HLm.out ?_; intro v3 w3 ho3 hb3; rw [List.nil_append] at ho3; have HO3 := Lib.hid ho3; have HB3 := Lib.hid hb3; clear ho3 hb3)
      | (at_builtin; refine appWL (w0 := w1) rfl (.tmp 48) (.tmp 52) rfl w1.heap.size v3 (L.take k) [(b, (d : Int))] rfl (HO3.out.below (Me.below_alloc (Below.refl _ _))) (HB3.out.trans ((Me.below_alloc (Below.refl _ _)).mono HB3.out.size)) (Nat.le_trans HB3.out.size (by simp)) (some ⟨w3.heap.size, 0, none⟩) 1 1 rfl (rw_new w3 (b, (d : Int)) _ (heap_alloc_new w3 _)) (HLj.out _) ?_; intro v4 w4 ho4 hb4; have HO4 := Lib.hid ho4; have HB4 := Lib.hid hb4; clear ho4 hb4))
    refine wp_region_held_drew (S := fun W => W.cell? ⟨w.heap.size, 0, none⟩ = some (.int .i64 (d : Int)) ∧ W.cell? ⟨w.heap.size, 1, none⟩ = some (.slice A n c)) (by kernel_rfl) (HBx.out w4.drew HB4.out.drew) (fun hHeld => ?_)
    refine wpAnyH_take (i := 0) (v := .pointer (some ⟨w.heap.size, 0, none⟩)) rfl (by kernel_rfl) (by kernel_rfl) (by kernel_rfl) (fun _ _ _ h => h) (Or.inl ⟨by rfl, ?_⟩) (by first | assumption | exact trivial) ?_
    · intro W hSW; go_simp; try (with_reducible rfl)
    simp only [Act.put, List.getElem_toArray, List.getElem_cons_succ, List.getElem_cons_zero, List.setIfInBounds_toArray, List.set_cons_zero, List.set_cons_succ]
    refine wpAnyH_take (i := 1) (v := .int .i64 (d : Int)) rfl (by kernel_rfl) (by kernel_rfl) (by kernel_rfl) (fun _ _ _ h => h) (Or.inl ⟨by rfl, ?_⟩) (by first | assumption | exact trivial) ?_
    · intro W hSW; have y := hSW.1; go_simp; try (with_reducible rfl)
    simp only [Act.put, List.getElem_toArray, List.getElem_cons_succ, List.getElem_cons_zero, List.setIfInBounds_toArray, List.set_cons_zero, List.set_cons_succ]
    refine wpAnyH_take (i := 2) (v := v4) rfl (by kernel_rfl) (by kernel_rfl) (by kernel_rfl) (fun _ _ _ h => h) (Or.inl ⟨by rfl, ?_⟩) (by first | assumption | exact trivial) ?_
    · intro W hSW; go_simp; try (with_reducible rfl)
    simp only [Act.put, List.getElem_toArray, List.getElem_cons_succ, List.getElem_cons_zero, List.setIfInBounds_toArray, List.set_cons_zero, List.set_cons_succ]
    refine wpAnyH_take (i := 3) (v := .pointer (some ⟨w.heap.size, 1, none⟩)) rfl (by kernel_rfl) (by kernel_rfl) (by kernel_rfl) (fun _ _ _ h => h) (Or.inl ⟨by rfl, ?_⟩) (by first | assumption | exact trivial) ?_
    · intro W hSW; go_simp; try (with_reducible rfl)
    simp only [Act.put, List.getElem_toArray, List.getElem_cons_succ, List.getElem_cons_zero, List.setIfInBounds_toArray, List.set_cons_zero, List.set_cons_succ]
    refine wpAnyH_take (i := 4) (v := .slice A n c) rfl (by kernel_rfl) (by kernel_rfl) (by kernel_rfl) (fun _ _ _ h => h) (Or.inl ⟨by rfl, ?_⟩) (by first | assumption | exact trivial) ?_
    · intro W hSW; have y := hSW.2; go_simp; try (with_reducible rfl)
    simp only [Act.put, List.getElem_toArray, List.getElem_cons_succ, List.getElem_cons_zero, List.setIfInBounds_toArray, List.set_cons_zero, List.set_cons_succ]
    refine wpAnyH_take (i := 5) (v := .int .i64 (k : Int)) rfl (by kernel_rfl) (by kernel_rfl) (by kernel_rfl) (fun _ _ _ h => h) (Or.inl ⟨by rfl, ?_⟩) (by first | assumption | exact trivial) ?_
    · intro W hSW; go_simp; try (with_reducible rfl)
    simp only [Act.put, List.getElem_toArray, List.getElem_cons_succ, List.getElem_cons_zero, List.setIfInBounds_toArray, List.set_cons_zero, List.set_cons_succ]
    refine wpAnyH_take (i := 6) (v := .slice A2 (n - k) (c - k)) rfl (by kernel_rfl) (by kernel_rfl) (by kernel_rfl) (fun _ _ _ h => h) (Or.inl ⟨by rfl, ?_⟩) (by first | assumption | exact trivial) ?_
    · intro W hSW; (obtain ⟨y1, y2, y3, y4⟩ := HKN.out; have y := HA2.out); go_simp; try (with_reducible rfl)
    simp only [Act.put, List.getElem_toArray, List.getElem_cons_succ, List.getElem_cons_zero, List.setIfInBounds_toArray, List.set_cons_zero, List.set_cons_succ]
    refine wpAnyH_ready (rs := [7]) (by kernel_rfl) (by simp) ?_
    refine AllReadyH.cons rfl (fun K hK => ?_) AllReadyH.nil
    rw [if_pos (by kernel_rfl)]
    refine appW (w0 := w1) (.tmp 56) (.tmp 60) rfl w1.heap.size v4 (L.take k ++ [(b, (d : Int))]) (L.drop k) rfl (HO4.out.below (Below.refl _ w4).drew) HB4.out.drew HB4.out.size A2 (n - k) (c - k) rfl (HRd.out _ HB4.out.drew) (HLk.out _) ?_
    intro v7 w7 ho7 hb7
    rw [List.append_assoc, List.singleton_append] at ho7
    obtain ⟨A5, c5, hu, hrw⟩ := OW.rw ho7
    obtain ⟨n5, hn5⟩ : ∃ x, (L.take k ++ (b, (d : Int)) :: L.drop k).length = x := ⟨_, rfl⟩
    rw [hn5] at hu hrw
    have HRW5 := Lib.hid hrw
    have HB7 := Lib.hid hb7
    subst hu
    clear ho7 hb7 hrw hn5
    have HB5 : Hid (Bl w7 (w.heap.size + 1) 0 none 0 0) := HB2.out.below HB7.out
    simp only [Act.put, List.getElem_toArray, List.getElem_cons_succ, List.getElem_cons_zero, List.setIfInBounds_toArray, List.set_cons_zero, List.set_cons_succ]
    refine hK.out _ _ ((HBx.out _ HB7.out)) (fun hHeld => ?_)
    clear hK K
    refine wpAnyH_take (i := 8) (v := .agg #[.int .i64 (d : Int), .slice A5 n5 c5]) rfl (by kernel_rfl) (by kernel_rfl) (by kernel_rfl) (fun _ _ _ h => h) (Or.inl ⟨by rfl, ?_⟩) (by first | assumption | exact trivial) ?_
    · intro W hSW; go_simp; try (with_reducible rfl)
    simp only [Act.put, List.getElem_toArray, List.getElem_cons_succ, List.getElem_cons_zero, List.setIfInBounds_toArray, List.set_cons_zero, List.set_cons_succ]
    refine wpAnyH_ready (rs := [9]) (by kernel_rfl) (by simp) ?_
    refine AllReadyH.cons rfl (fun K hK => ?_) AllReadyH.nil
    rw [if_pos (by kernel_rfl)]
    refine wp_store_row 29 (.tmp 6) (.tmp 62) rfl (w.heap.size + 1) (lnV d A5 n5 c5) rfl rfl 29 _ HB5.out (ln_size _ _ _ _) rfl (ln_one _ _ _ _) ?_
    have hst : ∀ i, (w7.setRow (w.heap.size + 1) (lnV d A5 n5 c5)).cell? ⟨w.heap.size, i, none⟩ = w7.cell? ⟨w.heap.size, i, none⟩ := fun i => World.cell?_of_block (w := w7) (a := ⟨w.heap.size, i, none⟩) (setRow_other w7 (w.heap.size + 1) w.heap.size _ (by omega))
    refine hK.out _ _ (⟨(hst 0).trans (HBx.out _ HB7.out).1, (hst 1).trans (HBx.out _ HB7.out).2⟩) (fun hHeld => ?_)
    clear hK K
    refine wpAnyH_take (i := 10) (v := .int .i64 0) rfl (by kernel_rfl) (by kernel_rfl) (by kernel_rfl) (fun _ _ _ h => h) (Or.inl ⟨by rfl, ?_⟩) (by first | assumption | exact trivial) ?_
    · intro W hSW; go_simp; try (with_reducible rfl)
    simp only [Act.put, List.getElem_toArray, List.getElem_cons_succ, List.getElem_cons_zero, List.setIfInBounds_toArray, List.set_cons_zero, List.set_cons_succ]
    refine wpAnyH_done (by kernel_rfl) ?_ _
    go_wp2
    have hbwf : Below w.heap.size w (w7.setRow (w.heap.size + 1) (lnV d A5 n5 c5)) := Sb.below_setRow _ (HB.out.trans (HB7.out.mono HB.out.size)) (Nat.le_succ _)
    exact ret_box2 rfl rfl (setRow_heap _ _ _ _ _ _ HB5.out) rfl Try.underlying29 (ln_size _ _ _ _) rfl ⟨A5, n5, c5, rfl, HB5.out.rw_set HRW5.out _, hbwf⟩
  · have q5 : (0 : Int) < (n : Int) := by omega
    obtain ⟨p, hp⟩ : ∃ p, L[if k = n then k - 1 else k]? = some p := ⟨_, List.getElem?_eq_getElem (by rw [← HL.out]; split <;> omega)⟩
    have HNe := Lib.hid (HNd.out _ p hp rfl (by omega))
    rw [HNe.out]
    obtain ⟨g, off, hA, _, x1⟩ := HR1.out.cells hp
    subst hA
    have HA3 : Hid ((if c = k then some ⟨g, off, none⟩ else some ⟨g, off + k * 2, none⟩) = A2) := by
      have h1 := HA2.out
      rw [Option.map_some, Addr.add_mid] at h1
      exact h1
    have hkn0 : 0 < n := by omega
    obtain ⟨pn, hpn⟩ : ∃ x, p.2 = x := ⟨_, rfl⟩
    rw [hpn] at x1 ⊢
    by_cases hkn : k = n
    · rw [if_pos hkn] at x1
      obtain ⟨j, hj⟩ : ∃ j, k - 1 = j := ⟨_, rfl⟩
      rw [hj] at x1
      have q6 : (j : Int) < (k : Int) := by omega
      have q7 : (n : Int) - 1 = (j : Int) := by omega
      have q8 : j < n := by omega
      have q9 : (j : Int) < (n : Int) := by omega
      have HKN2 := Lib.hid hkn
      clear hp hpn hj hkn
      go_enter Try.func25, Try.ntmps25
      go_wp2_with (first
        | (refine Mi.allocTo rfl (.pointer (some ⟨_, 0, none⟩)) (.cells (lnV d (some ⟨g, off, none⟩) n c) 29 (0, 0)) (exec_boxl _ _ d (some ⟨g, off, none⟩) n c (.tmp 0) rfl rfl _) ?_)
        | (refine Mi.allocTo rfl (.pointer (some ⟨_, 0, none⟩)) (.cells (lnV 0 none 0 0) 29 (0, 0)) (alloc_ln _ _ rfl _) ?_; rw [HW1.out])
        | (at_builtin; refine appWL (w0 := w1) rfl (.tmp 42) (.tmp 46) rfl w1.heap.size _ [] (L.take k) rfl HO0.out (Me.below_alloc (Below.refl _ _)) (by simp) (some ⟨g, off, none⟩) k c rfl (HRt.out _ (Me.below_alloc (Below.refl _ _))) HLm.out ?_; intro v3 w3 ho3 hb3; rw [List.nil_append] at ho3; have HO3 := Lib.hid ho3; have HB3 := Lib.hid hb3; clear ho3 hb3)
        | (at_builtin; refine appWL (w0 := w1) rfl (.tmp 48) (.tmp 52) rfl w1.heap.size v3 (L.take k) [(b, pn)] rfl (HO3.out.below (Me.below_alloc (Below.refl _ _))) (HB3.out.trans ((Me.below_alloc (Below.refl _ _)).mono HB3.out.size)) (Nat.le_trans HB3.out.size (by simp)) (some ⟨w3.heap.size, 0, none⟩) 1 1 rfl (rw_new w3 (b, pn) _ (heap_alloc_new w3 _)) (HLj.out _) ?_; intro v4 w4 ho4 hb4; have HO4 := Lib.hid ho4; have HB4 := Lib.hid hb4; clear ho4 hb4))
      refine wp_region_held_drew (S := fun W => W.cell? ⟨w.heap.size, 0, none⟩ = some (.int .i64 (d : Int)) ∧ W.cell? ⟨w.heap.size, 1, none⟩ = some (.slice (some ⟨g, off, none⟩) n c)) (by kernel_rfl) (HBx.out w4.drew HB4.out.drew) (fun hHeld => ?_)
      refine wpAnyH_take (i := 0) (v := .pointer (some ⟨w.heap.size, 0, none⟩)) rfl (by kernel_rfl) (by kernel_rfl) (by kernel_rfl) (fun _ _ _ h => h) (Or.inl ⟨by rfl, ?_⟩) (by first | assumption | exact trivial) ?_
      · intro W hSW; go_simp; try (with_reducible rfl)
      simp only [Act.put, List.getElem_toArray, List.getElem_cons_succ, List.getElem_cons_zero, List.setIfInBounds_toArray, List.set_cons_zero, List.set_cons_succ]
      refine wpAnyH_take (i := 1) (v := .int .i64 (d : Int)) rfl (by kernel_rfl) (by kernel_rfl) (by kernel_rfl) (fun _ _ _ h => h) (Or.inl ⟨by rfl, ?_⟩) (by first | assumption | exact trivial) ?_
      · intro W hSW; have y := hSW.1; go_simp; try (with_reducible rfl)
      simp only [Act.put, List.getElem_toArray, List.getElem_cons_succ, List.getElem_cons_zero, List.setIfInBounds_toArray, List.set_cons_zero, List.set_cons_succ]
      refine wpAnyH_take (i := 2) (v := v4) rfl (by kernel_rfl) (by kernel_rfl) (by kernel_rfl) (fun _ _ _ h => h) (Or.inl ⟨by rfl, ?_⟩) (by first | assumption | exact trivial) ?_
      · intro W hSW; go_simp; try (with_reducible rfl)
      simp only [Act.put, List.getElem_toArray, List.getElem_cons_succ, List.getElem_cons_zero, List.setIfInBounds_toArray, List.set_cons_zero, List.set_cons_succ]
      refine wpAnyH_take (i := 3) (v := .pointer (some ⟨w.heap.size, 1, none⟩)) rfl (by kernel_rfl) (by kernel_rfl) (by kernel_rfl) (fun _ _ _ h => h) (Or.inl ⟨by rfl, ?_⟩) (by first | assumption | exact trivial) ?_
      · intro W hSW; go_simp; try (with_reducible rfl)
      simp only [Act.put, List.getElem_toArray, List.getElem_cons_succ, List.getElem_cons_zero, List.setIfInBounds_toArray, List.set_cons_zero, List.set_cons_succ]
      refine wpAnyH_take (i := 4) (v := .slice (some ⟨g, off, none⟩) n c) rfl (by kernel_rfl) (by kernel_rfl) (by kernel_rfl) (fun _ _ _ h => h) (Or.inl ⟨by rfl, ?_⟩) (by first | assumption | exact trivial) ?_
      · intro W hSW; have y := hSW.2; go_simp; try (with_reducible rfl)
      simp only [Act.put, List.getElem_toArray, List.getElem_cons_succ, List.getElem_cons_zero, List.setIfInBounds_toArray, List.set_cons_zero, List.set_cons_succ]
      refine wpAnyH_take (i := 5) (v := .int .i64 (k : Int)) rfl (by kernel_rfl) (by kernel_rfl) (by kernel_rfl) (fun _ _ _ h => h) (Or.inl ⟨by rfl, ?_⟩) (by first | assumption | exact trivial) ?_
      · intro W hSW; go_simp; try (with_reducible rfl)
      simp only [Act.put, List.getElem_toArray, List.getElem_cons_succ, List.getElem_cons_zero, List.setIfInBounds_toArray, List.set_cons_zero, List.set_cons_succ]
      refine wpAnyH_take (i := 6) (v := .slice A2 (n - k) (c - k)) rfl (by kernel_rfl) (by kernel_rfl) (by kernel_rfl) (fun _ _ _ h => h) (Or.inl ⟨by rfl, ?_⟩) (by first | assumption | exact trivial) ?_
      · intro W hSW; (obtain ⟨y1, y2, y3, y4⟩ := HKN.out; have y := HA3.out); go_simp; try (with_reducible rfl)
      simp only [Act.put, List.getElem_toArray, List.getElem_cons_succ, List.getElem_cons_zero, List.setIfInBounds_toArray, List.set_cons_zero, List.set_cons_succ]
      refine wpAnyH_ready (rs := [7]) (by kernel_rfl) (by simp) ?_
      refine AllReadyH.cons rfl (fun K hK => ?_) AllReadyH.nil
      rw [if_pos (by kernel_rfl)]
      refine appW (w0 := w1) (.tmp 56) (.tmp 60) rfl w1.heap.size v4 (L.take k ++ [(b, pn)]) (L.drop k) rfl (HO4.out.below (Below.refl _ w4).drew) HB4.out.drew HB4.out.size A2 (n - k) (c - k) rfl (HRd.out _ HB4.out.drew) (HLk.out _) ?_
      intro v7 w7 ho7 hb7
      rw [List.append_assoc, List.singleton_append] at ho7
      obtain ⟨A5, c5, hu, hrw⟩ := OW.rw ho7
      obtain ⟨n5, hn5⟩ : ∃ x, (L.take k ++ (b, pn) :: L.drop k).length = x := ⟨_, rfl⟩
      rw [hn5] at hu hrw
      have HRW5 := Lib.hid hrw
      have HB7 := Lib.hid hb7
      subst hu
      clear ho7 hb7 hrw hn5
      have HB5 : Hid (Bl w7 (w.heap.size + 1) 0 none 0 0) := HB2.out.below HB7.out
      simp only [Act.put, List.getElem_toArray, List.getElem_cons_succ, List.getElem_cons_zero, List.setIfInBounds_toArray, List.set_cons_zero, List.set_cons_succ]
      refine hK.out _ _ ((HBx.out _ HB7.out)) (fun hHeld => ?_)
      clear hK K
      refine wpAnyH_take (i := 8) (v := .agg #[.int .i64 (d : Int), .slice A5 n5 c5]) rfl (by kernel_rfl) (by kernel_rfl) (by kernel_rfl) (fun _ _ _ h => h) (Or.inl ⟨by rfl, ?_⟩) (by first | assumption | exact trivial) ?_
      · intro W hSW; go_simp; try (with_reducible rfl)
      simp only [Act.put, List.getElem_toArray, List.getElem_cons_succ, List.getElem_cons_zero, List.setIfInBounds_toArray, List.set_cons_zero, List.set_cons_succ]
      refine wpAnyH_ready (rs := [9]) (by kernel_rfl) (by simp) ?_
      refine AllReadyH.cons rfl (fun K hK => ?_) AllReadyH.nil
      rw [if_pos (by kernel_rfl)]
      refine wp_store_row 29 (.tmp 6) (.tmp 62) rfl (w.heap.size + 1) (lnV d A5 n5 c5) rfl rfl 29 _ HB5.out (ln_size _ _ _ _) rfl (ln_one _ _ _ _) ?_
      have hst : ∀ i, (w7.setRow (w.heap.size + 1) (lnV d A5 n5 c5)).cell? ⟨w.heap.size, i, none⟩ = w7.cell? ⟨w.heap.size, i, none⟩ := fun i => World.cell?_of_block (w := w7) (a := ⟨w.heap.size, i, none⟩) (setRow_other w7 (w.heap.size + 1) w.heap.size _ (by omega))
      refine hK.out _ _ (⟨(hst 0).trans (HBx.out _ HB7.out).1, (hst 1).trans (HBx.out _ HB7.out).2⟩) (fun hHeld => ?_)
      clear hK K
      refine wpAnyH_take (i := 10) (v := .int .i64 0) rfl (by kernel_rfl) (by kernel_rfl) (by kernel_rfl) (fun _ _ _ h => h) (Or.inl ⟨by rfl, ?_⟩) (by first | assumption | exact trivial) ?_
      · intro W hSW; go_simp; try (with_reducible rfl)
      simp only [Act.put, List.getElem_toArray, List.getElem_cons_succ, List.getElem_cons_zero, List.setIfInBounds_toArray, List.set_cons_zero, List.set_cons_succ]
      refine wpAnyH_done (by kernel_rfl) ?_ _
      go_wp2
      have hbwf : Below w.heap.size w (w7.setRow (w.heap.size + 1) (lnV d A5 n5 c5)) := Sb.below_setRow _ (HB.out.trans (HB7.out.mono HB.out.size)) (Nat.le_succ _)
      exact ret_box2 rfl rfl (setRow_heap _ _ _ _ _ _ HB5.out) rfl Try.underlying29 (ln_size _ _ _ _) rfl ⟨A5, n5, c5, rfl, HB5.out.rw_set HRW5.out _, hbwf⟩
    · rw [if_neg hkn] at x1
      have q6 : ¬ (n : Int) - 1 < (k : Int) := by omega
      have q8 : k < n := by omega
      have q9 : (k : Int) < (n : Int) := by omega
      clear hp hpn hkn
      go_enter Try.func25, Try.ntmps25
      go_wp2_with (first
        | (refine Mi.allocTo rfl (.pointer (some ⟨_, 0, none⟩)) (.cells (lnV d (some ⟨g, off, none⟩) n c) 29 (0, 0)) (exec_boxl _ _ d (some ⟨g, off, none⟩) n c (.tmp 0) rfl rfl _) ?_)
        | (refine Mi.allocTo rfl (.pointer (some ⟨_, 0, none⟩)) (.cells (lnV 0 none 0 0) 29 (0, 0)) (alloc_ln _ _ rfl _) ?_; rw [HW1.out])
        | (at_builtin; refine appWL (w0 := w1) rfl (.tmp 42) (.tmp 46) rfl w1.heap.size _ [] (L.take k) rfl HO0.out (Me.below_alloc (Below.refl _ _)) (by simp) (some ⟨g, off, none⟩) k c rfl (HRt.out _ (Me.below_alloc (Below.refl _ _))) HLm.out ?_; intro v3 w3 ho3 hb3; rw [List.nil_append] at ho3; have HO3 := Lib.hid ho3; have HB3 := Lib.hid hb3; clear ho3 hb3)
        | (at_builtin; refine appWL (w0 := w1) rfl (.tmp 48) (.tmp 52) rfl w1.heap.size v3 (L.take k) [(b, pn)] rfl (HO3.out.below (Me.below_alloc (Below.refl _ _))) (HB3.out.trans ((Me.below_alloc (Below.refl _ _)).mono HB3.out.size)) (Nat.le_trans HB3.out.size (by simp)) (some ⟨w3.heap.size, 0, none⟩) 1 1 rfl (rw_new w3 (b, pn) _ (heap_alloc_new w3 _)) (HLj.out _) ?_; intro v4 w4 ho4 hb4; have HO4 := Lib.hid ho4; have HB4 := Lib.hid hb4; clear ho4 hb4))
      refine wp_region_held_drew (S := fun W => W.cell? ⟨w.heap.size, 0, none⟩ = some (.int .i64 (d : Int)) ∧ W.cell? ⟨w.heap.size, 1, none⟩ = some (.slice (some ⟨g, off, none⟩) n c)) (by kernel_rfl) (HBx.out w4.drew HB4.out.drew) (fun hHeld => ?_)
      refine wpAnyH_take (i := 0) (v := .pointer (some ⟨w.heap.size, 0, none⟩)) rfl (by kernel_rfl) (by kernel_rfl) (by kernel_rfl) (fun _ _ _ h => h) (Or.inl ⟨by rfl, ?_⟩) (by first | assumption | exact trivial) ?_
      · intro W hSW; go_simp; try (with_reducible rfl)
      simp only [Act.put, List.getElem_toArray, List.getElem_cons_succ, List.getElem_cons_zero, List.setIfInBounds_toArray, List.set_cons_zero, List.set_cons_succ]
      refine wpAnyH_take (i := 1) (v := .int .i64 (d : Int)) rfl (by kernel_rfl) (by kernel_rfl) (by kernel_rfl) (fun _ _ _ h => h) (Or.inl ⟨by rfl, ?_⟩) (by first | assumption | exact trivial) ?_
      · intro W hSW; have y := hSW.1; go_simp; try (with_reducible rfl)
      simp only [Act.put, List.getElem_toArray, List.getElem_cons_succ, List.getElem_cons_zero, List.setIfInBounds_toArray, List.set_cons_zero, List.set_cons_succ]
      refine wpAnyH_take (i := 2) (v := v4) rfl (by kernel_rfl) (by kernel_rfl) (by kernel_rfl) (fun _ _ _ h => h) (Or.inl ⟨by rfl, ?_⟩) (by first | assumption | exact trivial) ?_
      · intro W hSW; go_simp; try (with_reducible rfl)
      simp only [Act.put, List.getElem_toArray, List.getElem_cons_succ, List.getElem_cons_zero, List.setIfInBounds_toArray, List.set_cons_zero, List.set_cons_succ]
      refine wpAnyH_take (i := 3) (v := .pointer (some ⟨w.heap.size, 1, none⟩)) rfl (by kernel_rfl) (by kernel_rfl) (by kernel_rfl) (fun _ _ _ h => h) (Or.inl ⟨by rfl, ?_⟩) (by first | assumption | exact trivial) ?_
      · intro W hSW; go_simp; try (with_reducible rfl)
      simp only [Act.put, List.getElem_toArray, List.getElem_cons_succ, List.getElem_cons_zero, List.setIfInBounds_toArray, List.set_cons_zero, List.set_cons_succ]
      refine wpAnyH_take (i := 4) (v := .slice (some ⟨g, off, none⟩) n c) rfl (by kernel_rfl) (by kernel_rfl) (by kernel_rfl) (fun _ _ _ h => h) (Or.inl ⟨by rfl, ?_⟩) (by first | assumption | exact trivial) ?_
      · intro W hSW; have y := hSW.2; go_simp; try (with_reducible rfl)
      simp only [Act.put, List.getElem_toArray, List.getElem_cons_succ, List.getElem_cons_zero, List.setIfInBounds_toArray, List.set_cons_zero, List.set_cons_succ]
      refine wpAnyH_take (i := 5) (v := .int .i64 (k : Int)) rfl (by kernel_rfl) (by kernel_rfl) (by kernel_rfl) (fun _ _ _ h => h) (Or.inl ⟨by rfl, ?_⟩) (by first | assumption | exact trivial) ?_
      · intro W hSW; go_simp; try (with_reducible rfl)
      simp only [Act.put, List.getElem_toArray, List.getElem_cons_succ, List.getElem_cons_zero, List.setIfInBounds_toArray, List.set_cons_zero, List.set_cons_succ]
      refine wpAnyH_take (i := 6) (v := .slice A2 (n - k) (c - k)) rfl (by kernel_rfl) (by kernel_rfl) (by kernel_rfl) (fun _ _ _ h => h) (Or.inl ⟨by rfl, ?_⟩) (by first | assumption | exact trivial) ?_
      · intro W hSW; (obtain ⟨y1, y2, y3, y4⟩ := HKN.out; have y := HA3.out); go_simp; try (with_reducible rfl)
      simp only [Act.put, List.getElem_toArray, List.getElem_cons_succ, List.getElem_cons_zero, List.setIfInBounds_toArray, List.set_cons_zero, List.set_cons_succ]
      refine wpAnyH_ready (rs := [7]) (by kernel_rfl) (by simp) ?_
      refine AllReadyH.cons rfl (fun K hK => ?_) AllReadyH.nil
      rw [if_pos (by kernel_rfl)]
      refine appW (w0 := w1) (.tmp 56) (.tmp 60) rfl w1.heap.size v4 (L.take k ++ [(b, pn)]) (L.drop k) rfl (HO4.out.below (Below.refl _ w4).drew) HB4.out.drew HB4.out.size A2 (n - k) (c - k) rfl (HRd.out _ HB4.out.drew) (HLk.out _) ?_
      intro v7 w7 ho7 hb7
      rw [List.append_assoc, List.singleton_append] at ho7
      obtain ⟨A5, c5, hu, hrw⟩ := OW.rw ho7
      obtain ⟨n5, hn5⟩ : ∃ x, (L.take k ++ (b, pn) :: L.drop k).length = x := ⟨_, rfl⟩
      rw [hn5] at hu hrw
      have HRW5 := Lib.hid hrw
      have HB7 := Lib.hid hb7
      subst hu
      clear ho7 hb7 hrw hn5
      have HB5 : Hid (Bl w7 (w.heap.size + 1) 0 none 0 0) := HB2.out.below HB7.out
      simp only [Act.put, List.getElem_toArray, List.getElem_cons_succ, List.getElem_cons_zero, List.setIfInBounds_toArray, List.set_cons_zero, List.set_cons_succ]
      refine hK.out _ _ ((HBx.out _ HB7.out)) (fun hHeld => ?_)
      clear hK K
      refine wpAnyH_take (i := 8) (v := .agg #[.int .i64 (d : Int), .slice A5 n5 c5]) rfl (by kernel_rfl) (by kernel_rfl) (by kernel_rfl) (fun _ _ _ h => h) (Or.inl ⟨by rfl, ?_⟩) (by first | assumption | exact trivial) ?_
      · intro W hSW; go_simp; try (with_reducible rfl)
      simp only [Act.put, List.getElem_toArray, List.getElem_cons_succ, List.getElem_cons_zero, List.setIfInBounds_toArray, List.set_cons_zero, List.set_cons_succ]
      refine wpAnyH_ready (rs := [9]) (by kernel_rfl) (by simp) ?_
      refine AllReadyH.cons rfl (fun K hK => ?_) AllReadyH.nil
      rw [if_pos (by kernel_rfl)]
      refine wp_store_row 29 (.tmp 6) (.tmp 62) rfl (w.heap.size + 1) (lnV d A5 n5 c5) rfl rfl 29 _ HB5.out (ln_size _ _ _ _) rfl (ln_one _ _ _ _) ?_
      have hst : ∀ i, (w7.setRow (w.heap.size + 1) (lnV d A5 n5 c5)).cell? ⟨w.heap.size, i, none⟩ = w7.cell? ⟨w.heap.size, i, none⟩ := fun i => World.cell?_of_block (w := w7) (a := ⟨w.heap.size, i, none⟩) (setRow_other w7 (w.heap.size + 1) w.heap.size _ (by omega))
      refine hK.out _ _ (⟨(hst 0).trans (HBx.out _ HB7.out).1, (hst 1).trans (HBx.out _ HB7.out).2⟩) (fun hHeld => ?_)
      clear hK K
      refine wpAnyH_take (i := 10) (v := .int .i64 0) rfl (by kernel_rfl) (by kernel_rfl) (by kernel_rfl) (fun _ _ _ h => h) (Or.inl ⟨by rfl, ?_⟩) (by first | assumption | exact trivial) ?_
      · intro W hSW; go_simp; try (with_reducible rfl)
      simp only [Act.put, List.getElem_toArray, List.getElem_cons_succ, List.getElem_cons_zero, List.setIfInBounds_toArray, List.set_cons_zero, List.set_cons_succ]
      refine wpAnyH_done (by kernel_rfl) ?_ _
      go_wp2
      have hbwf : Below w.heap.size w (w7.setRow (w.heap.size + 1) (lnV d A5 n5 c5)) := Sb.below_setRow _ (HB.out.trans (HB7.out.mono HB.out.size)) (Nat.le_succ _)
      exact ret_box2 rfl rfl (setRow_heap _ _ _ _ _ _ HB5.out) rfl Try.underlying29 (ln_size _ _ _ _) rfl ⟨A5, n5, c5, rfl, HB5.out.rw_set HRW5.out _, hbwf⟩
end Go.Proofs.Ytcdpdijfgeeenaa.Li
