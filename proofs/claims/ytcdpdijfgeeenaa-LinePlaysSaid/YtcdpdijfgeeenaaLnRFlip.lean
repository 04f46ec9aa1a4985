/- The document's line: Flip. -/
import Derived.Test.YtcdpdijfgeeenaaLnRTick
import Derived.Test.YtcdpdijfgeeenaaLnFlip
import Derived.Deep.MidRow
namespace Go.Proofs.Ytcdpdijfgeeenaa.Li
open Go.RowKit
open Go.Proofs.Ytcdpdijfgeeenaa.Sb
set_option linter.unusedVariables false
set_option linter.unusedSimpArgs false

theorem conv8 (n : Int) : IntKind.u8.wrap n = (low8 n : Int) := by
  unfold low8
  simp [IntKind.wrap, IntKind.bits, IntKind.signed]
  omega
theorem encWs_set : ∀ (L : List Wy) (k : Nat) (p : Wy), encWs (L.set k p) = ((encWs L).set (k * 2) (.int .u8 (p.1 : Int))).set (k * 2 + 1) (.int .i64 p.2)
  | [], k, p => by simp [encWs]
  | a :: r, 0, p => rfl
  | a :: r, k + 1, p => by
    rw [List.set_cons_succ]
    show encW a ++ encWs (r.set k p) = ((encW a ++ encWs r).set ((k + 1) * 2) _).set ((k + 1) * 2 + 1) _
    rw [encWs_set r k p, show (k + 1) * 2 + 1 = k * 2 + 1 + 2 by omega, show (k + 1) * 2 = k * 2 + 2 by omega]
    rfl
/-- One element written over. -/
theorem OW.set {w : World} {B g n c : Nat} {L : List Wy} (h : OW w B (.slice (some ⟨g, 0, none⟩) n c) L) (k : Nat) (p : Wy) : OW (w.setCells g (k * 2) [.int .u8 (p.1 : Int), .int .i64 p.2]) B (.slice (some ⟨g, 0, none⟩) n c) (L.set k p) := by
  have hn : n = L.length := by
    rcases h.2 with ⟨h1, _⟩ | ⟨_, _, _, h1, _⟩
    · cases h1
    · injection h1
  subst hn
  have h1 := (World.ownsRow.stored h (k * 2) (.int .u8 (p.1 : Int))).1
  have h2 := (World.ownsRow.stored h1 (k * 2 + 1) (.int .i64 p.2)).1
  unfold OW
  rw [List.length_set, encWs_set]
  exact h2
theorem OW.there {w : World} {B g n c : Nat} {L : List Wy} (h : OW w B (.slice (some ⟨g, 0, none⟩) n c) L) (k : Nat) (hk : k < L.length) : w.there g (k * 2) 2 := by
  have hn : n = L.length := by
    rcases h.2 with ⟨h1, _⟩ | ⟨_, _, _, h1, _⟩
    · cases h1
    · injection h1
  subst hn
  intro j hj
  have hlen := encWs_len L
  refine ⟨?_, World.ownsRow.frozenAt h _⟩
  rw [World.ownsRow.cellAt h (k * 2 + j) (by omega), List.getElem?_eq_getElem (by rw [hlen]; omega)]
  rfl
theorem RFlip_bad (d : Nat) (A : Option Addr) (n c : Nat) (L : List Wy) (k m : Int) (w : World) (hr : Hid (RW w A n c L)) (hn : n ≤ 65536) (hb : k < 0 ∨ (n : Int) ≤ k) :
    Calls Try.prog 24 #[.agg (lnV d A n c), .int .i64 k, .int .i64 m] w fun e w' => e = .returned (.tuple #[.agg (lnV d A n c), .int .i64 1]) ∧ Hid (Below w.heap.size w w') := by
  obtain ⟨w1, hw1, B1, B2, hsz, hbw, hr1⟩ := two_ln w d A n c L hr.out
  have HW1 := Lib.hid hw1
  have HB2 := Lib.hid B2
  have HB1 := Lib.hid B1
  have HB := Lib.hid hbw
  obtain ⟨e0, e1⟩ := B1.cells
  clear hw1 B1 B2 hsz hbw hr1
  by_cases h0 : k < 0
  · clear hb
    go_enter Try.func24, Try.ntmps24
    go_wp2_with (first
      | (refine Mi.allocTo rfl (.pointer (some ⟨_, 0, none⟩)) (.cells (lnV d A n c) 29 (0, 0)) (exec_boxl _ _ d A n c (.tmp 0) rfl rfl _) ?_)
      | (refine Mi.allocTo rfl (.pointer (some ⟨_, 0, none⟩)) (.cells (lnV 0 none 0 0) 29 (0, 0)) (alloc_ln _ _ rfl _) ?_; rw [HW1.out])
      | (refine wpList_load_row rfl 29 (.tmp 3) rfl w.heap.size rfl 29 _ (0, 0) _ HB1.out Try.underlying29 rfl (ln_size _ _ _ _) ?_)
      | (refine wpList_store_row rfl 29 (.tmp 6) (.tmp 18) rfl (w.heap.size + 1) (lnV d A n c) rfl rfl 29 _ HB2.out (ln_size _ _ _ _) rfl (ln_one _ _ _ _) ?_))
    exact ret_box2 rfl rfl (setRow_heap _ _ _ _ _ _ HB2.out) rfl Try.underlying29 (ln_size _ _ _ _) rfl ⟨rfl, Sb.below_setRow _ HB.out (Nat.le_succ _)⟩
  · have h1 : (n : Int) ≤ k := by omega
    clear hb
    go_enter Try.func24, Try.ntmps24
    go_wp2_with (first
      | (refine Mi.allocTo rfl (.pointer (some ⟨_, 0, none⟩)) (.cells (lnV d A n c) 29 (0, 0)) (exec_boxl _ _ d A n c (.tmp 0) rfl rfl _) ?_)
      | (refine Mi.allocTo rfl (.pointer (some ⟨_, 0, none⟩)) (.cells (lnV 0 none 0 0) 29 (0, 0)) (alloc_ln _ _ rfl _) ?_; rw [HW1.out])
      | (refine wpList_load_row rfl 29 (.tmp 3) rfl w.heap.size rfl 29 _ (0, 0) _ HB1.out Try.underlying29 rfl (ln_size _ _ _ _) ?_)
      | (refine wpList_store_row rfl 29 (.tmp 6) (.tmp 18) rfl (w.heap.size + 1) (lnV d A n c) rfl rfl 29 _ HB2.out (ln_size _ _ _ _) rfl (ln_one _ _ _ _) ?_))
    exact ret_box2 rfl rfl (setRow_heap _ _ _ _ _ _ HB2.out) rfl Try.underlying29 (ln_size _ _ _ _) rfl ⟨rfl, Sb.below_setRow _ HB.out (Nat.le_succ _)⟩
theorem RFlip_zero (d : Nat) (A : Option Addr) (n c : Nat) (L : List Wy) (k : Nat) (m : Int) (w : World) (hr : Hid (RW w A n c L)) (hn : n ≤ 65536) (hk : k < n) (hz : low8 m = 0) :
    Calls Try.prog 24 #[.agg (lnV d A n c), .int .i64 (k : Int), .int .i64 m] w fun e w' => e = .returned (.tuple #[.agg (lnV d A n c), .int .i64 2]) ∧ Hid (Below w.heap.size w w') := by
  obtain ⟨w1, hw1, B1, B2, hsz, hbw, hr1⟩ := two_ln w d A n c L hr.out
  have HW1 := Lib.hid hw1
  have HB2 := Lib.hid B2
  have HB1 := Lib.hid B1
  have HB := Lib.hid hbw
  obtain ⟨e0, e1⟩ := B1.cells
  have HC := conv8 m
  rw [hz] at HC
  have q0 : ((0 : Nat) : Int) = 0 := rfl
  rw [q0] at HC
  have h1 : ¬ (n : Int) ≤ (k : Int) := by omega
  clear hw1 B1 B2 hsz hbw hr1 q0
  go_enter Try.func24, Try.ntmps24
  go_wp2_with (first
    | (refine Mi.allocTo rfl (.pointer (some ⟨_, 0, none⟩)) (.cells (lnV d A n c) 29 (0, 0)) (exec_boxl _ _ d A n c (.tmp 0) rfl rfl _) ?_)
    | (refine Mi.allocTo rfl (.pointer (some ⟨_, 0, none⟩)) (.cells (lnV 0 none 0 0) 29 (0, 0)) (alloc_ln _ _ rfl _) ?_; rw [HW1.out])
    | (refine wpList_load_row rfl 29 (.tmp 3) rfl w.heap.size rfl 29 _ (0, 0) _ HB1.out Try.underlying29 rfl (ln_size _ _ _ _) ?_)
    | (refine wpList_store_row rfl 29 (.tmp 6) (.tmp 22) rfl (w.heap.size + 1) (lnV d A n c) rfl rfl 29 _ HB2.out (ln_size _ _ _ _) rfl (ln_one _ _ _ _) ?_))
  exact ret_box2 rfl rfl (setRow_heap _ _ _ _ _ _ HB2.out) rfl Try.underlying29 (ln_size _ _ _ _) rfl ⟨rfl, Sb.below_setRow _ HB.out (Nat.le_succ _)⟩
set_option maxRecDepth 100000 in
set_option maxHeartbeats 4000000 in
theorem RFlip_ok (d : Nat) (A : Option Addr) (n c : Nat) (L : List Wy) (k : Nat) (m : Int) (p : Wy) (w : World) (hr : Hid (RW w A n c L)) (hn : n ≤ 65536) (hd : d ≤ 64) (hk : k < n) (hp : L[k]? = some p) (hpb : p.1 < 256) (hz : low8 m ≠ 0) :
    Calls Try.prog 24 #[.agg (lnV d A n c), .int .i64 (k : Int), .int .i64 m] w fun e w' => ∃ A' n' c', e = .returned (.tuple #[.agg (lnV d A' n' c'), .int .i64 0]) ∧ Hid (RW w' A' n' c' (L.set k (p.1 ^^^ low8 m, p.2))) ∧ Hid (Below w.heap.size w w') := by
  obtain ⟨w1, hw1, B1, B2, hsz, hb, hr1⟩ := two_ln w d A n c L hr.out
  have HW1 := Lib.hid hw1
  have HB2 := Lib.hid B2
  have HB1 := Lib.hid B1
  have HB := Lib.hid hb
  have HR1 := Lib.hid hr1
  obtain ⟨e0, e1⟩ := B1.cells
  obtain ⟨f0, f1⟩ := B1.alloc (.cells #[] 62)
  have HS := Lib.hid hsz
  have HL : Hid (n = L.length) := hr.out.len
  have HO0 : Hid (OW (w1.alloc (.cells #[] 62)) w1.heap.size (.slice (some ⟨w1.heap.size, 0, none⟩) 0 0) []) := OW.made w1
  have HLm : Hid (([] : List Wy).length + L.length ≤ 1000000) := by show _ ≤ _; rw [← HL.out]; simp; omega
  have HC := conv8 m
  have hm2 := low8_lt m
  obtain ⟨mm, hmm⟩ : ∃ x, low8 m = x := ⟨_, rfl⟩
  rw [hmm] at HC hz hm2 ⊢
  have HC2 := Lib.hid HC
  have q1 : ((mm : Int) == 0) = false := beq_eq_false_iff_ne.mpr (by omega)
  have h1 : ¬ (n : Int) ≤ (k : Int) := by omega
  have HX : Hid (bits .xor .u8 (p.1 : Int) (mm : Int) = ((p.1 ^^^ mm : Nat) : Int)) := Me.xor8 (by unfold Me.U8; omega) (by unfold Me.U8; omega)
  obtain ⟨g, off, hA, _⟩ := hr1.cells hp
  subst hA
  have HCC : Hid (∀ W, Below w1.heap.size w1 W → W.cell? ⟨g, off + k * 2, none⟩ = some (.int .u8 (p.1 : Int)) ∧ W.cell? ⟨g, off + k * 2 + 1, none⟩ = some (.int .i64 p.2) ∧ W.cell? ⟨w.heap.size, 0, none⟩ = some (.int .i64 (d : Int)) ∧ W.cell? ⟨w.heap.size, 1, none⟩ = some (.slice (some ⟨g, off, none⟩) n c)) := fun W hW => by
    obtain ⟨g2, off2, e2, y0, y1⟩ := (HR1.out.below hW).cells hp
    injection e2 with e2
    injection e2 with e3 e4 e5
    subst e3 e4
    exact ⟨y0, y1, (HB1.out.below hW).cells⟩
  have HLK : Hid (k < L.length) := by show _ < _; rw [← HL.out]; exact hk
  obtain ⟨pb, hpb2⟩ : ∃ x, p.1 = x := ⟨_, rfl⟩
  obtain ⟨pn, hpn⟩ : ∃ x, p.2 = x := ⟨_, rfl⟩
  rw [hpb2] at HX HCC ⊢
  rw [hpn] at HCC ⊢
  obtain ⟨px, hpx⟩ : ∃ x, pb ^^^ mm = x := ⟨_, rfl⟩
  rw [hpx] at HX ⊢
  clear hw1 B1 B2 hsz hb hr1 hp hpb hmm hz hm2 hpb2 hpn hpx
  go_enter Try.func24, Try.ntmps24
  go_wp2_with (first
    | (refine Mi.allocTo rfl (.pointer (some ⟨_, 0, none⟩)) (.cells (lnV d (some ⟨g, off, none⟩) n c) 29 (0, 0)) (exec_boxl _ _ d (some ⟨g, off, none⟩) n c (.tmp 0) rfl rfl _) ?_)
    | (refine Mi.allocTo rfl (.pointer (some ⟨_, 0, none⟩)) (.cells (lnV 0 none 0 0) 29 (0, 0)) (alloc_ln _ _ rfl _) ?_; rw [HW1.out])
    | (at_builtin; refine appWL (w0 := w1) rfl (.tmp 23) (.tmp 25) rfl w1.heap.size _ [] L rfl HO0.out (Me.below_alloc (Below.refl _ _)) (by simp) (some ⟨g, off, none⟩) n c rfl (HR1.out.below (Me.below_alloc (Below.refl _ _))) HLm.out ?_; intro v3 w3 ho3 hb3; rw [List.nil_append] at ho3; have HO3 := Lib.hid ho3; have HB3 := Lib.hid hb3; clear ho3 hb3))
  obtain ⟨g3, c3, hv3⟩ : ∃ g3 c3, v3 = .slice (some ⟨g3, 0, none⟩) n c3 := by
    rcases HO3.out.2 with ⟨h1, h2⟩ | ⟨g3, cap, cur, h1, _⟩
    · have := HLK.out; omega
    · exact ⟨g3, cap, by rw [h1, HL.out]⟩
  subst hv3
  have hg3 : w1.heap.size ≤ g3 := (HO3.out.lt g3 rfl).1
  refine wp_region_held_drew (S := fun W => W.cell? ⟨g, off + k * 2, none⟩ = some (.int .u8 (pb : Int)) ∧ W.cell? ⟨g, off + k * 2 + 1, none⟩ = some (.int .i64 pn) ∧ W.cell? ⟨w.heap.size, 0, none⟩ = some (.int .i64 (d : Int)) ∧ W.cell? ⟨w.heap.size, 1, none⟩ = some (.slice (some ⟨g, off, none⟩) n c)) (by kernel_rfl) (HCC.out w3.drew HB3.out.drew) (fun hHeld => ?_)
  refine wpAnyH_take (i := 0) (v := .slice (some ⟨g3, 0, none⟩) n c3) rfl (by kernel_rfl) (by kernel_rfl) (by kernel_rfl) (fun _ _ _ h => h) (Or.inl ⟨by rfl, ?_⟩) (by first | assumption | exact trivial) ?_
  · intro W hSW; go_simp; try (with_reducible rfl)
  simp only [Act.put, List.getElem_toArray, List.getElem_cons_succ, List.getElem_cons_zero, List.setIfInBounds_toArray, List.set_cons_zero, List.set_cons_succ]
  refine wpAnyH_take (i := 1) (v := .int .i64 (k : Int)) rfl (by kernel_rfl) (by kernel_rfl) (by kernel_rfl) (fun _ _ _ h => h) (Or.inl ⟨by rfl, ?_⟩) (by first | assumption | exact trivial) ?_
  · intro W hSW; go_simp; try (with_reducible rfl)
  simp only [Act.put, List.getElem_toArray, List.getElem_cons_succ, List.getElem_cons_zero, List.setIfInBounds_toArray, List.set_cons_zero, List.set_cons_succ]
  refine wpAnyH_take (i := 2) (v := .pointer (some ⟨w.heap.size, 1, none⟩)) rfl (by kernel_rfl) (by kernel_rfl) (by kernel_rfl) (fun _ _ _ h => h) (Or.inl ⟨by rfl, ?_⟩) (by first | assumption | exact trivial) ?_
  · intro W hSW; go_simp; try (with_reducible rfl)
  simp only [Act.put, List.getElem_toArray, List.getElem_cons_succ, List.getElem_cons_zero, List.setIfInBounds_toArray, List.set_cons_zero, List.set_cons_succ]
  refine wpAnyH_take (i := 3) (v := .slice (some ⟨g, off, none⟩) n c) rfl (by kernel_rfl) (by kernel_rfl) (by kernel_rfl) (fun _ _ _ h => h) (Or.inl ⟨by rfl, ?_⟩) (by first | assumption | exact trivial) ?_
  · intro W hSW; have y := hSW.2.2.2; go_simp; try (with_reducible rfl)
  simp only [Act.put, List.getElem_toArray, List.getElem_cons_succ, List.getElem_cons_zero, List.setIfInBounds_toArray, List.set_cons_zero, List.set_cons_succ]
  refine wpAnyH_take (i := 4) (v := .int .i64 (k : Int)) rfl (by kernel_rfl) (by kernel_rfl) (by kernel_rfl) (fun _ _ _ h => h) (Or.inl ⟨by rfl, ?_⟩) (by first | assumption | exact trivial) ?_
  · intro W hSW; go_simp; try (with_reducible rfl)
  simp only [Act.put, List.getElem_toArray, List.getElem_cons_succ, List.getElem_cons_zero, List.setIfInBounds_toArray, List.set_cons_zero, List.set_cons_succ]
  refine wpAnyH_take (i := 5) (v := .pointer (some ⟨g, off + k * 2, none⟩)) rfl (by kernel_rfl) (by kernel_rfl) (by kernel_rfl) (fun _ _ _ h => h) (Or.inl ⟨by rfl, ?_⟩) (by first | assumption | exact trivial) ?_
  · intro W hSW; go_simp; try (with_reducible rfl)
  simp only [Act.put, List.getElem_toArray, List.getElem_cons_succ, List.getElem_cons_zero, List.setIfInBounds_toArray, List.set_cons_zero, List.set_cons_succ]
  refine wpAnyH_take (i := 6) (v := .pointer (some ⟨g, off + k * 2, none⟩)) rfl (by kernel_rfl) (by kernel_rfl) (by kernel_rfl) (fun _ _ _ h => h) (Or.inl ⟨by rfl, ?_⟩) (by first | assumption | exact trivial) ?_
  · intro W hSW; go_simp; try (with_reducible rfl)
  simp only [Act.put, List.getElem_toArray, List.getElem_cons_succ, List.getElem_cons_zero, List.setIfInBounds_toArray, List.set_cons_zero, List.set_cons_succ]
  refine wpAnyH_take (i := 7) (v := .int .u8 (pb : Int)) rfl (by kernel_rfl) (by kernel_rfl) (by kernel_rfl) (fun _ _ _ h => h) (Or.inl ⟨by rfl, ?_⟩) (by first | assumption | exact trivial) ?_
  · intro W hSW; have y := hSW.1; go_simp; try (with_reducible rfl)
  simp only [Act.put, List.getElem_toArray, List.getElem_cons_succ, List.getElem_cons_zero, List.setIfInBounds_toArray, List.set_cons_zero, List.set_cons_succ]
  refine wpAnyH_take (i := 8) (v := .int .i64 m) rfl (by kernel_rfl) (by kernel_rfl) (by kernel_rfl) (fun _ _ _ h => h) (Or.inl ⟨by rfl, ?_⟩) (by first | assumption | exact trivial) ?_
  · intro W hSW; go_simp; try (with_reducible rfl)
  simp only [Act.put, List.getElem_toArray, List.getElem_cons_succ, List.getElem_cons_zero, List.setIfInBounds_toArray, List.set_cons_zero, List.set_cons_succ]
  refine wpAnyH_take (i := 9) (v := .int .u8 (mm : Int)) rfl (by kernel_rfl) (by kernel_rfl) (by kernel_rfl) (fun _ _ _ h => h) (Or.inl ⟨by rfl, ?_⟩) (by first | assumption | exact trivial) ?_
  · intro W hSW; have y := HC2.out; go_simp; try (with_reducible rfl)
  simp only [Act.put, List.getElem_toArray, List.getElem_cons_succ, List.getElem_cons_zero, List.setIfInBounds_toArray, List.set_cons_zero, List.set_cons_succ]
  refine wpAnyH_take (i := 10) (v := .int .u8 (px : Int)) rfl (by kernel_rfl) (by kernel_rfl) (by kernel_rfl) (fun _ _ _ h => h) (Or.inl ⟨by rfl, ?_⟩) (by first | assumption | exact trivial) ?_
  · intro W hSW; have y := HX.out; go_simp; try (with_reducible rfl)
  simp only [Act.put, List.getElem_toArray, List.getElem_cons_succ, List.getElem_cons_zero, List.setIfInBounds_toArray, List.set_cons_zero, List.set_cons_succ]
  refine wpAnyH_take (i := 11) (v := .pointer (some ⟨w.heap.size, 1, none⟩)) rfl (by kernel_rfl) (by kernel_rfl) (by kernel_rfl) (fun _ _ _ h => h) (Or.inl ⟨by rfl, ?_⟩) (by first | assumption | exact trivial) ?_
  · intro W hSW; go_simp; try (with_reducible rfl)
  simp only [Act.put, List.getElem_toArray, List.getElem_cons_succ, List.getElem_cons_zero, List.setIfInBounds_toArray, List.set_cons_zero, List.set_cons_succ]
  refine wpAnyH_take (i := 12) (v := .slice (some ⟨g, off, none⟩) n c) rfl (by kernel_rfl) (by kernel_rfl) (by kernel_rfl) (fun _ _ _ h => h) (Or.inl ⟨by rfl, ?_⟩) (by first | assumption | exact trivial) ?_
  · intro W hSW; have y := hSW.2.2.2; go_simp; try (with_reducible rfl)
  simp only [Act.put, List.getElem_toArray, List.getElem_cons_succ, List.getElem_cons_zero, List.setIfInBounds_toArray, List.set_cons_zero, List.set_cons_succ]
  refine wpAnyH_take (i := 13) (v := .int .i64 (k : Int)) rfl (by kernel_rfl) (by kernel_rfl) (by kernel_rfl) (fun _ _ _ h => h) (Or.inl ⟨by rfl, ?_⟩) (by first | assumption | exact trivial) ?_
  · intro W hSW; go_simp; try (with_reducible rfl)
  simp only [Act.put, List.getElem_toArray, List.getElem_cons_succ, List.getElem_cons_zero, List.setIfInBounds_toArray, List.set_cons_zero, List.set_cons_succ]
  refine wpAnyH_take (i := 14) (v := .pointer (some ⟨g, off + k * 2, none⟩)) rfl (by kernel_rfl) (by kernel_rfl) (by kernel_rfl) (fun _ _ _ h => h) (Or.inl ⟨by rfl, ?_⟩) (by first | assumption | exact trivial) ?_
  · intro W hSW; go_simp; try (with_reducible rfl)
  simp only [Act.put, List.getElem_toArray, List.getElem_cons_succ, List.getElem_cons_zero, List.setIfInBounds_toArray, List.set_cons_zero, List.set_cons_succ]
  refine wpAnyH_take (i := 15) (v := .pointer (some ⟨g, off + k * 2 + 1, none⟩)) rfl (by kernel_rfl) (by kernel_rfl) (by kernel_rfl) (fun _ _ _ h => h) (Or.inl ⟨by rfl, ?_⟩) (by first | assumption | exact trivial) ?_
  · intro W hSW; go_simp; try (with_reducible rfl)
  simp only [Act.put, List.getElem_toArray, List.getElem_cons_succ, List.getElem_cons_zero, List.setIfInBounds_toArray, List.set_cons_zero, List.set_cons_succ]
  refine wpAnyH_take (i := 16) (v := .int .i64 pn) rfl (by kernel_rfl) (by kernel_rfl) (by kernel_rfl) (fun _ _ _ h => h) (Or.inl ⟨by rfl, ?_⟩) (by first | assumption | exact trivial) ?_
  · intro W hSW; have y := hSW.2.1; go_simp; try (with_reducible rfl)
  simp only [Act.put, List.getElem_toArray, List.getElem_cons_succ, List.getElem_cons_zero, List.setIfInBounds_toArray, List.set_cons_zero, List.set_cons_succ]
  refine wpAnyH_take (i := 17) (v := .agg #[.int .u8 (px : Int), .int .i64 pn]) rfl (by kernel_rfl) (by kernel_rfl) (by kernel_rfl) (fun _ _ _ h => h) (Or.inl ⟨by rfl, ?_⟩) (by first | assumption | exact trivial) ?_
  · intro W hSW; go_simp; try (with_reducible rfl)
  simp only [Act.put, List.getElem_toArray, List.getElem_cons_succ, List.getElem_cons_zero, List.setIfInBounds_toArray, List.set_cons_zero, List.set_cons_succ]
  refine wpAnyH_take (i := 18) (v := .pointer (some ⟨g3, k * 2, none⟩)) rfl (by kernel_rfl) (by kernel_rfl) (by kernel_rfl) (fun _ _ _ h => h) (Or.inl ⟨by rfl, ?_⟩) (by first | assumption | exact trivial) ?_
  · intro W hSW; go_simp; try (with_reducible rfl)
  simp only [Act.put, List.getElem_toArray, List.getElem_cons_succ, List.getElem_cons_zero, List.setIfInBounds_toArray, List.set_cons_zero, List.set_cons_succ]
  refine wpAnyH_ready (rs := [19]) (by kernel_rfl) (by simp) ?_
  refine AllReadyH.cons rfl (fun K hK => ?_) AllReadyH.nil
  rw [if_pos (by kernel_rfl)]
  have hod : OW w3.drew w1.heap.size (.slice (some ⟨g3, 0, none⟩) n c3) L := HO3.out.below (Below.refl _ w3).drew
  refine wp_store_mid 62 (.tmp 45) (.tmp 44) rfl g3 (k * 2) #[.int .u8 (px : Int), .int .i64 pn] rfl rfl (hod.there k HLK.out) (by kernel_rfl) (by kernel_rfl) ?_
  have ho4 := hod.set k (px, pn)
  have hb4 : Below w1.heap.size w1 (w3.drew.setCells g3 (k * 2) [.int .u8 (px : Int), .int .i64 pn]) := (HB3.out.drew.setCell (p := ⟨g3, k * 2, none⟩) hg3 _).setCell (p := ⟨g3, k * 2 + 1, none⟩) hg3 _
  have HO4 := Lib.hid ho4
  have HB4 := Lib.hid hb4
  clear ho4 hb4 hod
  rw [show (#[Value.int .u8 (px : Int), .int .i64 pn] : Array Value).toList = [.int .u8 (px : Int), .int .i64 pn] from rfl]
  obtain ⟨W4, hW4⟩ : ∃ W, w3.drew.setCells g3 (k * 2) [.int .u8 (px : Int), .int .i64 pn] = W := ⟨_, rfl⟩
  rw [hW4] at HO4 HB4 ⊢
  clear hW4
  obtain ⟨z0, z1, z2, z3⟩ := HCC.out _ HB4.out
  refine hK.out _ _ (⟨z0, z1, z2, z3⟩) (fun hHeld => ?_)
  clear hK K
  refine wpAnyH_done (by kernel_rfl) ?_ _
  obtain ⟨A5, c5, hu, hrw⟩ := OW.rw HO4.out
  obtain ⟨n5, hn5⟩ : ∃ x, (L.set k (px, pn)).length = x := ⟨_, rfl⟩
  rw [hn5] at hu hrw
  injection hu with hu1 hu2 hu3
  subst hu1 hu2 hu3
  have HRW5 := Lib.hid hrw
  have HB5 : Hid (Bl W4 (w.heap.size + 1) 0 none 0 0) := HB2.out.below HB4.out
  clear hrw hn5
  go_wp2_with (refine wpList_store_row rfl 29 (.tmp 6) (.tmp 49) rfl (w.heap.size + 1) (lnV d (some ⟨g3, 0, none⟩) n c3) rfl rfl 29 _ HB5.out (ln_size _ _ _ _) rfl (ln_one _ _ _ _) ?_)
  have hbwf : Below w.heap.size w (W4.setRow (w.heap.size + 1) (lnV d (some ⟨g3, 0, none⟩) n c3)) := Sb.below_setRow _ (HB.out.trans (HB4.out.mono HB.out.size)) (Nat.le_succ _)
  exact ret_box2 rfl rfl (setRow_heap _ _ _ _ _ _ HB5.out) rfl Try.underlying29 (ln_size _ _ _ _) rfl ⟨some ⟨g3, 0, none⟩, n, c3, rfl, HB5.out.rw_set HRW5.out _, hbwf⟩
end Go.Proofs.Ytcdpdijfgeeenaa.Li
