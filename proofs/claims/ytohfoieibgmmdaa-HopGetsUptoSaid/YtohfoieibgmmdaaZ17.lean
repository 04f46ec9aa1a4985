/- The message of bytes: the reference's Get. -/
import Derived.Test.YtohfoieibgmmdaaZ11
import Derived.Test.YtohfoieibgmmdaaZ7
import Derived.Test.YtohfoieibgmmdaaZ8
import Derived.Test.YtohfoieibgmmdaaHpGet
import Derived.Test.YtohfoieibgmmdaaZ19
namespace Go.Proofs.Ytohfoieibgmmdaa.Mg
open Go.RowKit
open Go.Proofs.Ytohfoieibgmmdaa.Me Go.Proofs.Ytohfoieibgmmdaa.Ba Go.Proofs.Ytohfoieibgmmdaa.Ma Go.Proofs.Ytohfoieibgmmdaa.Bt Go.Proofs.Ytohfoieibgmmdaa.Hd
set_option linter.unusedVariables false
set_option linter.unusedSimpArgs false

theorem own_lit {W : World} {B : Nat} (h : B ≤ W.heap.size) : Own (W.alloc (.cells #[] 5)).drew B (.slice (some ⟨W.heap.size, 0, none⟩) 0 0) [] := by
  refine own_base (B := W.heap.size) (Own.lit (Below.refl W.heap.size W)) ?_
  intro k e
  obtain rfl : W.heap.size = k := by simpa [Value.ownBlock] using e
  exact h
end Go.Proofs.Ytohfoieibgmmdaa.Mg
/- The law of messages out of bytes: its walk. -/
namespace Go.Proofs.Ytohfoieibgmmdaa.Mg
open Go.RowKit
open Go.Proofs.Ytohfoieibgmmdaa.Me Go.Proofs.Ytohfoieibgmmdaa.Ba Go.Proofs.Ytohfoieibgmmdaa.Ma Go.Proofs.Ytohfoieibgmmdaa.Bt Go.Proofs.Ytohfoieibgmmdaa.Hd
set_option linter.unusedVariables false
set_option linter.unusedSimpArgs false

set_option maxRecDepth 100000 in
set_option maxHeartbeats 4000000 in
theorem RSame_self (i : Id4) (A B : Option Addr) (n m c d : Nat) (l : List Nat) (w : World) (h1 : Hid (BySlice w A n c l)) (h2 : Hid (BySlice w B m d l)) : Calls Try.prog 47 #[.agg (msgC i A n c), .agg (msgC i B m d)] w fun e w' => e = .returned (.bool true) ∧ Hid (Below w.heap.size w w') := by
  have HT := Lib.hid (two_boxes w)
  have k1 := fun W (hW : Below w.heap.size w W) => conv_rd W _ A l c (by_below h1.out hW).2.2.2.1 (by_below h1.out hW).2.2.2.2
  have k2 := fun W (hW : Below w.heap.size w W) => conv_rd W _ B l d (by_below h2.out hW).2.2.2.1 (by_below h2.out hW).2.2.2.2
  rw [← h1.out.1] at k1
  rw [← h2.out.1] at k2
  obtain ⟨s, hs⟩ : ∃ s, strOf l = s := ⟨_, rfl⟩
  rw [hs] at k1 k2
  obtain ⟨o, dd, ee, cc⟩ := i
  simp only [msgC]
  have q1 := k1 _ (HT.out #[.int .i64 o, .int .i64 dd, .int .i64 ee, .int .i64 cc, .slice A n c] #[.int .i64 o, .int .i64 dd, .int .i64 ee, .int .i64 cc, .slice B m d])
  have q2 := k2 _ (HT.out #[.int .i64 o, .int .i64 dd, .int .i64 ee, .int .i64 cc, .slice A n c] #[.int .i64 o, .int .i64 dd, .int .i64 ee, .int .i64 cc, .slice B m d])
  clear k1 k2 hs h1 h2
  go_enter Try.func47, Try.ntmps47
  go_wp2
  go_ret
  exact ⟨rfl, HT.out _ _⟩
theorem mD_lt {l : List Nat} (h : ∀ z ∈ l, z < 256) : ∀ z ∈ mD l, z < 256 := by
  unfold mD
  split
  · exact fun z hz => h z (List.mem_of_mem_drop hz)
  · simp
theorem id_row {W : World} {D : Nat} {o d e c : Int} (h : W.heap[D]? = some (.cells #[.int .i64 o, .int .i64 d, .int .i64 e, .int .i64 c] 23 (0, 0))) : W.cell? ⟨D, 0, none⟩ = some (.int .i64 o) ∧ W.cell? ⟨D, 1, none⟩ = some (.int .i64 d) ∧ W.cell? ⟨D, 2, none⟩ = some (.int .i64 e) ∧ W.cell? ⟨D, 3, none⟩ = some (.int .i64 c) := by
  refine ⟨?_, ?_, ?_, ?_⟩
  all_goals
    rw [cell_of_row _ D _ _ _ (0, 0) h]
    rfl
theorem own_by {W : World} {B c : Nat} {A : Option Addr} {L : List Nat} (h : Own W B (.slice A L.length c) L) (hl : ∀ z ∈ L, z < 256) : BySlice W A L.length c L := by
  obtain ⟨r1, r2, r3, r4⟩ := own_rd h hl
  exact ⟨rfl, r3, r4, r1, r2⟩
end Go.Proofs.Ytohfoieibgmmdaa.Mg
/- The document's Same, of words that are the same. -/
namespace Go.Proofs.Ytohfoieibgmmdaa.Hp
open Go.RowKit Go.Shelf
open Go.Proofs.Ytohfoieibgmmdaa.Me Go.Proofs.Ytohfoieibgmmdaa.Sb Go.Proofs.Ytohfoieibgmmdaa.Mg
set_option linter.unusedVariables false
set_option linter.unusedSimpArgs false

theorem msgself (i : Id4) (A B : Option Addr) (n c d : Nat) (l : List Nat) (w : World) (h1 : Hid (BySlice w A n c l)) (h2 : Hid (BySlice w B n d l)) : Calls Try.prog 47 #[.agg (msgC i A n c), .agg (msgC i B n d)] w fun e w' => e = .returned (.bool true) ∧ Hid (Below w.heap.size w w') := Mg.RSame_self i A B n n c d l w h1 h2
set_option maxRecDepth 100000 in
set_option maxHeartbeats 1000000 in
theorem RSame_self (k n : Int) (i : Id4) (A : Option Addr) (ac : Nat) (l : List Nat) (B : Option Addr) (bc : Nat) (cs : List Int) (C : Option Addr) (cc : Nat) (D : Option Addr) (dc : Nat) (w : World)
    (h1 : Hid (BySlice w A l.length ac l)) (h2 : Hid (BySlice w C l.length cc l)) (h3 : Hid (Mi.Rd w w.heap.size B cs)) (h4 : Hid (Mi.Rd w w.heap.size D cs)) (hc : cs.length ≤ 1000000000000000) :
    Calls Try.prog 17 #[.agg (hopC k n i A l.length ac B cs.length bc), .agg (hopC k n i C l.length cc D cs.length dc)] w fun e w' => e = .returned (.bool true) ∧ Hid (Below w.heap.size w w') := by
  obtain ⟨L, hL⟩ : ∃ L, l.length = L := ⟨_, rfl⟩
  obtain ⟨N, hN⟩ : ∃ N, cs.length = N := ⟨_, rfl⟩
  have HN := Lib.hid hN
  rw [hL] at h1 h2 ⊢
  rw [hN] at hc ⊢
  have HS := Lib.hid (fun W (hW : Below w.heap.size w W) => msgself i A C L ac cc l W (by_below h1.out hW) (by_below h2.out hW))
  clear hL hN h1 h2
  obtain ⟨o, d, ee, c⟩ := i
  obtain ⟨W1, hW1⟩ : ∃ W, w.alloc (.cells (hopC k n ⟨o, d, ee, c⟩ A L ac B N bc) 29 (0, 0)) = W := ⟨_, rfl⟩
  obtain ⟨W2, hW2⟩ : ∃ W, W1.alloc (.cells (hopC k n ⟨o, d, ee, c⟩ C L cc D N dc) 29 (0, 0)) = W := ⟨_, rfl⟩
  have hs1 : W1.heap.size = w.heap.size + 1 := by rw [← hW1]; simp
  have hb1 : Below w.heap.size w W1 := by rw [← hW1]; exact Me.below_alloc (Below.refl _ _)
  have hb2 : Below W1.heap.size W1 W2 := by rw [← hW2]; exact Me.below_alloc (Below.refl _ _)
  have hg1 : W1.heap[w.heap.size]? = some (.cells (hopC k n ⟨o, d, ee, c⟩ A L ac B N bc) 29 (0, 0)) := by rw [← hW1]; exact heap_alloc_new w _
  have hg2 : W2.heap[w.heap.size + 1]? = some (.cells (hopC k n ⟨o, d, ee, c⟩ C L cc D N dc) 29 (0, 0)) := by rw [← hW2, ← hs1]; exact heap_alloc_new W1 _
  have HX : Hid (∀ W, Below W2.heap.size W2 W → Hx k n ⟨o, d, ee, c⟩ A L ac B N bc w.heap.size W ∧ Hx k n ⟨o, d, ee, c⟩ C L cc D N dc (w.heap.size + 1) W ∧ Below w.heap.size w W) := fun W hW => by
    have h2 : w.heap.size < W1.heap.size := by omega
    have h3 := (Array.getElem?_eq_some_iff.1 hg2).1
    exact ⟨hx_row ((hW.block _ (by omega)).trans ((hb2.block _ h2).trans hg1)), hx_row ((hW.block _ h3).trans hg2), (hb1.trans (hb2.mono hb1.size)).trans (hW.mono (Nat.le_trans hb1.size hb2.size))⟩
  have hWW : (w.alloc (.cells (hopC k n ⟨o, d, ee, c⟩ A L ac B N bc) 29 (0, 0))).alloc (.cells (hopC k n ⟨o, d, ee, c⟩ C L cc D N dc) 29 (0, 0)) = W2 := by rw [hW1, hW2]
  simp only [hopC, msgC, Hx] at HX HS hWW ⊢
  have HWW := Lib.hid hWW
  clear hW1 hW2 hs1 hb1 hb2 hg1 hg2 hWW
  obtain ⟨⟨x0, x1, x2, x3, x4, x5, x6, x7⟩, ⟨y0, y1, y2, y3, y4, y5, y6, y7⟩, bw⟩ := HX.out W2 (Below.refl _ _)
  have HBW := Lib.hid bw
  clear bw
  go_enter Try.func17, Try.ntmps17
  go_wp2_with (first
    | (rw [HWW.out])
    | (go_at_call 47; refine (HS.out _ HBW.out).mono ?_; rintro e w3 ⟨rfl, b3⟩; obtain ⟨⟨u0, u1, u2, u3, u4, u5, u6, u7⟩, ⟨v0, v1, v2, v3, v4, v5, v6, v7⟩, bw3⟩ := HX.out w3 b3.out))
  have HB3 := Lib.hid b3.out
  clear x0 x1 x2 x3 x4 x5 x6 x7 y0 y1 y2 y3 y4 y5 y6 y7 u0 u1 u2 u3 u4 u5 u6 u7 v0 v1 v2 v3 v4 v5 v6 v7 bw3 b3 HS
  go_loopw [5] (fun v wr => ∃ j : Nat, j ≤ N ∧ v = .int .i64 j ∧ Hid (Below W2.heap.size W2 wr)) (fun v _ => N - (intOf v).toNat)
  case atStart => exact ⟨0, Nat.zero_le _, rfl, HB3⟩
  case round =>
    obtain ⟨j, hj, rfl, HBr⟩ := hrel
    clear HB3
    obtain ⟨⟨u0, u1, u2, u3, u4, u5, u6, u7⟩, ⟨v0, v1, v2, v3, v4, v5, v6, v7⟩, bw3⟩ := HX.out wr HBr.out
    have HBr3 := Lib.hid bw3
    by_cases hlt : j < N
    · obtain ⟨b, off, rfl, z1⟩ := rd_at (h3.out.below bw3) (i := j) (by rw [HN.out]; exact hlt)
      obtain ⟨b2, off2, rfl, z2⟩ := rd_at (h4.out.below bw3) (i := j) (by rw [HN.out]; exact hlt)
      obtain ⟨x, hx⟩ : ∃ x, Mi.at_ cs j = x := ⟨_, rfl⟩
      rw [hx] at z1 z2
      have HA : Hid (∀ W, Below wr.heap.size wr W → (W.cell? ⟨w.heap.size, 7, none⟩ = some (.slice (some ⟨b, off, none⟩) N bc) ∧ W.cell? ⟨w.heap.size + 1, 7, none⟩ = some (.slice (some ⟨b2, off2, none⟩) N dc)) ∧ W.cell? ⟨b, off + j, none⟩ = some (.int .i64 x) ∧ W.cell? ⟨b2, off2 + j, none⟩ = some (.int .i64 x)) := fun W hW => by
        have e := HX.out W (HBr.out.trans (hW.mono HBr.out.size))
        have c1 := fun (p : Addr) (v : Value) (h : wr.cell? p = some v) => (hW.cell (p := p) (World.block_lt_of_cell? wr _ h)).trans h
        exact ⟨⟨c1 _ _ u7, c1 _ _ v7⟩, c1 _ _ z1, c1 _ _ z2⟩
      have g1 : (j : Int) < (N : Int) := by omega
      have g2 : ¬ (N : Int) ≤ (j : Int) := by omega
      clear hx bw3
      go_wp2
      have S0 := (Below.refl wr.heap.size wr).drew
      have HBd : Hid (Below W2.heap.size W2 wr.drew) := HBr.out.trans (S0.mono HBr.out.size)
      refine wp_region_held_drew (S := fun W => Below wr.heap.size wr W) (by kernel_rfl) S0 (fun hHeld => ?_)
      refine wpAnyH_take (i := 0) (v := .pointer (some ⟨w.heap.size, 7, none⟩)) rfl (by kernel_rfl) (by kernel_rfl) (by kernel_rfl) (fun _ _ _ h => h) (Or.inl ⟨by rfl, ?_⟩) (by first | assumption | exact trivial) ?_
      · intro W hSW; go_simp; try (with_reducible rfl)
      simp only [Act.put, List.getElem_toArray, List.getElem_cons_succ, List.getElem_cons_zero, List.setIfInBounds_toArray, List.set_cons_zero, List.set_cons_succ]
      refine wpAnyH_take (i := 1) (v := .slice (some ⟨b, off, none⟩) N bc) rfl (by kernel_rfl) (by kernel_rfl) (by kernel_rfl) (fun _ _ _ h => h) (Or.inl ⟨by rfl, ?_⟩) (by first | assumption | exact trivial) ?_
      · intro W hSW; have q := (HA.out W hSW).1.1; go_simp; try (with_reducible rfl)
      simp only [Act.put, List.getElem_toArray, List.getElem_cons_succ, List.getElem_cons_zero, List.setIfInBounds_toArray, List.set_cons_zero, List.set_cons_succ]
      refine wpAnyH_take (i := 2) (v := .int .i64 (j : Int)) rfl (by kernel_rfl) (by kernel_rfl) (by kernel_rfl) (fun _ _ _ h => h) (Or.inl ⟨by rfl, ?_⟩) (by first | assumption | exact trivial) ?_
      · intro W hSW; go_simp; try (with_reducible rfl)
      simp only [Act.put, List.getElem_toArray, List.getElem_cons_succ, List.getElem_cons_zero, List.setIfInBounds_toArray, List.set_cons_zero, List.set_cons_succ]
      refine wpAnyH_take (i := 3) (v := .pointer (some ⟨b, off + j, none⟩)) rfl (by kernel_rfl) (by kernel_rfl) (by kernel_rfl) (fun _ _ _ h => h) (Or.inl ⟨by rfl, ?_⟩) (by first | assumption | exact trivial) ?_
      · intro W hSW; go_simp; try (with_reducible rfl)
      simp only [Act.put, List.getElem_toArray, List.getElem_cons_succ, List.getElem_cons_zero, List.setIfInBounds_toArray, List.set_cons_zero, List.set_cons_succ]
      refine wpAnyH_take (i := 4) (v := .int .i64 x) rfl (by kernel_rfl) (by kernel_rfl) (by kernel_rfl) (fun _ _ _ h => h) (Or.inl ⟨by rfl, ?_⟩) (by first | assumption | exact trivial) ?_
      · intro W hSW; have q := (HA.out W hSW).2.1; go_simp; try (with_reducible rfl)
      simp only [Act.put, List.getElem_toArray, List.getElem_cons_succ, List.getElem_cons_zero, List.setIfInBounds_toArray, List.set_cons_zero, List.set_cons_succ]
      refine wpAnyH_take (i := 5) (v := .pointer (some ⟨w.heap.size + 1, 7, none⟩)) rfl (by kernel_rfl) (by kernel_rfl) (by kernel_rfl) (fun _ _ _ h => h) (Or.inl ⟨by rfl, ?_⟩) (by first | assumption | exact trivial) ?_
      · intro W hSW; go_simp; try (with_reducible rfl)
      simp only [Act.put, List.getElem_toArray, List.getElem_cons_succ, List.getElem_cons_zero, List.setIfInBounds_toArray, List.set_cons_zero, List.set_cons_succ]
      refine wpAnyH_take (i := 6) (v := .slice (some ⟨b2, off2, none⟩) N dc) rfl (by kernel_rfl) (by kernel_rfl) (by kernel_rfl) (fun _ _ _ h => h) (Or.inl ⟨by rfl, ?_⟩) (by first | assumption | exact trivial) ?_
      · intro W hSW; have q := (HA.out W hSW).1.2; go_simp; try (with_reducible rfl)
      simp only [Act.put, List.getElem_toArray, List.getElem_cons_succ, List.getElem_cons_zero, List.setIfInBounds_toArray, List.set_cons_zero, List.set_cons_succ]
      refine wpAnyH_take (i := 7) (v := .int .i64 (j : Int)) rfl (by kernel_rfl) (by kernel_rfl) (by kernel_rfl) (fun _ _ _ h => h) (Or.inl ⟨by rfl, ?_⟩) (by first | assumption | exact trivial) ?_
      · intro W hSW; go_simp; try (with_reducible rfl)
      simp only [Act.put, List.getElem_toArray, List.getElem_cons_succ, List.getElem_cons_zero, List.setIfInBounds_toArray, List.set_cons_zero, List.set_cons_succ]
      refine wpAnyH_take (i := 8) (v := .pointer (some ⟨b2, off2 + j, none⟩)) rfl (by kernel_rfl) (by kernel_rfl) (by kernel_rfl) (fun _ _ _ h => h) (Or.inl ⟨by rfl, ?_⟩) (by first | assumption | exact trivial) ?_
      · intro W hSW; go_simp; try (with_reducible rfl)
      simp only [Act.put, List.getElem_toArray, List.getElem_cons_succ, List.getElem_cons_zero, List.setIfInBounds_toArray, List.set_cons_zero, List.set_cons_succ]
      refine wpAnyH_take (i := 9) (v := .int .i64 x) rfl (by kernel_rfl) (by kernel_rfl) (by kernel_rfl) (fun _ _ _ h => h) (Or.inl ⟨by rfl, ?_⟩) (by first | assumption | exact trivial) ?_
      · intro W hSW; have q := (HA.out W hSW).2.2; go_simp; try (with_reducible rfl)
      simp only [Act.put, List.getElem_toArray, List.getElem_cons_succ, List.getElem_cons_zero, List.setIfInBounds_toArray, List.set_cons_zero, List.set_cons_succ]
      refine wpAnyH_take (i := 10) (v := .bool false) rfl (by kernel_rfl) (by kernel_rfl) (by kernel_rfl) (fun _ _ _ h => h) (Or.inl ⟨by rfl, ?_⟩) (by first | assumption | exact trivial) ?_
      · intro W hSW; go_simp; try (with_reducible rfl)
      simp only [Act.put, List.getElem_toArray, List.getElem_cons_succ, List.getElem_cons_zero, List.setIfInBounds_toArray, List.set_cons_zero, List.set_cons_succ]
      refine wpAnyH_done (by kernel_rfl) ?_ _
      go_wp2
      go_roundw
      case rel => exact ⟨j + 1, by omega, by go_num, HBd⟩
      case measure => simp [intOf]; omega
    · have HK : Hid (j = N) := by show _ = _; omega
      go_wp2
      go_ret
      exact ⟨rfl, HBr3⟩
end Go.Proofs.Ytohfoieibgmmdaa.Hp
/- The law HopBack. -/
namespace Go.Proofs.Ytohfoieibgmmdaa.Hp
open Go.RowKit Go.Shelf
open Go.Proofs.Ytohfoieibgmmdaa.Me Go.Proofs.Ytohfoieibgmmdaa.Sb Go.Proofs.Ytohfoieibgmmdaa.Mg
set_option linter.unusedVariables false
set_option linter.unusedSimpArgs false

theorem conv_by {W : World} {A : Option Addr} {n c : Nat} {l : List Nat} (h : BySlice W A n c l) : (convert 24 9 (.slice A n c)).run Try.prog W = .ok (.string (strOf l)) W := by
  obtain rfl := h.1
  exact conv_rd W _ A l c h.2.2.2.1 h.2.2.2.2
theorem gt_cs (l : List Nat) : (gtW l).cs.length ≤ 66 := by
  have h66 : (l.take 66).length ≤ 66 := by simp; omega
  unfold gtW
  split
  · unfold rdW
    split
    · simp [Wd0]
    · split
      · simp [intL]; omega
      · split
        · simp
        · split <;> simp
  · simp [Wd0]
theorem gt_lt {l : List Nat} (hl : ∀ z ∈ l, z < 256) : ∀ z ∈ (gtW l).p, z < 256 := by
  intro z hz
  unfold gtW at hz
  split at hz
  · unfold rdW at hz
    split at hz
    · simp [Wd0] at hz
    · split at hz
      · simp at hz
      · split at hz
        · simp at hz
        · split at hz
          · refine mD_lt ?_ z hz
            intro y hy
            exact hl y (List.mem_of_mem_take (List.mem_of_mem_drop hy))
          · simp at hz
  · simp [Wd0] at hz
set_option maxRecDepth 100000 in
set_option maxHeartbeats 4000000 in
theorem backL (k n : Int) (i : Id4) (A : Option Addr) (l : List Nat) (dc : Nat) (B : Option Addr) (cs : List Int) (cc : Nat) (P : Option Addr) (pn pc : Nat) (p : List Nat) (w : World) (hi : MsIn w A l.length dc l ∧ CoIn w B cs cc) (hp : BySlice w P pn pc p) (hpc : pc ≤ 140737488351232) :
    Calls Try.prog 5 #[.agg (hopC k n i A l.length dc B cs.length cc), .slice P pn pc] w fun e w' => e = .returned (.bool true) ∧ Below w.heap.size w w' := by
  obtain rfl : pn = p.length := hp.1
  have HX := Lib.hid (box8 k n i A l.length dc B cs.length cc w)
  have hbw : Below w.heap.size w (w.alloc (.cells (hopC k n i A l.length dc B cs.length cc) 29 (0, 0))) := Me.below_alloc (Below.refl _ _)
  have hcl : cs.length ≤ 9223372036854775806 := by have h1 := hi.2.1.2.1; have h2 := hi.2.2; omega
  have HLp : Hid (∀ z ∈ putH k n i l cs, z < 256) := putH_lt hi.1.1.2.2.2.1.1
  have HPz : Hid (∀ z ∈ p, z < 256) := hp.2.2.2.1.1
  have HP := Lib.hid (fun W (hW : Below w.heap.size w W) => Put_any k n i A l.length dc l B cs cc W (by_below hi.1.1 hW) ((hi.2.1.2.2.2.1.below hW).more hW.size) hcl)
  have HPB := Lib.hid (fun W (hW : Below w.heap.size w W) => by_below hp hW)
  have HLB := Lib.hid (fun W (hW : Below w.heap.size w W) => by_below hi.1.1 hW)
  have HCB := Lib.hid (fun W (hW : Below w.heap.size w W) => (hi.2.1.2.2.2.1.below hW).more hW.size)
  have HGp := Lib.hid (fun W (hW : Below w.heap.size w W) => Get_any P p.length pc p W (by_below hp hW))
  have HPP := Lib.hid (fun (x : Wd) (A2 : Option Addr) (c2 : Nat) (B2 : Option Addr) (d2 : Nat) W (h1 : Hid (BySlice W A2 x.p.length c2 x.p)) (h : Hid (Mi.Rd W W.heap.size B2 x.cs)) (hx : x.cs.length ≤ 66) => Put_any x.k x.n x.i A2 x.p.length c2 x.p B2 x.cs d2 W h1 h (by omega))
  have HGE : Hid ((gtW p).e = 0 → hopN (gtW p).k (gtW p).n (gtW p).i (gtW p).p.length (gtW p).cs = 0 ∧ putH (gtW p).k (gtW p).n (gtW p).i (gtW p).p (gtW p).cs = p) := fun h => ⟨(get_pt HPz.out h).1, (get_pt HPz.out h).2.1⟩
  have HGC := Lib.hid (gt_cs p)
  have HPG : Hid (hopN k n i l.length cs = 0 → _) := fun h => put_gt h hi.1.1.2.2.2.1.1
  have HGT := Lib.hid (fun (q : List Nat) (A2 : Option Addr) (c2 : Nat) W (h : Hid (BySlice W A2 q.length c2 q)) => Get_any A2 q.length c2 q W h)
  have HCL : Hid (cs.length ≤ 1000000000000000) := by have h1 := hi.2.1.2.1; have h2 := hi.2.2; show _ ≤ _; omega
  have HXL : Hid (∀ z ∈ (gtW p).p, z < 256) := fun z hz => gt_lt HPz.out z hz
  obtain ⟨x, hx⟩ : ∃ x, gtW p = x := ⟨_, rfl⟩
  rw [hx] at HGE HGC HXL
  simp only [hx] at HGp
  clear hx hcl hp hi
  obtain ⟨W0, hW0⟩ : ∃ W, w.alloc (.cells (hopC k n i A l.length dc B cs.length cc) 29 (0, 0)) = W := ⟨_, rfl⟩
  have HW0 := Lib.hid hW0
  rw [hW0] at HX hbw
  have HBW := Lib.hid hbw
  clear hW0 hbw
  obtain ⟨xk, xn, ⟨xo, xd, xe, xc⟩, xp, xs, xe0⟩ := x
  have HPP : Hid (∀ (A2 : Option Addr) (c2 : Nat) (B2 : Option Addr) (d2 : Nat) W, Hid (BySlice W A2 xp.length c2 xp) → Hid (Mi.Rd W W.heap.size B2 xs) → Calls Try.prog 11 #[.agg (hopC xk xn ⟨xo, xd, xe, xc⟩ A2 xp.length c2 B2 xs.length d2)] W (OwP (putH xk xn ⟨xo, xd, xe, xc⟩ xp xs) (hopN xk xn ⟨xo, xd, xe, xc⟩ xp.length xs) W)) := fun A2 c2 B2 d2 W h1 h2 => HPP.out ⟨xk, xn, ⟨xo, xd, xe, xc⟩, xp, xs, xe0⟩ A2 c2 B2 d2 W h1 h2 HGC.out
  have HLz := Lib.hid (HLB.out w (Below.refl _ _)).2.2.2.1.1
  have HSm := Lib.hid (fun (A2 : Option Addr) (c2 : Nat) (B2 : Option Addr) (d2 : Nat) W (hW : Below w.heap.size w W) (h1 : Hid (BySlice W A2 l.length c2 l)) (h2 : Hid (Mi.Rd W W.heap.size B2 cs)) => RSame_self k n i A dc l B cc cs A2 c2 B2 d2 W (HLB.out W hW) h1 (HCB.out W hW) h2 HCL.out)
  unfold Ans at HGp
  simp only at HGE HGC HXL HGp
  obtain ⟨q, hq⟩ : ∃ q, putH k n i l cs = q := ⟨_, rfl⟩
  obtain ⟨zp, hzp⟩ : ∃ z, hopN k n i l.length cs = z := ⟨_, rfl⟩
  have HGT2 : Hid (∀ A2 c2 W, Hid (BySlice W A2 q.length c2 q) → Calls Try.prog 15 #[.slice A2 q.length c2] W (Ans (gtW q) W)) := fun A2 c2 W h => HGT.out q A2 c2 W h
  simp only [hq, hzp] at HP HLp HPG
  unfold OwP at HP HPP
  clear hq hzp HGT HLB HCB HGC HCL
  by_cases hz : zp = 0
  · subst hz
    obtain ⟨hg, hk, hn, hq9, hq65⟩ := HPG.out rfl
    have HGq : Hid (∀ A2 c2 W, Hid (BySlice W A2 q.length c2 q) → Calls Try.prog 15 #[.slice A2 q.length c2] W fun e w' => ∃ A5 c5 B5 d5, e = .returned (.tuple #[.agg (hopC k n i A5 l.length c5 B5 cs.length d5), .int .i64 0]) ∧ Hid (Me.Own w' W.heap.size (.slice A5 l.length c5) l) ∧ Hid (Mi.Own w' W.heap.size (.slice B5 cs.length d5) cs) ∧ Hid (Below W.heap.size W w')) := fun A2 c2 W h => by
      have := HGT2.out A2 c2 W h
      rw [hg] at this
      unfold Ans at this
      simp only [hk, hn] at this
      exact this
    have hq9i : ¬ (q.length : Int) < 9 := by omega
    have hq65i : ¬ (65 : Int) < (q.length : Int) := by omega
    rw [show ((0 : Nat) : Int) = 0 from rfl] at HP
    obtain ⟨o, d, ee, c⟩ := i
    simp only [hopC] at HP HGq HX HSm HW0 HGp HPP ⊢
    obtain ⟨⟨x0, x1, x2, x3, x4, x5, x6, x7⟩, _⟩ := HX.out W0 (Below.refl _ _)
    clear hg hk hn hq9 hq65 HPG HGT2
    by_cases hx0 : xe0 = 0
    · subst hx0
      obtain ⟨hxz, hxp⟩ := HGE.out rfl
      simp only [hxz, hxp, show ((0 : Nat) : Int) = 0 from rfl] at HPP HGp
      have HXP := Lib.hid hxp
      clear hxz hxp HGE
      go_enter Try.func5, Try.ntmps5
      go_wp2_with (first
        | (rw [HW0.out])
        | (go_at_call 11; (with_reducible refine (HP.out _ HBW.out).mono ?_); rintro e w1 ⟨A1, c1, rfl, ho1, hb1⟩; have HB1 : Hid (Below w.heap.size w w1) := HBW.out.trans (hb1.out.mono HBW.out.size); have HBs1 : Hid (BySlice w1 A1 q.length c1 q) := (own_bs ho1.out HLp.out rfl).2; obtain ⟨⟨x0, x1, x2, x3, x4, x5, x6, x7⟩, _⟩ := HX.out w1 hb1.out)
        | (go_at_call 15; (with_reducible refine (HGq.out _ _ _ HBs1).mono ?_); rintro e w2 ⟨A2, c2, B2, d2, rfl, ho2, hi2, hb2⟩; obtain ⟨W3, hW3⟩ : ∃ W, w2.alloc (.cells #[.int .i64 k, .int .i64 n, .int .i64 o, .int .i64 d, .int .i64 ee, .int .i64 c, .slice A2 l.length c2, .slice B2 cs.length d2] 29 (0, 0)) = W := ⟨_, rfl⟩; have HW3 := Lib.hid hW3; have hb23 : Below w2.heap.size w2 W3 := (by rw [← hW3]; exact Me.below_alloc (Below.refl _ _)); have hg3 : W3.heap[w2.heap.size]? = some (.cells #[.int .i64 k, .int .i64 n, .int .i64 o, .int .i64 d, .int .i64 ee, .int .i64 c, .slice A2 l.length c2, .slice B2 cs.length d2] 29 (0, 0)) := (by rw [← hW3]; exact heap_alloc_new w2 _); clear hW3; have HO3 := Lib.hid (own_belowV ho2.out hb23); have HI3 := Lib.hid (hi2.out.below hb23); have HB12 := hb1.out.trans (hb2.out.mono hb1.out.size); have HB13 := HB12.trans (hb23.mono HB12.size); obtain ⟨⟨u0, u1, u2, u3, u4, u5, u6, u7⟩, bu⟩ := HX.out W3 HB13; have HB3 := Lib.hid bu; clear bu; obtain ⟨v0, v1, v2, v3, v4, v5, v6, v7⟩ := hx_row (i := ⟨o, d, ee, c⟩) hg3; have HBs3 : Hid (BySlice W3 A2 l.length c2 l) := (own_bs HO3.out HLz.out rfl).2; have HRi3 := own_ri HI3.out; clear hg3 hb23 HB12 HB13)
        | (rw [HW3.out])
        | (go_at_call 17; refine (HSm.out A2 c2 B2 d2 _ HB3.out HBs3 HRi3).mono ?_; rintro e w4 ⟨rfl, hb4⟩; have HB4 : Hid (Below w.heap.size w w4) := HB3.out.trans (hb4.out.mono HB3.out.size))
        | (go_at_call 15; (with_reducible refine (HGp.out _ HB4.out).mono ?_); rintro e w5 ⟨A5, c5, B5, d5, rfl, ho5, hi5, hb5⟩; simp only [hopC]; obtain ⟨W6, hW6⟩ : ∃ W, w5.alloc (.cells #[.int .i64 (xk : Int), .int .i64 (xn : Int), .int .i64 xo, .int .i64 xd, .int .i64 xe, .int .i64 xc, .slice A5 xp.length c5, .slice B5 xs.length d5] 29 (0, 0)) = W := ⟨_, rfl⟩; have HW6 := Lib.hid hW6; have hb56 : Below w5.heap.size w5 W6 := (by rw [← hW6]; exact Me.below_alloc (Below.refl _ _)); have hg6 : W6.heap[w5.heap.size]? = some (.cells #[.int .i64 (xk : Int), .int .i64 (xn : Int), .int .i64 xo, .int .i64 xd, .int .i64 xe, .int .i64 xc, .slice A5 xp.length c5, .slice B5 xs.length d5] 29 (0, 0)) := (by rw [← hW6]; exact heap_alloc_new w5 _); clear hW6; have HO6 := Lib.hid (own_belowV ho5.out hb56); have HI6 := Lib.hid (hi5.out.below hb56); have HB6 : Hid (Below w.heap.size w W6) := (HB4.out.trans (hb5.out.mono HB4.out.size)).trans (hb56.mono (HB4.out.trans (hb5.out.mono HB4.out.size)).size); obtain ⟨q0, q1, q2, q3, q4, q5, q6, q7⟩ := hx_row (i := ⟨xo, xd, xe, xc⟩) hg6; have HBs6 : Hid (BySlice W6 A5 xp.length c5 xp) := (own_bs HO6.out HXL.out rfl).2; have HRi6 := own_ri HI6.out; clear hg6 hb56)
        | (rw [HW6.out])
        | (go_at_call 11; (with_reducible refine (HPP.out A5 c5 B5 d5 _ HBs6 HRi6).mono ?_); rintro e w7 ⟨A7, c7, rfl, ho7, hb7⟩; have HB7 : Hid (Below w.heap.size w w7) := HB6.out.trans (hb7.out.mono HB6.out.size); have k1 := conv_own ho7.out HPz.out (Below.refl _ _); have k2 := conv_by (HPB.out _ HB7.out))
        | (go_at_call 14; refine (awake_any _).mono ?_; rintro e w9 ⟨rfl, HB9⟩))
      go_ret
      exact ⟨rfl, HB7.out.trans (HB9.out.mono HB7.out.size)⟩
    · have hxn := nz hx0
      have hxb : ((xe0 : Int) != 0) = true := by rw [bne, hxn]; rfl
      clear hx0 HGE HPP
      go_enter Try.func5, Try.ntmps5
      go_wp2_with (first
        | (rw [HW0.out])
        | (go_at_call 11; (with_reducible refine (HP.out _ HBW.out).mono ?_); rintro e w1 ⟨A1, c1, rfl, ho1, hb1⟩; have HB1 : Hid (Below w.heap.size w w1) := HBW.out.trans (hb1.out.mono HBW.out.size); have HBs1 : Hid (BySlice w1 A1 q.length c1 q) := (own_bs ho1.out HLp.out rfl).2; obtain ⟨⟨x0, x1, x2, x3, x4, x5, x6, x7⟩, _⟩ := HX.out w1 hb1.out)
        | (go_at_call 15; (with_reducible refine (HGq.out _ _ _ HBs1).mono ?_); rintro e w2 ⟨A2, c2, B2, d2, rfl, ho2, hi2, hb2⟩; obtain ⟨W3, hW3⟩ : ∃ W, w2.alloc (.cells #[.int .i64 k, .int .i64 n, .int .i64 o, .int .i64 d, .int .i64 ee, .int .i64 c, .slice A2 l.length c2, .slice B2 cs.length d2] 29 (0, 0)) = W := ⟨_, rfl⟩; have HW3 := Lib.hid hW3; have hb23 : Below w2.heap.size w2 W3 := (by rw [← hW3]; exact Me.below_alloc (Below.refl _ _)); have hg3 : W3.heap[w2.heap.size]? = some (.cells #[.int .i64 k, .int .i64 n, .int .i64 o, .int .i64 d, .int .i64 ee, .int .i64 c, .slice A2 l.length c2, .slice B2 cs.length d2] 29 (0, 0)) := (by rw [← hW3]; exact heap_alloc_new w2 _); clear hW3; have HO3 := Lib.hid (own_belowV ho2.out hb23); have HI3 := Lib.hid (hi2.out.below hb23); have HB12 := hb1.out.trans (hb2.out.mono hb1.out.size); have HB13 := HB12.trans (hb23.mono HB12.size); obtain ⟨⟨u0, u1, u2, u3, u4, u5, u6, u7⟩, bu⟩ := HX.out W3 HB13; have HB3 := Lib.hid bu; clear bu; obtain ⟨v0, v1, v2, v3, v4, v5, v6, v7⟩ := hx_row (i := ⟨o, d, ee, c⟩) hg3; have HBs3 : Hid (BySlice W3 A2 l.length c2 l) := (own_bs HO3.out HLz.out rfl).2; have HRi3 := own_ri HI3.out; clear hg3 hb23 HB12 HB13)
        | (rw [HW3.out])
        | (go_at_call 17; refine (HSm.out A2 c2 B2 d2 _ HB3.out HBs3 HRi3).mono ?_; rintro e w4 ⟨rfl, hb4⟩; have HB4 : Hid (Below w.heap.size w w4) := HB3.out.trans (hb4.out.mono HB3.out.size))
        | (go_at_call 15; (with_reducible refine (HGp.out _ HB4.out).mono ?_); rintro e w5 ⟨A5, c5, B5, d5, rfl, ho5, hi5, hb5⟩; simp only [hopC]; obtain ⟨W6, hW6⟩ : ∃ W, w5.alloc (.cells #[.int .i64 (xk : Int), .int .i64 (xn : Int), .int .i64 xo, .int .i64 xd, .int .i64 xe, .int .i64 xc, .slice A5 xp.length c5, .slice B5 xs.length d5] 29 (0, 0)) = W := ⟨_, rfl⟩; have HW6 := Lib.hid hW6; have hb56 : Below w5.heap.size w5 W6 := (by rw [← hW6]; exact Me.below_alloc (Below.refl _ _)); have hg6 : W6.heap[w5.heap.size]? = some (.cells #[.int .i64 (xk : Int), .int .i64 (xn : Int), .int .i64 xo, .int .i64 xd, .int .i64 xe, .int .i64 xc, .slice A5 xp.length c5, .slice B5 xs.length d5] 29 (0, 0)) := (by rw [← hW6]; exact heap_alloc_new w5 _); clear hW6; have HO6 := Lib.hid (own_belowV ho5.out hb56); have HI6 := Lib.hid (hi5.out.below hb56); have HB6 : Hid (Below w.heap.size w W6) := (HB4.out.trans (hb5.out.mono HB4.out.size)).trans (hb56.mono (HB4.out.trans (hb5.out.mono HB4.out.size)).size); obtain ⟨q0, q1, q2, q3, q4, q5, q6, q7⟩ := hx_row (i := ⟨xo, xd, xe, xc⟩) hg6; have HBs6 : Hid (BySlice W6 A5 xp.length c5 xp) := (own_bs HO6.out HXL.out rfl).2; have HRi6 := own_ri HI6.out; clear hg6 hb56)
        | (rw [HW6.out])
        | (go_at_call 14; refine (awake_any _).mono ?_; rintro e w9 ⟨rfl, HB9⟩))
      go_ret
      exact ⟨rfl, HB6.out.trans (HB9.out.mono HB6.out.size)⟩
  · have hz1 := nz hz
    obtain ⟨o, d, ee, c⟩ := i
    simp only [hopC] at HP HX HSm HW0 HGp HPP ⊢
    obtain ⟨⟨x0, x1, x2, x3, x4, x5, x6, x7⟩, _⟩ := HX.out W0 (Below.refl _ _)
    clear hz HPG HGT2
    by_cases hx0 : xe0 = 0
    · subst hx0
      obtain ⟨hxz, hxp⟩ := HGE.out rfl
      simp only [hxz, hxp, show ((0 : Nat) : Int) = 0 from rfl] at HPP HGp
      have HXP := Lib.hid hxp
      clear hxz hxp HGE
      go_enter Try.func5, Try.ntmps5
      go_wp2_with (first
        | (rw [HW0.out])
        | (go_at_call 11; (with_reducible refine (HP.out _ HBW.out).mono ?_); rintro e w1 ⟨A1, c1, rfl, ho1, hb1⟩; have HB1 : Hid (Below w.heap.size w w1) := HBW.out.trans (hb1.out.mono HBW.out.size))
        | (go_at_call 15; (with_reducible refine (HGp.out _ HB1.out).mono ?_); rintro e w5 ⟨A5, c5, B5, d5, rfl, ho5, hi5, hb5⟩; simp only [hopC]; obtain ⟨W6, hW6⟩ : ∃ W, w5.alloc (.cells #[.int .i64 (xk : Int), .int .i64 (xn : Int), .int .i64 xo, .int .i64 xd, .int .i64 xe, .int .i64 xc, .slice A5 xp.length c5, .slice B5 xs.length d5] 29 (0, 0)) = W := ⟨_, rfl⟩; have HW6 := Lib.hid hW6; have hb56 : Below w5.heap.size w5 W6 := (by rw [← hW6]; exact Me.below_alloc (Below.refl _ _)); have hg6 : W6.heap[w5.heap.size]? = some (.cells #[.int .i64 (xk : Int), .int .i64 (xn : Int), .int .i64 xo, .int .i64 xd, .int .i64 xe, .int .i64 xc, .slice A5 xp.length c5, .slice B5 xs.length d5] 29 (0, 0)) := (by rw [← hW6]; exact heap_alloc_new w5 _); clear hW6; have HO6 := Lib.hid (own_belowV ho5.out hb56); have HI6 := Lib.hid (hi5.out.below hb56); have HB6 : Hid (Below w.heap.size w W6) := (HB1.out.trans (hb5.out.mono HB1.out.size)).trans (hb56.mono (HB1.out.trans (hb5.out.mono HB1.out.size)).size); obtain ⟨q0, q1, q2, q3, q4, q5, q6, q7⟩ := hx_row (i := ⟨xo, xd, xe, xc⟩) hg6; have HBs6 : Hid (BySlice W6 A5 xp.length c5 xp) := (own_bs HO6.out HXL.out rfl).2; have HRi6 := own_ri HI6.out; clear hg6 hb56)
        | (rw [HW6.out])
        | (go_at_call 11; (with_reducible refine (HPP.out A5 c5 B5 d5 _ HBs6 HRi6).mono ?_); rintro e w7 ⟨A7, c7, rfl, ho7, hb7⟩; have HB7 : Hid (Below w.heap.size w w7) := HB6.out.trans (hb7.out.mono HB6.out.size); have k1 := conv_own ho7.out HPz.out (Below.refl _ _); have k2 := conv_by (HPB.out _ HB7.out))
        | (go_at_call 14; refine (awake_any _).mono ?_; rintro e w9 ⟨rfl, HB9⟩))
      go_ret
      exact ⟨rfl, HB7.out.trans (HB9.out.mono HB7.out.size)⟩
    · have hxn := nz hx0
      have hxb : ((xe0 : Int) != 0) = true := by rw [bne, hxn]; rfl
      clear hx0 HGE HPP
      go_enter Try.func5, Try.ntmps5
      go_wp2_with (first
        | (rw [HW0.out])
        | (go_at_call 11; (with_reducible refine (HP.out _ HBW.out).mono ?_); rintro e w1 ⟨A1, c1, rfl, ho1, hb1⟩; have HB1 : Hid (Below w.heap.size w w1) := HBW.out.trans (hb1.out.mono HBW.out.size))
        | (go_at_call 15; (with_reducible refine (HGp.out _ HB1.out).mono ?_); rintro e w5 ⟨A5, c5, B5, d5, rfl, ho5, hi5, hb5⟩; simp only [hopC]; obtain ⟨W6, hW6⟩ : ∃ W, w5.alloc (.cells #[.int .i64 (xk : Int), .int .i64 (xn : Int), .int .i64 xo, .int .i64 xd, .int .i64 xe, .int .i64 xc, .slice A5 xp.length c5, .slice B5 xs.length d5] 29 (0, 0)) = W := ⟨_, rfl⟩; have HW6 := Lib.hid hW6; have hb56 : Below w5.heap.size w5 W6 := (by rw [← hW6]; exact Me.below_alloc (Below.refl _ _)); have hg6 : W6.heap[w5.heap.size]? = some (.cells #[.int .i64 (xk : Int), .int .i64 (xn : Int), .int .i64 xo, .int .i64 xd, .int .i64 xe, .int .i64 xc, .slice A5 xp.length c5, .slice B5 xs.length d5] 29 (0, 0)) := (by rw [← hW6]; exact heap_alloc_new w5 _); clear hW6; have HO6 := Lib.hid (own_belowV ho5.out hb56); have HI6 := Lib.hid (hi5.out.below hb56); have HB6 : Hid (Below w.heap.size w W6) := (HB1.out.trans (hb5.out.mono HB1.out.size)).trans (hb56.mono (HB1.out.trans (hb5.out.mono HB1.out.size)).size); obtain ⟨q0, q1, q2, q3, q4, q5, q6, q7⟩ := hx_row (i := ⟨xo, xd, xe, xc⟩) hg6; have HBs6 : Hid (BySlice W6 A5 xp.length c5 xp) := (own_bs HO6.out HXL.out rfl).2; have HRi6 := own_ri HI6.out; clear hg6 hb56)
        | (rw [HW6.out])
        | (go_at_call 14; refine (awake_any _).mono ?_; rintro e w9 ⟨rfl, HB9⟩))
      go_ret
      exact ⟨rfl, HB6.out.trans (HB9.out.mono HB6.out.size)⟩
end Go.Proofs.Ytohfoieibgmmdaa.Hp
