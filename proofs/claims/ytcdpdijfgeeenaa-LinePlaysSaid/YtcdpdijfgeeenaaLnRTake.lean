/- The document's line: Take. -/
import Derived.Test.YtcdpdijfgeeenaaLnRTick
namespace Go.Proofs.Ytcdpdijfgeeenaa.Li
open Go.RowKit
open Go.Proofs.Ytcdpdijfgeeenaa.Sb
set_option linter.unusedVariables false
set_option linter.unusedSimpArgs false

/-- How many of the first need none. -/
def tkN (L : List Wy) : Nat := (L.takeWhile fun p => p.2 == 0).length
theorem tkN_le (L : List Wy) : tkN L ≤ L.length := List.IsPrefix.length_le (List.takeWhile_prefix _)
theorem tkN_lt : ∀ (L : List Wy) (j : Nat) (p : Wy), j < tkN L → L[j]? = some p → p.2 = 0
  | [], j, p, h, _ => by simp [tkN] at h
  | a :: r, j, p, h, hp => by
    unfold tkN at h
    by_cases ha : a.2 = 0
    · rw [List.takeWhile_cons_of_pos (by simpa using ha)] at h
      cases j with
      | zero => simp at hp; subst hp; exact ha
      | succ j => exact tkN_lt r j p (by simpa [tkN] using h) (by simpa using hp)
    · rw [List.takeWhile_cons_of_neg (by simpa using ha)] at h
      simp at h
theorem tkN_end : ∀ (L : List Wy) (p : Wy), L[tkN L]? = some p → p.2 ≠ 0
  | [], p, hp => by simp at hp
  | a :: r, p, hp => by
    by_cases ha : a.2 = 0
    · have e : tkN (a :: r) = tkN r + 1 := by unfold tkN; rw [List.takeWhile_cons_of_pos (by simpa using ha)]; rfl
      rw [e] at hp
      exact tkN_end r p (by simpa using hp)
    · have e : tkN (a :: r) = 0 := by unfold tkN; rw [List.takeWhile_cons_of_neg (by simpa using ha)]; rfl
      rw [e] at hp
      simp at hp
      subst hp
      exact ha
set_option maxRecDepth 100000 in
set_option maxHeartbeats 4000000 in
theorem RTake_any (d : Nat) (A : Option Addr) (n c : Nat) (L : List Wy) (w : World) (hr : Hid (RW w A n c L)) (hn : n ≤ 65536) (hd : d ≤ 64) (hbt : Hid (∀ p ∈ L, p.1 < 256)) :
    Calls Try.prog 22 #[.agg (lnV d A n c)] w fun e w' => ∃ A' n' c' v, e = .returned (.tuple #[.agg (lnV d A' n' c'), v]) ∧ Hid (RW w' A' n' c' (L.drop (tkN L))) ∧ Hid (Me.Own w' 0 v ((L.take (tkN L)).map (·.1))) ∧ Hid (∀ q, v.ownBlock = some q → w.heap.size ≤ q) ∧ Hid (Below w.heap.size w w') := by
  obtain ⟨w1, hw1, B1, B2, hsz, hb, hr1⟩ := two_ln w d A n c L hr.out
  have HW1 := Lib.hid hw1
  have HB2 := Lib.hid B2
  have HB1 := Lib.hid B1
  have HB := Lib.hid hb
  have HR1 := Lib.hid hr1
  obtain ⟨e0, e1⟩ := B1.cells
  have HS := Lib.hid hsz
  have HL : Hid (n = L.length) := hr.out.len
  have HT1 := Lib.hid (tkN_lt L)
  have HT2 := Lib.hid (tkN_end L)
  have htn : tkN L ≤ n := by rw [HL.out]; exact tkN_le L
  obtain ⟨m, hm⟩ : ∃ m, tkN L = m := ⟨_, rfl⟩
  rw [hm] at HT1 HT2 htn ⊢
  clear hw1 B1 B2 hsz hb hr1 hm
  go_enter Try.func22, Try.ntmps22
  go_wp2_with (first
    | (refine Mi.allocTo rfl (.pointer (some ⟨_, 0, none⟩)) (.cells (lnV d A n c) 29 (0, 0)) (exec_boxl _ _ d A n c (.tmp 0) rfl rfl _) ?_)
    | (refine Mi.allocTo rfl (.pointer (some ⟨_, 0, none⟩)) (.cells (lnV 0 none 0 0) 29 (0, 0)) (alloc_ln _ _ rfl _) ?_; rw [HW1.out]))
  go_loopw [4, 5] (fun u4 u5 wr => ∃ k : Nat, k ≤ m ∧ u5 = .int .i64 (k : Int) ∧ Hid (Me.Own wr w1.heap.size u4 ((L.take k).map (·.1))) ∧ Hid (Below w1.heap.size w1 wr)) (fun _ u5 _ => n - (intOf u5).toNat)
  case atStart => exact ⟨0, Nat.zero_le _, rfl, Me.Own.lit (Below.refl _ _), Me.below_alloc (Below.refl _ _)⟩
  case round =>
    obtain ⟨k, hk, rfl, HO, HBr⟩ := hrel
    clear e0 e1
    obtain ⟨e0, e1⟩ := (HB1.out.below HBr.out).cells
    by_cases hkn : k < n
    · have q1 : (k : Int) < (n : Int) := by omega
      have q1' : decide ((k : Int) < (n : Int)) = true := decide_eq_true q1
      obtain ⟨p, hp⟩ : ∃ p, L[k]? = some p := ⟨_, List.getElem?_eq_getElem (by rw [← HL.out]; exact hkn)⟩
      obtain ⟨g, off, hA, x0, x1⟩ := ((HR1.out.below HBr.out)).cells hp
      have HP2 : Hid (p.1 < 256) := hbt.out p (List.mem_of_getElem? hp)
      have HP3 : Hid (((L.take k).map (·.1)).length ≤ 1000000) := by show _ ≤ _; rw [List.length_map, List.length_take]; omega
      have HP : Hid (((L.take k).map (·.1)) ++ [p.1] = (L.take (k + 1)).map (·.1)) := by show _ = _; rw [List.take_add_one, hp]; simp
      have hkn2 : k < n := hkn
      by_cases hkm : k < m
      · have h0 := HT1.out k p hkm hp
        rw [h0] at x1
        obtain ⟨pb, hpb⟩ : ∃ x, p.1 = x := ⟨_, rfl⟩
        rw [hpb] at x0 HP HP2
        have HAe := Lib.hid hA
        rw [hA] at e1
        clear hp hpb hA h0
        go_wp2_with (at_builtin; refine app81 rfl (.tmp 21) (.tmp 28) rfl w1.heap.size u4 ((L.take k).map (·.1)) pb rfl rfl HO.out HBr.out HBr.out.size wr.heap.size rfl rfl HP2.out HP3.out ?_; intro v3 w3 ho3 hb3; rw [HP.out] at ho3; have HO3 := Lib.hid ho3; have HB3 := Lib.hid hb3; clear ho3 hb3)
        go_roundw
        case rel => exact ⟨k + 1, by omega, by go_num, HO3, HB3⟩
        case measure => simp [intOf]; omega
      · obtain rfl : k = m := by omega
        have h0 := HT2.out p hp
        obtain ⟨pn, hpn⟩ : ∃ x, p.2 = x := ⟨_, rfl⟩
        rw [hpn] at x1 h0
        have q2 : (pn == 0) = false := beq_eq_false_iff_ne.mpr h0
        have HAe := Lib.hid hA
        have HE1 := Lib.hid e1
        rw [hA] at e1
        clear hp hpn hA
        go_wp2
        obtain ⟨A2, hA2⟩ : ∃ A2, (if c = k then A else Option.map (fun x => x.add (k * 2)) A) = A2 := ⟨_, rfl⟩
        have HA2 : Hid ((if c = k then A else Option.map (fun x => x.add (k * 2)) A) = A2) := hA2
        have HRd : Hid (∀ W, Below w1.heap.size w1 W → RW W A2 (n - k) (c - k) (L.drop k)) := fun W hW => (HR1.out.below hW).drop k (by omega) hA2
        have HBx : Hid (∀ W, Below w1.heap.size w1 W → W.cell? ⟨w.heap.size, 0, none⟩ = some (.int .i64 (d : Int)) ∧ W.cell? ⟨w.heap.size, 1, none⟩ = some (.slice A n c)) := fun W hW => (HB1.out.below hW).cells
        have HKN : Hid ((k : Int) ≤ (n : Int) ∧ 0 ≤ (k : Int) ∧ k ≤ n ∧ (k : Int).toNat = k) := ⟨by omega, by omega, by omega, by omega⟩
        have HLk : Hid (([] : List Wy).length + (L.drop k).length ≤ 1000000) := by show _ ≤ _; rw [List.length_drop, ← HL.out]; simp; omega
        clear hA2 e0 e1
        refine wp_region_held_drew (S := fun W => W.cell? ⟨w.heap.size, 0, none⟩ = some (.int .i64 (d : Int)) ∧ W.cell? ⟨w.heap.size, 1, none⟩ = some (.slice A n c)) (by kernel_rfl) (HBx.out wr.drew HBr.out.drew) (fun hHeld => ?_)
        refine wpAnyH_take (i := 0) (v := .pointer (some ⟨w.heap.size, 0, none⟩)) rfl (by kernel_rfl) (by kernel_rfl) (by kernel_rfl) (fun _ _ _ h => h) (Or.inl ⟨by rfl, ?_⟩) (by first | assumption | exact trivial) ?_
        · intro W hSW; go_simp; try (with_reducible rfl)
        simp only [Act.put, List.getElem_toArray, List.getElem_cons_succ, List.getElem_cons_zero, List.setIfInBounds_toArray, List.set_cons_zero, List.set_cons_succ]
        refine wpAnyH_take (i := 1) (v := .int .i64 (d : Int)) rfl (by kernel_rfl) (by kernel_rfl) (by kernel_rfl) (fun _ _ _ h => h) (Or.inl ⟨by rfl, ?_⟩) (by first | assumption | exact trivial) ?_
        · intro W hSW; have y := hSW.1; go_simp; try (with_reducible rfl)
        simp only [Act.put, List.getElem_toArray, List.getElem_cons_succ, List.getElem_cons_zero, List.setIfInBounds_toArray, List.set_cons_zero, List.set_cons_succ]
        refine wpAnyH_take (i := 3) (v := .pointer (some ⟨w.heap.size, 1, none⟩)) rfl (by kernel_rfl) (by kernel_rfl) (by kernel_rfl) (fun _ _ _ h => h) (Or.inl ⟨by rfl, ?_⟩) (by first | assumption | exact trivial) ?_
        · intro W hSW; go_simp; try (with_reducible rfl)
        simp only [Act.put, List.getElem_toArray, List.getElem_cons_succ, List.getElem_cons_zero, List.setIfInBounds_toArray, List.set_cons_zero, List.set_cons_succ]
        refine wpAnyH_take (i := 4) (v := .slice A n c) rfl (by kernel_rfl) (by kernel_rfl) (by kernel_rfl) (fun _ _ _ h => h) (Or.inl ⟨by rfl, ?_⟩) (by first | assumption | exact trivial) ?_
        · intro W hSW; have y := hSW.2; go_simp; try (with_reducible rfl)
        simp only [Act.put, List.getElem_toArray, List.getElem_cons_succ, List.getElem_cons_zero, List.setIfInBounds_toArray, List.set_cons_zero, List.set_cons_succ]
        refine wpAnyH_take (i := 5) (v := .int .i64 (k : Int)) rfl (by kernel_rfl) (by kernel_rfl) (by kernel_rfl) (fun _ _ _ h => h) (Or.inl ⟨by rfl, ?_⟩) (by first | assumption | exact trivial) ?_
        · intro W hSW; go_simp; try (with_reducible rfl)
        simp only [Act.put, List.getElem_toArray, List.getElem_cons_succ, List.getElem_cons_zero, List.setIfInBounds_toArray, List.set_cons_zero, List.set_cons_succ]
        refine wpAnyH_take (i := 6) (v := .slice A2 (n - k) (c - k)) rfl (by kernel_rfl) (by kernel_rfl) (by kernel_rfl) (fun _ _ _ h => h) (Or.inl ⟨by rfl, ?_⟩) (by first | assumption | exact trivial) ?_
        · intro W hSW; (obtain ⟨y1, y2, y3, y4⟩ := HKN.out; have y := HA2.out); go_simp; try (with_reducible rfl)
        simp only [Act.put, List.getElem_toArray, List.getElem_cons_succ, List.getElem_cons_zero, List.setIfInBounds_toArray, List.set_cons_zero, List.set_cons_succ]
        refine wpAnyH_take (i := 9) (v := u4) rfl (by kernel_rfl) (by kernel_rfl) (by kernel_rfl) (fun _ _ _ h => h) (Or.inl ⟨by rfl, ?_⟩) (by first | assumption | exact trivial) ?_
        · intro W hSW; go_simp; try (with_reducible rfl)
        simp only [Act.put, List.getElem_toArray, List.getElem_cons_succ, List.getElem_cons_zero, List.setIfInBounds_toArray, List.set_cons_zero, List.set_cons_succ]
        refine wpAnyH_ready (rs := [2]) (by kernel_rfl) (by simp) ?_
        refine AllReadyH.cons rfl (fun K hK => ?_) AllReadyH.nil
        go_simp
        have hbl : Below wr.heap.size wr (wr.alloc (.cells #[] 62)).drew := (Me.below_alloc (Below.refl _ wr)).drew
        have hbw : Below w1.heap.size w1 (wr.alloc (.cells #[] 62)).drew := HBr.out.trans (hbl.mono HBr.out.size)
        have ho2 : OW (wr.alloc (.cells #[] 62)).drew wr.heap.size (.slice (some ⟨wr.heap.size, 0, none⟩) 0 0) [] := OW.made wr
        refine hK.out _ _ ((HBx.out _ hbw)) (fun hHeld => ?_)
        clear hK K
        refine wpAnyH_ready (rs := [7]) (by kernel_rfl) (by simp) ?_
        refine AllReadyH.cons rfl (fun K hK => ?_) AllReadyH.nil
        rw [if_pos (by kernel_rfl)]
        refine appW (w0 := wr) (.tmp 34) (.tmp 38) rfl wr.heap.size _ [] (L.drop k) rfl ho2 hbl hbl.size A2 (n - k) (c - k) rfl (HRd.out _ hbw) HLk.out ?_
        intro v7 w7 ho7 hb7
        rw [List.nil_append] at ho7
        obtain ⟨A5, c5, hu, hrw⟩ := OW.rw ho7
        obtain ⟨n5, hn5⟩ : ∃ x, (L.drop k).length = x := ⟨_, rfl⟩
        rw [hn5] at hu hrw
        have HRW5 := Lib.hid hrw
        have HB7 := Lib.hid hb7
        subst hu
        clear ho7 hb7 hrw hn5 ho2 hbw hbl
        have hbw7 : Below w1.heap.size w1 w7 := HBr.out.trans (HB7.out.mono HBr.out.size)
        have HB5 : Hid (Bl w7 (w.heap.size + 1) 0 none 0 0) := HB2.out.below hbw7
        simp only [Act.put, List.getElem_toArray, List.getElem_cons_succ, List.getElem_cons_zero, List.setIfInBounds_toArray, List.set_cons_zero, List.set_cons_succ]
        refine hK.out _ _ ((HBx.out _ hbw7)) (fun hHeld => ?_)
        clear hK K
        refine wpAnyH_take (i := 8) (v := .agg #[.int .i64 (d : Int), .slice A5 n5 c5]) rfl (by kernel_rfl) (by kernel_rfl) (by kernel_rfl) (fun _ _ _ h => h) (Or.inl ⟨by rfl, ?_⟩) (by first | assumption | exact trivial) ?_
        · intro W hSW; go_simp; try (with_reducible rfl)
        simp only [Act.put, List.getElem_toArray, List.getElem_cons_succ, List.getElem_cons_zero, List.setIfInBounds_toArray, List.set_cons_zero, List.set_cons_succ]
        refine wpAnyH_ready (rs := [10]) (by kernel_rfl) (by simp) ?_
        refine AllReadyH.cons rfl (fun K hK => ?_) AllReadyH.nil
        rw [if_pos (by kernel_rfl)]
        refine wp_store_row 29 (.tmp 2) (.tmp 40) rfl (w.heap.size + 1) (lnV d A5 n5 c5) rfl rfl 29 _ HB5.out (ln_size _ _ _ _) rfl (ln_one _ _ _ _) ?_
        have hst : ∀ i, (w7.setRow (w.heap.size + 1) (lnV d A5 n5 c5)).cell? ⟨w.heap.size, i, none⟩ = w7.cell? ⟨w.heap.size, i, none⟩ := fun i => World.cell?_of_block (w := w7) (a := ⟨w.heap.size, i, none⟩) (setRow_other w7 (w.heap.size + 1) w.heap.size _ (by omega))
        refine hK.out _ _ (⟨(hst 0).trans (HBx.out _ hbw7).1, (hst 1).trans (HBx.out _ hbw7).2⟩) (fun hHeld => ?_)
        clear hK K
        refine wpAnyH_take (i := 11) (v := u4) rfl (by kernel_rfl) (by kernel_rfl) (by kernel_rfl) (fun _ _ _ h => h) (Or.inl ⟨by rfl, ?_⟩) (by first | assumption | exact trivial) ?_
        · intro W hSW; go_simp; try (with_reducible rfl)
        simp only [Act.put, List.getElem_toArray, List.getElem_cons_succ, List.getElem_cons_zero, List.setIfInBounds_toArray, List.set_cons_zero, List.set_cons_succ]
        refine wpAnyH_done (by kernel_rfl) ?_ _
        go_wp2
        have hbwf : Below w.heap.size w (w7.setRow (w.heap.size + 1) (lnV d A5 n5 c5)) := Sb.below_setRow _ (HB.out.trans (hbw7.mono HB.out.size)) (Nat.le_succ _)
        have hvq : ∀ q, u4.ownBlock = some q → w.heap.size ≤ q := fun q e => by
          have h1 := (HO.out.lt q e).1
          have h2 := HS.out
          omega
        have hou : Me.Own (w7.setRow (w.heap.size + 1) (lnV d A5 n5 c5)) 0 u4 ((L.take k).map (·.1)) := by
          refine own_same (Sb.own_base HO.out fun _ _ => Nat.zero_le _) fun q e hq => ?_
          have h1 := (HO.out.lt q e).1
          have h2 := HS.out
          exact (setRow_other _ _ _ _ (by omega)).trans (HB7.out.block q hq)
        exact ret_box2 rfl rfl (setRow_heap _ _ _ _ _ _ HB5.out) rfl Try.underlying29 (ln_size _ _ _ _) rfl ⟨A5, n5, c5, u4, rfl, HB5.out.rw_set HRW5.out _, hou, hvq, hbwf⟩
    · have hkm : k = m := by omega
      subst hkm
      have HKE := Lib.hid (show k = n by omega)
      have q1 : ¬ (k : Int) < (n : Int) := by omega
      have q1' : decide ((k : Int) < (n : Int)) = false := decide_eq_false q1
      have HE1 := Lib.hid e1
      go_wp2
      obtain ⟨A2, hA2⟩ : ∃ A2, (if c = k then A else Option.map (fun x => x.add (k * 2)) A) = A2 := ⟨_, rfl⟩
      have HA2 : Hid ((if c = k then A else Option.map (fun x => x.add (k * 2)) A) = A2) := hA2
      have HRd : Hid (∀ W, Below w1.heap.size w1 W → RW W A2 (n - k) (c - k) (L.drop k)) := fun W hW => (HR1.out.below hW).drop k (by omega) hA2
      have HBx : Hid (∀ W, Below w1.heap.size w1 W → W.cell? ⟨w.heap.size, 0, none⟩ = some (.int .i64 (d : Int)) ∧ W.cell? ⟨w.heap.size, 1, none⟩ = some (.slice A n c)) := fun W hW => (HB1.out.below hW).cells
      have HKN : Hid ((k : Int) ≤ (n : Int) ∧ 0 ≤ (k : Int) ∧ k ≤ n ∧ (k : Int).toNat = k) := ⟨by omega, by omega, by omega, by omega⟩
      have HLk : Hid (([] : List Wy).length + (L.drop k).length ≤ 1000000) := by show _ ≤ _; rw [List.length_drop, ← HL.out]; simp; omega
      clear hA2 e0 e1
      refine wp_region_held_drew (S := fun W => W.cell? ⟨w.heap.size, 0, none⟩ = some (.int .i64 (d : Int)) ∧ W.cell? ⟨w.heap.size, 1, none⟩ = some (.slice A n c)) (by kernel_rfl) (HBx.out wr.drew HBr.out.drew) (fun hHeld => ?_)
      refine wpAnyH_take (i := 0) (v := .pointer (some ⟨w.heap.size, 0, none⟩)) rfl (by kernel_rfl) (by kernel_rfl) (by kernel_rfl) (fun _ _ _ h => h) (Or.inl ⟨by rfl, ?_⟩) (by first | assumption | exact trivial) ?_
      · intro W hSW; go_simp; try (with_reducible rfl)
      simp only [Act.put, List.getElem_toArray, List.getElem_cons_succ, List.getElem_cons_zero, List.setIfInBounds_toArray, List.set_cons_zero, List.set_cons_succ]
      refine wpAnyH_take (i := 1) (v := .int .i64 (d : Int)) rfl (by kernel_rfl) (by kernel_rfl) (by kernel_rfl) (fun _ _ _ h => h) (Or.inl ⟨by rfl, ?_⟩) (by first | assumption | exact trivial) ?_
      · intro W hSW; have y := hSW.1; go_simp; try (with_reducible rfl)
      simp only [Act.put, List.getElem_toArray, List.getElem_cons_succ, List.getElem_cons_zero, List.setIfInBounds_toArray, List.set_cons_zero, List.set_cons_succ]
      refine wpAnyH_take (i := 3) (v := .pointer (some ⟨w.heap.size, 1, none⟩)) rfl (by kernel_rfl) (by kernel_rfl) (by kernel_rfl) (fun _ _ _ h => h) (Or.inl ⟨by rfl, ?_⟩) (by first | assumption | exact trivial) ?_
      · intro W hSW; go_simp; try (with_reducible rfl)
      simp only [Act.put, List.getElem_toArray, List.getElem_cons_succ, List.getElem_cons_zero, List.setIfInBounds_toArray, List.set_cons_zero, List.set_cons_succ]
      refine wpAnyH_take (i := 4) (v := .slice A n c) rfl (by kernel_rfl) (by kernel_rfl) (by kernel_rfl) (fun _ _ _ h => h) (Or.inl ⟨by rfl, ?_⟩) (by first | assumption | exact trivial) ?_
      · intro W hSW; have y := hSW.2; go_simp; try (with_reducible rfl)
      simp only [Act.put, List.getElem_toArray, List.getElem_cons_succ, List.getElem_cons_zero, List.setIfInBounds_toArray, List.set_cons_zero, List.set_cons_succ]
      refine wpAnyH_take (i := 5) (v := .int .i64 (k : Int)) rfl (by kernel_rfl) (by kernel_rfl) (by kernel_rfl) (fun _ _ _ h => h) (Or.inl ⟨by rfl, ?_⟩) (by first | assumption | exact trivial) ?_
      · intro W hSW; go_simp; try (with_reducible rfl)
      simp only [Act.put, List.getElem_toArray, List.getElem_cons_succ, List.getElem_cons_zero, List.setIfInBounds_toArray, List.set_cons_zero, List.set_cons_succ]
      refine wpAnyH_take (i := 6) (v := .slice A2 (n - k) (c - k)) rfl (by kernel_rfl) (by kernel_rfl) (by kernel_rfl) (fun _ _ _ h => h) (Or.inl ⟨by rfl, ?_⟩) (by first | assumption | exact trivial) ?_
      · intro W hSW; (obtain ⟨y1, y2, y3, y4⟩ := HKN.out; have y := HA2.out); go_simp; try (with_reducible rfl)
      simp only [Act.put, List.getElem_toArray, List.getElem_cons_succ, List.getElem_cons_zero, List.setIfInBounds_toArray, List.set_cons_zero, List.set_cons_succ]
      refine wpAnyH_take (i := 9) (v := u4) rfl (by kernel_rfl) (by kernel_rfl) (by kernel_rfl) (fun _ _ _ h => h) (Or.inl ⟨by rfl, ?_⟩) (by first | assumption | exact trivial) ?_
      · intro W hSW; go_simp; try (with_reducible rfl)
      simp only [Act.put, List.getElem_toArray, List.getElem_cons_succ, List.getElem_cons_zero, List.setIfInBounds_toArray, List.set_cons_zero, List.set_cons_succ]
      refine wpAnyH_ready (rs := [2]) (by kernel_rfl) (by simp) ?_
      refine AllReadyH.cons rfl (fun K hK => ?_) AllReadyH.nil
      go_simp
      have hbl : Below wr.heap.size wr (wr.alloc (.cells #[] 62)).drew := (Me.below_alloc (Below.refl _ wr)).drew
      have hbw : Below w1.heap.size w1 (wr.alloc (.cells #[] 62)).drew := HBr.out.trans (hbl.mono HBr.out.size)
      have ho2 : OW (wr.alloc (.cells #[] 62)).drew wr.heap.size (.slice (some ⟨wr.heap.size, 0, none⟩) 0 0) [] := OW.made wr
      refine hK.out _ _ ((HBx.out _ hbw)) (fun hHeld => ?_)
      clear hK K
      refine wpAnyH_ready (rs := [7]) (by kernel_rfl) (by simp) ?_
      refine AllReadyH.cons rfl (fun K hK => ?_) AllReadyH.nil
      rw [if_pos (by kernel_rfl)]
      refine appW (w0 := wr) (.tmp 34) (.tmp 38) rfl wr.heap.size _ [] (L.drop k) rfl ho2 hbl hbl.size A2 (n - k) (c - k) rfl (HRd.out _ hbw) HLk.out ?_
      intro v7 w7 ho7 hb7
      rw [List.nil_append] at ho7
      obtain ⟨A5, c5, hu, hrw⟩ := OW.rw ho7
      obtain ⟨n5, hn5⟩ : ∃ x, (L.drop k).length = x := ⟨_, rfl⟩
      rw [hn5] at hu hrw
      have HRW5 := Lib.hid hrw
      have HB7 := Lib.hid hb7
      subst hu
      clear ho7 hb7 hrw hn5 ho2 hbw hbl
      have hbw7 : Below w1.heap.size w1 w7 := HBr.out.trans (HB7.out.mono HBr.out.size)
      have HB5 : Hid (Bl w7 (w.heap.size + 1) 0 none 0 0) := HB2.out.below hbw7
      simp only [Act.put, List.getElem_toArray, List.getElem_cons_succ, List.getElem_cons_zero, List.setIfInBounds_toArray, List.set_cons_zero, List.set_cons_succ]
      refine hK.out _ _ ((HBx.out _ hbw7)) (fun hHeld => ?_)
      clear hK K
      refine wpAnyH_take (i := 8) (v := .agg #[.int .i64 (d : Int), .slice A5 n5 c5]) rfl (by kernel_rfl) (by kernel_rfl) (by kernel_rfl) (fun _ _ _ h => h) (Or.inl ⟨by rfl, ?_⟩) (by first | assumption | exact trivial) ?_
      · intro W hSW; go_simp; try (with_reducible rfl)
      simp only [Act.put, List.getElem_toArray, List.getElem_cons_succ, List.getElem_cons_zero, List.setIfInBounds_toArray, List.set_cons_zero, List.set_cons_succ]
      refine wpAnyH_ready (rs := [10]) (by kernel_rfl) (by simp) ?_
      refine AllReadyH.cons rfl (fun K hK => ?_) AllReadyH.nil
      rw [if_pos (by kernel_rfl)]
      refine wp_store_row 29 (.tmp 2) (.tmp 40) rfl (w.heap.size + 1) (lnV d A5 n5 c5) rfl rfl 29 _ HB5.out (ln_size _ _ _ _) rfl (ln_one _ _ _ _) ?_
      have hst : ∀ i, (w7.setRow (w.heap.size + 1) (lnV d A5 n5 c5)).cell? ⟨w.heap.size, i, none⟩ = w7.cell? ⟨w.heap.size, i, none⟩ := fun i => World.cell?_of_block (w := w7) (a := ⟨w.heap.size, i, none⟩) (setRow_other w7 (w.heap.size + 1) w.heap.size _ (by omega))
      refine hK.out _ _ (⟨(hst 0).trans (HBx.out _ hbw7).1, (hst 1).trans (HBx.out _ hbw7).2⟩) (fun hHeld => ?_)
      clear hK K
      refine wpAnyH_take (i := 11) (v := u4) rfl (by kernel_rfl) (by kernel_rfl) (by kernel_rfl) (fun _ _ _ h => h) (Or.inl ⟨by rfl, ?_⟩) (by first | assumption | exact trivial) ?_
      · intro W hSW; go_simp; try (with_reducible rfl)
      simp only [Act.put, List.getElem_toArray, List.getElem_cons_succ, List.getElem_cons_zero, List.setIfInBounds_toArray, List.set_cons_zero, List.set_cons_succ]
      refine wpAnyH_done (by kernel_rfl) ?_ _
      go_wp2
      have hbwf : Below w.heap.size w (w7.setRow (w.heap.size + 1) (lnV d A5 n5 c5)) := Sb.below_setRow _ (HB.out.trans (hbw7.mono HB.out.size)) (Nat.le_succ _)
      have hvq : ∀ q, u4.ownBlock = some q → w.heap.size ≤ q := fun q e => by
        have h1 := (HO.out.lt q e).1
        have h2 := HS.out
        omega
      have hou : Me.Own (w7.setRow (w.heap.size + 1) (lnV d A5 n5 c5)) 0 u4 ((L.take k).map (·.1)) := by
        refine own_same (Sb.own_base HO.out fun _ _ => Nat.zero_le _) fun q e hq => ?_
        have h1 := (HO.out.lt q e).1
        have h2 := HS.out
        exact (setRow_other _ _ _ _ (by omega)).trans (HB7.out.block q hq)
      exact ret_box2 rfl rfl (setRow_heap _ _ _ _ _ _ HB5.out) rfl Try.underlying29 (ln_size _ _ _ _) rfl ⟨A5, n5, c5, u4, rfl, HB5.out.rw_set HRW5.out _, hou, hvq, hbwf⟩
end Go.Proofs.Ytcdpdijfgeeenaa.Li
