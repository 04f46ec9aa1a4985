/- An id's text: Text. -/
import Derived.Test.YtljndfkmppmbkaaDoorMgPut
import Derived.Test.YtljndfkmppmbkaaDoorLay
import Derived.Lib.ItoaLen
namespace Go.Proofs.YtljndfkmppmbkaaDoor.Mg
open Go.RowKit
open Go.Proofs.YtljndfkmppmbkaaDoor.Me Go.Proofs.YtljndfkmppmbkaaDoor.Ba Go.Proofs.YtljndfkmppmbkaaDoor.Ma Go.Proofs.YtljndfkmppmbkaaDoor.Bt
set_option linter.unusedVariables false
set_option linter.unusedSimpArgs false

def sB (l : List UInt8) : ByteArray := ⟨l.toArray⟩
def sg (k : Nat) : List UInt8 := if k = 0 then [] else if k = 1 then [62] else if k = 2 then [58] else [46]
/-- The digits of number k. -/
def dK (i : Id4) (k : Nat) : List UInt8 := Lib.decDigits (ix i k).toNat
def txK (i : Id4) : Nat → List UInt8
  | 0 => []
  | k + 1 => txK i k ++ (sg k ++ dK i k)
theorem sB_app (a b : List UInt8) : sB a ++ sB b = sB (a ++ b) := by
  unfold sB
  rw [ByteArray.mk_append_mk]
  try simp
theorem sB_size (a : List UInt8) : (sB a).size = a.length := by simp [sB, ByteArray.size]
theorem dK_len {i : Id4} (h : Right i) {k : Nat} (hk : k < 4) : (dK i k).length ≤ 21 := by
  obtain ⟨h0, _, h1⟩ := ix_fits h hk
  obtain ⟨n, hn⟩ := Int.eq_ofNat_of_zero_le h0
  have := Lib.itoa_length_le (ix i k) (by omega) (by omega)
  rw [hn, Lib.itoa_nonneg] at this
  unfold dK
  rw [hn]
  exact this
theorem sg_len (k : Nat) : (sg k).length ≤ 1 := by
  unfold sg
  repeat' split
  all_goals simp
theorem txK_len {i : Id4} (h : Right i) : ∀ k, k ≤ 4 → (txK i k).length ≤ 22 * k
  | 0, _ => by simp [txK]
  | k + 1, hk => by
    have h1 := txK_len h k (by omega)
    have h2 := dK_len h (k := k) (by omega)
    have h3 := sg_len k
    simp only [txK, List.length_append]
    omega
/-- What strconv.Itoa answers of an id's numbers, from a world on. -/
def ItH (i : Id4) (w : World) : Prop := ∀ k, k < 4 → ∀ W, Below w.heap.size w W → Calls Tryd.prog 44 #[.int .i64 (ix i k)] W fun e w' => e = .returned (.string (sB (dK i k))) ∧ Hid (Below W.heap.size W w')
theorem fm_new0 (wr : World) (v : ByteArray) (s : Int) (W1 : World) (h : wr.alloc (.cells #[.string v, .int .i64 s] 56) = W1) : Below wr.heap.size wr W1 ∧ W1.heap.size = wr.heap.size + 1 ∧ ∀ W, Below W1.heap.size W1 W → W.cell? ⟨wr.heap.size, 0, none⟩ = some (.string v) := by
  subst h
  refine ⟨Me.below_alloc (Below.refl _ _), by simp, fun W hW => ?_⟩
  rw [hW.cell (by simp), cell_of_row _ _ _ _ _ (0, 0) (heap_alloc_new wr _)]
  rfl
theorem Text_no (i : Id4) (h : Hid (chkN i ≠ 0)) (w : World) : Calls Tryd.prog 27 #[.agg (idC i)] w fun e w' => e = .returned (.tuple #[.string ⟨#[]⟩, .int .i64 (chkN i : Int)]) ∧ Hid (Below w.heap.size w w') := by
  have HC := Lib.hid (fun W => Check_any i W)
  obtain ⟨x, hx⟩ : ∃ x, chkN i = x := ⟨_, rfl⟩
  rw [hx] at HC h ⊢
  have h1 : ((x : Int) == 0) = false := nz h.out
  clear hx
  obtain ⟨o, d, ee, c⟩ := i
  simp only [idC] at HC ⊢
  go_enter Tryd.func27, Tryd.ntmps27
  go_wp2_with (go_at_call 10; refine (HC.out _).mono ?_; rintro e w1 ⟨rfl, b1⟩)
  go_ret2
  exact ⟨rfl, Below.trans (Me.below_alloc (Below.refl _ _)) (b1.out.mono (by simp))⟩
set_option maxRecDepth 100000 in
set_option maxHeartbeats 16000000 in
theorem Text_ok (i : Id4) (hR : Hid (Right i)) (w : World) (hI : Hid (ItH i w)) : Calls Tryd.prog 27 #[.agg (idC i)] w fun e w' => e = .returned (.tuple #[.string (sB (txK i 4)), .int .i64 0]) ∧ Hid (Below w.heap.size w w') := by
  have HC : Hid (∀ W, Calls Tryd.prog 10 #[.agg (idC i)] W fun e w' => e = .returned (.int .i64 0) ∧ Hid (Below W.heap.size W w')) := fun W => (Check_any i W).mono fun e w' h => by
    rw [right_iff.2 hR.out] at h
    exact h
  have HN := Lib.hid (fun W => numbers_any i W)
  have HF := Lib.hid (fun W => forms_any W)
  have HL : Hid (∀ k, k < 4 → sB (txK i (k + 1)) = sB (txK i k) ++ (sB (sg k) ++ sB (dK i k))) := fun k _ => by rw [sB_app, sB_app]; rfl
  have HLl : Hid (∀ k, k < 4 → (sB (txK i k)).size ≤ 100 ∧ (sB (sg k) ++ sB (dK i k)).size ≤ 22 ∧ (sB (sg k)).size ≤ 1 ∧ (sB (dK i k)).size ≤ 21) := fun k hk => by
    have h1 := txK_len hR.out k (by omega)
    have h2 := dK_len hR.out hk
    have h3 := sg_len k
    rw [sB_app, sB_size, sB_size, sB_size, sB_size, List.length_append]
    omega
  have HLz : Hid (sB (txK i 0) = ⟨#[]⟩) := rfl
  obtain ⟨L, hL⟩ : ∃ L, (fun k => sB (txK i k)) = L := ⟨_, rfl⟩
  have hL2 : ∀ k, sB (txK i k) = L k := fun k => by rw [← hL]
  simp only [hL2] at HL HLl HLz ⊢
  clear hL hL2 hR
  obtain ⟨j, hj⟩ : ∃ j, i = j := ⟨_, rfl⟩
  have HJ := Lib.hid hj
  obtain ⟨o, d, ee, c⟩ := i
  simp only [idC] at HC HN ⊢
  rw [hj] at HL HLl hI
  clear hj
  have HB4 := Lib.hid (box4 o d ee c w)
  go_enter Tryd.func27, Tryd.ntmps27
  go_wp2_with (first
    | (go_at_call 10; refine (HC.out _).mono ?_; rintro e w1 ⟨rfl, b1⟩; obtain ⟨q0, q1, q2, q3⟩ := HB4.out w1 b1.out)
    | (go_at_call 33; refine (HN.out _).mono ?_; rintro e w2 ⟨rfl, b2⟩)
    | (go_at_call 37; refine (HF.out _).mono ?_; rintro e w3 ⟨rfl, b3⟩))
  have hA : Ar w3 w2.heap.size ⟨o, d, ee, c⟩ := (b3.out.block _ (by simp)).trans (heap_alloc_new w2 _)
  rw [HJ.out] at hA
  have HB3 : Hid (Below w.heap.size w w3) := (Me.below_alloc (Below.refl _ _)).trans ((b1.out.mono (by simp)).trans ((b2.out.mono (by have := b1.out.size; simp at this; omega)).trans ((Me.below_alloc (Below.refl _ _)).trans (b3.out.mono (by simp)) |>.mono (by have := b1.out.size; have := b2.out.size; simp at *; omega))))
  obtain ⟨g, hg⟩ : ∃ g, w2.heap.size = g := ⟨_, rfl⟩
  rw [hg] at hA ⊢
  have HA := Lib.hid hA
  clear hA b1 b2 b3 q0 q1 q2 q3 hg HC HN HF HB4 HJ
  go_loopw [5, 17] (fun v5 v17 wr => ∃ k : Nat, k ≤ 4 ∧ v17 = .int .i64 k ∧ v5 = .string (L k) ∧ Hid (Ar wr g j) ∧ Hid (Below w.heap.size w wr)) (fun _ v _ => 4 - (intOf v).toNat)
  case atStart => exact ⟨0, by omega, rfl, by rw [HLz.out], HA.out, HB3.out⟩
  case round =>
    obtain ⟨k, hk, rfl, rfl, HAr, HB⟩ := hrel
    by_cases hlt : k < 4
    · have HIt := Lib.hid (hI.out k hlt)
      have HCL : Hid (∀ W, Below wr.heap.size wr W → W.cell? ⟨g, k, none⟩ = some (.int .i64 (ix j k))) := fun W hW => (HAr.out.below hW).cell hlt
      have HE := HL.out k hlt
      obtain ⟨z1, z2, z3, z4⟩ := HLl.out k hlt
      obtain ⟨x, hxx⟩ : ∃ x, ix j k = x := ⟨_, rfl⟩
      rw [hxx] at HCL HIt
      obtain ⟨D, hD⟩ : ∃ D, sB (dK j k) = D := ⟨_, rfl⟩
      rw [hD] at HIt HE z2 z4
      obtain ⟨l, hl⟩ : ∃ l, L k = l := ⟨_, rfl⟩
      obtain ⟨l2, hl2⟩ : ∃ l2, L (k + 1) = l2 := ⟨_, rfl⟩
      have HL2 := Lib.hid hl2
      rw [hl] at HE z1 ⊢
      rw [hl2] at HE
      have HBS := HB.out.size
      clear hxx hD hl hl2 HL HLl HLz HA HB3
      obtain rfl | rfl | rfl | rfl : k = 0 ∨ k = 1 ∨ k = 2 ∨ k = 3 := by omega
      · rw [show sB (sg 0) = ⟨#[]⟩ from rfl] at HE z2 z3
        simp only [show ((0 : Nat) : Int) = 0 from rfl]
        go_wp2_with (rw [ixf0])
        obtain ⟨W1, hW1⟩ : ∃ W1, wr.alloc (.cells #[.string ⟨#[]⟩, .int .i64 1] 56) = W1 := ⟨_, rfl⟩
        obtain ⟨hf1, hf2, hf3⟩ := fm_new0 wr _ _ W1 hW1
        rw [hW1]
        obtain ⟨sv, hsv⟩ : ∃ sv, (⟨#[]⟩ : ByteArray) = sv := ⟨_, rfl⟩
        rw [hsv] at hf3 HE z2 z3
        obtain ⟨M, hM⟩ : ∃ M, sv ++ D = M := ⟨_, rfl⟩
        rw [hM] at HE z2
        have y1 : ¬ 9223372036854775807 < sv.size + D.size := by omega
        have y2 : ¬ 9223372036854775807 < l.size + M.size := by omega
        have hN : l ++ M = l2 := HE.symm
        have HS2 : Hid (∀ W, Below W1.heap.size W1 W → W.cell? ⟨g, 0, none⟩ = some (.int .i64 x) ∧ W.cell? ⟨wr.heap.size, 0, none⟩ = some (.string sv) ∧ Below W1.heap.size W1 W) := fun W hW => ⟨HCL.out W (hf1.trans (hW.mono (by omega))), hf3 W hW, hW⟩
        have HP : Hid (∀ W, Below W1.heap.size W1 W → Calls Tryd.prog 44 #[.int .i64 x] W fun e w' => e = .returned (.string D) ∧ Hid (Below W.heap.size W w')) := fun W hW => HIt.out W (HB.out.trans ((hf1.trans (hW.mono (by omega))).mono HBS))
        have HF1 := Lib.hid hf1
        have HF2 := Lib.hid hf2
        have S0 := HS2.out W1.drew (Below.refl _ W1).drew
        clear hf1 hf2 hf3 hW1 hsv HE z1 z2 z3 z4
        refine wp_region_held_drew (S := fun W => W.cell? ⟨g, 0, none⟩ = some (.int .i64 x) ∧ W.cell? ⟨wr.heap.size, 0, none⟩ = some (.string sv) ∧ Below W1.heap.size W1 W) (by kernel_rfl) S0 (fun hHeld => ?_)
        refine wpAnyH_take (i := 0) (v := .string l) rfl (by kernel_rfl) (by kernel_rfl) (by kernel_rfl) (fun _ _ _ h => h) (Or.inl ⟨by rfl, ?_⟩) (by first | assumption | exact trivial) ?_
        · intro W hSW; go_simp; try (with_reducible rfl)
        simp only [Act.put, List.getElem_toArray, List.getElem_cons_succ, List.getElem_cons_zero, List.setIfInBounds_toArray, List.set_cons_zero, List.set_cons_succ]
        refine wpAnyH_take (i := 1) (v := .pointer (some ⟨wr.heap.size, 0, none⟩)) rfl (by kernel_rfl) (by kernel_rfl) (by kernel_rfl) (fun _ _ _ h => h) (Or.inl ⟨by rfl, ?_⟩) (by first | assumption | exact trivial) ?_
        · intro W hSW; go_simp; try (with_reducible rfl)
        simp only [Act.put, List.getElem_toArray, List.getElem_cons_succ, List.getElem_cons_zero, List.setIfInBounds_toArray, List.set_cons_zero, List.set_cons_succ]
        refine wpAnyH_take (i := 2) (v := .string sv) rfl (by kernel_rfl) (by kernel_rfl) (by kernel_rfl) (fun _ _ _ h => h) (Or.inl ⟨by rfl, ?_⟩) (by first | assumption | exact trivial) ?_
        · intro W hSW; have q6 := hSW.2.1; go_simp; try (with_reducible rfl)
        simp only [Act.put, List.getElem_toArray, List.getElem_cons_succ, List.getElem_cons_zero, List.setIfInBounds_toArray, List.set_cons_zero, List.set_cons_succ]
        refine wpAnyH_take (i := 3) (v := .int .i64 0) rfl (by kernel_rfl) (by kernel_rfl) (by kernel_rfl) (fun _ _ _ h => h) (Or.inl ⟨by rfl, ?_⟩) (by first | assumption | exact trivial) ?_
        · intro W hSW; go_simp; try (with_reducible rfl)
        simp only [Act.put, List.getElem_toArray, List.getElem_cons_succ, List.getElem_cons_zero, List.setIfInBounds_toArray, List.set_cons_zero, List.set_cons_succ]
        refine wpAnyH_take (i := 4) (v := .pointer (some ⟨g, 0, none⟩)) rfl (by kernel_rfl) (by kernel_rfl) (by kernel_rfl) (fun _ _ _ h => h) (Or.inl ⟨by rfl, ?_⟩) (by first | assumption | exact trivial) ?_
        · intro W hSW; go_simp; try (with_reducible rfl)
        simp only [Act.put, List.getElem_toArray, List.getElem_cons_succ, List.getElem_cons_zero, List.setIfInBounds_toArray, List.set_cons_zero, List.set_cons_succ]
        refine wpAnyH_take (i := 5) (v := .int .i64 x) rfl (by kernel_rfl) (by kernel_rfl) (by kernel_rfl) (fun _ _ _ h => h) (Or.inl ⟨by rfl, ?_⟩) (by first | assumption | exact trivial) ?_
        · intro W hSW; have q3 := hSW.1; go_simp; try (with_reducible rfl)
        simp only [Act.put, List.getElem_toArray, List.getElem_cons_succ, List.getElem_cons_zero, List.setIfInBounds_toArray, List.set_cons_zero, List.set_cons_succ]
        refine wpAnyH_ready (rs := [6]) (by kernel_rfl) (by simp) ?_
        refine AllReadyH.cons rfl (fun K hK => ?_) AllReadyH.nil
        go_simp
        go_wp2_with (go_at_call 44; refine (HP.out _ S0.2.2).mono ?_; rintro e w4 ⟨rfl, hS4⟩)
        have S4 := HS2.out w4 (S0.2.2.trans (hS4.out.mono S0.2.2.size))
        refine hK.out _ _ (S4) (fun hHeld => ?_)
        clear hK K
        refine wpAnyH_take (i := 7) (v := .string M) rfl (by kernel_rfl) (by kernel_rfl) (by kernel_rfl) (fun _ _ _ h => h) (Or.inl ⟨by rfl, ?_⟩) (by first | assumption | exact trivial) ?_
        · intro W hSW; go_simp; try (with_reducible rfl)
        simp only [Act.put, List.getElem_toArray, List.getElem_cons_succ, List.getElem_cons_zero, List.setIfInBounds_toArray, List.set_cons_zero, List.set_cons_succ]
        refine wpAnyH_take (i := 8) (v := .string l2) rfl (by kernel_rfl) (by kernel_rfl) (by kernel_rfl) (fun _ _ _ h => h) (Or.inl ⟨by rfl, ?_⟩) (by first | assumption | exact trivial) ?_
        · intro W hSW; go_simp; try (with_reducible rfl)
        simp only [Act.put, List.getElem_toArray, List.getElem_cons_succ, List.getElem_cons_zero, List.setIfInBounds_toArray, List.set_cons_zero, List.set_cons_succ]
        refine wpAnyH_take (i := 9) (v := .string l2) rfl (by kernel_rfl) (by kernel_rfl) (by kernel_rfl) (fun _ _ _ h => h) (Or.inl ⟨by rfl, ?_⟩) (by first | assumption | exact trivial) ?_
        · intro W hSW; go_simp; try (with_reducible rfl)
        simp only [Act.put, List.getElem_toArray, List.getElem_cons_succ, List.getElem_cons_zero, List.setIfInBounds_toArray, List.set_cons_zero, List.set_cons_succ]
        refine wpAnyH_done (by kernel_rfl) ?_ _
        have HB2 : Hid (Below wr.heap.size wr w4) := HF1.out.trans (S4.2.2.mono HF1.out.size)
        clear S0 S4 hM hN y1 y2
        go_wp2
        go_roundw
        case rel => exact ⟨1, by omega, by go_num, by rw [HL2.out], HAr.out.below HB2.out, HB.out.trans (HB2.out.mono HBS)⟩
        case measure => simp [intOf]
      · rw [show sB (sg 1) = ⟨#[62]⟩ from rfl] at HE z2 z3
        simp only [show ((1 : Nat) : Int) = 1 from rfl]
        go_wp2_with (rw [ixf1])
        obtain ⟨W1, hW1⟩ : ∃ W1, wr.alloc (.cells #[.string ⟨#[62]⟩, .int .i64 1] 56) = W1 := ⟨_, rfl⟩
        obtain ⟨hf1, hf2, hf3⟩ := fm_new0 wr _ _ W1 hW1
        rw [hW1]
        obtain ⟨sv, hsv⟩ : ∃ sv, (⟨#[62]⟩ : ByteArray) = sv := ⟨_, rfl⟩
        rw [hsv] at hf3 HE z2 z3
        obtain ⟨M, hM⟩ : ∃ M, sv ++ D = M := ⟨_, rfl⟩
        rw [hM] at HE z2
        have y1 : ¬ 9223372036854775807 < sv.size + D.size := by omega
        have y2 : ¬ 9223372036854775807 < l.size + M.size := by omega
        have hN : l ++ M = l2 := HE.symm
        have HS2 : Hid (∀ W, Below W1.heap.size W1 W → W.cell? ⟨g, 1, none⟩ = some (.int .i64 x) ∧ W.cell? ⟨wr.heap.size, 0, none⟩ = some (.string sv) ∧ Below W1.heap.size W1 W) := fun W hW => ⟨HCL.out W (hf1.trans (hW.mono (by omega))), hf3 W hW, hW⟩
        have HP : Hid (∀ W, Below W1.heap.size W1 W → Calls Tryd.prog 44 #[.int .i64 x] W fun e w' => e = .returned (.string D) ∧ Hid (Below W.heap.size W w')) := fun W hW => HIt.out W (HB.out.trans ((hf1.trans (hW.mono (by omega))).mono HBS))
        have HF1 := Lib.hid hf1
        have HF2 := Lib.hid hf2
        have S0 := HS2.out W1.drew (Below.refl _ W1).drew
        clear hf1 hf2 hf3 hW1 hsv HE z1 z2 z3 z4
        refine wp_region_held_drew (S := fun W => W.cell? ⟨g, 1, none⟩ = some (.int .i64 x) ∧ W.cell? ⟨wr.heap.size, 0, none⟩ = some (.string sv) ∧ Below W1.heap.size W1 W) (by kernel_rfl) S0 (fun hHeld => ?_)
        refine wpAnyH_take (i := 0) (v := .string l) rfl (by kernel_rfl) (by kernel_rfl) (by kernel_rfl) (fun _ _ _ h => h) (Or.inl ⟨by rfl, ?_⟩) (by first | assumption | exact trivial) ?_
        · intro W hSW; go_simp; try (with_reducible rfl)
        simp only [Act.put, List.getElem_toArray, List.getElem_cons_succ, List.getElem_cons_zero, List.setIfInBounds_toArray, List.set_cons_zero, List.set_cons_succ]
        refine wpAnyH_take (i := 1) (v := .pointer (some ⟨wr.heap.size, 0, none⟩)) rfl (by kernel_rfl) (by kernel_rfl) (by kernel_rfl) (fun _ _ _ h => h) (Or.inl ⟨by rfl, ?_⟩) (by first | assumption | exact trivial) ?_
        · intro W hSW; go_simp; try (with_reducible rfl)
        simp only [Act.put, List.getElem_toArray, List.getElem_cons_succ, List.getElem_cons_zero, List.setIfInBounds_toArray, List.set_cons_zero, List.set_cons_succ]
        refine wpAnyH_take (i := 2) (v := .string sv) rfl (by kernel_rfl) (by kernel_rfl) (by kernel_rfl) (fun _ _ _ h => h) (Or.inl ⟨by rfl, ?_⟩) (by first | assumption | exact trivial) ?_
        · intro W hSW; have q6 := hSW.2.1; go_simp; try (with_reducible rfl)
        simp only [Act.put, List.getElem_toArray, List.getElem_cons_succ, List.getElem_cons_zero, List.setIfInBounds_toArray, List.set_cons_zero, List.set_cons_succ]
        refine wpAnyH_take (i := 3) (v := .int .i64 1) rfl (by kernel_rfl) (by kernel_rfl) (by kernel_rfl) (fun _ _ _ h => h) (Or.inl ⟨by rfl, ?_⟩) (by first | assumption | exact trivial) ?_
        · intro W hSW; go_simp; try (with_reducible rfl)
        simp only [Act.put, List.getElem_toArray, List.getElem_cons_succ, List.getElem_cons_zero, List.setIfInBounds_toArray, List.set_cons_zero, List.set_cons_succ]
        refine wpAnyH_take (i := 4) (v := .pointer (some ⟨g, 1, none⟩)) rfl (by kernel_rfl) (by kernel_rfl) (by kernel_rfl) (fun _ _ _ h => h) (Or.inl ⟨by rfl, ?_⟩) (by first | assumption | exact trivial) ?_
        · intro W hSW; go_simp; try (with_reducible rfl)
        simp only [Act.put, List.getElem_toArray, List.getElem_cons_succ, List.getElem_cons_zero, List.setIfInBounds_toArray, List.set_cons_zero, List.set_cons_succ]
        refine wpAnyH_take (i := 5) (v := .int .i64 x) rfl (by kernel_rfl) (by kernel_rfl) (by kernel_rfl) (fun _ _ _ h => h) (Or.inl ⟨by rfl, ?_⟩) (by first | assumption | exact trivial) ?_
        · intro W hSW; have q3 := hSW.1; go_simp; try (with_reducible rfl)
        simp only [Act.put, List.getElem_toArray, List.getElem_cons_succ, List.getElem_cons_zero, List.setIfInBounds_toArray, List.set_cons_zero, List.set_cons_succ]
        refine wpAnyH_ready (rs := [6]) (by kernel_rfl) (by simp) ?_
        refine AllReadyH.cons rfl (fun K hK => ?_) AllReadyH.nil
        go_simp
        go_wp2_with (go_at_call 44; refine (HP.out _ S0.2.2).mono ?_; rintro e w4 ⟨rfl, hS4⟩)
        have S4 := HS2.out w4 (S0.2.2.trans (hS4.out.mono S0.2.2.size))
        refine hK.out _ _ (S4) (fun hHeld => ?_)
        clear hK K
        refine wpAnyH_take (i := 7) (v := .string M) rfl (by kernel_rfl) (by kernel_rfl) (by kernel_rfl) (fun _ _ _ h => h) (Or.inl ⟨by rfl, ?_⟩) (by first | assumption | exact trivial) ?_
        · intro W hSW; go_simp; try (with_reducible rfl)
        simp only [Act.put, List.getElem_toArray, List.getElem_cons_succ, List.getElem_cons_zero, List.setIfInBounds_toArray, List.set_cons_zero, List.set_cons_succ]
        refine wpAnyH_take (i := 8) (v := .string l2) rfl (by kernel_rfl) (by kernel_rfl) (by kernel_rfl) (fun _ _ _ h => h) (Or.inl ⟨by rfl, ?_⟩) (by first | assumption | exact trivial) ?_
        · intro W hSW; go_simp; try (with_reducible rfl)
        simp only [Act.put, List.getElem_toArray, List.getElem_cons_succ, List.getElem_cons_zero, List.setIfInBounds_toArray, List.set_cons_zero, List.set_cons_succ]
        refine wpAnyH_take (i := 9) (v := .string l2) rfl (by kernel_rfl) (by kernel_rfl) (by kernel_rfl) (fun _ _ _ h => h) (Or.inl ⟨by rfl, ?_⟩) (by first | assumption | exact trivial) ?_
        · intro W hSW; go_simp; try (with_reducible rfl)
        simp only [Act.put, List.getElem_toArray, List.getElem_cons_succ, List.getElem_cons_zero, List.setIfInBounds_toArray, List.set_cons_zero, List.set_cons_succ]
        refine wpAnyH_done (by kernel_rfl) ?_ _
        have HB2 : Hid (Below wr.heap.size wr w4) := HF1.out.trans (S4.2.2.mono HF1.out.size)
        clear S0 S4 hM hN y1 y2
        go_wp2
        go_roundw
        case rel => exact ⟨2, by omega, by go_num, by rw [HL2.out], HAr.out.below HB2.out, HB.out.trans (HB2.out.mono HBS)⟩
        case measure => simp [intOf]
      · rw [show sB (sg 2) = ⟨#[58]⟩ from rfl] at HE z2 z3
        simp only [show ((2 : Nat) : Int) = 2 from rfl]
        go_wp2_with (rw [ixf2])
        obtain ⟨W1, hW1⟩ : ∃ W1, wr.alloc (.cells #[.string ⟨#[58]⟩, .int .i64 2] 56) = W1 := ⟨_, rfl⟩
        obtain ⟨hf1, hf2, hf3⟩ := fm_new0 wr _ _ W1 hW1
        rw [hW1]
        obtain ⟨sv, hsv⟩ : ∃ sv, (⟨#[58]⟩ : ByteArray) = sv := ⟨_, rfl⟩
        rw [hsv] at hf3 HE z2 z3
        obtain ⟨M, hM⟩ : ∃ M, sv ++ D = M := ⟨_, rfl⟩
        rw [hM] at HE z2
        have y1 : ¬ 9223372036854775807 < sv.size + D.size := by omega
        have y2 : ¬ 9223372036854775807 < l.size + M.size := by omega
        have hN : l ++ M = l2 := HE.symm
        have HS2 : Hid (∀ W, Below W1.heap.size W1 W → W.cell? ⟨g, 2, none⟩ = some (.int .i64 x) ∧ W.cell? ⟨wr.heap.size, 0, none⟩ = some (.string sv) ∧ Below W1.heap.size W1 W) := fun W hW => ⟨HCL.out W (hf1.trans (hW.mono (by omega))), hf3 W hW, hW⟩
        have HP : Hid (∀ W, Below W1.heap.size W1 W → Calls Tryd.prog 44 #[.int .i64 x] W fun e w' => e = .returned (.string D) ∧ Hid (Below W.heap.size W w')) := fun W hW => HIt.out W (HB.out.trans ((hf1.trans (hW.mono (by omega))).mono HBS))
        have HF1 := Lib.hid hf1
        have HF2 := Lib.hid hf2
        have S0 := HS2.out W1.drew (Below.refl _ W1).drew
        clear hf1 hf2 hf3 hW1 hsv HE z1 z2 z3 z4
        refine wp_region_held_drew (S := fun W => W.cell? ⟨g, 2, none⟩ = some (.int .i64 x) ∧ W.cell? ⟨wr.heap.size, 0, none⟩ = some (.string sv) ∧ Below W1.heap.size W1 W) (by kernel_rfl) S0 (fun hHeld => ?_)
        refine wpAnyH_take (i := 0) (v := .string l) rfl (by kernel_rfl) (by kernel_rfl) (by kernel_rfl) (fun _ _ _ h => h) (Or.inl ⟨by rfl, ?_⟩) (by first | assumption | exact trivial) ?_
        · intro W hSW; go_simp; try (with_reducible rfl)
        simp only [Act.put, List.getElem_toArray, List.getElem_cons_succ, List.getElem_cons_zero, List.setIfInBounds_toArray, List.set_cons_zero, List.set_cons_succ]
        refine wpAnyH_take (i := 1) (v := .pointer (some ⟨wr.heap.size, 0, none⟩)) rfl (by kernel_rfl) (by kernel_rfl) (by kernel_rfl) (fun _ _ _ h => h) (Or.inl ⟨by rfl, ?_⟩) (by first | assumption | exact trivial) ?_
        · intro W hSW; go_simp; try (with_reducible rfl)
        simp only [Act.put, List.getElem_toArray, List.getElem_cons_succ, List.getElem_cons_zero, List.setIfInBounds_toArray, List.set_cons_zero, List.set_cons_succ]
        refine wpAnyH_take (i := 2) (v := .string sv) rfl (by kernel_rfl) (by kernel_rfl) (by kernel_rfl) (fun _ _ _ h => h) (Or.inl ⟨by rfl, ?_⟩) (by first | assumption | exact trivial) ?_
        · intro W hSW; have q6 := hSW.2.1; go_simp; try (with_reducible rfl)
        simp only [Act.put, List.getElem_toArray, List.getElem_cons_succ, List.getElem_cons_zero, List.setIfInBounds_toArray, List.set_cons_zero, List.set_cons_succ]
        refine wpAnyH_take (i := 3) (v := .int .i64 2) rfl (by kernel_rfl) (by kernel_rfl) (by kernel_rfl) (fun _ _ _ h => h) (Or.inl ⟨by rfl, ?_⟩) (by first | assumption | exact trivial) ?_
        · intro W hSW; go_simp; try (with_reducible rfl)
        simp only [Act.put, List.getElem_toArray, List.getElem_cons_succ, List.getElem_cons_zero, List.setIfInBounds_toArray, List.set_cons_zero, List.set_cons_succ]
        refine wpAnyH_take (i := 4) (v := .pointer (some ⟨g, 2, none⟩)) rfl (by kernel_rfl) (by kernel_rfl) (by kernel_rfl) (fun _ _ _ h => h) (Or.inl ⟨by rfl, ?_⟩) (by first | assumption | exact trivial) ?_
        · intro W hSW; go_simp; try (with_reducible rfl)
        simp only [Act.put, List.getElem_toArray, List.getElem_cons_succ, List.getElem_cons_zero, List.setIfInBounds_toArray, List.set_cons_zero, List.set_cons_succ]
        refine wpAnyH_take (i := 5) (v := .int .i64 x) rfl (by kernel_rfl) (by kernel_rfl) (by kernel_rfl) (fun _ _ _ h => h) (Or.inl ⟨by rfl, ?_⟩) (by first | assumption | exact trivial) ?_
        · intro W hSW; have q3 := hSW.1; go_simp; try (with_reducible rfl)
        simp only [Act.put, List.getElem_toArray, List.getElem_cons_succ, List.getElem_cons_zero, List.setIfInBounds_toArray, List.set_cons_zero, List.set_cons_succ]
        refine wpAnyH_ready (rs := [6]) (by kernel_rfl) (by simp) ?_
        refine AllReadyH.cons rfl (fun K hK => ?_) AllReadyH.nil
        go_simp
        go_wp2_with (go_at_call 44; refine (HP.out _ S0.2.2).mono ?_; rintro e w4 ⟨rfl, hS4⟩)
        have S4 := HS2.out w4 (S0.2.2.trans (hS4.out.mono S0.2.2.size))
        refine hK.out _ _ (S4) (fun hHeld => ?_)
        clear hK K
        refine wpAnyH_take (i := 7) (v := .string M) rfl (by kernel_rfl) (by kernel_rfl) (by kernel_rfl) (fun _ _ _ h => h) (Or.inl ⟨by rfl, ?_⟩) (by first | assumption | exact trivial) ?_
        · intro W hSW; go_simp; try (with_reducible rfl)
        simp only [Act.put, List.getElem_toArray, List.getElem_cons_succ, List.getElem_cons_zero, List.setIfInBounds_toArray, List.set_cons_zero, List.set_cons_succ]
        refine wpAnyH_take (i := 8) (v := .string l2) rfl (by kernel_rfl) (by kernel_rfl) (by kernel_rfl) (fun _ _ _ h => h) (Or.inl ⟨by rfl, ?_⟩) (by first | assumption | exact trivial) ?_
        · intro W hSW; go_simp; try (with_reducible rfl)
        simp only [Act.put, List.getElem_toArray, List.getElem_cons_succ, List.getElem_cons_zero, List.setIfInBounds_toArray, List.set_cons_zero, List.set_cons_succ]
        refine wpAnyH_take (i := 9) (v := .string l2) rfl (by kernel_rfl) (by kernel_rfl) (by kernel_rfl) (fun _ _ _ h => h) (Or.inl ⟨by rfl, ?_⟩) (by first | assumption | exact trivial) ?_
        · intro W hSW; go_simp; try (with_reducible rfl)
        simp only [Act.put, List.getElem_toArray, List.getElem_cons_succ, List.getElem_cons_zero, List.setIfInBounds_toArray, List.set_cons_zero, List.set_cons_succ]
        refine wpAnyH_done (by kernel_rfl) ?_ _
        have HB2 : Hid (Below wr.heap.size wr w4) := HF1.out.trans (S4.2.2.mono HF1.out.size)
        clear S0 S4 hM hN y1 y2
        go_wp2
        go_roundw
        case rel => exact ⟨3, by omega, by go_num, by rw [HL2.out], HAr.out.below HB2.out, HB.out.trans (HB2.out.mono HBS)⟩
        case measure => simp [intOf]
      · rw [show sB (sg 3) = ⟨#[46]⟩ from rfl] at HE z2 z3
        simp only [show ((3 : Nat) : Int) = 3 from rfl]
        go_wp2_with (rw [ixf3])
        obtain ⟨W1, hW1⟩ : ∃ W1, wr.alloc (.cells #[.string ⟨#[46]⟩, .int .i64 2] 56) = W1 := ⟨_, rfl⟩
        obtain ⟨hf1, hf2, hf3⟩ := fm_new0 wr _ _ W1 hW1
        rw [hW1]
        obtain ⟨sv, hsv⟩ : ∃ sv, (⟨#[46]⟩ : ByteArray) = sv := ⟨_, rfl⟩
        rw [hsv] at hf3 HE z2 z3
        obtain ⟨M, hM⟩ : ∃ M, sv ++ D = M := ⟨_, rfl⟩
        rw [hM] at HE z2
        have y1 : ¬ 9223372036854775807 < sv.size + D.size := by omega
        have y2 : ¬ 9223372036854775807 < l.size + M.size := by omega
        have hN : l ++ M = l2 := HE.symm
        have HS2 : Hid (∀ W, Below W1.heap.size W1 W → W.cell? ⟨g, 3, none⟩ = some (.int .i64 x) ∧ W.cell? ⟨wr.heap.size, 0, none⟩ = some (.string sv) ∧ Below W1.heap.size W1 W) := fun W hW => ⟨HCL.out W (hf1.trans (hW.mono (by omega))), hf3 W hW, hW⟩
        have HP : Hid (∀ W, Below W1.heap.size W1 W → Calls Tryd.prog 44 #[.int .i64 x] W fun e w' => e = .returned (.string D) ∧ Hid (Below W.heap.size W w')) := fun W hW => HIt.out W (HB.out.trans ((hf1.trans (hW.mono (by omega))).mono HBS))
        have HF1 := Lib.hid hf1
        have HF2 := Lib.hid hf2
        have S0 := HS2.out W1.drew (Below.refl _ W1).drew
        clear hf1 hf2 hf3 hW1 hsv HE z1 z2 z3 z4
        refine wp_region_held_drew (S := fun W => W.cell? ⟨g, 3, none⟩ = some (.int .i64 x) ∧ W.cell? ⟨wr.heap.size, 0, none⟩ = some (.string sv) ∧ Below W1.heap.size W1 W) (by kernel_rfl) S0 (fun hHeld => ?_)
        refine wpAnyH_take (i := 0) (v := .string l) rfl (by kernel_rfl) (by kernel_rfl) (by kernel_rfl) (fun _ _ _ h => h) (Or.inl ⟨by rfl, ?_⟩) (by first | assumption | exact trivial) ?_
        · intro W hSW; go_simp; try (with_reducible rfl)
        simp only [Act.put, List.getElem_toArray, List.getElem_cons_succ, List.getElem_cons_zero, List.setIfInBounds_toArray, List.set_cons_zero, List.set_cons_succ]
        refine wpAnyH_take (i := 1) (v := .pointer (some ⟨wr.heap.size, 0, none⟩)) rfl (by kernel_rfl) (by kernel_rfl) (by kernel_rfl) (fun _ _ _ h => h) (Or.inl ⟨by rfl, ?_⟩) (by first | assumption | exact trivial) ?_
        · intro W hSW; go_simp; try (with_reducible rfl)
        simp only [Act.put, List.getElem_toArray, List.getElem_cons_succ, List.getElem_cons_zero, List.setIfInBounds_toArray, List.set_cons_zero, List.set_cons_succ]
        refine wpAnyH_take (i := 2) (v := .string sv) rfl (by kernel_rfl) (by kernel_rfl) (by kernel_rfl) (fun _ _ _ h => h) (Or.inl ⟨by rfl, ?_⟩) (by first | assumption | exact trivial) ?_
        · intro W hSW; have q6 := hSW.2.1; go_simp; try (with_reducible rfl)
        simp only [Act.put, List.getElem_toArray, List.getElem_cons_succ, List.getElem_cons_zero, List.setIfInBounds_toArray, List.set_cons_zero, List.set_cons_succ]
        refine wpAnyH_take (i := 3) (v := .int .i64 3) rfl (by kernel_rfl) (by kernel_rfl) (by kernel_rfl) (fun _ _ _ h => h) (Or.inl ⟨by rfl, ?_⟩) (by first | assumption | exact trivial) ?_
        · intro W hSW; go_simp; try (with_reducible rfl)
        simp only [Act.put, List.getElem_toArray, List.getElem_cons_succ, List.getElem_cons_zero, List.setIfInBounds_toArray, List.set_cons_zero, List.set_cons_succ]
        refine wpAnyH_take (i := 4) (v := .pointer (some ⟨g, 3, none⟩)) rfl (by kernel_rfl) (by kernel_rfl) (by kernel_rfl) (fun _ _ _ h => h) (Or.inl ⟨by rfl, ?_⟩) (by first | assumption | exact trivial) ?_
        · intro W hSW; go_simp; try (with_reducible rfl)
        simp only [Act.put, List.getElem_toArray, List.getElem_cons_succ, List.getElem_cons_zero, List.setIfInBounds_toArray, List.set_cons_zero, List.set_cons_succ]
        refine wpAnyH_take (i := 5) (v := .int .i64 x) rfl (by kernel_rfl) (by kernel_rfl) (by kernel_rfl) (fun _ _ _ h => h) (Or.inl ⟨by rfl, ?_⟩) (by first | assumption | exact trivial) ?_
        · intro W hSW; have q3 := hSW.1; go_simp; try (with_reducible rfl)
        simp only [Act.put, List.getElem_toArray, List.getElem_cons_succ, List.getElem_cons_zero, List.setIfInBounds_toArray, List.set_cons_zero, List.set_cons_succ]
        refine wpAnyH_ready (rs := [6]) (by kernel_rfl) (by simp) ?_
        refine AllReadyH.cons rfl (fun K hK => ?_) AllReadyH.nil
        go_simp
        go_wp2_with (go_at_call 44; refine (HP.out _ S0.2.2).mono ?_; rintro e w4 ⟨rfl, hS4⟩)
        have S4 := HS2.out w4 (S0.2.2.trans (hS4.out.mono S0.2.2.size))
        refine hK.out _ _ (S4) (fun hHeld => ?_)
        clear hK K
        refine wpAnyH_take (i := 7) (v := .string M) rfl (by kernel_rfl) (by kernel_rfl) (by kernel_rfl) (fun _ _ _ h => h) (Or.inl ⟨by rfl, ?_⟩) (by first | assumption | exact trivial) ?_
        · intro W hSW; go_simp; try (with_reducible rfl)
        simp only [Act.put, List.getElem_toArray, List.getElem_cons_succ, List.getElem_cons_zero, List.setIfInBounds_toArray, List.set_cons_zero, List.set_cons_succ]
        refine wpAnyH_take (i := 8) (v := .string l2) rfl (by kernel_rfl) (by kernel_rfl) (by kernel_rfl) (fun _ _ _ h => h) (Or.inl ⟨by rfl, ?_⟩) (by first | assumption | exact trivial) ?_
        · intro W hSW; go_simp; try (with_reducible rfl)
        simp only [Act.put, List.getElem_toArray, List.getElem_cons_succ, List.getElem_cons_zero, List.setIfInBounds_toArray, List.set_cons_zero, List.set_cons_succ]
        refine wpAnyH_take (i := 9) (v := .string l2) rfl (by kernel_rfl) (by kernel_rfl) (by kernel_rfl) (fun _ _ _ h => h) (Or.inl ⟨by rfl, ?_⟩) (by first | assumption | exact trivial) ?_
        · intro W hSW; go_simp; try (with_reducible rfl)
        simp only [Act.put, List.getElem_toArray, List.getElem_cons_succ, List.getElem_cons_zero, List.setIfInBounds_toArray, List.set_cons_zero, List.set_cons_succ]
        refine wpAnyH_done (by kernel_rfl) ?_ _
        have HB2 : Hid (Below wr.heap.size wr w4) := HF1.out.trans (S4.2.2.mono HF1.out.size)
        clear S0 S4 hM hN y1 y2
        go_wp2
        go_roundw
        case rel => exact ⟨4, by omega, by go_num, by rw [HL2.out], HAr.out.below HB2.out, HB.out.trans (HB2.out.mono HBS)⟩
        case measure => simp [intOf]
    · obtain rfl : k = 4 := by omega
      go_wp2
      try rw [Exit.noGoto_ret]
      go_ret2
      exact ⟨rfl, HB.out⟩
end Go.Proofs.YtljndfkmppmbkaaDoor.Mg
