/- The event of bytes: the program's GetEv. -/
import Derived.Test.YtpofdimagfldnaaZ5
import Derived.Test.YtpofdimagfldnaaZ15
namespace Go.Proofs.Ytpofdimagfldnaa.So
open Go.RowKit
open Go.Proofs.Ytpofdimagfldnaa.Me Go.Proofs.Ytpofdimagfldnaa.Sb
open Go.Proofs.Ytpofdimagfldnaa.Mg (by_below own_setRow own_ty msg_one5)
set_option linter.unusedVariables false
set_option linter.unusedSimpArgs false

/-- What GetEv answers. -/
def GeE (l : List Nat) (w : World) (e : Ending) (w' : World) : Prop :=
  ∃ A c, e = .returned (.tuple #[.agg (evC (geK l) (gI l) A (gD l).length c), .int .i64 (geZ l : Int)]) ∧ Hid (Me.Own w' w.heap.size (.slice A (gD l).length c) (gD l)) ∧ Hid (Below w.heap.size w w')
theorem GeE.no {l : List Nat} {w w' : World} {e : Ending} (h : geZ l = 2) (he : e = .returned (.tuple #[.agg #[.int .i64 0, .int .i64 0, .int .i64 0, .int .i64 0, .int .i64 0, .slice none 0 0], .int .i64 2])) (hb : Below w.heap.size w w') : GeE l w e w' := by
  have h3 : geK l = 0 ∧ gI l = zeroI ∧ gD l = [] := by
    cases l with
    | nil => exact ⟨rfl, rfl, rfl⟩
    | cons k r =>
      have ho : geO k r = false := by
        have h' : (if geO (k : Int) r = true then 0 else 2) = 2 := h
        by_cases hc : geO (k : Int) r = true
        · rw [if_pos hc] at h'; cases h'
        · simpa using hc
      obtain ⟨h1, h2, _⟩ := geI_none ho
      exact ⟨by show (if geO (k : Int) r = true then (k : Int) else 0) = 0; rw [ho]; rfl, h1, h2⟩
  unfold GeE
  rw [h3.1, h3.2.1, h3.2.2, h]
  exact ⟨none, 0, he, Me.Own.nil _ _, hb⟩
theorem ev_one (k o d e c : Int) (A : Option Addr) (n q : Nat) : (#[.int .i64 k, .int .i64 o, .int .i64 d, .int .i64 e, .int .i64 c, .slice A n q] : Array Value).all (·.oneCell') = true := by simp [Value.oneCell']
set_option maxRecDepth 100000 in
set_option maxHeartbeats 16000000 in
theorem ge_ok (w V : World) (b off m R k N0 nD : Nat) (o d ee cc : Int) (A' : Option Addr) (r D : List Nat)
    (HX : Hid (V.heap[w.heap.size]? = some (.cells #[.int .i64 0, .int .i64 0, .int .i64 0, .int .i64 0, .int .i64 0, .slice none 0 0] 60 (0, 0)))) (HBL : Hid (b < w.heap.size)) (HB : Hid (Below w.heap.size w V)) (HV : Hid (w.alloc (.cells #[.int .i64 0, .int .i64 0, .int .i64 0, .int .i64 0, .int .i64 0, .slice none 0 0] 60) = V)) (HXl : Hid (w.heap.size < V.heap.size))
    (HC0 : Hid (∀ W, Below w.heap.size w W → W.cell? ⟨b, off, none⟩ = some (.int .u8 (k : Int)))) (HA' : Hid ((if R = 0 then (some ⟨b, off, none⟩ : Option Addr) else some ⟨b, off + 1, none⟩) = A'))
    (HG : Hid (∀ W, Below w.heap.size w W → Calls Try.prog 54 #[.int .i64 k, .slice A' m R] W fun e w' => ∃ A c, e = .returned (.tuple #[.agg #[.int .i64 o, .int .i64 d, .int .i64 ee, .int .i64 cc, .slice A nD c], .int .i64 ((0 : Nat) : Int)]) ∧ Hid (Me.Own w' W.heap.size (.slice A nD c) D) ∧ Hid (Below W.heap.size W w')))
    (HGE : Hid (∀ e w', ((0 : Nat) = 2 → e = .returned (.tuple #[.agg #[.int .i64 0, .int .i64 0, .int .i64 0, .int .i64 0, .int .i64 0, .slice none 0 0], .int .i64 2]) → Below w.heap.size w w' → GeE (k :: r) w e w') ∧
        ((0 : Nat) = 0 → ∀ A c, e = .returned (.tuple #[.agg #[.int .i64 (k : Int), .int .i64 o, .int .i64 d, .int .i64 ee, .int .i64 cc, .slice A nD c], .int .i64 0]) → Me.Own w' w.heap.size (.slice A nD c) D → Below w.heap.size w w' → GeE (k :: r) w e w')))
    (m1 : ((1 + (m : Int)) == 0) = false) (m3 : 1 ≤ 1 + R) (m4 : 1 ≤ 1 + (R : Int)) (m5 : 1 ≤ 1 + m) (m7 : 1 ≤ 1 + (m : Int)) (m8 : ¬ (1 + (m : Int) ≤ 0)) (HWK : Hid (IntKind.i64.wrap (k : Int) = (k : Int))) (HN0 : Hid (V.heap.size = N0)) (k0 : 0 ≤ (k : Int)) (k1 : (k : Int) ≤ 255) :
    Calls Try.prog 26 #[.slice (some ⟨b, off, none⟩) (1 + m) (1 + R)] w (GeE (k :: r) w) := by
  simp only [show ((0 : Nat) : Int) = 0 from rfl] at HG
  have S0 : Below N0 V V.drew := by rw [← HN0.out]; exact (Below.refl _ _).drew
  have HT : Hid (∀ W, Below N0 V W → Below V.heap.size V W) := fun W h => by rw [HN0.out]; exact h
  go_enter Try.func26, Try.ntmps26
  go_wp2
  rw [HV.out]
  refine wp_region_held_drew (S := fun W => Below N0 V W) (by kernel_rfl) S0 (fun hHeld => ?_)
  refine wpAnyH_take (i := 0) (v := .slice (some ⟨b, off, none⟩) (1 + m) (1 + R)) rfl (by kernel_rfl) (by kernel_rfl) (by kernel_rfl) (fun _ _ _ h => h) (Or.inl ⟨by rfl, ?_⟩) (by first | assumption | exact trivial) ?_
  · intro W hSW; go_simp; try (with_reducible rfl)
  simp only [Act.put, List.getElem_toArray, List.getElem_cons_succ, List.getElem_cons_zero, List.setIfInBounds_toArray, List.set_cons_zero, List.set_cons_succ]
  refine wpAnyH_take (i := 1) (v := .pointer (some ⟨b, off, none⟩)) rfl (by kernel_rfl) (by kernel_rfl) (by kernel_rfl) (fun _ _ _ h => h) (Or.inl ⟨by rfl, ?_⟩) (by first | assumption | exact trivial) ?_
  · intro W hSW; go_simp; try (with_reducible rfl)
  simp only [Act.put, List.getElem_toArray, List.getElem_cons_succ, List.getElem_cons_zero, List.setIfInBounds_toArray, List.set_cons_zero, List.set_cons_succ]
  refine wpAnyH_take (i := 2) (v := .int .u8 (k : Int)) rfl (by kernel_rfl) (by kernel_rfl) (by kernel_rfl) (fun _ _ _ h => h) (Or.inl ⟨by rfl, ?_⟩) (by first | assumption | exact trivial) ?_
  · intro W hSW; have q := HC0.out W (go_on HB.out (HT.out _ hSW)); go_simp; try (with_reducible rfl)
  simp only [Act.put, List.getElem_toArray, List.getElem_cons_succ, List.getElem_cons_zero, List.setIfInBounds_toArray, List.set_cons_zero, List.set_cons_succ]
  refine wpAnyH_take (i := 3) (v := .int .i64 (k : Int)) rfl (by kernel_rfl) (by kernel_rfl) (by kernel_rfl) (fun _ _ _ h => h) (Or.inl ⟨by rfl, ?_⟩) (by first | assumption | exact trivial) ?_
  · intro W hSW; have q := HWK.out; go_simp; try (with_reducible rfl)
  simp only [Act.put, List.getElem_toArray, List.getElem_cons_succ, List.getElem_cons_zero, List.setIfInBounds_toArray, List.set_cons_zero, List.set_cons_succ]
  refine wpAnyH_take (i := 4) (v := .slice (some ⟨b, off, none⟩) (1 + m) (1 + R)) rfl (by kernel_rfl) (by kernel_rfl) (by kernel_rfl) (fun _ _ _ h => h) (Or.inl ⟨by rfl, ?_⟩) (by first | assumption | exact trivial) ?_
  · intro W hSW; go_simp; try (with_reducible rfl)
  simp only [Act.put, List.getElem_toArray, List.getElem_cons_succ, List.getElem_cons_zero, List.setIfInBounds_toArray, List.set_cons_zero, List.set_cons_succ]
  refine wpAnyH_take (i := 5) (v := .slice A' m R) rfl (by kernel_rfl) (by kernel_rfl) (by kernel_rfl) (fun _ _ _ h => h) (Or.inl ⟨by rfl, ?_⟩) (by first | assumption | exact trivial) ?_
  · intro W hSW; rw [← HA'.out]; go_simp; try (with_reducible rfl)
  simp only [Act.put, List.getElem_toArray, List.getElem_cons_succ, List.getElem_cons_zero, List.setIfInBounds_toArray, List.set_cons_zero, List.set_cons_succ]
  refine wpAnyH_ready (rs := [6, 10]) (by kernel_rfl) (by simp) ?_
  refine AllReadyH.cons rfl (fun K hK => ?pa) (AllReadyH.cons rfl (fun K hK => ?pb) AllReadyH.nil)
  case' pa =>
    go_simp
    go_wp2_with (go_at_call 54; refine (HG.out _ (go_on HB.out (HT.out _ S0))).mono ?_; rintro e w2 ⟨A2, c2, rfl, ho2, hb2⟩)
    have k2 : Below N0 V w2 := S0.trans (hb2.out.mono (by have := S0.size; have := HN0.out; omega))
    refine hK.out _ _ (k2) (fun hHeld => ?_)
    clear hK K
    refine wpAnyH_take (i := 7) (v := .tuple #[.agg #[.int .i64 o, .int .i64 d, .int .i64 ee, .int .i64 cc, .slice A2 nD c2], .int .i64 0]) rfl (by kernel_rfl) (by kernel_rfl) (by kernel_rfl) (fun _ _ _ h => h) (Or.inl ⟨by rfl, ?_⟩) (by first | assumption | exact trivial) ?_
    · intro W hSW; go_simp; try (with_reducible rfl)
    simp only [Act.put, List.getElem_toArray, List.getElem_cons_succ, List.getElem_cons_zero, List.setIfInBounds_toArray, List.set_cons_zero, List.set_cons_succ]
    refine wpAnyH_take (i := 8) (v := .agg #[.int .i64 o, .int .i64 d, .int .i64 ee, .int .i64 cc, .slice A2 nD c2]) rfl (by kernel_rfl) (by kernel_rfl) (by kernel_rfl) (fun _ _ _ h => h) (Or.inl ⟨by rfl, ?_⟩) (by first | assumption | exact trivial) ?_
    · intro W hSW; go_simp; try (with_reducible rfl)
    simp only [Act.put, List.getElem_toArray, List.getElem_cons_succ, List.getElem_cons_zero, List.setIfInBounds_toArray, List.set_cons_zero, List.set_cons_succ]
    refine wpAnyH_take (i := 9) (v := .int .i64 0) rfl (by kernel_rfl) (by kernel_rfl) (by kernel_rfl) (fun _ _ _ h => h) (Or.inl ⟨by rfl, ?_⟩) (by first | assumption | exact trivial) ?_
    · intro W hSW; go_simp; try (with_reducible rfl)
    simp only [Act.put, List.getElem_toArray, List.getElem_cons_succ, List.getElem_cons_zero, List.setIfInBounds_toArray, List.set_cons_zero, List.set_cons_succ]
    refine wpAnyH_ready (rs := [10]) (by kernel_rfl) (by simp) ?_
    refine AllReadyH.cons rfl (fun K hK => ?_) AllReadyH.nil
    go_simp
    obtain ⟨V6, hV6⟩ : ∃ X, w2.alloc (.cells #[.int .i64 0, .int .i64 0, .int .i64 0, .int .i64 0, .slice none 0 0] 46) = X := ⟨_, rfl⟩
    have hb6 : Below N0 V V6 := by rw [← hV6]; exact k2.trans ((Me.below_alloc (Below.refl _ _)).mono (by have := k2.size; have := HN0.out; omega))
    have ho6 : Me.Own V6 V.heap.size (.slice A2 nD c2) D := by
      rw [← hV6]
      exact (own_base ho2.out fun q e => Nat.le_trans (HT.out _ S0).size (World.ownsRow.lt ho2.out q e).1 : Me.Own w2 V.heap.size (.slice A2 nD c2) D).alloc _
    have hD6 : V6.heap[w2.heap.size]? = some (.cells #[.int .i64 0, .int .i64 0, .int .i64 0, .int .i64 0, .slice none 0 0] 46 (0, 0)) := by rw [← hV6]; exact heap_alloc_new w2 _
    obtain ⟨X, hX⟩ : ∃ X, w2.heap.size = X := ⟨_, rfl⟩
    have hXX : N0 ≤ X := by have := k2.size; have := HN0.out; omega
    rw [hV6]
    rw [hX] at hD6 ⊢
    clear hV6 hX
    refine hK.out _ _ (hb6) (fun hHeld => ?_)
    clear hK K
  case' pb =>
    go_simp
    obtain ⟨V5, hV5⟩ : ∃ X, (V.alloc (.cells #[.int .i64 0, .int .i64 0, .int .i64 0, .int .i64 0, .slice none 0 0] 46)).drew = X := ⟨_, rfl⟩
    have hb5 : Below N0 V V5 := by rw [← hV5, ← HN0.out]; exact (Me.below_alloc (Below.refl _ _)).drew
    have hD5 : V5.heap[V.heap.size]? = some (.cells #[.int .i64 0, .int .i64 0, .int .i64 0, .int .i64 0, .slice none 0 0] 46 (0, 0)) := by rw [← hV5]; exact heap_alloc_new V _
    obtain ⟨X, hX⟩ : ∃ X, V.heap.size = X := ⟨_, rfl⟩
    have hXX : N0 ≤ X := by have := HN0.out; omega
    rw [hV5]
    have hD5' := hD5
    rw [hX] at hD5'
    have hXl : X < V5.heap.size := (Array.getElem?_eq_some_iff.1 hD5').1
    have HXe : Hid (V.heap.size = X) := hX
    clear hV5 hX hD5
    refine hK.out _ _ (hb5) (fun hHeld => ?_)
    clear hK K
    refine wpAnyH_ready (rs := [6]) (by kernel_rfl) (by simp) ?_
    refine AllReadyH.cons rfl (fun K hK => ?_) AllReadyH.nil
    go_simp
    go_wp2_with (go_at_call 54; refine (HG.out _ (go_on HB.out (HT.out _ hb5))).mono ?_; rintro e V6 ⟨A2, c2, rfl, ho2, hb2⟩)
    have hb6 : Below N0 V V6 := hb5.trans (hb2.out.mono (by have := hb5.size; have := HN0.out; omega))
    have ho6 : Me.Own V6 V.heap.size (.slice A2 nD c2) D := own_base ho2.out fun q e => Nat.le_trans (HT.out _ hb5).size (World.ownsRow.lt ho2.out q e).1
    have hD6 := (hb2.out.block _ hXl).trans hD5'
    refine hK.out _ _ (hb6) (fun hHeld => ?_)
    clear hK K
    refine wpAnyH_take (i := 7) (v := .tuple #[.agg #[.int .i64 o, .int .i64 d, .int .i64 ee, .int .i64 cc, .slice A2 nD c2], .int .i64 0]) rfl (by kernel_rfl) (by kernel_rfl) (by kernel_rfl) (fun _ _ _ h => h) (Or.inl ⟨by rfl, ?_⟩) (by first | assumption | exact trivial) ?_
    · intro W hSW; go_simp; try (with_reducible rfl)
    simp only [Act.put, List.getElem_toArray, List.getElem_cons_succ, List.getElem_cons_zero, List.setIfInBounds_toArray, List.set_cons_zero, List.set_cons_succ]
    refine wpAnyH_take (i := 8) (v := .agg #[.int .i64 o, .int .i64 d, .int .i64 ee, .int .i64 cc, .slice A2 nD c2]) rfl (by kernel_rfl) (by kernel_rfl) (by kernel_rfl) (fun _ _ _ h => h) (Or.inl ⟨by rfl, ?_⟩) (by first | assumption | exact trivial) ?_
    · intro W hSW; go_simp; try (with_reducible rfl)
    simp only [Act.put, List.getElem_toArray, List.getElem_cons_succ, List.getElem_cons_zero, List.setIfInBounds_toArray, List.set_cons_zero, List.set_cons_succ]
    refine wpAnyH_take (i := 9) (v := .int .i64 0) rfl (by kernel_rfl) (by kernel_rfl) (by kernel_rfl) (fun _ _ _ h => h) (Or.inl ⟨by rfl, ?_⟩) (by first | assumption | exact trivial) ?_
    · intro W hSW; go_simp; try (with_reducible rfl)
    simp only [Act.put, List.getElem_toArray, List.getElem_cons_succ, List.getElem_cons_zero, List.setIfInBounds_toArray, List.set_cons_zero, List.set_cons_succ]
    rw [HXe.out]
  all_goals
    refine wpAnyH_ready (rs := [11]) (by kernel_rfl) (by simp) ?_
    refine AllReadyH.cons rfl (fun K hK => ?_) AllReadyH.nil
    rw [if_pos (by kernel_rfl)]
    refine wp_store_row 46 (.tmp 4) (.tmp 18) rfl X #[.int .i64 o, .int .i64 d, .int .i64 ee, .int .i64 cc, .slice A2 nD c2] rfl (by rfl) 46 _ hD6 (by kernel_rfl) rfl (msg_one5 _ _ _ _ _ _ _) ?_
    simp only [Act.put, List.getElem_toArray, List.getElem_cons_succ, List.getElem_cons_zero, List.setIfInBounds_toArray, List.set_cons_zero, List.set_cons_succ]
    obtain ⟨V9, hV9⟩ : ∃ Y, V6.setRow X #[.int .i64 o, .int .i64 d, .int .i64 ee, .int .i64 cc, .slice A2 nD c2] = Y := ⟨_, rfl⟩
    have hb9 : Below N0 V V9 := by rw [← hV9]; exact Sb.below_setRow _ hb6 hXX
    have hD9 : V9.heap[X]? = some (.cells #[.int .i64 o, .int .i64 d, .int .i64 ee, .int .i64 cc, .slice A2 nD c2] 46 (0, 0)) := by rw [← hV9]; exact setRow_heap _ _ _ _ _ _ hD6
    have ho9 : Me.Own V9 V.heap.size (.slice A2 nD c2) D := by rw [← hV9]; exact own_setRow _ ho6 (own_ty ho6 hD6 (by decide))
    rw [hV9]
    clear hV9
    refine hK.out _ _ (hb9) (fun hHeld => ?_)
    clear hK K
    refine wpAnyH_take (i := 12) (v := .int .i64 0) rfl (by kernel_rfl) (by kernel_rfl) (by kernel_rfl) (fun _ _ _ h => h) (Or.inl ⟨by rfl, ?_⟩) (by first | assumption | exact trivial) ?_
    · intro W hSW; go_simp; try (with_reducible rfl)
    simp only [Act.put, List.getElem_toArray, List.getElem_cons_succ, List.getElem_cons_zero, List.setIfInBounds_toArray, List.set_cons_zero, List.set_cons_succ]
    refine wpAnyH_done (by kernel_rfl) ?_ _
    have HB9 := Lib.hid (HT.out _ hb9)
    have HD9 := Lib.hid hD9
    have HO9 := Lib.hid ho9
    have HE9 : Hid (V9.heap[w.heap.size]? = some (.cells #[.int .i64 0, .int .i64 0, .int .i64 0, .int .i64 0, .int .i64 0, .slice none 0 0] 60 (0, 0))) := ((HT.out _ hb9).block _ HXl.out).trans HX.out
    clear hHeld hb9 hD9 ho9 hD6 ho6 hb6 hXX S0
    go_wp2
    have S1 : But (fun q => q = w.heap.size) V9 V9.drew := But.of_below (Below.refl _ _).drew
    have hXl9 : X < V9.heap.size := (Array.getElem?_eq_some_iff.1 HD9.out).1
    have HBW : Hid (Below w.heap.size w V9) := go_on HB.out HB9.out
    have HXW : Hid (¬ X = w.heap.size) := fun e => by
      have h1 := HD9.out
      rw [e, HE9.out] at h1
      simp at h1
    refine wp_region_held_drew (S := fun W => But (fun q => q = w.heap.size) V9 W) (by kernel_rfl) S1 (fun hHeld => ?_)
    refine wpAnyH_take (i := 0) (v := .slice (some ⟨b, off, none⟩) (1 + m) (1 + R)) rfl (by kernel_rfl) (by kernel_rfl) (by kernel_rfl) (fun _ _ _ h => h) (Or.inl ⟨by rfl, ?_⟩) (by first | assumption | exact trivial) ?_
    · intro W hSW; go_simp; try (with_reducible rfl)
    simp only [Act.put, List.getElem_toArray, List.getElem_cons_succ, List.getElem_cons_zero, List.setIfInBounds_toArray, List.set_cons_zero, List.set_cons_succ]
    refine wpAnyH_take (i := 1) (v := .pointer (some ⟨b, off, none⟩)) rfl (by kernel_rfl) (by kernel_rfl) (by kernel_rfl) (fun _ _ _ h => h) (Or.inl ⟨by rfl, ?_⟩) (by first | assumption | exact trivial) ?_
    · intro W hSW; go_simp; try (with_reducible rfl)
    simp only [Act.put, List.getElem_toArray, List.getElem_cons_succ, List.getElem_cons_zero, List.setIfInBounds_toArray, List.set_cons_zero, List.set_cons_succ]
    refine wpAnyH_take (i := 2) (v := .int .u8 (k : Int)) rfl (by kernel_rfl) (by kernel_rfl) (by kernel_rfl) (fun _ _ _ h => h) (Or.inl ⟨by rfl, ?_⟩) (by first | assumption | exact trivial) ?_
    · intro W hSW; have q := (World.cell?_of_block (w := V9) (a := ⟨b, off, none⟩) (hSW.same b (Nat.lt_of_lt_of_le HBL.out HBW.out.size) (fun e => by have := HBL.out; omega))).trans (HC0.out V9 HBW.out); go_simp; try (with_reducible rfl)
    simp only [Act.put, List.getElem_toArray, List.getElem_cons_succ, List.getElem_cons_zero, List.setIfInBounds_toArray, List.set_cons_zero, List.set_cons_succ]
    refine wpAnyH_take (i := 3) (v := .int .i64 (k : Int)) rfl (by kernel_rfl) (by kernel_rfl) (by kernel_rfl) (fun _ _ _ h => h) (Or.inl ⟨by rfl, ?_⟩) (by first | assumption | exact trivial) ?_
    · intro W hSW; have q := HWK.out; go_simp; try (with_reducible rfl)
    simp only [Act.put, List.getElem_toArray, List.getElem_cons_succ, List.getElem_cons_zero, List.setIfInBounds_toArray, List.set_cons_zero, List.set_cons_succ]
    refine wpAnyH_take (i := 4) (v := .agg #[.int .i64 o, .int .i64 d, .int .i64 ee, .int .i64 cc, .slice A2 nD c2]) rfl (by kernel_rfl) (by kernel_rfl) (by kernel_rfl) (fun _ _ _ h => h) (Or.inl ⟨by rfl, ?_⟩) (by first | assumption | exact trivial) ?_
    · intro W hSW; obtain ⟨q0, q1, q2, q3, q4⟩ := msg_cells (hSW.at_ HD9.out HXW.out); go_simp; try (with_reducible rfl)
    simp only [Act.put, List.getElem_toArray, List.getElem_cons_succ, List.getElem_cons_zero, List.setIfInBounds_toArray, List.set_cons_zero, List.set_cons_succ]
    refine wpAnyH_take (i := 5) (v := .agg #[.int .i64 (k : Int), .int .i64 o, .int .i64 d, .int .i64 ee, .int .i64 cc, .slice A2 nD c2]) rfl (by kernel_rfl) (by kernel_rfl) (by kernel_rfl) (fun _ _ _ h => h) (Or.inl ⟨by rfl, ?_⟩) (by first | assumption | exact trivial) ?_
    · intro W hSW; go_simp; try (with_reducible rfl)
    simp only [Act.put, List.getElem_toArray, List.getElem_cons_succ, List.getElem_cons_zero, List.setIfInBounds_toArray, List.set_cons_zero, List.set_cons_succ]
    refine wpAnyH_ready (rs := [6]) (by kernel_rfl) (by simp) ?_
    refine AllReadyH.cons rfl (fun K hK => ?_) AllReadyH.nil
    rw [if_pos (by kernel_rfl)]
    refine wp_store_row 60 (.tmp 2) (.tmp 29) rfl w.heap.size #[.int .i64 (k : Int), .int .i64 o, .int .i64 d, .int .i64 ee, .int .i64 cc, .slice A2 nD c2] rfl (by rfl) 60 _ HE9.out (by kernel_rfl) rfl (ev_one _ _ _ _ _ _ _ _) ?_
    simp only [Act.put, List.getElem_toArray, List.getElem_cons_succ, List.getElem_cons_zero, List.setIfInBounds_toArray, List.set_cons_zero, List.set_cons_succ]
    obtain ⟨V8, hV8⟩ : ∃ Y, V9.drew.setRow w.heap.size #[.int .i64 (k : Int), .int .i64 o, .int .i64 d, .int .i64 ee, .int .i64 cc, .slice A2 nD c2] = Y := ⟨_, rfl⟩
    have hD8 : V8.heap[w.heap.size]? = some (.cells #[.int .i64 (k : Int), .int .i64 o, .int .i64 d, .int .i64 ee, .int .i64 cc, .slice A2 nD c2] 60 (0, 0)) := by rw [← hV8]; exact setRow_heap _ _ _ _ _ _ HE9.out
    have hS8 : But (fun q => q = w.heap.size) V9 V8 := by rw [← hV8]; exact S1.setRow (.inl rfl) _
    have ho8 : Me.Own V8 w.heap.size (.slice A2 nD c2) D := own_base (own_same HO9.out fun q e hq => hS8.same q hq fun e2 => own_ty HO9.out HE9.out (by decide) (by rw [e, e2])) fun q e => Nat.le_trans HB.out.size (World.ownsRow.lt HO9.out q e).1
    have hb8 : Below w.heap.size w V8 := HBW.out.trans (hS8.below HBW.out.size fun q e => by omega)
    rw [hV8]
    clear hV8
    refine hK.out _ _ (hS8) (fun hHeld => ?_)
    clear hK K
    refine wpAnyH_take (i := 7) (v := .int .i64 0) rfl (by kernel_rfl) (by kernel_rfl) (by kernel_rfl) (fun _ _ _ h => h) (Or.inl ⟨by rfl, ?_⟩) (by first | assumption | exact trivial) ?_
    · intro W hSW; go_simp; try (with_reducible rfl)
    simp only [Act.put, List.getElem_toArray, List.getElem_cons_succ, List.getElem_cons_zero, List.setIfInBounds_toArray, List.set_cons_zero, List.set_cons_succ]
    refine wpAnyH_done (by kernel_rfl) ?_ _
    go_wp2
    exact Sb.ret_box2 (g := w.heap.size) rfl (by rfl) hD8 rfl Try.underlying60 (by kernel_rfl) rfl ((HGE.out _ _).2 (by trivial) A2 c2 rfl ho8 hb8)
set_option maxRecDepth 100000 in
set_option maxHeartbeats 16000000 in
theorem ge_no (w V : World) (b off m R k N0 nD : Nat) (o d ee cc : Int) (A' : Option Addr) (r D : List Nat)
    (HX : Hid (V.heap[w.heap.size]? = some (.cells #[.int .i64 0, .int .i64 0, .int .i64 0, .int .i64 0, .int .i64 0, .slice none 0 0] 60 (0, 0)))) (HBL : Hid (b < w.heap.size)) (HB : Hid (Below w.heap.size w V)) (HV : Hid (w.alloc (.cells #[.int .i64 0, .int .i64 0, .int .i64 0, .int .i64 0, .int .i64 0, .slice none 0 0] 60) = V)) (HXl : Hid (w.heap.size < V.heap.size))
    (HC0 : Hid (∀ W, Below w.heap.size w W → W.cell? ⟨b, off, none⟩ = some (.int .u8 (k : Int)))) (HA' : Hid ((if R = 0 then (some ⟨b, off, none⟩ : Option Addr) else some ⟨b, off + 1, none⟩) = A'))
    (HG : Hid (∀ W, Below w.heap.size w W → Calls Try.prog 54 #[.int .i64 k, .slice A' m R] W fun e w' => ∃ A c, e = .returned (.tuple #[.agg #[.int .i64 o, .int .i64 d, .int .i64 ee, .int .i64 cc, .slice A nD c], .int .i64 ((2 : Nat) : Int)]) ∧ Hid (Me.Own w' W.heap.size (.slice A nD c) D) ∧ Hid (Below W.heap.size W w')))
    (HGE : Hid (∀ e w', ((2 : Nat) = 2 → e = .returned (.tuple #[.agg #[.int .i64 0, .int .i64 0, .int .i64 0, .int .i64 0, .int .i64 0, .slice none 0 0], .int .i64 2]) → Below w.heap.size w w' → GeE (k :: r) w e w') ∧
        ((2 : Nat) = 0 → ∀ A c, e = .returned (.tuple #[.agg #[.int .i64 (k : Int), .int .i64 o, .int .i64 d, .int .i64 ee, .int .i64 cc, .slice A nD c], .int .i64 0]) → Me.Own w' w.heap.size (.slice A nD c) D → Below w.heap.size w w' → GeE (k :: r) w e w')))
    (m1 : ((1 + (m : Int)) == 0) = false) (m3 : 1 ≤ 1 + R) (m4 : 1 ≤ 1 + (R : Int)) (m5 : 1 ≤ 1 + m) (m7 : 1 ≤ 1 + (m : Int)) (m8 : ¬ (1 + (m : Int) ≤ 0)) (HWK : Hid (IntKind.i64.wrap (k : Int) = (k : Int))) (HN0 : Hid (V.heap.size = N0)) (k0 : 0 ≤ (k : Int)) (k1 : (k : Int) ≤ 255) :
    Calls Try.prog 26 #[.slice (some ⟨b, off, none⟩) (1 + m) (1 + R)] w (GeE (k :: r) w) := by
  simp only [show ((2 : Nat) : Int) = 2 from rfl] at HG
  have S0 : Below N0 V V.drew := by rw [← HN0.out]; exact (Below.refl _ _).drew
  have HT : Hid (∀ W, Below N0 V W → Below V.heap.size V W) := fun W h => by rw [HN0.out]; exact h
  go_enter Try.func26, Try.ntmps26
  go_wp2
  rw [HV.out]
  refine wp_region_held_drew (S := fun W => Below N0 V W) (by kernel_rfl) S0 (fun hHeld => ?_)
  refine wpAnyH_take (i := 0) (v := .slice (some ⟨b, off, none⟩) (1 + m) (1 + R)) rfl (by kernel_rfl) (by kernel_rfl) (by kernel_rfl) (fun _ _ _ h => h) (Or.inl ⟨by rfl, ?_⟩) (by first | assumption | exact trivial) ?_
  · intro W hSW; go_simp; try (with_reducible rfl)
  simp only [Act.put, List.getElem_toArray, List.getElem_cons_succ, List.getElem_cons_zero, List.setIfInBounds_toArray, List.set_cons_zero, List.set_cons_succ]
  refine wpAnyH_take (i := 1) (v := .pointer (some ⟨b, off, none⟩)) rfl (by kernel_rfl) (by kernel_rfl) (by kernel_rfl) (fun _ _ _ h => h) (Or.inl ⟨by rfl, ?_⟩) (by first | assumption | exact trivial) ?_
  · intro W hSW; go_simp; try (with_reducible rfl)
  simp only [Act.put, List.getElem_toArray, List.getElem_cons_succ, List.getElem_cons_zero, List.setIfInBounds_toArray, List.set_cons_zero, List.set_cons_succ]
  refine wpAnyH_take (i := 2) (v := .int .u8 (k : Int)) rfl (by kernel_rfl) (by kernel_rfl) (by kernel_rfl) (fun _ _ _ h => h) (Or.inl ⟨by rfl, ?_⟩) (by first | assumption | exact trivial) ?_
  · intro W hSW; have q := HC0.out W (go_on HB.out (HT.out _ hSW)); go_simp; try (with_reducible rfl)
  simp only [Act.put, List.getElem_toArray, List.getElem_cons_succ, List.getElem_cons_zero, List.setIfInBounds_toArray, List.set_cons_zero, List.set_cons_succ]
  refine wpAnyH_take (i := 3) (v := .int .i64 (k : Int)) rfl (by kernel_rfl) (by kernel_rfl) (by kernel_rfl) (fun _ _ _ h => h) (Or.inl ⟨by rfl, ?_⟩) (by first | assumption | exact trivial) ?_
  · intro W hSW; have q := HWK.out; go_simp; try (with_reducible rfl)
  simp only [Act.put, List.getElem_toArray, List.getElem_cons_succ, List.getElem_cons_zero, List.setIfInBounds_toArray, List.set_cons_zero, List.set_cons_succ]
  refine wpAnyH_take (i := 4) (v := .slice (some ⟨b, off, none⟩) (1 + m) (1 + R)) rfl (by kernel_rfl) (by kernel_rfl) (by kernel_rfl) (fun _ _ _ h => h) (Or.inl ⟨by rfl, ?_⟩) (by first | assumption | exact trivial) ?_
  · intro W hSW; go_simp; try (with_reducible rfl)
  simp only [Act.put, List.getElem_toArray, List.getElem_cons_succ, List.getElem_cons_zero, List.setIfInBounds_toArray, List.set_cons_zero, List.set_cons_succ]
  refine wpAnyH_take (i := 5) (v := .slice A' m R) rfl (by kernel_rfl) (by kernel_rfl) (by kernel_rfl) (fun _ _ _ h => h) (Or.inl ⟨by rfl, ?_⟩) (by first | assumption | exact trivial) ?_
  · intro W hSW; rw [← HA'.out]; go_simp; try (with_reducible rfl)
  simp only [Act.put, List.getElem_toArray, List.getElem_cons_succ, List.getElem_cons_zero, List.setIfInBounds_toArray, List.set_cons_zero, List.set_cons_succ]
  refine wpAnyH_ready (rs := [6, 10]) (by kernel_rfl) (by simp) ?_
  refine AllReadyH.cons rfl (fun K hK => ?pa) (AllReadyH.cons rfl (fun K hK => ?pb) AllReadyH.nil)
  case' pa =>
    go_simp
    go_wp2_with (go_at_call 54; refine (HG.out _ (go_on HB.out (HT.out _ S0))).mono ?_; rintro e w2 ⟨A2, c2, rfl, ho2, hb2⟩)
    have k2 : Below N0 V w2 := S0.trans (hb2.out.mono (by have := S0.size; have := HN0.out; omega))
    refine hK.out _ _ (k2) (fun hHeld => ?_)
    clear hK K
    refine wpAnyH_take (i := 7) (v := .tuple #[.agg #[.int .i64 o, .int .i64 d, .int .i64 ee, .int .i64 cc, .slice A2 nD c2], .int .i64 2]) rfl (by kernel_rfl) (by kernel_rfl) (by kernel_rfl) (fun _ _ _ h => h) (Or.inl ⟨by rfl, ?_⟩) (by first | assumption | exact trivial) ?_
    · intro W hSW; go_simp; try (with_reducible rfl)
    simp only [Act.put, List.getElem_toArray, List.getElem_cons_succ, List.getElem_cons_zero, List.setIfInBounds_toArray, List.set_cons_zero, List.set_cons_succ]
    refine wpAnyH_take (i := 8) (v := .agg #[.int .i64 o, .int .i64 d, .int .i64 ee, .int .i64 cc, .slice A2 nD c2]) rfl (by kernel_rfl) (by kernel_rfl) (by kernel_rfl) (fun _ _ _ h => h) (Or.inl ⟨by rfl, ?_⟩) (by first | assumption | exact trivial) ?_
    · intro W hSW; go_simp; try (with_reducible rfl)
    simp only [Act.put, List.getElem_toArray, List.getElem_cons_succ, List.getElem_cons_zero, List.setIfInBounds_toArray, List.set_cons_zero, List.set_cons_succ]
    refine wpAnyH_take (i := 9) (v := .int .i64 2) rfl (by kernel_rfl) (by kernel_rfl) (by kernel_rfl) (fun _ _ _ h => h) (Or.inl ⟨by rfl, ?_⟩) (by first | assumption | exact trivial) ?_
    · intro W hSW; go_simp; try (with_reducible rfl)
    simp only [Act.put, List.getElem_toArray, List.getElem_cons_succ, List.getElem_cons_zero, List.setIfInBounds_toArray, List.set_cons_zero, List.set_cons_succ]
    refine wpAnyH_ready (rs := [10]) (by kernel_rfl) (by simp) ?_
    refine AllReadyH.cons rfl (fun K hK => ?_) AllReadyH.nil
    go_simp
    obtain ⟨V6, hV6⟩ : ∃ X, w2.alloc (.cells #[.int .i64 0, .int .i64 0, .int .i64 0, .int .i64 0, .slice none 0 0] 46) = X := ⟨_, rfl⟩
    have hb6 : Below N0 V V6 := by rw [← hV6]; exact k2.trans ((Me.below_alloc (Below.refl _ _)).mono (by have := k2.size; have := HN0.out; omega))
    have ho6 : Me.Own V6 V.heap.size (.slice A2 nD c2) D := by
      rw [← hV6]
      exact (own_base ho2.out fun q e => Nat.le_trans (HT.out _ S0).size (World.ownsRow.lt ho2.out q e).1 : Me.Own w2 V.heap.size (.slice A2 nD c2) D).alloc _
    have hD6 : V6.heap[w2.heap.size]? = some (.cells #[.int .i64 0, .int .i64 0, .int .i64 0, .int .i64 0, .slice none 0 0] 46 (0, 0)) := by rw [← hV6]; exact heap_alloc_new w2 _
    obtain ⟨X, hX⟩ : ∃ X, w2.heap.size = X := ⟨_, rfl⟩
    have hXX : N0 ≤ X := by have := k2.size; have := HN0.out; omega
    rw [hV6]
    rw [hX] at hD6 ⊢
    clear hV6 hX
    refine hK.out _ _ (hb6) (fun hHeld => ?_)
    clear hK K
  case' pb =>
    go_simp
    obtain ⟨V5, hV5⟩ : ∃ X, (V.alloc (.cells #[.int .i64 0, .int .i64 0, .int .i64 0, .int .i64 0, .slice none 0 0] 46)).drew = X := ⟨_, rfl⟩
    have hb5 : Below N0 V V5 := by rw [← hV5, ← HN0.out]; exact (Me.below_alloc (Below.refl _ _)).drew
    have hD5 : V5.heap[V.heap.size]? = some (.cells #[.int .i64 0, .int .i64 0, .int .i64 0, .int .i64 0, .slice none 0 0] 46 (0, 0)) := by rw [← hV5]; exact heap_alloc_new V _
    obtain ⟨X, hX⟩ : ∃ X, V.heap.size = X := ⟨_, rfl⟩
    have hXX : N0 ≤ X := by have := HN0.out; omega
    rw [hV5]
    have hD5' := hD5
    rw [hX] at hD5'
    have hXl : X < V5.heap.size := (Array.getElem?_eq_some_iff.1 hD5').1
    have HXe : Hid (V.heap.size = X) := hX
    clear hV5 hX hD5
    refine hK.out _ _ (hb5) (fun hHeld => ?_)
    clear hK K
    refine wpAnyH_ready (rs := [6]) (by kernel_rfl) (by simp) ?_
    refine AllReadyH.cons rfl (fun K hK => ?_) AllReadyH.nil
    go_simp
    go_wp2_with (go_at_call 54; refine (HG.out _ (go_on HB.out (HT.out _ hb5))).mono ?_; rintro e V6 ⟨A2, c2, rfl, ho2, hb2⟩)
    have hb6 : Below N0 V V6 := hb5.trans (hb2.out.mono (by have := hb5.size; have := HN0.out; omega))
    have ho6 : Me.Own V6 V.heap.size (.slice A2 nD c2) D := own_base ho2.out fun q e => Nat.le_trans (HT.out _ hb5).size (World.ownsRow.lt ho2.out q e).1
    have hD6 := (hb2.out.block _ hXl).trans hD5'
    refine hK.out _ _ (hb6) (fun hHeld => ?_)
    clear hK K
    refine wpAnyH_take (i := 7) (v := .tuple #[.agg #[.int .i64 o, .int .i64 d, .int .i64 ee, .int .i64 cc, .slice A2 nD c2], .int .i64 2]) rfl (by kernel_rfl) (by kernel_rfl) (by kernel_rfl) (fun _ _ _ h => h) (Or.inl ⟨by rfl, ?_⟩) (by first | assumption | exact trivial) ?_
    · intro W hSW; go_simp; try (with_reducible rfl)
    simp only [Act.put, List.getElem_toArray, List.getElem_cons_succ, List.getElem_cons_zero, List.setIfInBounds_toArray, List.set_cons_zero, List.set_cons_succ]
    refine wpAnyH_take (i := 8) (v := .agg #[.int .i64 o, .int .i64 d, .int .i64 ee, .int .i64 cc, .slice A2 nD c2]) rfl (by kernel_rfl) (by kernel_rfl) (by kernel_rfl) (fun _ _ _ h => h) (Or.inl ⟨by rfl, ?_⟩) (by first | assumption | exact trivial) ?_
    · intro W hSW; go_simp; try (with_reducible rfl)
    simp only [Act.put, List.getElem_toArray, List.getElem_cons_succ, List.getElem_cons_zero, List.setIfInBounds_toArray, List.set_cons_zero, List.set_cons_succ]
    refine wpAnyH_take (i := 9) (v := .int .i64 2) rfl (by kernel_rfl) (by kernel_rfl) (by kernel_rfl) (fun _ _ _ h => h) (Or.inl ⟨by rfl, ?_⟩) (by first | assumption | exact trivial) ?_
    · intro W hSW; go_simp; try (with_reducible rfl)
    simp only [Act.put, List.getElem_toArray, List.getElem_cons_succ, List.getElem_cons_zero, List.setIfInBounds_toArray, List.set_cons_zero, List.set_cons_succ]
    rw [HXe.out]
  all_goals
    refine wpAnyH_ready (rs := [11]) (by kernel_rfl) (by simp) ?_
    refine AllReadyH.cons rfl (fun K hK => ?_) AllReadyH.nil
    rw [if_pos (by kernel_rfl)]
    refine wp_store_row 46 (.tmp 4) (.tmp 18) rfl X #[.int .i64 o, .int .i64 d, .int .i64 ee, .int .i64 cc, .slice A2 nD c2] rfl (by rfl) 46 _ hD6 (by kernel_rfl) rfl (msg_one5 _ _ _ _ _ _ _) ?_
    simp only [Act.put, List.getElem_toArray, List.getElem_cons_succ, List.getElem_cons_zero, List.setIfInBounds_toArray, List.set_cons_zero, List.set_cons_succ]
    obtain ⟨V9, hV9⟩ : ∃ Y, V6.setRow X #[.int .i64 o, .int .i64 d, .int .i64 ee, .int .i64 cc, .slice A2 nD c2] = Y := ⟨_, rfl⟩
    have hb9 : Below N0 V V9 := by rw [← hV9]; exact Sb.below_setRow _ hb6 hXX
    have hD9 : V9.heap[X]? = some (.cells #[.int .i64 o, .int .i64 d, .int .i64 ee, .int .i64 cc, .slice A2 nD c2] 46 (0, 0)) := by rw [← hV9]; exact setRow_heap _ _ _ _ _ _ hD6
    have ho9 : Me.Own V9 V.heap.size (.slice A2 nD c2) D := by rw [← hV9]; exact own_setRow _ ho6 (own_ty ho6 hD6 (by decide))
    rw [hV9]
    clear hV9
    refine hK.out _ _ (hb9) (fun hHeld => ?_)
    clear hK K
    refine wpAnyH_take (i := 12) (v := .int .i64 2) rfl (by kernel_rfl) (by kernel_rfl) (by kernel_rfl) (fun _ _ _ h => h) (Or.inl ⟨by rfl, ?_⟩) (by first | assumption | exact trivial) ?_
    · intro W hSW; go_simp; try (with_reducible rfl)
    simp only [Act.put, List.getElem_toArray, List.getElem_cons_succ, List.getElem_cons_zero, List.setIfInBounds_toArray, List.set_cons_zero, List.set_cons_succ]
    refine wpAnyH_done (by kernel_rfl) ?_ _
    have HB9 := Lib.hid (HT.out _ hb9)
    have HD9 := Lib.hid hD9
    have HO9 := Lib.hid ho9
    have HE9 : Hid (V9.heap[w.heap.size]? = some (.cells #[.int .i64 0, .int .i64 0, .int .i64 0, .int .i64 0, .int .i64 0, .slice none 0 0] 60 (0, 0))) := ((HT.out _ hb9).block _ HXl.out).trans HX.out
    clear hHeld hb9 hD9 ho9 hD6 ho6 hb6 hXX S0
    go_wp2_with (refine wpList_store_row rfl 60 (.tmp 2) (.tmp 22) rfl w.heap.size #[.int .i64 0, .int .i64 0, .int .i64 0, .int .i64 0, .int .i64 0, .slice none 0 0] rfl rfl 60 _ HE9.out (by kernel_rfl) rfl (by kernel_rfl) ?_)
    exact Sb.ret_box2 (g := w.heap.size) rfl (by rfl) (setRow_heap _ _ _ _ _ _ HE9.out) rfl Try.underlying60 (by kernel_rfl) rfl ((HGE.out _ _).1 (by trivial) rfl (Sb.below_setRow _ (go_on HB.out HB9.out) (Nat.le_refl _)))
set_option maxRecDepth 100000 in
set_option maxHeartbeats 16000000 in
theorem GetEv_any (A : Option Addr) (n cap : Nat) (l : List Nat) (w : World) (hi : Hid (BySlice w A n cap l)) (hlt : ∀ z ∈ l, z < 256) :
    Calls Try.prog 26 #[.slice A n cap] w (GeE l w) := by
  obtain rfl : n = l.length := hi.out.1
  obtain ⟨V, hV⟩ : ∃ V, w.alloc (.cells #[.int .i64 0, .int .i64 0, .int .i64 0, .int .i64 0, .int .i64 0, .slice none 0 0] 60) = V := ⟨_, rfl⟩
  have hX : V.heap[w.heap.size]? = some (.cells #[.int .i64 0, .int .i64 0, .int .i64 0, .int .i64 0, .int .i64 0, .slice none 0 0] 60 (0, 0)) := by rw [← hV]; exact heap_alloc_new w _
  have hB : Below w.heap.size w V := by rw [← hV]; exact Me.below_alloc (Below.refl _ _)
  have HX := Lib.hid hX
  have HB := Lib.hid hB
  have HV := Lib.hid hV
  have HXl : Hid (w.heap.size < V.heap.size) := (Array.getElem?_eq_some_iff.1 hX).1
  clear hV hX hB
  cases l with
  | nil =>
    refine Calls.mono ?_ fun e w' (h : e = .returned (.tuple #[.agg #[.int .i64 0, .int .i64 0, .int .i64 0, .int .i64 0, .int .i64 0, .slice none 0 0], .int .i64 2]) ∧ Below w.heap.size w w') => GeE.no rfl h.1 h.2
    clear hi
    simp only [List.length_nil]
    go_enter Try.func26, Try.ntmps26
    go_wp2_with (rw [HV.out]; refine wpList_store_row rfl 60 (.tmp 2) (.tmp 9) rfl w.heap.size #[.int .i64 0, .int .i64 0, .int .i64 0, .int .i64 0, .int .i64 0, .slice none 0 0] rfl rfl 60 _ HX.out (by kernel_rfl) rfl (by kernel_rfl) ?_)
    exact Sb.ret_box2 (g := w.heap.size) rfl (by rfl) (setRow_heap _ _ _ _ _ _ HX.out) rfl Try.underlying60 (by kernel_rfl) rfl ⟨rfl, Sb.below_setRow _ HB.out (Nat.le_refl _)⟩
  | cons k r =>
    have hk : k < 256 := hlt k (by simp)
    obtain ⟨b, off, rfl, hbl, hc⟩ := hi.out.2.2.2.1.2 (by simp)
    have HC0 : Hid (∀ W, Below w.heap.size w W → W.cell? ⟨b, off, none⟩ = some (.int .u8 (k : Int))) := fun W hW => (hW.cell (p := ⟨b, off, none⟩) hbl).trans (by
      have := hc 0 (by simp)
      exact this)
    have hlc := hi.out.2.1
    have hcm := hi.out.2.2.1
    obtain ⟨R, rfl⟩ : ∃ R, cap = 1 + R := ⟨cap - 1, by simp only [List.length_cons] at hlc; omega⟩
    obtain ⟨A', hA'⟩ : ∃ A', (if R = 0 then (some ⟨b, off, none⟩ : Option Addr) else some ⟨b, off + 1, none⟩) = A' := ⟨_, rfl⟩
    have HRB : Hid (∀ W, Below w.heap.size w W → BySlice W A' r.length R r) := fun W hW => by
      have h1 := by_below hi.out hW
      have h2 := h1.2.2.2.1.drop 1
      refine ⟨rfl, by simp only [List.length_cons] at hlc; omega, by omega, ?_, fun e => by rw [← hA'] at e; split at e <;> cases e⟩
      rw [← hA']
      split
      · have hr0 : r = [] := List.eq_nil_of_length_eq_zero (by simp only [List.length_cons] at hlc; omega)
        subst hr0
        exact ⟨by simp, by simp⟩
      · exact h2
    have HG := Lib.hid (fun W (hW : Below w.heap.size w W) => getMsg_any k A' r.length R r W (HRB.out W hW))
    have HA' := Lib.hid hA'
    have hgz : geZ (k :: r) = if geO (k : Int) r = true then 0 else 2 := rfl
    have hgi : gI (k :: r) = geI k r := rfl
    have hgd : gD (k :: r) = geD k r := rfl
    have hgk : geK (k :: r) = if geO (k : Int) r = true then (k : Int) else 0 := rfl
    obtain ⟨m, hm⟩ : ∃ m, r.length = m := ⟨_, rfl⟩
    have hL : (k :: r).length = 1 + m := by rw [List.length_cons, hm]; omega
    rw [hL] at hlc ⊢
    rw [hm] at HG
    unfold GeM at HG
    obtain ⟨⟨o, d, ee, cc⟩, hI⟩ : ∃ i, geI k r = i := ⟨_, rfl⟩
    obtain ⟨D, hD⟩ : ∃ D, geD k r = D := ⟨_, rfl⟩
    obtain ⟨z, hz⟩ : ∃ z, (if geO (k : Int) r = true then 0 else 2) = z := ⟨_, rfl⟩
    rw [hI, hD, hz] at HG
    have hz2 : z = 0 ∨ z = 2 := by rw [← hz]; by_cases h : geO (k : Int) r = true <;> simp [h]
    have HGE : Hid (∀ e w', (z = 2 → e = .returned (.tuple #[.agg #[.int .i64 0, .int .i64 0, .int .i64 0, .int .i64 0, .int .i64 0, .slice none 0 0], .int .i64 2]) → Below w.heap.size w w' → GeE (k :: r) w e w') ∧
        (z = 0 → ∀ A c, e = .returned (.tuple #[.agg #[.int .i64 (k : Int), .int .i64 o, .int .i64 d, .int .i64 ee, .int .i64 cc, .slice A D.length c], .int .i64 0]) → Me.Own w' w.heap.size (.slice A D.length c) D → Below w.heap.size w w' → GeE (k :: r) w e w')) := fun e w' => by
      constructor
      · intro h2 he hb
        exact GeE.no (by rw [hgz, hz]; exact h2) he hb
      · intro h2 A c he ho hb
        have ho' : geO (k : Int) r = true := by
          by_cases h : geO (k : Int) r = true
          · exact h
          · rw [if_neg h] at hz; omega
        unfold GeE
        rw [hgz, hgi, hgd, hgk, hI, hD, if_pos ho', if_pos ho']
        exact ⟨A, c, he, ho, hb⟩
    obtain ⟨nD, hnD⟩ : ∃ n, D.length = n := ⟨_, rfl⟩
    rw [hnD] at HG HGE
    simp only [Mg.msgC] at HG
    have m1 : ((1 + (m : Int)) == 0) = false := by simp; omega
    have m3 : 1 ≤ 1 + R := by omega
    have m4 : 1 ≤ 1 + (R : Int) := by omega
    have m5 : 1 ≤ 1 + m := by omega
    have m7 : 1 ≤ 1 + (m : Int) := by omega
    have m8 : ¬ (1 + (m : Int) ≤ 0) := by omega
    have HBL := Lib.hid hbl
    have HWK : Hid (IntKind.i64.wrap (k : Int) = (k : Int)) := Mi.fits' (by unfold Mi.I64; omega)
    obtain ⟨N0, hN0⟩ : ∃ n, V.heap.size = n := ⟨_, rfl⟩
    have HN0 := Lib.hid hN0
    have k0 : 0 ≤ (k : Int) := by omega
    have k1 : (k : Int) ≤ 255 := by omega
    clear hN0 hi hc hlt hk hlc hcm hA' hgz hgi hgd hgk hm hL hI hD hz hnD HRB hbl
    rcases hz2 with rfl | rfl
    · exact ge_ok w V b off m R k N0 nD o d ee cc A' r D HX HBL HB HV HXl HC0 HA' HG HGE m1 m3 m4 m5 m7 m8 HWK HN0 k0 k1
    · exact ge_no w V b off m R k N0 nD o d ee cc A' r D HX HBL HB HV HXl HC0 HA' HG HGE m1 m3 m4 m5 m7 m8 HWK HN0 k0 k1
end Go.Proofs.Ytpofdimagfldnaa.So
