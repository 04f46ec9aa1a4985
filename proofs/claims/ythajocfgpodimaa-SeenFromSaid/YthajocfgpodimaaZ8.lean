/- The reference's put. -/
import Derived.Test.YthajocfgpodimaaZ6
import Derived.Test.YthajocfgpodimaaZ7
namespace Go.Proofs.Ythajocfgpodimaa.Se
open Go.RowKit
open Go.Proofs.Ythajocfgpodimaa.Me Go.Proofs.Ythajocfgpodimaa.Sb
set_option linter.unusedVariables false
set_option linter.unusedSimpArgs false

/-- A key at its place. -/
def putL (L : Ks) (k : Ky) : Ks := L.takeWhile (fun x => !ltK k x) ++ k :: L.dropWhile (fun x => !ltK k x)
def anyL (L : Ks) (k : Ky) : Bool := L.any fun x => ltK k x
theorem anyL_snoc (L : Ks) (x k : Ky) : anyL (L ++ [x]) k = (anyL L k || ltK k x) := by simp [anyL]
theorem while_all : ∀ (L : Ks) (k : Ky) (R : Ks), anyL L k = false → (L ++ R).takeWhile (fun x => !ltK k x) = L ++ R.takeWhile (fun x => !ltK k x) ∧ (L ++ R).dropWhile (fun x => !ltK k x) = R.dropWhile (fun x => !ltK k x)
  | [], k, R, _ => ⟨rfl, rfl⟩
  | x :: L, k, R, h => by
    unfold anyL at h
    rw [List.any_cons, Bool.or_eq_false_iff] at h
    obtain ⟨h1, h2⟩ := while_all L k R h.2
    simp only [List.cons_append, List.takeWhile_cons, List.dropWhile_cons, h.1, Bool.not_false, if_true]
    exact ⟨by rw [h1], h2⟩
theorem while_some : ∀ (L : Ks) (k : Ky) (R : Ks), anyL L k = true → (L ++ R).takeWhile (fun x => !ltK k x) = L.takeWhile (fun x => !ltK k x) ∧ (L ++ R).dropWhile (fun x => !ltK k x) = L.dropWhile (fun x => !ltK k x) ++ R
  | [], k, R, h => by simp [anyL] at h
  | x :: L, k, R, h => by
    unfold anyL at h
    rw [List.any_cons] at h
    simp only [List.cons_append, List.takeWhile_cons, List.dropWhile_cons]
    cases hx : ltK k x with
    | true => simp
    | false =>
      rw [hx, Bool.false_or] at h
      obtain ⟨h1, h2⟩ := while_some L k R h
      simp only [Bool.not_false, if_true]
      exact ⟨by rw [h1], h2⟩
theorem put_none {L : Ks} {k : Ky} (h : anyL L k = false) : putL L k = L ++ [k] := by
  have := while_all L k [] h
  rw [List.append_nil] at this
  unfold putL
  rw [this.1, this.2]
  simp
theorem put_here {L : Ks} {x k : Ky} (h : anyL L k = false) (hx : ltK k x = true) : putL (L ++ [x]) k = L ++ [k] ++ [x] := by
  have := while_all L k [x] h
  unfold putL
  rw [this.1, this.2]
  simp [hx]
theorem put_behind {L : Ks} {x k : Ky} (h : anyL L k = true) : putL (L ++ [x]) k = putL L k ++ [x] := by
  have := while_some L k [x] h
  unfold putL
  rw [this.1, this.2]
  simp
/-- What is made of the first j keys. -/
def mid (L : Ks) (k : Ky) (j : Nat) : Ks := if anyL (L.take j) k then putL (L.take j) k else L.take j
theorem take_snoc {L : Ks} {j : Nat} (h : j < L.length) : L.take (j + 1) = L.take j ++ [kyAt L j] := by
  rw [List.take_add_one, kyAt_get h]
  simp [h]
theorem mid_len {L : Ks} {k : Ky} {j : Nat} (h : j ≤ L.length) : (mid L k j).length ≤ j + 1 := by
  unfold mid
  split
  · have e : (putL (L.take j) k).length = (L.take j).length + 1 := by
      unfold putL
      rw [List.length_append, List.length_cons]
      have := congrArg List.length (List.takeWhile_append_dropWhile (p := fun x => !ltK k x) (l := L.take j))
      rw [List.length_append] at this
      omega
    rw [e]; simp; omega
  · simp; omega
set_option maxRecDepth 100000 in
set_option maxHeartbeats 8000000 in
theorem put_any (Q : Nat → Prop) (v : Value) (L : Ks) (k : Ky) (w : World) (hv : Hid (Kv Q w v L)) (hL : L.length ≤ 900) : Calls Try.prog 31 #[v, .agg (kyC k)] w fun e w' => ∃ v', e = .returned v' ∧ Hid (Ko w' w.heap.size v' (putL L k)) ∧ Hid (Below w.heap.size w w') := by
  obtain ⟨A, cp, rfl, h1, h2⟩ := hv.out.form
  obtain ⟨W1, hW1⟩ : ∃ W, w.alloc (.cells (kyC k) 68) = W := ⟨_, rfl⟩
  have b1 : Below w.heap.size w W1 := by rw [← hW1]; exact Me.below_alloc (Below.refl _ _)
  have r1 : W1.heap[w.heap.size]? = some (.cells (kyC k) 68 (0, 0)) := by rw [← hW1]; exact heap_alloc_new w _
  have hlt : w.heap.size < W1.heap.size := (Array.getElem?_eq_some_iff.1 r1).1
  have HW : Hid (w.alloc (.cells (kyC k) 68) = W1) := hW1
  have HB1 := Lib.hid b1
  have HC : Hid (∀ W, Below W1.heap.size W1 W → W.cell? ⟨w.heap.size, 0, none⟩ = some (.int .i64 k.o) ∧ W.cell? ⟨w.heap.size, 1, none⟩ = some (.int .i64 k.e) ∧ W.cell? ⟨w.heap.size, 2, none⟩ = some (.int .i64 k.c)) := fun W hW => by
    have h' := (hW.block w.heap.size hlt).trans r1
    exact ⟨cell_of_row W _ 0 _ _ (0, 0) h', cell_of_row W _ 1 _ _ (0, 0) h', cell_of_row W _ 2 _ _ (0, 0) h'⟩
  have HA : Hid (∀ j, j < L.length → ∃ g, A = some ⟨g, 0, none⟩ ∧ ∀ W, Below W1.heap.size W1 W → W.cell? ⟨g, j * 3, none⟩ = some (.int .i64 (kyAt L j).o) ∧ W.cell? ⟨g, j * 3 + 1, none⟩ = some (.int .i64 (kyAt L j).e) ∧ W.cell? ⟨g, j * 3 + 2, none⟩ = some (.int .i64 (kyAt L j).c)) := fun j hj => by
    obtain ⟨g, e1, _, e3⟩ := hv.out.at_ hj
    exact ⟨g, e1, fun W hW => e3 W (b1.trans (hW.mono b1.size))⟩
  have HLess := Lib.hid (fun x W => less_any k x W)
  have z1 : W1.heap.size = w.heap.size + 1 := by rw [← hW1]; simp
  have HO : Hid (Ko (W1.alloc (.cells #[] 68)) W1.heap.size (.slice (some ⟨w.heap.size + 1, 0, none⟩) 0 0) []) := by rw [← z1]; exact Ko.lit (Nat.le_refl _)
  have HO2 : Hid (Below W1.heap.size W1 (W1.alloc (.cells #[] 68))) := Me.below_alloc (Below.refl _ _)
  have HStep : Hid (∀ j, j < L.length → (anyL (L.take j) k = true → mid L k (j + 1) = mid L k j ++ [kyAt L j]) ∧ (anyL (L.take j) k = false → ltK k (kyAt L j) = true → mid L k (j + 1) = mid L k j ++ [k] ++ [kyAt L j]) ∧ (anyL (L.take j) k = false → ltK k (kyAt L j) = false → mid L k (j + 1) = mid L k j ++ [kyAt L j]) ∧ anyL (L.take (j + 1)) k = (anyL (L.take j) k || ltK k (kyAt L j))) := fun j hj => by
    have e := take_snoc hj
    refine ⟨fun h => ?_, fun h hx => ?_, fun h hx => ?_, by rw [e, anyL_snoc]⟩
    · unfold mid
      rw [e, anyL_snoc, h, Bool.true_or, if_pos rfl, if_pos rfl, put_behind h]
    · unfold mid
      rw [e, anyL_snoc, h, hx, Bool.false_or, if_pos rfl, if_neg (by simp), put_here h hx]
    · unfold mid
      rw [e, anyL_snoc, h, hx, Bool.false_or, if_neg (by simp), if_neg (by simp)]
  have HFin : Hid ((anyL L k = true → mid L k L.length = putL L k) ∧ (anyL L k = false → mid L k L.length ++ [k] = putL L k)) := by
    refine ⟨fun h => ?_, fun h => ?_⟩
    · unfold mid; rw [List.take_length, h, if_pos rfl]
    · unfold mid; rw [List.take_length, h, if_neg (by simp), put_none h]
  have HMl : Hid (∀ j, j ≤ L.length → (mid L k j).length ≤ 1000) := fun j hj => by have := mid_len (k := k) hj; omega
  have HKk : Hid (kyV k = [.int .i64 k.o, .int .i64 k.e, .int .i64 k.c]) := rfl
  clear hW1 r1 hlt b1 hv z1
  obtain ⟨PL, hPL⟩ : ∃ X, putL L k = X := ⟨_, rfl⟩
  rw [hPL] at HFin ⊢
  clear hPL
  obtain ⟨N, hN⟩ : ∃ N, L.length = N := ⟨_, rfl⟩
  have HLN := Lib.hid hN
  rw [hN] at HA HStep HFin HMl h1 hL ⊢
  clear hN
  have HK0 : Hid (∃ x, k = x) := ⟨k, rfl⟩
  have HCk : Hid (kyC k = #[.int .i64 k.o, .int .i64 k.e, .int .i64 k.c]) := rfl
  rw [HCk.out] at HW ⊢
  rw [HCk.out] at HLess
  go_enter Try.func31, Try.ntmps31
  go_wp2
  rw [HW.out]
  go_loopw [5, 6, 7] (fun v5 v6 v7 wr => ∃ (j : Nat) (d : Bool), v7 = .int .i64 (j : Int) ∧ v6 = .bool d ∧ j ≤ N ∧ Hid (anyL (L.take j) k = d) ∧ Hid (Ko wr W1.heap.size v5 (mid L k j)) ∧ Hid (Below W1.heap.size W1 wr)) (fun _ _ i _ => N - (intOf i).toNat)
  case atStart => exact ⟨0, false, rfl, rfl, Nat.zero_le _, by show _ = _; simp [anyL], by show Ko _ _ _ _; unfold mid; simp [anyL]; exact HO.out, HO2.out⟩
  case round =>
    obtain ⟨j, d, rfl, rfl, hj, HD, HOr, HBr⟩ := hrel
    obtain ⟨y0, y1, y2⟩ := HC.out wr HBr.out
    have HMj : Hid ((mid L k j).length ≤ 1000) := HMl.out j hj
    by_cases hlt : j < N
    · obtain ⟨g, rfl, hgc⟩ := HA.out j hlt
      have HGc := Lib.hid hgc
      have g1 : (j : Int) < (N : Int) := by omega
      obtain ⟨st1, st2, st3, st4⟩ := HStep.out j hlt
      have hM1 := mid_len (L := L) (k := k) (j := j) (by have := HLN.out; omega)
      obtain ⟨x, hx⟩ : ∃ x, kyAt L j = x := ⟨_, rfl⟩
      rw [hx] at st1 st2 st3 st4 hgc
      simp only [hx] at HGc
      clear hx
      obtain ⟨p, q, r⟩ := x
      have HOd : Hid (Ko wr.drew W1.heap.size u5 (mid L k j)) := HOr.out
      have HBd : Hid (Below W1.heap.size W1 wr.drew) := HBr.out.drew
      have HLen1 : Hid ((mid L k j).length ≤ 1000) := by show _ ≤ _; omega
      have HLen2 : Hid ((mid L k j ++ [k]).length ≤ 1000) := by show _ ≤ _; rw [List.length_append]; simp; omega
      cases d with
      | true =>
        have HSt : Hid (mid L k (j + 1) = mid L k j ++ [⟨p, q, r⟩]) := st1 HD.out
        have HAn : Hid (anyL (L.take (j + 1)) k = true) := by show _ = _; rw [st4, HD.out]; rfl
        obtain ⟨z0, z1, z2⟩ := hgc wr.drew HBd.out
        clear st1 st2 st3 st4 hgc hM1 HStep HMl HA HFin
        go_wp2
        refine wp_region_held_drew (S := fun _ => True) (by kernel_rfl) trivial (fun hHeld => ?_)
        refine wpAnyH_take (i := 0) (v := .bool true) rfl (by kernel_rfl) (by kernel_rfl) (by kernel_rfl) (fun _ _ _ h => h) (Or.inl ⟨by rfl, ?_⟩) (by first | assumption | exact trivial) ?_
        · intro W hSW; go_simp; try (with_reducible rfl)
        simp only [Act.put, List.getElem_toArray, List.getElem_cons_succ, List.getElem_cons_zero, List.setIfInBounds_toArray, List.set_cons_zero, List.set_cons_succ]
        refine wpAnyH_take (i := 1) (v := .bool false) rfl (by kernel_rfl) (by kernel_rfl) (by kernel_rfl) (fun _ _ _ h => h) (Or.inl ⟨by rfl, ?_⟩) (by first | assumption | exact trivial) ?_
        · intro W hSW; go_simp; try (with_reducible rfl)
        simp only [Act.put, List.getElem_toArray, List.getElem_cons_succ, List.getElem_cons_zero, List.setIfInBounds_toArray, List.set_cons_zero, List.set_cons_succ]
        refine wpAnyH_take (i := 2) (v := .bool false) rfl (by kernel_rfl) (by kernel_rfl) (by kernel_rfl) (fun _ _ _ h => h) (Or.inl ⟨by rfl, ?_⟩) (by first | assumption | exact trivial) ?_
        · intro W hSW; go_simp; try (with_reducible rfl)
        simp only [Act.put, List.getElem_toArray, List.getElem_cons_succ, List.getElem_cons_zero, List.setIfInBounds_toArray, List.set_cons_zero, List.set_cons_succ]
        refine wpAnyH_take (i := 3) (v := undef) rfl (by kernel_rfl) (by kernel_rfl) (by kernel_rfl) (fun _ _ _ h => h) (Or.inr ⟨by rfl, rfl⟩) (by first | assumption | exact trivial) ?restz1
        simp only [Act.put, List.getElem_toArray, List.getElem_cons_succ, List.getElem_cons_zero, List.setIfInBounds_toArray, List.set_cons_zero, List.set_cons_succ]
        refine wpAnyH_take (i := 4) (v := undef) rfl (by kernel_rfl) (by kernel_rfl) (by kernel_rfl) (fun _ _ _ h => h) (Or.inr ⟨by rfl, rfl⟩) (by first | assumption | exact trivial) ?restz2
        simp only [Act.put, List.getElem_toArray, List.getElem_cons_succ, List.getElem_cons_zero, List.setIfInBounds_toArray, List.set_cons_zero, List.set_cons_succ]
        refine wpAnyH_take (i := 5) (v := undef) rfl (by kernel_rfl) (by kernel_rfl) (by kernel_rfl) (fun _ _ _ h => h) (Or.inr ⟨by rfl, rfl⟩) (by first | assumption | exact trivial) ?restz3
        simp only [Act.put, List.getElem_toArray, List.getElem_cons_succ, List.getElem_cons_zero, List.setIfInBounds_toArray, List.set_cons_zero, List.set_cons_succ]
        refine wpAnyH_take (i := 6) (v := undef) rfl (by kernel_rfl) (by kernel_rfl) (by kernel_rfl) (fun _ _ _ h => h) (Or.inr ⟨by rfl, rfl⟩) (by first | assumption | exact trivial) ?restz4
        simp only [Act.put, List.getElem_toArray, List.getElem_cons_succ, List.getElem_cons_zero, List.setIfInBounds_toArray, List.set_cons_zero, List.set_cons_succ]
        refine wpAnyH_take (i := 7) (v := undef) rfl (by kernel_rfl) (by kernel_rfl) (by kernel_rfl) (fun _ _ _ h => h) (Or.inr ⟨by rfl, rfl⟩) (by first | assumption | exact trivial) ?restz5
        simp only [Act.put, List.getElem_toArray, List.getElem_cons_succ, List.getElem_cons_zero, List.setIfInBounds_toArray, List.set_cons_zero, List.set_cons_succ]
        refine wpAnyH_take (i := 8) (v := undef) rfl (by kernel_rfl) (by kernel_rfl) (by kernel_rfl) (fun _ _ _ h => h) (Or.inr ⟨by rfl, rfl⟩) (by first | assumption | exact trivial) ?restz6
        simp only [Act.put, List.getElem_toArray, List.getElem_cons_succ, List.getElem_cons_zero, List.setIfInBounds_toArray, List.set_cons_zero, List.set_cons_succ]
        refine wpAnyH_take (i := 9) (v := .bool false) rfl (by kernel_rfl) (by kernel_rfl) (by kernel_rfl) (fun _ _ _ h => h) (Or.inl ⟨by rfl, ?_⟩) (by first | assumption | exact trivial) ?_
        · intro W hSW; go_simp; try (with_reducible rfl)
        simp only [Act.put, List.getElem_toArray, List.getElem_cons_succ, List.getElem_cons_zero, List.setIfInBounds_toArray, List.set_cons_zero, List.set_cons_succ]
        refine wpAnyH_done (by kernel_rfl) ?_ _
        go_wp2_with (at_builtin; refine appKy (w0 := W1) rfl (.tmp 29) (.tmp 34) rfl W1.heap.size _ (mid L k j) ⟨p, q, r⟩ rfl rfl HOd.out HBd.out HBd.out.size _ rfl rfl HLen1.out ?_; intro v1 w1 ho1 hb1 _ _; have HO1 := Lib.hid ho1; have HBx1 := Lib.hid hb1; clear ho1 hb1)
        go_roundw
        case rel => exact ⟨j + 1, true, by go_num, rfl, by omega, HAn.out, by rw [HSt.out]; exact HO1.out, HBx1.out⟩
        case measure => simp [intOf]; omega
      | false =>
        go_wp2
        refine wp_region_held_drew (S := fun W => Below W1.heap.size W1 W) (by kernel_rfl) HBd.out (fun hHeld => ?_)
        refine wpAnyH_take (i := 0) (v := .bool false) rfl (by kernel_rfl) (by kernel_rfl) (by kernel_rfl) (fun _ _ _ h => h) (Or.inl ⟨by rfl, ?_⟩) (by first | assumption | exact trivial) ?_
        · intro W hSW; go_simp; try (with_reducible rfl)
        simp only [Act.put, List.getElem_toArray, List.getElem_cons_succ, List.getElem_cons_zero, List.setIfInBounds_toArray, List.set_cons_zero, List.set_cons_succ]
        refine wpAnyH_take (i := 1) (v := .bool true) rfl (by kernel_rfl) (by kernel_rfl) (by kernel_rfl) (fun _ _ _ h => h) (Or.inl ⟨by rfl, ?_⟩) (by first | assumption | exact trivial) ?_
        · intro W hSW; go_simp; try (with_reducible rfl)
        simp only [Act.put, List.getElem_toArray, List.getElem_cons_succ, List.getElem_cons_zero, List.setIfInBounds_toArray, List.set_cons_zero, List.set_cons_succ]
        refine wpAnyH_take (i := 2) (v := .bool true) rfl (by kernel_rfl) (by kernel_rfl) (by kernel_rfl) (fun _ _ _ h => h) (Or.inl ⟨by rfl, ?_⟩) (by first | assumption | exact trivial) ?_
        · intro W hSW; go_simp; try (with_reducible rfl)
        simp only [Act.put, List.getElem_toArray, List.getElem_cons_succ, List.getElem_cons_zero, List.setIfInBounds_toArray, List.set_cons_zero, List.set_cons_succ]
        refine wpAnyH_take (i := 3) (v := .agg #[.int .i64 k.o, .int .i64 k.e, .int .i64 k.c]) rfl (by kernel_rfl) (by kernel_rfl) (by kernel_rfl) (fun _ _ _ h => h) (Or.inl ⟨by rfl, ?_⟩) (by first | assumption | exact trivial) ?_
        · intro W hSW; obtain ⟨y0, y1, y2⟩ := HC.out W hSW; go_simp; try (with_reducible rfl)
        simp only [Act.put, List.getElem_toArray, List.getElem_cons_succ, List.getElem_cons_zero, List.setIfInBounds_toArray, List.set_cons_zero, List.set_cons_succ]
        refine wpAnyH_take (i := 4) (v := .slice (some ⟨g, 0, none⟩) N cp) rfl (by kernel_rfl) (by kernel_rfl) (by kernel_rfl) (fun _ _ _ h => h) (Or.inl ⟨by rfl, ?_⟩) (by first | assumption | exact trivial) ?_
        · intro W hSW; go_simp; try (with_reducible rfl)
        simp only [Act.put, List.getElem_toArray, List.getElem_cons_succ, List.getElem_cons_zero, List.setIfInBounds_toArray, List.set_cons_zero, List.set_cons_succ]
        refine wpAnyH_take (i := 5) (v := .int .i64 (j : Int)) rfl (by kernel_rfl) (by kernel_rfl) (by kernel_rfl) (fun _ _ _ h => h) (Or.inl ⟨by rfl, ?_⟩) (by first | assumption | exact trivial) ?_
        · intro W hSW; go_simp; try (with_reducible rfl)
        simp only [Act.put, List.getElem_toArray, List.getElem_cons_succ, List.getElem_cons_zero, List.setIfInBounds_toArray, List.set_cons_zero, List.set_cons_succ]
        refine wpAnyH_take (i := 6) (v := .pointer (some ⟨g, j * 3, none⟩)) rfl (by kernel_rfl) (by kernel_rfl) (by kernel_rfl) (fun _ _ _ h => h) (Or.inl ⟨by rfl, ?_⟩) (by first | assumption | exact trivial) ?_
        · intro W hSW; go_simp; try (with_reducible rfl)
        simp only [Act.put, List.getElem_toArray, List.getElem_cons_succ, List.getElem_cons_zero, List.setIfInBounds_toArray, List.set_cons_zero, List.set_cons_succ]
        refine wpAnyH_take (i := 7) (v := .agg #[.int .i64 p, .int .i64 q, .int .i64 r]) rfl (by kernel_rfl) (by kernel_rfl) (by kernel_rfl) (fun _ _ _ h => h) (Or.inl ⟨by rfl, ?_⟩) (by first | assumption | exact trivial) ?_
        · intro W hSW; obtain ⟨y0, y1, y2⟩ := HGc.out W hSW; go_simp; try (with_reducible rfl)
        simp only [Act.put, List.getElem_toArray, List.getElem_cons_succ, List.getElem_cons_zero, List.setIfInBounds_toArray, List.set_cons_zero, List.set_cons_succ]
        refine wpAnyH_ready (rs := [8]) (by kernel_rfl) (by simp) ?_
        refine AllReadyH.cons rfl (fun K hK => ?_) AllReadyH.nil
        go_simp
        go_wp2_with (go_at_call 42; refine (HLess.out ⟨p, q, r⟩ _).mono ?_; rintro e w3 ⟨rfl, hb3⟩)
        have S3 := HBd.out.trans (hb3.out.mono HBd.out.size)
        refine hK.out _ _ (S3) (fun hHeld => ?_)
        clear hK K
        refine wpAnyH_take (i := 9) (v := .bool (ltK k ⟨p, q, r⟩)) rfl (by kernel_rfl) (by kernel_rfl) (by kernel_rfl) (fun _ _ _ h => h) (Or.inl ⟨by rfl, ?_⟩) (by first | assumption | exact trivial) ?_
        · intro W hSW; go_simp; try (with_reducible rfl)
        simp only [Act.put, List.getElem_toArray, List.getElem_cons_succ, List.getElem_cons_zero, List.setIfInBounds_toArray, List.set_cons_zero, List.set_cons_succ]
        refine wpAnyH_done (by kernel_rfl) ?_ _
        have HB3 := Lib.hid S3
        have HO3 : Hid (Ko w3 W1.heap.size u5 (mid L k j)) := HOd.out.below hb3.out
        obtain ⟨z0, z1, z2⟩ := hgc w3 S3
        obtain ⟨y0, y1, y2⟩ := HC.out w3 S3
        clear hb3 S3 hHeld
        obtain ⟨b, hb⟩ : ∃ b, ltK k ⟨p, q, r⟩ = b := ⟨_, rfl⟩
        rw [hb] at st2 st3 st4 ⊢
        have HGw : Hid (∀ W, Below w3.heap.size w3 W → W.cell? ⟨g, j * 3, none⟩ = some (.int .i64 p) ∧ W.cell? ⟨g, j * 3 + 1, none⟩ = some (.int .i64 q) ∧ W.cell? ⟨g, j * 3 + 2, none⟩ = some (.int .i64 r)) := fun W hW => HGc.out W (HB3.out.trans (hW.mono HB3.out.size))
        cases b with
        | true =>
          have HSt : Hid (mid L k (j + 1) = mid L k j ++ [k] ++ [⟨p, q, r⟩]) := st2 HD.out rfl
          have HAn : Hid (anyL (L.take (j + 1)) k = true) := by show _ = _; rw [st4, HD.out]; rfl
          clear st1 st2 st3 st4 hgc hM1 HStep HMl HA HFin hb
          go_wp2_with (first
            | (at_builtin; refine appKy (w0 := W1) rfl (.tmp 29) (.tmp 34) rfl W1.heap.size _ (mid L k j ++ [k]) ⟨p, q, r⟩ rfl rfl HO1.out HBx1.out HBx1.out.size _ rfl rfl HLen2.out ?_; intro v2 w2 ho2 hb2 _ _; have HO2 := Lib.hid ho2; have HBx2 := Lib.hid hb2; clear ho2 hb2)
            | (at_builtin; refine appKy (w0 := W1) rfl (.tmp 25) (.tmp 27) rfl W1.heap.size _ (mid L k j) k rfl rfl HO3.out HB3.out HB3.out.size _ rfl rfl HLen1.out ?_; intro v1 w1 ho1 hb1 _ _; have HO1 := Lib.hid ho1; have HBx1 := Lib.hid hb1; obtain ⟨z0, z1, z2⟩ := HGc.out w1 hb1; clear ho1 hb1))
          go_roundw
          case rel => exact ⟨j + 1, true, by go_num, rfl, by omega, HAn.out, by rw [HSt.out]; exact HO2.out, HBx2.out⟩
          case measure => simp [intOf]; omega
        | false =>
          have HSt : Hid (mid L k (j + 1) = mid L k j ++ [⟨p, q, r⟩]) := st3 HD.out rfl
          have HAn : Hid (anyL (L.take (j + 1)) k = false) := by show _ = _; rw [st4, HD.out]; rfl
          clear st1 st2 st3 st4 hgc hM1 HStep HMl HA HFin hb
          go_wp2_with (at_builtin; refine appKy (w0 := W1) rfl (.tmp 29) (.tmp 34) rfl W1.heap.size _ (mid L k j) ⟨p, q, r⟩ rfl rfl HO3.out HB3.out HB3.out.size _ rfl rfl HLen1.out ?_; intro v1 w1 ho1 hb1 _ _; have HO1 := Lib.hid ho1; have HBx1 := Lib.hid hb1; clear ho1 hb1)
          go_roundw
          case rel => exact ⟨j + 1, false, by go_num, rfl, by omega, HAn.out, by rw [HSt.out]; exact HO1.out, HBx1.out⟩
          case measure => simp [intOf]; omega
    · obtain rfl : j = N := by omega
      have g1 : ¬ (j : Int) < (j : Int) := by omega
      have HDD : Hid (anyL L k = d) := by
        have := HD.out
        rw [← HLN.out, List.take_length] at this
        exact this
      have HLen1 : Hid ((mid L k j).length ≤ 1000) := HMj.out
      obtain ⟨f1, f2⟩ := HFin.out
      clear HStep HMl HA HFin
      cases d with
      | true =>
        have HP := Lib.hid (f1 HDD.out)
        clear f1 f2
        go_wp2
        go_ret
        exact ⟨_, rfl, by rw [← HP.out]; exact own_base HOr.out fun b hb => Nat.le_trans HB1.out.size (HOr.out.lt b hb).1, HB1.out.trans (HBr.out.mono HB1.out.size)⟩
      | false =>
        have HP := Lib.hid (f2 HDD.out)
        clear f1 f2
        go_wp2_with (at_builtin; refine appKy (w0 := W1) rfl (.tmp 38) (.tmp 40) rfl W1.heap.size _ (mid L k j) k rfl rfl HOr.out HBr.out HBr.out.size _ rfl rfl HLen1.out ?_; intro v1 w1 ho1 hb1 _ _; have HO1 := Lib.hid ho1; have HBx1 := Lib.hid hb1; clear ho1 hb1)
        go_ret
        exact ⟨_, rfl, by rw [← HP.out]; exact own_base HO1.out fun b hb => Nat.le_trans HB1.out.size (HO1.out.lt b hb).1, HB1.out.trans (HBx1.out.mono HB1.out.size)⟩
end Go.Proofs.Ythajocfgpodimaa.Se
/- The reference's Add. -/
namespace Go.Proofs.Ythajocfgpodimaa.Se
open Go.RowKit
open Go.Proofs.Ythajocfgpodimaa.Me Go.Proofs.Ythajocfgpodimaa.Sb
set_option linter.unusedVariables false
set_option linter.unusedSimpArgs false

/-- The keys behind the reference's Add. -/
def raddL (room : Int) (L : Ks) (i : Mg.Id4) : Ks := if rmayN room L i = 0 then putL L ⟨i.o, i.e, i.c⟩ else L
/-- What holds over a call of Add: the world below, the copies of what was given. -/
structure Sp (w : World) (room : Int) (v : Value) (i : Mg.Id4) (W : World) : Prop where
  below : Below w.heap.size w W
  set : W.heap[w.heap.size]? = some (.cells #[.int .i64 room, v] 29 (0, 0))
  id : W.heap[w.heap.size + 1]? = some (.cells (Mg.idC i) 39 (0, 0))
theorem Sp.go {w : World} {room : Int} {v : Value} {i : Mg.Id4} {W W' : World} (h : Sp w room v i W) (hb : Below W.heap.size W W') : Sp w room v i W' :=
  ⟨go_on h.below hb, (hb.block _ (Array.getElem?_eq_some_iff.1 h.set).1).trans h.set, (hb.block _ (Array.getElem?_eq_some_iff.1 h.id).1).trans h.id⟩
theorem Sp.drew {w : World} {room : Int} {v : Value} {i : Mg.Id4} {W : World} (h : Sp w room v i W) : Sp w room v i W.drew := ⟨h.below.drew, h.set, h.id⟩
theorem Sp.row {w : World} {room : Int} {v : Value} {i : Mg.Id4} {W : World} (h : Sp w room v i W) {D : Nat} (hD : w.heap.size + 1 < D) (cs : Array Value) : Sp w room v i (W.setRow D cs) :=
  ⟨Sb.below_setRow _ h.below (by omega), (setRow_other _ _ _ _ (by omega)).trans h.set, (setRow_other _ _ _ _ (by omega)).trans h.id⟩
theorem Sp.cells {w : World} {room : Int} {v : Value} {i : Mg.Id4} {W : World} (h : Sp w room v i W) : (W.cell? ⟨w.heap.size, 0, none⟩ = some (.int .i64 room) ∧ W.cell? ⟨w.heap.size, 1, none⟩ = some v) ∧ W.cell? ⟨w.heap.size + 1, 0, none⟩ = some (.int .i64 i.o) ∧ W.cell? ⟨w.heap.size + 1, 1, none⟩ = some (.int .i64 i.d) ∧ W.cell? ⟨w.heap.size + 1, 2, none⟩ = some (.int .i64 i.e) ∧ W.cell? ⟨w.heap.size + 1, 3, none⟩ = some (.int .i64 i.c) :=
  ⟨⟨cell_of_row W _ 0 _ _ (0, 0) h.set, cell_of_row W _ 1 _ _ (0, 0) h.set⟩, id_cells h.id⟩
theorem Sp.start (w : World) (room : Int) (v : Value) (i : Mg.Id4) : ∃ W3, ((w.alloc (.cells #[.int .i64 room, v] 29)).alloc (.cells (Mg.idC i) 39)).alloc (.cells #[.int .i64 0, .slice none 0 0] 29) = W3 ∧ Sp w room v i W3 ∧ W3.heap[w.heap.size + 1 + 1]? = some (.cells #[.int .i64 0, .slice none 0 0] 29 (0, 0)) := by
  obtain ⟨W2, hW2⟩ : ∃ W, (w.alloc (.cells #[.int .i64 room, v] 29)).alloc (.cells (Mg.idC i) 39) = W := ⟨_, rfl⟩
  have b2 : Below w.heap.size w W2 := by rw [← hW2]; exact Me.below_alloc (Me.below_alloc (Below.refl _ _))
  have z2 : W2.heap.size = w.heap.size + 1 + 1 := by rw [← hW2]; simp
  have r1 : W2.heap[w.heap.size]? = some (.cells #[.int .i64 room, v] 29 (0, 0)) := by
    rw [← hW2, Below.heap_alloc _ _ _ (by simp)]; exact heap_alloc_new w _
  have r2 : W2.heap[w.heap.size + 1]? = some (.cells (Mg.idC i) 39 (0, 0)) := by
    have h := heap_alloc_new (w.alloc (.cells #[.int .i64 room, v] 29)) (.cells (Mg.idC i) 39)
    rw [hW2] at h
    simpa using h
  refine ⟨_, rfl, ?_, ?_⟩
  · rw [hW2]
    exact Sp.go ⟨b2, r1, r2⟩ (Me.below_alloc (Below.refl _ _))
  · rw [hW2, ← z2]
    exact heap_alloc_new W2 _
theorem set_one (room : Int) (v : Value) (hv : v.oneCell' = true) : (#[.int .i64 room, v] : Array Value).all (·.oneCell') = true := by
  simp [Value.oneCell'] at hv ⊢
  exact hv
theorem Kv.one {Q : Nat → Prop} {w : World} {v : Value} {L : Ks} (h : Kv Q w v L) : v.oneCell' = true := by
  obtain ⟨A, c, rfl, _⟩ := h.form
  rfl
set_option maxRecDepth 100000 in
set_option maxHeartbeats 8000000 in
theorem RAdd_no (Q : Nat → Prop) (room : Int) (v : Value) (L : Ks) (i : Mg.Id4) (w : World) (hv : Hid (Kv Q w v L)) (hL : L.length ≤ 900) (hm : rmayN room L i ≠ 0) : Calls Try.prog 16 #[.agg #[.int .i64 room, v], .agg (Mg.idC i)] w fun e w' => e = .returned (.tuple #[.agg #[.int .i64 room, v], .int .i64 (rmayN room L i : Nat)]) ∧ Hid (Below w.heap.size w w') := by
  have HM : Hid (∀ W, Sp w room v i W → Calls Try.prog 15 #[.agg #[.int .i64 room, v], .agg (Mg.idC i)] W fun e w' => e = .returned (.int .i64 (rmayN room L i : Nat)) ∧ Hid (Below W.heap.size W w')) := fun W hW => RMay_any Q room v L i W (hv.out.below hW.below) hL
  have Hone : Hid ((#[Value.int .i64 room, v] : Array Value).all (·.oneCell') = true) := set_one room v hv.out.one
  obtain ⟨W3, hW3, s3, r3⟩ := Sp.start w room v i
  have HW := Lib.hid hW3
  have HCl := Lib.hid (fun W (h : Sp w room v i W) => h.cells)
  clear hW3 hv
  obtain ⟨k, hk⟩ : ∃ k, rmayN room L i = k := ⟨_, rfl⟩
  rw [hk] at HM hm ⊢
  have hne : ((k : Int) != 0) = true := by simpa using hm
  clear hk
  obtain ⟨I4, hI⟩ : ∃ x, i = x := ⟨_, rfl⟩
  obtain ⟨o, d, ee, c⟩ := i
  simp only [Mg.idC] at HW HCl HM ⊢
  rw [hI] at HM HCl s3
  clear hI
  go_enter Try.func16, Try.ntmps16
  go_wp2_with (go_at_call 15; rw [HW.out]; refine (HM.out _ s3).mono ?_; rintro e w3 ⟨rfl, b3⟩; have s4 := s3.go b3.out; obtain ⟨⟨y0, y1⟩, i0, i1, i2, i3⟩ := HCl.out w3 s4; have r4 := (b3.out.block _ (Array.getElem?_eq_some_iff.1 r3).1).trans r3)
  have S0 := s4.drew
  refine wp_region_held_drew (S := fun W => Sp w room v I4 W) (by kernel_rfl) S0 (fun hHeld => ?_)
  refine wpAnyH_take (i := 0) (v := .agg #[.int .i64 room, v]) rfl (by kernel_rfl) (by kernel_rfl) (by kernel_rfl) (fun _ _ _ h => h) (Or.inl ⟨by rfl, ?_⟩) (by first | assumption | exact trivial) ?_
  · intro W hSW; obtain ⟨⟨y0, y1⟩, i0, i1, i2, i3⟩ := HCl.out W hSW; go_simp; try (with_reducible rfl)
  simp only [Act.put, List.getElem_toArray, List.getElem_cons_succ, List.getElem_cons_zero, List.setIfInBounds_toArray, List.set_cons_zero, List.set_cons_succ]
  refine wpAnyH_take (i := 1) (v := .agg #[.int .i64 room, v]) rfl (by kernel_rfl) (by kernel_rfl) (by kernel_rfl) (fun _ _ _ h => h) (Or.inl ⟨by rfl, ?_⟩) (by first | assumption | exact trivial) ?_
  · intro W hSW; obtain ⟨⟨y0, y1⟩, i0, i1, i2, i3⟩ := HCl.out W hSW; go_simp; try (with_reducible rfl)
  simp only [Act.put, List.getElem_toArray, List.getElem_cons_succ, List.getElem_cons_zero, List.setIfInBounds_toArray, List.set_cons_zero, List.set_cons_succ]
  refine wpAnyH_take (i := 2) (v := .agg #[.int .i64 o, .int .i64 d, .int .i64 ee, .int .i64 c]) rfl (by kernel_rfl) (by kernel_rfl) (by kernel_rfl) (fun _ _ _ h => h) (Or.inl ⟨by rfl, ?_⟩) (by first | assumption | exact trivial) ?_
  · intro W hSW; obtain ⟨⟨y0, y1⟩, i0, i1, i2, i3⟩ := HCl.out W hSW; go_simp; try (with_reducible rfl)
  simp only [Act.put, List.getElem_toArray, List.getElem_cons_succ, List.getElem_cons_zero, List.setIfInBounds_toArray, List.set_cons_zero, List.set_cons_succ]
  refine wpAnyH_ready (rs := [3]) (by kernel_rfl) (by simp) ?_
  refine AllReadyH.cons rfl (fun K hK => ?_) AllReadyH.nil
  go_simp
  go_wp2_with (go_at_call 15; refine (HM.out _ S0).mono ?_; rintro e w5 ⟨rfl, b5⟩)
  have S5 := S0.go b5.out
  have r5 : w5.heap[w.heap.size + 1 + 1]? = some (.cells #[.int .i64 0, .slice none 0 0] 29 (0, 0)) := (b5.out.block _ (Array.getElem?_eq_some_iff.1 r4).1).trans r4
  refine hK.out _ _ (S5) (fun hHeld => ?_)
  clear hK K
  refine wpAnyH_ready (rs := [4]) (by kernel_rfl) (by simp) ?_
  refine AllReadyH.cons rfl (fun K hK => ?_) AllReadyH.nil
  rw [if_pos (by kernel_rfl)]
  refine wp_store_row 29 (.tmp 4) (.tmp 10) rfl (w.heap.size + 1 + 1) #[.int .i64 room, v] rfl (by rfl) 29 _ r5 (by kernel_rfl) rfl Hone.out ?_
  simp only [Act.put, List.getElem_toArray, List.getElem_cons_succ, List.getElem_cons_zero, List.setIfInBounds_toArray, List.set_cons_zero, List.set_cons_succ]
  have S6 := S5.row (D := w.heap.size + 1 + 1) (Nat.lt_succ_self _) #[.int .i64 room, v]
  have r6 := setRow_heap _ _ _ #[.int .i64 room, v] _ _ r5
  obtain ⟨V6, hV6⟩ : ∃ V, w5.setRow (w.heap.size + 1 + 1) #[.int .i64 room, v] = V := ⟨_, rfl⟩
  rw [hV6] at S6 r6 ⊢
  clear hV6
  refine hK.out _ _ (S6) (fun hHeld => ?_)
  clear hK K
  refine wpAnyH_take (i := 5) (v := .int .i64 (k : Int)) rfl (by kernel_rfl) (by kernel_rfl) (by kernel_rfl) (fun _ _ _ h => h) (Or.inl ⟨by rfl, ?_⟩) (by first | assumption | exact trivial) ?_
  · intro W hSW; go_simp; try (with_reducible rfl)
  simp only [Act.put, List.getElem_toArray, List.getElem_cons_succ, List.getElem_cons_zero, List.setIfInBounds_toArray, List.set_cons_zero, List.set_cons_succ]
  refine wpAnyH_done (by kernel_rfl) ?_ _
  go_wp2
  exact ret_box2 (g := w.heap.size + 1 + 1) rfl (by rfl) r6 rfl Try.underlying29 (by kernel_rfl) rfl ⟨rfl, S6.below⟩
set_option maxRecDepth 100000 in
set_option maxHeartbeats 8000000 in
theorem RAdd_ok (Q : Nat → Prop) (room : Int) (v : Value) (L : Ks) (i : Mg.Id4) (w : World) (hv : Hid (Kv Q w v L)) (hL : L.length ≤ 900) (hm : rmayN room L i = 0) : Calls Try.prog 16 #[.agg #[.int .i64 room, v], .agg (Mg.idC i)] w fun e w' => ∃ v', e = .returned (.tuple #[.agg #[.int .i64 room, v'], .int .i64 0]) ∧ Hid (Kv (fun k => w.heap.size ≤ k) w' v' (putL L ⟨i.o, i.e, i.c⟩)) ∧ Hid (Below w.heap.size w w') := by
  have HM : Hid (∀ W, Sp w room v i W → Calls Try.prog 15 #[.agg #[.int .i64 room, v], .agg (Mg.idC i)] W fun e w' => e = .returned (.int .i64 (0 : Int)) ∧ Hid (Below W.heap.size W w')) := fun W hW => by
    have h := RMay_any Q room v L i W (hv.out.below hW.below) hL
    rw [hm] at h
    exact h
  have HP : Hid (∀ W, Sp w room v i W → Calls Try.prog 31 #[v, .agg #[.int .i64 i.o, .int .i64 i.e, .int .i64 i.c]] W fun e w' => ∃ v', e = .returned v' ∧ Hid (Ko w' W.heap.size v' (putL L ⟨i.o, i.e, i.c⟩)) ∧ Hid (Below W.heap.size W w')) := fun W hW => put_any Q v L ⟨i.o, i.e, i.c⟩ W (hv.out.below hW.below) hL
  obtain ⟨W3, hW3, s3, r3⟩ := Sp.start w room v i
  have HW := Lib.hid hW3
  have HCl := Lib.hid (fun W (h : Sp w room v i W) => h.cells)
  clear hW3 hv hm
  obtain ⟨L2, hL2⟩ : ∃ x, putL L ⟨i.o, i.e, i.c⟩ = x := ⟨_, rfl⟩
  rw [hL2] at HP ⊢
  clear hL2
  obtain ⟨I4, hI⟩ : ∃ x, i = x := ⟨_, rfl⟩
  obtain ⟨o, d, ee, c⟩ := i
  simp only [Mg.idC] at HW HCl HM HP ⊢
  rw [hI] at HM HCl HP s3
  clear hI
  go_enter Try.func16, Try.ntmps16
  go_wp2_with (go_at_call 15; rw [HW.out]; refine (HM.out _ s3).mono ?_; rintro e w3 ⟨rfl, b3⟩; have s4 := s3.go b3.out; obtain ⟨⟨y0, y1⟩, i0, i1, i2, i3⟩ := HCl.out w3 s4; have r4 := (b3.out.block _ (Array.getElem?_eq_some_iff.1 r3).1).trans r3)
  have S0 := s4.drew
  refine wp_region_held_drew (S := fun W => Sp w room v I4 W) (by kernel_rfl) S0 (fun hHeld => ?_)
  refine wpAnyH_take (i := 0) (v := .pointer (some ⟨w.heap.size, 0, none⟩)) rfl (by kernel_rfl) (by kernel_rfl) (by kernel_rfl) (fun _ _ _ h => h) (Or.inl ⟨by rfl, ?_⟩) (by first | assumption | exact trivial) ?_
  · intro W hSW; go_simp; try (with_reducible rfl)
  simp only [Act.put, List.getElem_toArray, List.getElem_cons_succ, List.getElem_cons_zero, List.setIfInBounds_toArray, List.set_cons_zero, List.set_cons_succ]
  refine wpAnyH_take (i := 1) (v := .int .i64 room) rfl (by kernel_rfl) (by kernel_rfl) (by kernel_rfl) (fun _ _ _ h => h) (Or.inl ⟨by rfl, ?_⟩) (by first | assumption | exact trivial) ?_
  · intro W hSW; obtain ⟨⟨y0, y1⟩, i0, i1, i2, i3⟩ := HCl.out W hSW; go_simp; try (with_reducible rfl)
  simp only [Act.put, List.getElem_toArray, List.getElem_cons_succ, List.getElem_cons_zero, List.setIfInBounds_toArray, List.set_cons_zero, List.set_cons_succ]
  refine wpAnyH_take (i := 2) (v := .pointer (some ⟨w.heap.size, 1, none⟩)) rfl (by kernel_rfl) (by kernel_rfl) (by kernel_rfl) (fun _ _ _ h => h) (Or.inl ⟨by rfl, ?_⟩) (by first | assumption | exact trivial) ?_
  · intro W hSW; go_simp; try (with_reducible rfl)
  simp only [Act.put, List.getElem_toArray, List.getElem_cons_succ, List.getElem_cons_zero, List.setIfInBounds_toArray, List.set_cons_zero, List.set_cons_succ]
  refine wpAnyH_take (i := 3) (v := v) rfl (by kernel_rfl) (by kernel_rfl) (by kernel_rfl) (fun _ _ _ h => h) (Or.inl ⟨by rfl, ?_⟩) (by first | assumption | exact trivial) ?_
  · intro W hSW; obtain ⟨⟨y0, y1⟩, i0, i1, i2, i3⟩ := HCl.out W hSW; go_simp; try (with_reducible rfl)
  simp only [Act.put, List.getElem_toArray, List.getElem_cons_succ, List.getElem_cons_zero, List.setIfInBounds_toArray, List.set_cons_zero, List.set_cons_succ]
  refine wpAnyH_take (i := 4) (v := .pointer (some ⟨w.heap.size + 1, 0, none⟩)) rfl (by kernel_rfl) (by kernel_rfl) (by kernel_rfl) (fun _ _ _ h => h) (Or.inl ⟨by rfl, ?_⟩) (by first | assumption | exact trivial) ?_
  · intro W hSW; go_simp; try (with_reducible rfl)
  simp only [Act.put, List.getElem_toArray, List.getElem_cons_succ, List.getElem_cons_zero, List.setIfInBounds_toArray, List.set_cons_zero, List.set_cons_succ]
  refine wpAnyH_take (i := 5) (v := .int .i64 o) rfl (by kernel_rfl) (by kernel_rfl) (by kernel_rfl) (fun _ _ _ h => h) (Or.inl ⟨by rfl, ?_⟩) (by first | assumption | exact trivial) ?_
  · intro W hSW; obtain ⟨⟨y0, y1⟩, i0, i1, i2, i3⟩ := HCl.out W hSW; go_simp; try (with_reducible rfl)
  simp only [Act.put, List.getElem_toArray, List.getElem_cons_succ, List.getElem_cons_zero, List.setIfInBounds_toArray, List.set_cons_zero, List.set_cons_succ]
  refine wpAnyH_take (i := 6) (v := .pointer (some ⟨w.heap.size + 1, 2, none⟩)) rfl (by kernel_rfl) (by kernel_rfl) (by kernel_rfl) (fun _ _ _ h => h) (Or.inl ⟨by rfl, ?_⟩) (by first | assumption | exact trivial) ?_
  · intro W hSW; go_simp; try (with_reducible rfl)
  simp only [Act.put, List.getElem_toArray, List.getElem_cons_succ, List.getElem_cons_zero, List.setIfInBounds_toArray, List.set_cons_zero, List.set_cons_succ]
  refine wpAnyH_take (i := 7) (v := .int .i64 ee) rfl (by kernel_rfl) (by kernel_rfl) (by kernel_rfl) (fun _ _ _ h => h) (Or.inl ⟨by rfl, ?_⟩) (by first | assumption | exact trivial) ?_
  · intro W hSW; obtain ⟨⟨y0, y1⟩, i0, i1, i2, i3⟩ := HCl.out W hSW; go_simp; try (with_reducible rfl)
  simp only [Act.put, List.getElem_toArray, List.getElem_cons_succ, List.getElem_cons_zero, List.setIfInBounds_toArray, List.set_cons_zero, List.set_cons_succ]
  refine wpAnyH_take (i := 8) (v := .pointer (some ⟨w.heap.size + 1, 3, none⟩)) rfl (by kernel_rfl) (by kernel_rfl) (by kernel_rfl) (fun _ _ _ h => h) (Or.inl ⟨by rfl, ?_⟩) (by first | assumption | exact trivial) ?_
  · intro W hSW; go_simp; try (with_reducible rfl)
  simp only [Act.put, List.getElem_toArray, List.getElem_cons_succ, List.getElem_cons_zero, List.setIfInBounds_toArray, List.set_cons_zero, List.set_cons_succ]
  refine wpAnyH_take (i := 9) (v := .int .i64 c) rfl (by kernel_rfl) (by kernel_rfl) (by kernel_rfl) (fun _ _ _ h => h) (Or.inl ⟨by rfl, ?_⟩) (by first | assumption | exact trivial) ?_
  · intro W hSW; obtain ⟨⟨y0, y1⟩, i0, i1, i2, i3⟩ := HCl.out W hSW; go_simp; try (with_reducible rfl)
  simp only [Act.put, List.getElem_toArray, List.getElem_cons_succ, List.getElem_cons_zero, List.setIfInBounds_toArray, List.set_cons_zero, List.set_cons_succ]
  refine wpAnyH_take (i := 10) (v := .agg #[.int .i64 o, .int .i64 ee, .int .i64 c]) rfl (by kernel_rfl) (by kernel_rfl) (by kernel_rfl) (fun _ _ _ h => h) (Or.inl ⟨by rfl, ?_⟩) (by first | assumption | exact trivial) ?_
  · intro W hSW; go_simp; try (with_reducible rfl)
  simp only [Act.put, List.getElem_toArray, List.getElem_cons_succ, List.getElem_cons_zero, List.setIfInBounds_toArray, List.set_cons_zero, List.set_cons_succ]
  refine wpAnyH_ready (rs := [11]) (by kernel_rfl) (by simp) ?_
  refine AllReadyH.cons rfl (fun K hK => ?_) AllReadyH.nil
  go_simp
  go_wp2_with (go_at_call 31; refine (HP.out _ S0).mono ?_; rintro e w5 ⟨v5, rfl, k5, b5⟩; obtain ⟨A5, c5, rfl, _, _⟩ := k5.out.form)
  have S5 := S0.go b5.out
  have r5 : w5.heap[w.heap.size + 1 + 1]? = some (.cells #[.int .i64 0, .slice none 0 0] 29 (0, 0)) := (b5.out.block _ (Array.getElem?_eq_some_iff.1 r4).1).trans r4
  refine hK.out _ _ (S5) (fun hHeld => ?_)
  clear hK K
  refine wpAnyH_take (i := 12) (v := .agg #[.int .i64 room, .slice A5 L2.length c5]) rfl (by kernel_rfl) (by kernel_rfl) (by kernel_rfl) (fun _ _ _ h => h) (Or.inl ⟨by rfl, ?_⟩) (by first | assumption | exact trivial) ?_
  · intro W hSW; go_simp; try (with_reducible rfl)
  simp only [Act.put, List.getElem_toArray, List.getElem_cons_succ, List.getElem_cons_zero, List.setIfInBounds_toArray, List.set_cons_zero, List.set_cons_succ]
  refine wpAnyH_ready (rs := [13]) (by kernel_rfl) (by simp) ?_
  refine AllReadyH.cons rfl (fun K hK => ?_) AllReadyH.nil
  rw [if_pos (by kernel_rfl)]
  refine wp_store_row 29 (.tmp 4) (.tmp 26) rfl (w.heap.size + 1 + 1) #[.int .i64 room, .slice A5 L2.length c5] rfl (by rfl) 29 _ r5 (by kernel_rfl) rfl (set_one room _ rfl) ?_
  simp only [Act.put, List.getElem_toArray, List.getElem_cons_succ, List.getElem_cons_zero, List.setIfInBounds_toArray, List.set_cons_zero, List.set_cons_succ]
  have S6 := S5.row (D := w.heap.size + 1 + 1) (Nat.lt_succ_self _) #[.int .i64 room, .slice A5 L2.length c5]
  have r6 := setRow_heap _ _ _ #[.int .i64 room, .slice A5 L2.length c5] _ _ r5
  have k6 : Kv (fun k => w.heap.size ≤ k) (w5.setRow (w.heap.size + 1 + 1) #[.int .i64 room, .slice A5 L2.length c5]) (.slice A5 L2.length c5) L2 :=
    (k5.out.kv.but ((But.refl (fun k => k = w.heap.size + 1 + 1) w5).setRow (.inl rfl) _) (fun k hk e => by
      have h4 := (Array.getElem?_eq_some_iff.1 r4).1
      subst e
      exact absurd hk (Nat.not_le.2 h4))).mono (fun k _ hk => Nat.le_trans s4.below.size hk)
  obtain ⟨V6, hV6⟩ : ∃ V, w5.setRow (w.heap.size + 1 + 1) #[.int .i64 room, .slice A5 L2.length c5] = V := ⟨_, rfl⟩
  rw [hV6] at S6 r6 k6 ⊢
  clear hV6
  refine hK.out _ _ (S6) (fun hHeld => ?_)
  clear hK K
  refine wpAnyH_take (i := 14) (v := .int .i64 0) rfl (by kernel_rfl) (by kernel_rfl) (by kernel_rfl) (fun _ _ _ h => h) (Or.inl ⟨by rfl, ?_⟩) (by first | assumption | exact trivial) ?_
  · intro W hSW; go_simp; try (with_reducible rfl)
  simp only [Act.put, List.getElem_toArray, List.getElem_cons_succ, List.getElem_cons_zero, List.setIfInBounds_toArray, List.set_cons_zero, List.set_cons_succ]
  refine wpAnyH_done (by kernel_rfl) ?_ _
  go_wp2
  exact ret_box2 (g := w.heap.size + 1 + 1) rfl (by rfl) r6 rfl Try.underlying29 (by kernel_rfl) rfl ⟨_, rfl, k6, S6.below⟩
end Go.Proofs.Ythajocfgpodimaa.Se
