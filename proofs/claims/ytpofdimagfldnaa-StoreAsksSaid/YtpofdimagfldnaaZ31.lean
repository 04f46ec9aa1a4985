/- The document's Fresh and Seen, of a store; the program's Seen. -/
import Derived.Test.YtpofdimagfldnaaZ30
import Derived.Test.YtpofdimagfldnaaZ17
import Derived.Test.YtpofdimagfldnaaSoRFind
import Derived.Test.YtpofdimagfldnaaZ2
import Derived.Test.YtpofdimagfldnaaZ29
namespace Go.Proofs.Ytpofdimagfldnaa.So
open Go.RowKit Go.Deep
open Go.Proofs.Ytpofdimagfldnaa.Me Go.Proofs.Ytpofdimagfldnaa.Sb
set_option linter.unusedVariables false
set_option linter.unusedSimpArgs false

/-- What holds over the calls of Fresh: the world below, the store's copy. -/
structure Af (w : World) (C : Array Value) (W : World) : Prop where
  below : Below w.heap.size w W
  st : W.heap[w.heap.size]? = some (.cells C 36 (0, 0))
theorem Af.go {w : World} {C : Array Value} {W W' : World} (h : Af w C W) (hb : Below W.heap.size W W') : Af w C W' :=
  ⟨go_on h.below hb, (hb.block _ (Array.getElem?_eq_some_iff.1 h.st).1).trans h.st⟩
theorem Af.drew {w : World} {C : Array Value} {W : World} (h : Af w C W) : Af w C W.drew := ⟨h.below.drew, h.st⟩
theorem Af.row {w : World} {C : Array Value} {W : World} (h : Af w C W) (cs : Array Value) : Af w C (W.setRow (w.heap.size + 1) cs) :=
  ⟨Sb.below_setRow _ h.below (by omega), (setRow_other _ _ _ _ (by omega)).trans h.st⟩
theorem Af.start (w : World) (C : Array Value) : ∃ W3, (w.alloc (.cells C 36)).alloc (.cells #[.int .i64 0, .int .i64 0, .int .i64 0, .int .i64 0] 28) = W3 ∧ Af w C W3 ∧ W3.heap[w.heap.size + 1]? = some (.cells #[.int .i64 0, .int .i64 0, .int .i64 0, .int .i64 0] 28 (0, 0)) := by
  obtain ⟨hB, hY, hX⟩ := two_new w C #[.int .i64 0, .int .i64 0, .int .i64 0, .int .i64 0] 36 28
  exact ⟨_, rfl, ⟨hB, hX⟩, hY⟩
set_option maxRecDepth 100000 in
set_option maxHeartbeats 16000000 in
theorem rfresh_no (me qh qb qg ep d lu : Int) (vU vL vK : Value) (w : World) (z : Nat)
    (hc : (ep = 0 ∧ z = 7) ∨ ((ep == 0) = false ∧ numR d 63 = false ∧ z = 1) ∨ ((ep == 0) = false ∧ numR d 63 = true ∧ d = me ∧ z = 2) ∨ ((ep == 0) = false ∧ numR d 63 = true ∧ (d == me) = false ∧ lu = 65535 ∧ z = 10))
    (HLa : Hid (∀ W, Below w.heap.size w W → Calls Try.prog 36 #[.agg #[.int .i64 me, .int .i64 qh, .int .i64 qb, .int .i64 qg, .int .i64 ep, vU, vL, .int .i64 qg, vK], .int .i64 d] W fun e w' => e = .returned (.int .i64 lu) ∧ Hid (Below W.heap.size W w'))) : Calls Try.prog 11 #[.agg #[.int .i64 me, .int .i64 qh, .int .i64 qb, .int .i64 qg, .int .i64 ep, vU, vL, .int .i64 qg, vK], .int .i64 d] w fun e w' => e = .returned (.tuple #[.agg #[.int .i64 0, .int .i64 0, .int .i64 0, .int .i64 0], .int .i64 (z : Int)]) ∧ Hid (Below w.heap.size w w') := by
  obtain ⟨W3, hW3, s3, r3⟩ := Af.start w #[.int .i64 me, .int .i64 qh, .int .i64 qb, .int .i64 qg, .int .i64 ep, vU, vL, .int .i64 qg, vK]
  have HW := Lib.hid hW3
  have S3 := Lib.hid s3
  have R3 := Lib.hid r3
  have HN := Lib.hid (fun n m W => number_any n m W)
  obtain ⟨x0, x1, x2, x3, x4, x5, x6, x7, x8⟩ := rs_cells s3.st
  clear hW3 s3 r3
  rcases hc with ⟨rfl, rfl⟩ | ⟨g1, g2, rfl⟩ | ⟨g1, g2, rfl, rfl⟩ | ⟨g1, g2, g3, rfl, rfl⟩
  · go_enter Try.func11, Try.ntmps11
    go_wp2_with (rw [HW.out]; refine wpList_store_row rfl 28 (.tmp 4) (.tmp 9) rfl (w.heap.size + 1) #[.int .i64 0, .int .i64 0, .int .i64 0, .int .i64 0] rfl rfl 28 _ R3.out (by kernel_rfl) rfl (by kernel_rfl) ?_)
    exact Sb.ret_box2 (g := w.heap.size + 1) rfl (by rfl) (setRow_heap _ _ _ _ _ _ R3.out) rfl Try.underlying28 (by kernel_rfl) rfl ⟨rfl, (S3.out.row _).below⟩
  · go_enter Try.func11, Try.ntmps11
    go_wp2_with (first
      | (go_at_call 35; rw [HW.out]; refine (HN.out _ _ _).mono ?_; rintro e w2 ⟨rfl, rfl⟩)
      | (refine wpList_store_row rfl 28 (.tmp 4) (.tmp 13) rfl (w.heap.size + 1) #[.int .i64 0, .int .i64 0, .int .i64 0, .int .i64 0] rfl rfl 28 _ R3.out (by kernel_rfl) rfl (by kernel_rfl) ?_))
    exact Sb.ret_box2 (g := w.heap.size + 1) rfl (by rfl) (setRow_heap _ _ _ _ _ _ R3.out) rfl Try.underlying28 (by kernel_rfl) rfl ⟨rfl, (S3.out.row _).below⟩
  · go_enter Try.func11, Try.ntmps11
    go_wp2_with (first
      | (go_at_call 35; rw [HW.out]; refine (HN.out _ _ _).mono ?_; rintro e w2 ⟨rfl, rfl⟩)
      | (refine wpList_store_row rfl 28 (.tmp 4) (.tmp 18) rfl (w.heap.size + 1) #[.int .i64 0, .int .i64 0, .int .i64 0, .int .i64 0] rfl rfl 28 _ R3.out (by kernel_rfl) rfl (by kernel_rfl) ?_))
    exact Sb.ret_box2 (g := w.heap.size + 1) rfl (by rfl) (setRow_heap _ _ _ _ _ _ R3.out) rfl Try.underlying28 (by kernel_rfl) rfl ⟨rfl, (S3.out.row _).below⟩
  · go_enter Try.func11, Try.ntmps11
    go_wp2_with (first
      | (go_at_call 35; rw [HW.out]; refine (HN.out _ _ _).mono ?_; rintro e w2 ⟨rfl, rfl⟩)
      | (go_at_call 36; refine (HLa.out _ S3.out.below).mono ?_; rintro e w4 ⟨rfl, b4⟩; have S4 := Lib.hid (S3.out.go b4.out); have R4 := Lib.hid ((b4.out.block _ (Array.getElem?_eq_some_iff.1 R3.out).1).trans R3.out))
      | (refine wpList_store_row rfl 28 (.tmp 4) (.tmp 23) rfl (w.heap.size + 1) #[.int .i64 0, .int .i64 0, .int .i64 0, .int .i64 0] rfl rfl 28 _ R4.out (by kernel_rfl) rfl (by kernel_rfl) ?_))
    exact Sb.ret_box2 (g := w.heap.size + 1) rfl (by rfl) (setRow_heap _ _ _ _ _ _ R4.out) rfl Try.underlying28 (by kernel_rfl) rfl ⟨rfl, (S4.out.row _).below⟩
set_option maxRecDepth 100000 in
set_option maxHeartbeats 16000000 in
theorem rfresh_ok (me qh qb qg ep d lu : Int) (vU vL vK : Value) (w : World) (g1 : (ep == 0) = false) (g2 : numR d 63 = true) (g3 : (d == me) = false) (hlu : 0 ≤ lu) (hl2 : lu < 65535)
    (HLa : Hid (∀ W, Below w.heap.size w W → Calls Try.prog 36 #[.agg #[.int .i64 me, .int .i64 qh, .int .i64 qb, .int .i64 qg, .int .i64 ep, vU, vL, .int .i64 qg, vK], .int .i64 d] W fun e w' => e = .returned (.int .i64 lu) ∧ Hid (Below W.heap.size W w'))) : Calls Try.prog 11 #[.agg #[.int .i64 me, .int .i64 qh, .int .i64 qb, .int .i64 qg, .int .i64 ep, vU, vL, .int .i64 qg, vK], .int .i64 d] w fun e w' => e = .returned (.tuple #[.agg #[.int .i64 me, .int .i64 d, .int .i64 ep, .int .i64 (lu + 1)], .int .i64 0]) ∧ Hid (Below w.heap.size w w') := by
  obtain ⟨W3, hW3, s3, r3⟩ := Af.start w #[.int .i64 me, .int .i64 qh, .int .i64 qb, .int .i64 qg, .int .i64 ep, vU, vL, .int .i64 qg, vK]
  have HW := Lib.hid hW3
  have S3 := Lib.hid s3
  have R3 := Lib.hid r3
  have HN := Lib.hid (fun n m W => number_any n m W)
  obtain ⟨x0, x1, x2, x3, x4, x5, x6, x7, x8⟩ := rs_cells s3.st
  clear hW3 s3 r3
  go_enter Try.func11, Try.ntmps11
  go_wp2_with (first
    | (go_at_call 35; rw [HW.out]; refine (HN.out _ _ _).mono ?_; rintro e w2 ⟨rfl, rfl⟩)
    | (go_at_call 36; refine (HLa.out _ S3.out.below).mono ?_; rintro e w4 ⟨rfl, b4⟩; have S4 := Lib.hid (S3.out.go b4.out); have R4 := Lib.hid ((b4.out.block _ (Array.getElem?_eq_some_iff.1 R3.out).1).trans R3.out)))
  clear x0 x1 x2 x3 x4 x5 x6 x7 x8
  have hwr : IntKind.i64.wrap (lu + 1) = lu + 1 := Mi.fits' (by unfold Mi.I64; omega)
  have S0 := S4.out.drew
  refine wp_region_held_drew (S := fun W => Af w #[.int .i64 me, .int .i64 qh, .int .i64 qb, .int .i64 qg, .int .i64 ep, vU, vL, .int .i64 qg, vK] W) (by kernel_rfl) S0 (fun hHeld => ?_)
  refine wpAnyH_take (i := 0) (v := .pointer (some ⟨w.heap.size, 0, none⟩)) rfl (by kernel_rfl) (by kernel_rfl) (by kernel_rfl) (fun _ _ _ h => h) (Or.inl ⟨by rfl, ?_⟩) (by first | assumption | exact trivial) ?_
  · intro W hSW; go_simp; try (with_reducible rfl)
  simp only [Act.put, List.getElem_toArray, List.getElem_cons_succ, List.getElem_cons_zero, List.setIfInBounds_toArray, List.set_cons_zero, List.set_cons_succ]
  refine wpAnyH_take (i := 1) (v := .int .i64 me) rfl (by kernel_rfl) (by kernel_rfl) (by kernel_rfl) (fun _ _ _ h => h) (Or.inl ⟨by rfl, ?_⟩) (by first | assumption | exact trivial) ?_
  · intro W hSW; obtain ⟨x0, x1, x2, x3, x4, x5, x6, x7, x8⟩ := rs_cells hSW.st; go_simp; try (with_reducible rfl)
  simp only [Act.put, List.getElem_toArray, List.getElem_cons_succ, List.getElem_cons_zero, List.setIfInBounds_toArray, List.set_cons_zero, List.set_cons_succ]
  refine wpAnyH_take (i := 2) (v := .int .i64 d) rfl (by kernel_rfl) (by kernel_rfl) (by kernel_rfl) (fun _ _ _ h => h) (Or.inl ⟨by rfl, ?_⟩) (by first | assumption | exact trivial) ?_
  · intro W hSW; go_simp; try (with_reducible rfl)
  simp only [Act.put, List.getElem_toArray, List.getElem_cons_succ, List.getElem_cons_zero, List.setIfInBounds_toArray, List.set_cons_zero, List.set_cons_succ]
  refine wpAnyH_take (i := 3) (v := .pointer (some ⟨w.heap.size, 4, none⟩)) rfl (by kernel_rfl) (by kernel_rfl) (by kernel_rfl) (fun _ _ _ h => h) (Or.inl ⟨by rfl, ?_⟩) (by first | assumption | exact trivial) ?_
  · intro W hSW; go_simp; try (with_reducible rfl)
  simp only [Act.put, List.getElem_toArray, List.getElem_cons_succ, List.getElem_cons_zero, List.setIfInBounds_toArray, List.set_cons_zero, List.set_cons_succ]
  refine wpAnyH_take (i := 4) (v := .int .i64 ep) rfl (by kernel_rfl) (by kernel_rfl) (by kernel_rfl) (fun _ _ _ h => h) (Or.inl ⟨by rfl, ?_⟩) (by first | assumption | exact trivial) ?_
  · intro W hSW; obtain ⟨x0, x1, x2, x3, x4, x5, x6, x7, x8⟩ := rs_cells hSW.st; go_simp; try (with_reducible rfl)
  simp only [Act.put, List.getElem_toArray, List.getElem_cons_succ, List.getElem_cons_zero, List.setIfInBounds_toArray, List.set_cons_zero, List.set_cons_succ]
  refine wpAnyH_take (i := 5) (v := .agg #[.int .i64 me, .int .i64 qh, .int .i64 qb, .int .i64 qg, .int .i64 ep, vU, vL, .int .i64 qg, vK]) rfl (by kernel_rfl) (by kernel_rfl) (by kernel_rfl) (fun _ _ _ h => h) (Or.inl ⟨by rfl, ?_⟩) (by first | assumption | exact trivial) ?_
  · intro W hSW; obtain ⟨x0, x1, x2, x3, x4, x5, x6, x7, x8⟩ := rs_cells hSW.st; go_simp; try (with_reducible rfl)
  simp only [Act.put, List.getElem_toArray, List.getElem_cons_succ, List.getElem_cons_zero, List.setIfInBounds_toArray, List.set_cons_zero, List.set_cons_succ]
  refine wpAnyH_take (i := 6) (v := .int .i64 d) rfl (by kernel_rfl) (by kernel_rfl) (by kernel_rfl) (fun _ _ _ h => h) (Or.inl ⟨by rfl, ?_⟩) (by first | assumption | exact trivial) ?_
  · intro W hSW; go_simp; try (with_reducible rfl)
  simp only [Act.put, List.getElem_toArray, List.getElem_cons_succ, List.getElem_cons_zero, List.setIfInBounds_toArray, List.set_cons_zero, List.set_cons_succ]
  refine wpAnyH_ready (rs := [7]) (by kernel_rfl) (by simp) ?_
  refine AllReadyH.cons rfl (fun K hK => ?_) AllReadyH.nil
  go_simp
  go_wp2_with (go_at_call 36; refine (HLa.out _ S0.below).mono ?_; rintro e w5 ⟨rfl, b5⟩)
  have S5 := S0.go b5.out
  have r5 : w5.heap[w.heap.size + 1]? = some (.cells #[.int .i64 0, .int .i64 0, .int .i64 0, .int .i64 0] 28 (0, 0)) := (b5.out.block _ (Array.getElem?_eq_some_iff.1 R4.out).1).trans R4.out
  refine hK.out _ _ (S5) (fun hHeld => ?_)
  clear hK K
  refine wpAnyH_take (i := 8) (v := .int .i64 (lu + 1)) rfl (by kernel_rfl) (by kernel_rfl) (by kernel_rfl) (fun _ _ _ h => h) (Or.inl ⟨by rfl, ?_⟩) (by first | assumption | exact trivial) ?_
  · intro W hSW; go_simp; try (with_reducible rfl)
  simp only [Act.put, List.getElem_toArray, List.getElem_cons_succ, List.getElem_cons_zero, List.setIfInBounds_toArray, List.set_cons_zero, List.set_cons_succ]
  refine wpAnyH_take (i := 9) (v := .agg #[.int .i64 me, .int .i64 d, .int .i64 ep, .int .i64 (lu + 1)]) rfl (by kernel_rfl) (by kernel_rfl) (by kernel_rfl) (fun _ _ _ h => h) (Or.inl ⟨by rfl, ?_⟩) (by first | assumption | exact trivial) ?_
  · intro W hSW; go_simp; try (with_reducible rfl)
  simp only [Act.put, List.getElem_toArray, List.getElem_cons_succ, List.getElem_cons_zero, List.setIfInBounds_toArray, List.set_cons_zero, List.set_cons_succ]
  refine wpAnyH_ready (rs := [10]) (by kernel_rfl) (by simp) ?_
  refine AllReadyH.cons rfl (fun K hK => ?_) AllReadyH.nil
  rw [if_pos (by kernel_rfl)]
  refine wp_store_row 28 (.tmp 4) (.tmp 33) rfl (w.heap.size + 1) #[.int .i64 me, .int .i64 d, .int .i64 ep, .int .i64 (lu + 1)] rfl (by rfl) 28 _ r5 (by kernel_rfl) rfl (by simp [Value.oneCell']) ?_
  simp only [Act.put, List.getElem_toArray, List.getElem_cons_succ, List.getElem_cons_zero, List.setIfInBounds_toArray, List.set_cons_zero, List.set_cons_succ]
  have S6 := S5.row #[.int .i64 me, .int .i64 d, .int .i64 ep, .int .i64 (lu + 1)]
  have r6 := setRow_heap _ _ _ #[.int .i64 me, .int .i64 d, .int .i64 ep, .int .i64 (lu + 1)] _ _ r5
  obtain ⟨V6, hV6⟩ : ∃ V, w5.setRow (w.heap.size + 1) #[.int .i64 me, .int .i64 d, .int .i64 ep, .int .i64 (lu + 1)] = V := ⟨_, rfl⟩
  rw [hV6] at S6 r6 ⊢
  clear hV6
  refine hK.out _ _ (S6) (fun hHeld => ?_)
  clear hK K
  refine wpAnyH_take (i := 11) (v := .int .i64 0) rfl (by kernel_rfl) (by kernel_rfl) (by kernel_rfl) (fun _ _ _ h => h) (Or.inl ⟨by rfl, ?_⟩) (by first | assumption | exact trivial) ?_
  · intro W hSW; go_simp; try (with_reducible rfl)
  simp only [Act.put, List.getElem_toArray, List.getElem_cons_succ, List.getElem_cons_zero, List.setIfInBounds_toArray, List.set_cons_zero, List.set_cons_succ]
  refine wpAnyH_done (by kernel_rfl) ?_ _
  go_wp2
  exact Sb.ret_box2 (g := w.heap.size + 1) rfl (by rfl) r6 rfl Try.underlying28 (by kernel_rfl) rfl ⟨rfl, S6.below⟩
set_option maxHeartbeats 4000000 in
theorem RFresh_s (Q : Nat → Prop) (w : World) (s : Sto) (K : Se.Ks) (vU vL vK : Value) (P : List Pq) (d : Int) (h : Hid (Rf Q w s K vU vL vK P)) : Calls Try.prog 11 #[.agg (rsv s vU vL vK), .int .i64 d] w fun e w' => e = .returned (.tuple #[.agg (Mg.idC (frI s d)), .int .i64 (frN s d : Int)]) ∧ Hid (Below w.heap.size w w') := by
  have hul : (usedTo s.last 64).length ≤ 1000 := by have := usedTo_len s.last 64; omega
  have HLa : ∀ W, Below w.heap.size w W → Calls Try.prog 36 #[.agg (rsv s vU vL vK), .int .i64 d] W fun e w' => e = .returned (.int .i64 (lastU (usedTo s.last 64) d)) ∧ Hid (Below W.heap.size W w') := fun W hW => RLast_any s.self s.qh s.qb s.qg s.epoch s.qg vU vL vK _ d W (h.out.un.below hW) hul
  have hlu : (0 ≤ d ∧ d < 64) → lastU (usedTo s.last 64) d = s.last d.toNat ∧ 0 ≤ s.last d.toNat ∧ s.last d.toNat ≤ 65535 := fun hd => by
    obtain ⟨n, hn⟩ : ∃ n : Nat, d = (n : Int) := ⟨d.toNat, by omega⟩
    subst hn
    have h64 : n < 64 := by omega
    have hl := h.out.ok.l0 n h64
    rw [lastU_used s.last n 64 h64]
    simp only [Int.toNat_natCast]
    refine ⟨?_, hl⟩
    split
    · rfl
    · omega
  obtain ⟨lu, hlue⟩ : ∃ x, lastU (usedTo s.last 64) d = x := ⟨_, rfl⟩
  rw [hlue] at HLa hlu
  simp only [rsv, rsc] at HLa ⊢
  have hI : ∀ z : Nat, frN s d = z → z ≠ 0 → Mg.idC (frI s d) = #[.int .i64 0, .int .i64 0, .int .i64 0, .int .i64 0] := fun z hz h0 => by unfold frI; rw [if_neg (by omega)]; rfl
  rcases frN_cases s d with ⟨h1, hz⟩ | ⟨h1, h2, hz⟩ | ⟨h1, h2, h3, hz⟩ | ⟨h1, h2, h3, h4, hz⟩ | ⟨h1, h2, h3, h4, hz⟩
  · rw [hI 7 hz (by decide), hz]
    exact rfresh_no s.self s.qh s.qb s.qg s.epoch d lu vU vL vK w 7 (.inl ⟨h1, rfl⟩) HLa
  · rw [hI 1 hz (by decide), hz]
    exact rfresh_no s.self s.qh s.qb s.qg s.epoch d lu vU vL vK w 1 (.inr (.inl ⟨by simpa using h1, numR_no fun q => h2 ⟨q.1, by omega⟩, rfl⟩)) HLa
  · rw [hI 2 hz (by decide), hz]
    exact rfresh_no s.self s.qh s.qb s.qg s.epoch d lu vU vL vK w 2 (.inr (.inr (.inl ⟨by simpa using h1, numR_yes ⟨h2.1, by omega⟩, h3, rfl⟩))) HLa
  · rw [hI 10 hz (by decide), hz]
    exact rfresh_no s.self s.qh s.qb s.qg s.epoch d lu vU vL vK w 10 (.inr (.inr (.inr ⟨by simpa using h1, numR_yes ⟨h2.1, by omega⟩, by simpa using h3, (hlu h2).1.trans h4, rfl⟩))) HLa
  · obtain ⟨e1, e2, e3⟩ := hlu h2
    have hi : Mg.idC (frI s d) = #[.int .i64 s.self, .int .i64 d, .int .i64 s.epoch, .int .i64 (lu + 1)] := by unfold frI; rw [if_pos hz, e1]; rfl
    rw [hi, hz]
    exact rfresh_ok s.self s.qh s.qb s.qg s.epoch d lu vU vL vK w (by simpa using h1) (numR_yes ⟨h2.1, by omega⟩) (by simpa using h3) (by omega) (by omega) HLa
end Go.Proofs.Ytpofdimagfldnaa.So
/- Seen, of both stores. -/
namespace Go.Proofs.Ytpofdimagfldnaa.So
open Go.RowKit Go.Deep
open Go.Proofs.Ytpofdimagfldnaa.Me Go.Proofs.Ytpofdimagfldnaa.Sb
set_option linter.unusedVariables false
set_option linter.unusedSimpArgs false

def seenS (s : Sto) (i : Mg.Id4) : Bool := decide (i.d = s.self) && Se.hasS s.seen i
set_option maxRecDepth 100000 in
set_option maxHeartbeats 16000000 in
theorem seen_one (D sd : Nat) (me : Int) (o d ee cc : Int) (w : World) (hb : Bool) (g : (d == me) = true)
    (HC : Hid (∀ W, Below w.heap.size w W → W.cell? ⟨D, 0, none⟩ = some (.int .i64 me) ∧ W.cell? ⟨D, 72, none⟩ = some (.pointer (some ⟨sd, 0, none⟩))))
    (HH : Hid (∀ W, Below w.heap.size w W → Calls Try.prog 39 #[.pointer (some ⟨sd, 0, none⟩), .agg #[.int .i64 o, .int .i64 d, .int .i64 ee, .int .i64 cc]] W fun e w' => e = .returned (.bool hb) ∧ Hid (Below W.heap.size W w'))) : Calls Try.prog 15 #[.pointer (some ⟨D, 0, none⟩), .agg #[.int .i64 o, .int .i64 d, .int .i64 ee, .int .i64 cc]] w fun e w' => e = .returned (.bool hb) ∧ Hid (Below w.heap.size w w') := by
  obtain ⟨W1, hW1⟩ : ∃ W, w.alloc (.cells #[.int .i64 o, .int .i64 d, .int .i64 ee, .int .i64 cc] 28) = W := ⟨_, rfl⟩
  have b1 : Below w.heap.size w W1 := by rw [← hW1]; exact Me.below_alloc (Below.refl _ _)
  have r1 : W1.heap[w.heap.size]? = some (.cells #[.int .i64 o, .int .i64 d, .int .i64 ee, .int .i64 cc] 28 (0, 0)) := by rw [← hW1]; exact heap_alloc_new w _
  have HID : Hid (∀ W, Below W1.heap.size W1 W → Below w.heap.size w W ∧ W.heap[w.heap.size]? = some (.cells #[.int .i64 o, .int .i64 d, .int .i64 ee, .int .i64 cc] 28 (0, 0))) := fun W hW => ⟨go_on b1 hW, (hW.block _ (Array.getElem?_eq_some_iff.1 r1).1).trans r1⟩
  have HW1 := Lib.hid hW1
  clear hW1 b1 r1
  go_enter Try.func15, Try.ntmps15
  go_wp2
  rw [HW1.out]
  have S0 := (Below.refl W1.heap.size W1).drew
  refine wp_region_held_drew (S := fun W => Below W1.heap.size W1 W) (by kernel_rfl) S0 (fun hHeld => ?_)
  refine wpAnyH_take (i := 0) (v := .pointer (some ⟨D, 0, none⟩)) rfl (by kernel_rfl) (by kernel_rfl) (by kernel_rfl) (fun _ _ _ h => h) (Or.inl ⟨by rfl, ?_⟩) (by first | assumption | exact trivial) ?_
  · intro W hSW; go_simp; try (with_reducible rfl)
  simp only [Act.put, List.getElem_toArray, List.getElem_cons_succ, List.getElem_cons_zero, List.setIfInBounds_toArray, List.set_cons_zero, List.set_cons_succ]
  refine wpAnyH_take (i := 1) (v := .bool true) rfl (by kernel_rfl) (by kernel_rfl) (by kernel_rfl) (fun _ _ _ h => h) (Or.inl ⟨by rfl, ?_⟩) (by first | assumption | exact trivial) ?_
  · intro W hSW; go_simp; try (with_reducible rfl)
  simp only [Act.put, List.getElem_toArray, List.getElem_cons_succ, List.getElem_cons_zero, List.setIfInBounds_toArray, List.set_cons_zero, List.set_cons_succ]
  refine wpAnyH_take (i := 2) (v := .bool true) rfl (by kernel_rfl) (by kernel_rfl) (by kernel_rfl) (fun _ _ _ h => h) (Or.inl ⟨by rfl, ?_⟩) (by first | assumption | exact trivial) ?_
  · intro W hSW; go_simp; try (with_reducible rfl)
  simp only [Act.put, List.getElem_toArray, List.getElem_cons_succ, List.getElem_cons_zero, List.setIfInBounds_toArray, List.set_cons_zero, List.set_cons_succ]
  refine wpAnyH_take (i := 3) (v := .pointer (some ⟨w.heap.size, 1, none⟩)) rfl (by kernel_rfl) (by kernel_rfl) (by kernel_rfl) (fun _ _ _ h => h) (Or.inl ⟨by rfl, ?_⟩) (by first | assumption | exact trivial) ?_
  · intro W hSW; go_simp; try (with_reducible rfl)
  simp only [Act.put, List.getElem_toArray, List.getElem_cons_succ, List.getElem_cons_zero, List.setIfInBounds_toArray, List.set_cons_zero, List.set_cons_succ]
  refine wpAnyH_take (i := 4) (v := .int .i64 d) rfl (by kernel_rfl) (by kernel_rfl) (by kernel_rfl) (fun _ _ _ h => h) (Or.inl ⟨by rfl, ?_⟩) (by first | assumption | exact trivial) ?_
  · intro W hSW; obtain ⟨i0, i1, i2, i3⟩ := id_cells (HID.out W hSW).2; go_simp; try (with_reducible rfl)
  simp only [Act.put, List.getElem_toArray, List.getElem_cons_succ, List.getElem_cons_zero, List.setIfInBounds_toArray, List.set_cons_zero, List.set_cons_succ]
  refine wpAnyH_take (i := 5) (v := .pointer (some ⟨D, 0, none⟩)) rfl (by kernel_rfl) (by kernel_rfl) (by kernel_rfl) (fun _ _ _ h => h) (Or.inl ⟨by rfl, ?_⟩) (by first | assumption | exact trivial) ?_
  · intro W hSW; go_simp; try (with_reducible rfl)
  simp only [Act.put, List.getElem_toArray, List.getElem_cons_succ, List.getElem_cons_zero, List.setIfInBounds_toArray, List.set_cons_zero, List.set_cons_succ]
  refine wpAnyH_take (i := 6) (v := .pointer (some ⟨D, 0, none⟩)) rfl (by kernel_rfl) (by kernel_rfl) (by kernel_rfl) (fun _ _ _ h => h) (Or.inl ⟨by rfl, ?_⟩) (by first | assumption | exact trivial) ?_
  · intro W hSW; go_simp; try (with_reducible rfl)
  simp only [Act.put, List.getElem_toArray, List.getElem_cons_succ, List.getElem_cons_zero, List.setIfInBounds_toArray, List.set_cons_zero, List.set_cons_succ]
  refine wpAnyH_take (i := 7) (v := .pointer (some ⟨D, 0, none⟩)) rfl (by kernel_rfl) (by kernel_rfl) (by kernel_rfl) (fun _ _ _ h => h) (Or.inl ⟨by rfl, ?_⟩) (by first | assumption | exact trivial) ?_
  · intro W hSW; go_simp; try (with_reducible rfl)
  simp only [Act.put, List.getElem_toArray, List.getElem_cons_succ, List.getElem_cons_zero, List.setIfInBounds_toArray, List.set_cons_zero, List.set_cons_succ]
  refine wpAnyH_take (i := 8) (v := .int .i64 me) rfl (by kernel_rfl) (by kernel_rfl) (by kernel_rfl) (fun _ _ _ h => h) (Or.inl ⟨by rfl, ?_⟩) (by first | assumption | exact trivial) ?_
  · intro W hSW; obtain ⟨c0, c1⟩ := HC.out W (HID.out W hSW).1; go_simp; try (with_reducible rfl)
  simp only [Act.put, List.getElem_toArray, List.getElem_cons_succ, List.getElem_cons_zero, List.setIfInBounds_toArray, List.set_cons_zero, List.set_cons_succ]
  refine wpAnyH_take (i := 9) (v := .bool true) rfl (by kernel_rfl) (by kernel_rfl) (by kernel_rfl) (fun _ _ _ h => h) (Or.inl ⟨by rfl, ?_⟩) (by first | assumption | exact trivial) ?_
  · intro W hSW; go_simp; try (with_reducible rfl)
  simp only [Act.put, List.getElem_toArray, List.getElem_cons_succ, List.getElem_cons_zero, List.setIfInBounds_toArray, List.set_cons_zero, List.set_cons_succ]
  refine wpAnyH_take (i := 10) (v := .bool true) rfl (by kernel_rfl) (by kernel_rfl) (by kernel_rfl) (fun _ _ _ h => h) (Or.inl ⟨by rfl, ?_⟩) (by first | assumption | exact trivial) ?_
  · intro W hSW; go_simp; try (with_reducible rfl)
  simp only [Act.put, List.getElem_toArray, List.getElem_cons_succ, List.getElem_cons_zero, List.setIfInBounds_toArray, List.set_cons_zero, List.set_cons_succ]
  refine wpAnyH_take (i := 11) (v := .bool true) rfl (by kernel_rfl) (by kernel_rfl) (by kernel_rfl) (fun _ _ _ h => h) (Or.inl ⟨by rfl, ?_⟩) (by first | assumption | exact trivial) ?_
  · intro W hSW; go_simp; try (with_reducible rfl)
  simp only [Act.put, List.getElem_toArray, List.getElem_cons_succ, List.getElem_cons_zero, List.setIfInBounds_toArray, List.set_cons_zero, List.set_cons_succ]
  refine wpAnyH_take (i := 12) (v := .pointer (some ⟨D, 0, none⟩)) rfl (by kernel_rfl) (by kernel_rfl) (by kernel_rfl) (fun _ _ _ h => h) (Or.inl ⟨by rfl, ?_⟩) (by first | assumption | exact trivial) ?_
  · intro W hSW; go_simp; try (with_reducible rfl)
  simp only [Act.put, List.getElem_toArray, List.getElem_cons_succ, List.getElem_cons_zero, List.setIfInBounds_toArray, List.set_cons_zero, List.set_cons_succ]
  refine wpAnyH_take (i := 13) (v := .pointer (some ⟨D, 0, none⟩)) rfl (by kernel_rfl) (by kernel_rfl) (by kernel_rfl) (fun _ _ _ h => h) (Or.inl ⟨by rfl, ?_⟩) (by first | assumption | exact trivial) ?_
  · intro W hSW; go_simp; try (with_reducible rfl)
  simp only [Act.put, List.getElem_toArray, List.getElem_cons_succ, List.getElem_cons_zero, List.setIfInBounds_toArray, List.set_cons_zero, List.set_cons_succ]
  refine wpAnyH_take (i := 14) (v := .pointer (some ⟨D, 72, none⟩)) rfl (by kernel_rfl) (by kernel_rfl) (by kernel_rfl) (fun _ _ _ h => h) (Or.inl ⟨by rfl, ?_⟩) (by first | assumption | exact trivial) ?_
  · intro W hSW; go_simp; try (with_reducible rfl)
  simp only [Act.put, List.getElem_toArray, List.getElem_cons_succ, List.getElem_cons_zero, List.setIfInBounds_toArray, List.set_cons_zero, List.set_cons_succ]
  refine wpAnyH_take (i := 15) (v := .pointer (some ⟨sd, 0, none⟩)) rfl (by kernel_rfl) (by kernel_rfl) (by kernel_rfl) (fun _ _ _ h => h) (Or.inl ⟨by rfl, ?_⟩) (by first | assumption | exact trivial) ?_
  · intro W hSW; obtain ⟨c0, c1⟩ := HC.out W (HID.out W hSW).1; go_simp; try (with_reducible rfl)
  simp only [Act.put, List.getElem_toArray, List.getElem_cons_succ, List.getElem_cons_zero, List.setIfInBounds_toArray, List.set_cons_zero, List.set_cons_succ]
  refine wpAnyH_take (i := 16) (v := .agg #[.int .i64 o, .int .i64 d, .int .i64 ee, .int .i64 cc]) rfl (by kernel_rfl) (by kernel_rfl) (by kernel_rfl) (fun _ _ _ h => h) (Or.inl ⟨by rfl, ?_⟩) (by first | assumption | exact trivial) ?_
  · intro W hSW; obtain ⟨i0, i1, i2, i3⟩ := id_cells (HID.out W hSW).2; go_simp; try (with_reducible rfl)
  simp only [Act.put, List.getElem_toArray, List.getElem_cons_succ, List.getElem_cons_zero, List.setIfInBounds_toArray, List.set_cons_zero, List.set_cons_succ]
  refine wpAnyH_ready (rs := [17]) (by kernel_rfl) (by simp) ?_
  refine AllReadyH.cons rfl (fun K hK => ?_) AllReadyH.nil
  go_simp
  go_wp2_with (go_at_call 39; refine (HH.out _ (HID.out _ S0).1).mono ?_; rintro e w5 ⟨rfl, b5⟩)
  have S5 : Below W1.heap.size W1 w5 := go_on S0 b5.out
  refine hK.out _ _ (S5) (fun hHeld => ?_)
  clear hK K
  refine wpAnyH_take (i := 18) (v := .bool hb) rfl (by kernel_rfl) (by kernel_rfl) (by kernel_rfl) (fun _ _ _ h => h) (Or.inl ⟨by rfl, ?_⟩) (by first | assumption | exact trivial) ?_
  · intro W hSW; go_simp; try (with_reducible rfl)
  simp only [Act.put, List.getElem_toArray, List.getElem_cons_succ, List.getElem_cons_zero, List.setIfInBounds_toArray, List.set_cons_zero, List.set_cons_succ]
  refine wpAnyH_take (i := 19) (v := .bool hb) rfl (by kernel_rfl) (by kernel_rfl) (by kernel_rfl) (fun _ _ _ h => h) (Or.inl ⟨by rfl, ?_⟩) (by first | assumption | exact trivial) ?_
  · intro W hSW; go_simp; try (with_reducible rfl)
  simp only [Act.put, List.getElem_toArray, List.getElem_cons_succ, List.getElem_cons_zero, List.setIfInBounds_toArray, List.set_cons_zero, List.set_cons_succ]
  refine wpAnyH_done (by kernel_rfl) ?_ _
  go_wp2
  go_ret
  exact ⟨rfl, (HID.out _ S5).1⟩
set_option maxRecDepth 100000 in
set_option maxHeartbeats 16000000 in
theorem seen_two (D : Nat) (me : Int) (o d ee cc : Int) (w : World) (g : (d == me) = false)
    (HC : Hid (∀ W, Below w.heap.size w W → W.cell? ⟨D, 0, none⟩ = some (.int .i64 me))) : Calls Try.prog 15 #[.pointer (some ⟨D, 0, none⟩), .agg #[.int .i64 o, .int .i64 d, .int .i64 ee, .int .i64 cc]] w fun e w' => e = .returned (.bool false) ∧ Hid (Below w.heap.size w w') := by
  obtain ⟨W1, hW1⟩ : ∃ W, w.alloc (.cells #[.int .i64 o, .int .i64 d, .int .i64 ee, .int .i64 cc] 28) = W := ⟨_, rfl⟩
  have b1 : Below w.heap.size w W1 := by rw [← hW1]; exact Me.below_alloc (Below.refl _ _)
  have r1 : W1.heap[w.heap.size]? = some (.cells #[.int .i64 o, .int .i64 d, .int .i64 ee, .int .i64 cc] 28 (0, 0)) := by rw [← hW1]; exact heap_alloc_new w _
  have HID : Hid (∀ W, Below W1.heap.size W1 W → Below w.heap.size w W ∧ W.heap[w.heap.size]? = some (.cells #[.int .i64 o, .int .i64 d, .int .i64 ee, .int .i64 cc] 28 (0, 0))) := fun W hW => ⟨go_on b1 hW, (hW.block _ (Array.getElem?_eq_some_iff.1 r1).1).trans r1⟩
  have HW1 := Lib.hid hW1
  clear hW1 b1 r1
  go_enter Try.func15, Try.ntmps15
  go_wp2
  rw [HW1.out]
  have S0 := (Below.refl W1.heap.size W1).drew
  refine wp_region_held_drew (S := fun W => Below W1.heap.size W1 W) (by kernel_rfl) S0 (fun hHeld => ?_)
  refine wpAnyH_take (i := 0) (v := .pointer (some ⟨D, 0, none⟩)) rfl (by kernel_rfl) (by kernel_rfl) (by kernel_rfl) (fun _ _ _ h => h) (Or.inl ⟨by rfl, ?_⟩) (by first | assumption | exact trivial) ?_
  · intro W hSW; go_simp; try (with_reducible rfl)
  simp only [Act.put, List.getElem_toArray, List.getElem_cons_succ, List.getElem_cons_zero, List.setIfInBounds_toArray, List.set_cons_zero, List.set_cons_succ]
  refine wpAnyH_take (i := 1) (v := .bool true) rfl (by kernel_rfl) (by kernel_rfl) (by kernel_rfl) (fun _ _ _ h => h) (Or.inl ⟨by rfl, ?_⟩) (by first | assumption | exact trivial) ?_
  · intro W hSW; go_simp; try (with_reducible rfl)
  simp only [Act.put, List.getElem_toArray, List.getElem_cons_succ, List.getElem_cons_zero, List.setIfInBounds_toArray, List.set_cons_zero, List.set_cons_succ]
  refine wpAnyH_take (i := 2) (v := .bool true) rfl (by kernel_rfl) (by kernel_rfl) (by kernel_rfl) (fun _ _ _ h => h) (Or.inl ⟨by rfl, ?_⟩) (by first | assumption | exact trivial) ?_
  · intro W hSW; go_simp; try (with_reducible rfl)
  simp only [Act.put, List.getElem_toArray, List.getElem_cons_succ, List.getElem_cons_zero, List.setIfInBounds_toArray, List.set_cons_zero, List.set_cons_succ]
  refine wpAnyH_take (i := 3) (v := .pointer (some ⟨w.heap.size, 1, none⟩)) rfl (by kernel_rfl) (by kernel_rfl) (by kernel_rfl) (fun _ _ _ h => h) (Or.inl ⟨by rfl, ?_⟩) (by first | assumption | exact trivial) ?_
  · intro W hSW; go_simp; try (with_reducible rfl)
  simp only [Act.put, List.getElem_toArray, List.getElem_cons_succ, List.getElem_cons_zero, List.setIfInBounds_toArray, List.set_cons_zero, List.set_cons_succ]
  refine wpAnyH_take (i := 4) (v := .int .i64 d) rfl (by kernel_rfl) (by kernel_rfl) (by kernel_rfl) (fun _ _ _ h => h) (Or.inl ⟨by rfl, ?_⟩) (by first | assumption | exact trivial) ?_
  · intro W hSW; obtain ⟨i0, i1, i2, i3⟩ := id_cells (HID.out W hSW).2; go_simp; try (with_reducible rfl)
  simp only [Act.put, List.getElem_toArray, List.getElem_cons_succ, List.getElem_cons_zero, List.setIfInBounds_toArray, List.set_cons_zero, List.set_cons_succ]
  refine wpAnyH_take (i := 5) (v := .pointer (some ⟨D, 0, none⟩)) rfl (by kernel_rfl) (by kernel_rfl) (by kernel_rfl) (fun _ _ _ h => h) (Or.inl ⟨by rfl, ?_⟩) (by first | assumption | exact trivial) ?_
  · intro W hSW; go_simp; try (with_reducible rfl)
  simp only [Act.put, List.getElem_toArray, List.getElem_cons_succ, List.getElem_cons_zero, List.setIfInBounds_toArray, List.set_cons_zero, List.set_cons_succ]
  refine wpAnyH_take (i := 6) (v := .pointer (some ⟨D, 0, none⟩)) rfl (by kernel_rfl) (by kernel_rfl) (by kernel_rfl) (fun _ _ _ h => h) (Or.inl ⟨by rfl, ?_⟩) (by first | assumption | exact trivial) ?_
  · intro W hSW; go_simp; try (with_reducible rfl)
  simp only [Act.put, List.getElem_toArray, List.getElem_cons_succ, List.getElem_cons_zero, List.setIfInBounds_toArray, List.set_cons_zero, List.set_cons_succ]
  refine wpAnyH_take (i := 7) (v := .pointer (some ⟨D, 0, none⟩)) rfl (by kernel_rfl) (by kernel_rfl) (by kernel_rfl) (fun _ _ _ h => h) (Or.inl ⟨by rfl, ?_⟩) (by first | assumption | exact trivial) ?_
  · intro W hSW; go_simp; try (with_reducible rfl)
  simp only [Act.put, List.getElem_toArray, List.getElem_cons_succ, List.getElem_cons_zero, List.setIfInBounds_toArray, List.set_cons_zero, List.set_cons_succ]
  refine wpAnyH_take (i := 8) (v := .int .i64 me) rfl (by kernel_rfl) (by kernel_rfl) (by kernel_rfl) (fun _ _ _ h => h) (Or.inl ⟨by rfl, ?_⟩) (by first | assumption | exact trivial) ?_
  · intro W hSW; have c0 := HC.out W (HID.out W hSW).1; go_simp; try (with_reducible rfl)
  simp only [Act.put, List.getElem_toArray, List.getElem_cons_succ, List.getElem_cons_zero, List.setIfInBounds_toArray, List.set_cons_zero, List.set_cons_succ]
  refine wpAnyH_take (i := 9) (v := .bool false) rfl (by kernel_rfl) (by kernel_rfl) (by kernel_rfl) (fun _ _ _ h => h) (Or.inl ⟨by rfl, ?_⟩) (by first | assumption | exact trivial) ?_
  · intro W hSW; go_simp; try (with_reducible rfl)
  simp only [Act.put, List.getElem_toArray, List.getElem_cons_succ, List.getElem_cons_zero, List.setIfInBounds_toArray, List.set_cons_zero, List.set_cons_succ]
  refine wpAnyH_take (i := 10) (v := .bool false) rfl (by kernel_rfl) (by kernel_rfl) (by kernel_rfl) (fun _ _ _ h => h) (Or.inl ⟨by rfl, ?_⟩) (by first | assumption | exact trivial) ?_
  · intro W hSW; go_simp; try (with_reducible rfl)
  simp only [Act.put, List.getElem_toArray, List.getElem_cons_succ, List.getElem_cons_zero, List.setIfInBounds_toArray, List.set_cons_zero, List.set_cons_succ]
  refine wpAnyH_take (i := 11) (v := .bool false) rfl (by kernel_rfl) (by kernel_rfl) (by kernel_rfl) (fun _ _ _ h => h) (Or.inl ⟨by rfl, ?_⟩) (by first | assumption | exact trivial) ?_
  · intro W hSW; go_simp; try (with_reducible rfl)
  simp only [Act.put, List.getElem_toArray, List.getElem_cons_succ, List.getElem_cons_zero, List.setIfInBounds_toArray, List.set_cons_zero, List.set_cons_succ]
  refine wpAnyH_take (i := 12) (v := undef) rfl (by kernel_rfl) (by kernel_rfl) (by kernel_rfl) (fun _ _ _ h => h) (Or.inr ⟨by rfl, rfl⟩) (by first | assumption | exact trivial) ?restz1
  simp only [Act.put, List.getElem_toArray, List.getElem_cons_succ, List.getElem_cons_zero, List.setIfInBounds_toArray, List.set_cons_zero, List.set_cons_succ]
  refine wpAnyH_take (i := 13) (v := undef) rfl (by kernel_rfl) (by kernel_rfl) (by kernel_rfl) (fun _ _ _ h => h) (Or.inr ⟨by rfl, rfl⟩) (by first | assumption | exact trivial) ?restz2
  simp only [Act.put, List.getElem_toArray, List.getElem_cons_succ, List.getElem_cons_zero, List.setIfInBounds_toArray, List.set_cons_zero, List.set_cons_succ]
  refine wpAnyH_take (i := 14) (v := undef) rfl (by kernel_rfl) (by kernel_rfl) (by kernel_rfl) (fun _ _ _ h => h) (Or.inr ⟨by rfl, rfl⟩) (by first | assumption | exact trivial) ?restz3
  simp only [Act.put, List.getElem_toArray, List.getElem_cons_succ, List.getElem_cons_zero, List.setIfInBounds_toArray, List.set_cons_zero, List.set_cons_succ]
  refine wpAnyH_take (i := 15) (v := undef) rfl (by kernel_rfl) (by kernel_rfl) (by kernel_rfl) (fun _ _ _ h => h) (Or.inr ⟨by rfl, rfl⟩) (by first | assumption | exact trivial) ?restz4
  simp only [Act.put, List.getElem_toArray, List.getElem_cons_succ, List.getElem_cons_zero, List.setIfInBounds_toArray, List.set_cons_zero, List.set_cons_succ]
  refine wpAnyH_take (i := 16) (v := undef) rfl (by kernel_rfl) (by kernel_rfl) (by kernel_rfl) (fun _ _ _ h => h) (Or.inr ⟨by rfl, rfl⟩) (by first | assumption | exact trivial) ?restz5
  simp only [Act.put, List.getElem_toArray, List.getElem_cons_succ, List.getElem_cons_zero, List.setIfInBounds_toArray, List.set_cons_zero, List.set_cons_succ]
  refine wpAnyH_take (i := 17) (v := undef) rfl (by kernel_rfl) (by kernel_rfl) (by kernel_rfl) (fun _ _ _ h => h) (Or.inr ⟨by rfl, rfl⟩) (by first | assumption | exact trivial) ?restz6
  simp only [Act.put, List.getElem_toArray, List.getElem_cons_succ, List.getElem_cons_zero, List.setIfInBounds_toArray, List.set_cons_zero, List.set_cons_succ]
  refine wpAnyH_take (i := 18) (v := .bool false) rfl (by kernel_rfl) (by kernel_rfl) (by kernel_rfl) (fun _ _ _ h => h) (Or.inl ⟨by rfl, ?_⟩) (by first | assumption | exact trivial) ?_
  · intro W hSW; go_simp; try (with_reducible rfl)
  simp only [Act.put, List.getElem_toArray, List.getElem_cons_succ, List.getElem_cons_zero, List.setIfInBounds_toArray, List.set_cons_zero, List.set_cons_succ]
  refine wpAnyH_take (i := 19) (v := .bool false) rfl (by kernel_rfl) (by kernel_rfl) (by kernel_rfl) (fun _ _ _ h => h) (Or.inl ⟨by rfl, ?_⟩) (by first | assumption | exact trivial) ?_
  · intro W hSW; go_simp; try (with_reducible rfl)
  simp only [Act.put, List.getElem_toArray, List.getElem_cons_succ, List.getElem_cons_zero, List.setIfInBounds_toArray, List.set_cons_zero, List.set_cons_succ]
  refine wpAnyH_done (by kernel_rfl) ?_ _
  go_wp2
  go_ret
  exact ⟨rfl, (HID.out _ S0).1⟩
theorem Seen_l (M : Nat) (O : Nat → Prop) (w : World) (m D : Nat) (s : Sto) (i : Mg.Id4) (h : Hid (Lv M O w m D s)) : Calls Try.prog 15 #[.pointer (some ⟨D, 0, none⟩), .agg (Mg.idC i)] w fun e w' => e = .returned (.bool (seenS s i)) ∧ Hid (Below w.heap.size w w') := by
  obtain ⟨hb, sd, sb, m', v, hm', h1, h2⟩ := h.out
  have HC : ∀ W, Below w.heap.size w W → W.cell? ⟨D, 0, none⟩ = some (.int .i64 s.self) ∧ W.cell? ⟨D, 72, none⟩ = some (.pointer (some ⟨sd, 0, none⟩)) := fun W hW => ⟨(h1.below hW).box.self, (h1.below hW).box.set⟩
  have HH : ∀ W, Below w.heap.size w W → Calls Try.prog 39 #[.pointer (some ⟨sd, 0, none⟩), .agg (Mg.idC i)] W fun e w' => e = .returned (.bool (Se.hasS s.seen i)) ∧ Hid (Below W.heap.size W w') := fun W hW => Se.Has_any true sd sb m' s.seen i W (h1.below hW).set
  unfold seenS
  obtain ⟨o, d, ee, cc⟩ := i
  simp only [Mg.idC] at HH ⊢
  by_cases hd : d = s.self
  · rw [decide_eq_true hd, Bool.true_and]
    exact seen_one D sd s.self o d ee cc w _ (by simpa using hd) HC HH
  · rw [decide_eq_false hd, Bool.false_and]
    exact seen_two D s.self o d ee cc w (by simpa using hd) fun W hW => (HC W hW).1
set_option maxRecDepth 100000 in
set_option maxHeartbeats 16000000 in
theorem rseen_one (me qh qb qg ep : Int) (o d ee cc : Int) (vU vL vK : Value) (w : World) (hb b : Bool) (hc : ((d == me) = true ∧ b = hb) ∨ ((d == me) = false ∧ b = false))
    (HH : Hid (∀ W, Below w.heap.size w W → Calls Try.prog 40 #[.agg #[.int .i64 qg, vK], .agg #[.int .i64 o, .int .i64 d, .int .i64 ee, .int .i64 cc]] W fun e w' => e = .returned (.bool hb) ∧ Hid (Below W.heap.size W w'))) : Calls Try.prog 16 #[.agg #[.int .i64 me, .int .i64 qh, .int .i64 qb, .int .i64 qg, .int .i64 ep, vU, vL, .int .i64 qg, vK], .agg #[.int .i64 o, .int .i64 d, .int .i64 ee, .int .i64 cc]] w fun e w' => e = .returned (.bool b) ∧ Hid (Below w.heap.size w w') := by
  obtain ⟨hB, hY, hX⟩ := two_new w #[.int .i64 me, .int .i64 qh, .int .i64 qb, .int .i64 qg, .int .i64 ep, vU, vL, .int .i64 qg, vK] #[.int .i64 o, .int .i64 d, .int .i64 ee, .int .i64 cc] 36 28
  obtain ⟨x0, x1, x2, x3, x4, x5, x6, x7, x8⟩ := rs_cells hX
  obtain ⟨i0, i1, i2, i3⟩ := id_cells hY
  have HB := Lib.hid hB
  clear hB hY hX
  rcases hc with ⟨g, rfl⟩ | ⟨g, rfl⟩
  · go_enter Try.func16, Try.ntmps16
    go_wp2_with (go_at_call 40; refine (HH.out _ HB.out).mono ?_; rintro e w5 ⟨rfl, b5⟩)
    go_ret
    exact ⟨rfl, go_on HB.out b5.out⟩
  · go_enter Try.func16, Try.ntmps16
    go_wp2
    go_ret
    exact ⟨rfl, HB.out⟩
theorem RSeen_s (Q : Nat → Prop) (w : World) (s : Sto) (K : Se.Ks) (vU vL vK : Value) (P : List Pq) (i : Mg.Id4) (h : Hid (Rf Q w s K vU vL vK P)) (hK : K.length ≤ 900) : Calls Try.prog 16 #[.agg (rsv s vU vL vK), .agg (Mg.idC i)] w fun e w' => e = .returned (.bool (seenS s i)) ∧ Hid (Below w.heap.size w w') := by
  have HH : ∀ W, Below w.heap.size w W → Calls Try.prog 40 #[.agg #[.int .i64 s.qg, vK], .agg (Mg.idC i)] W fun e w' => e = .returned (.bool (Se.hasS s.seen i)) ∧ Hid (Below W.heap.size W w') := fun W hW => by
    have := Se.RHas_any Q s.qg vK K i W (h.out.kv.below hW) (by omega)
    rw [h.out.rel.has] at this
    exact this
  unfold seenS
  obtain ⟨o, d, ee, cc⟩ := i
  simp only [rsv, rsc, Mg.idC] at HH ⊢
  refine rseen_one s.self s.qh s.qb s.qg s.epoch o d ee cc vU vL vK w _ _ ?_ HH
  by_cases hd : d = s.self
  · exact .inl ⟨by simpa using hd, by rw [decide_eq_true hd, Bool.true_and]⟩
  · exact .inr ⟨by simpa using hd, by rw [decide_eq_false hd, Bool.false_and]⟩
end Go.Proofs.Ytpofdimagfldnaa.So
/- The document's Same, of messages that are the same. -/
namespace Go.Proofs.Ytpofdimagfldnaa.So
open Go.RowKit
open Go.Proofs.Ytpofdimagfldnaa.Me Go.Proofs.Ytpofdimagfldnaa.Sb
set_option linter.unusedVariables false
set_option linter.unusedSimpArgs false

/-- What bytes say as a string. -/
def Cv (W : World) (A : Option Addr) (n c : Nat) (s : ByteArray) : Prop := (convert 44 9 (.slice A n c)).run Try.prog W = .ok (.string s) W
set_option maxRecDepth 100000 in
set_option maxHeartbeats 4000000 in
theorem RSame_eq (o d ee cc : Int) (A B : Option Addr) (n c1 c2 : Nat) (s : ByteArray) (w : World) (k1 : ∀ W, Below w.heap.size w W → Cv W A n c1 s) (k2 : ∀ W, Below w.heap.size w W → Cv W B n c2 s) : Calls Try.prog 14 #[.agg #[.int .i64 o, .int .i64 d, .int .i64 ee, .int .i64 cc, .slice A n c1], .agg #[.int .i64 o, .int .i64 d, .int .i64 ee, .int .i64 cc, .slice B n c2]] w fun e w' => e = .returned (.bool true) ∧ Hid (Below w.heap.size w w') := by
  obtain ⟨hB, hY, hX⟩ := two_new w #[.int .i64 o, .int .i64 d, .int .i64 ee, .int .i64 cc, .slice A n c1] #[.int .i64 o, .int .i64 d, .int .i64 ee, .int .i64 cc, .slice B n c2] 46 46
  have q1 := k1 _ hB
  have q2 := k2 _ hB
  unfold Cv at q1 q2
  have HB := Lib.hid hB
  clear k1 k2 hB hY hX
  go_enter Try.func14, Try.ntmps14
  go_wp2
  go_ret
  exact ⟨rfl, HB.out⟩
/-- What Find answers. -/
def fnI (s : Sto) (i : Mg.Id4) : Mg.Id4 := match findH s.held i with | none => zeroI | some _ => i
def fnL (s : Sto) (i : Mg.Id4) : List Nat := match findH s.held i with | none => [] | some p => p
def fnB (s : Sto) (i : Mg.Id4) : Bool := (findH s.held i).isSome
theorem cv_own {w : World} {B n c : Nat} {A : Option Addr} {l : List Nat} (h : Me.Own w B (.slice A n c) l) (hl : ∀ z ∈ l, z < 256) (hn : n = l.length) : ∀ W, Below w.heap.size w W → Cv W A n c (strOf l) := fun W hW => by
  obtain ⟨r1, r2, _, _⟩ := Hd.own_rd h hl
  subst hn
  exact conv_rd W _ A l c (r1.below hW) r2
theorem cv_none (W : World) : Cv W none 0 0 (strOf []) := conv_rd W 0 none [] 0 ⟨by simp, by simp⟩ fun _ => ⟨rfl, rfl⟩
theorem Find_f (M : Nat) (O : Nat → Prop) (w : World) (m D : Nat) (s : Sto) (i : Mg.Id4) (hf : Fit i) (h : Hid (Lv M O w m D s)) : Calls Try.prog 12 #[.pointer (some ⟨D, 0, none⟩), .agg (Mg.idC i)] w fun e w' => ∃ A c, e = .returned (.tuple #[.agg (Mg.msgC (fnI s i) A (fnL s i).length c), .bool (fnB s i)]) ∧ Hid (∀ W, Below w'.heap.size w' W → Cv W A (fnL s i).length c (strOf (fnL s i))) ∧ Hid (Below w.heap.size w w') := by
  refine (Find_l M O w m D s i hf h).mono ?_
  rintro e w' ⟨hb, ⟨hn, rfl⟩ | ⟨p, hp, A, c, rfl, ho⟩⟩
  · unfold fnI fnL fnB
    rw [hn]
    exact ⟨none, 0, rfl, fun W _ => cv_none W, hb⟩
  · have hl := (h.out.ok.all _ (findH_mem hp)).2.2
    unfold fnI fnL fnB
    rw [hp]
    exact ⟨A, c, rfl, cv_own ho.out hl rfl, hb⟩
theorem RFind_f (Q : Nat → Prop) (w : World) (s : Sto) (K : Se.Ks) (vU vL vK : Value) (P : List Pq) (i : Mg.Id4) (h : Hid (Rf Q w s K vU vL vK P)) : Calls Try.prog 13 #[.agg (rsv s vU vL vK), .agg (Mg.idC i)] w fun e w' => ∃ A c, e = .returned (.tuple #[.agg (Mg.msgC (fnI s i) A (fnL s i).length c), .bool (fnB s i)]) ∧ Hid (∀ W, Below w'.heap.size w' W → Cv W A (fnL s i).length c (strOf (fnL s i))) ∧ Hid (Below w.heap.size w w') := by
  refine (RFind_s Q w s K vU vL vK P i h).mono ?_
  rintro e w' ⟨hb, ⟨hn, rfl⟩ | ⟨q, hp, rfl, ho⟩⟩
  · unfold fnI fnL fnB
    rw [hn]
    exact ⟨none, 0, rfl, fun W _ => cv_none W, hb⟩
  · have hl := (h.out.ok.all _ (findH_mem hp)).2.2
    unfold fnI fnL fnB
    rw [hp]
    exact ⟨q.A, q.c, rfl, cv_own ho.out hl rfl, hb⟩
end Go.Proofs.Ytpofdimagfldnaa.So
