/- One byte put among bytes of one's own, by slices.Insert. -/
import Derived.Test.YtcdpdijfgeeenaaLnInsK
namespace Go.Proofs.Ytcdpdijfgeeenaa.Li
open Go.RowKit
open Go.Proofs.Ytcdpdijfgeeenaa.Sb
set_option linter.unusedVariables false
set_option linter.unusedSimpArgs false

/-- Room for K more made behind the first k elements of a slice that has no room. -/
theorem appZB {w : World} {ops : Array Oper} {rest : List Oper} {o : Oper} {a : Act} {Q : Exit → Act → World → Prop} (hgd : o.guard = none) (s x : Operand)
    (ho : o.op = .call { callee := .builtin .append, args := #[s, x], argTypes := #[33, 3] })
    (g k c K : Nat) (X1 : List Value) (hs : a.eval s = .slice (some ⟨g, 0, none⟩) k c) (hx : a.eval x = .int .i64 (K : Int)) (hl : X1.length = k) (holds : ∀ j v, X1[j]? = some v → w.cell? ((⟨g, 0, none⟩ : Addr).add j) = some v) (hK : c < k + K) (h0 : 0 < K) (hlen : k + K ≤ 1000000000)
    (h : ∀ w' (cur : List Value) (cap : Nat), Hid (w'.heap[w.heap.size]? = some (.cells cur.toArray 5 (0, 0))) → cur.length = cap → cur.take k = X1 → k + K ≤ cap → cap ≤ 9223372036854775807 → Below w.heap.size w w' → wpList Try.prog ops Q rest (a.put o.dst (.slice (some ⟨w.heap.size, 0, none⟩) (k + K) cap)) w') : wpList Try.prog ops Q (o :: rest) a w := by
  obtain ⟨i0, hi, hz0, hz1, hz2⟩ := info_parts Me.info8
  refine wpList_plain hgd fun K' hK' => ?_
  have hf := run_firstCells_some (P := Try.prog) (w := w.drew) i0.size k ⟨g, 0, none⟩ k c X1 (by rw [hz1]; simp [hl]) (by simpa using holds)
  have hr := Lib.run_append_grow_zeros (P := Try.prog) w 33 3 o.type 5 i0 (.int .u8 0) .i64 .i64 Try.underlying33 Try.underlying3 hi hz0 (some ⟨g, 0, none⟩) k c X1 hf K h0 (by rw [hz1]; decide) hK (by omega) (by rw [hz2]; omega) (growslice_fits (by omega) (by rw [hz2]; omega))
  unfold Oper.wp execOp
  simp only [ho, resolve, invoke, builtin, Sem.run_bind, Sem.run_pure, Result.andThen_ok, List.map_toArray, List.map_cons, List.map_nil, hs, hx, hr]
  have hge := grownCap_ge w (k + K) c 5
  have hcm : grownCap w (k + K) c 5 ≤ maxLen := grownCap_le_maxLen w (k + K) c 5 (by unfold maxLen; omega)
  refine hK' _ _ (h _ (X1.toArray ++ Builtin.zeroCells (Value.int .u8 0).cells K ++ Builtin.zeroCells (Value.int .u8 0).cells (grownCap w (k + K) c 5 - (k + K))).toList _ ?_ ?_ ?_ hge (by unfold maxLen at hcm; omega) ?_)
  · show _ = _
    rw [Array.toArray_toList]
    exact heap_alloc_new w.drew _
  · rw [Array.length_toList]
    simp only [Array.size_append, List.size_toArray, size_zeroCells, show (Value.int .u8 0).cells.size = 1 from rfl, hl]
    omega
  · simp only [Array.toList_append, List.append_assoc]
    exact List.take_left' (by simp [hl])
  · exact ⟨rfl, rfl, rfl, by simp, fun k hk => heap_alloc_old w.drew _ hk⟩
set_option maxRecDepth 100000 in
set_option maxHeartbeats 8000000 in
theorem InsMidB (g gx k r : Nat) (xs : List Value) (z : Value) (W : World) (hl : xs.length = k + r) (hr : 0 < r) (hx : Hid (∀ j v, xs[j]? = some v → W.cell? ((⟨g, 0, none⟩ : Addr).add j) = some v)) (hgl : g < W.heap.size) (h1x : Hid (∀ v ∈ xs, v.oneCell' = true)) (h1z : z.oneCell' = true) (hz : Hid (W.cell? ⟨gx, 0, none⟩ = some z)) (hb : k + r ≤ 1000000) :
    Calls Try.prog 30 #[.slice (some ⟨g, 0, none⟩) (k + r) (k + r), .int .i64 (k : Int), .slice (some ⟨gx, 0, none⟩) 1 1] W fun e w' => ∃ v, e = .returned v ∧ Hid (w'.ownsRow W.heap.size 5 1 v (k + r + 1) (xs.take k ++ z :: xs.drop k)) ∧ Hid (Below W.heap.size W w') := by
  have h1 : ¬ (k + r - k = 0) := by omega
  have h2 : (k : Int) ≤ (k : Int) + (r : Int) := by omega
  have h3 : ((k : Int) == (k : Int) + (r : Int)) = false := by
    have : ¬ (k : Int) = (k : Int) + (r : Int) := by omega
    simpa using this
  have h4 : k ≤ k + r := by omega
  have h5 : ¬ r = 0 := by omega
  have HK : Hid ((xs.take k).length = k) := by show _ = _; simp; omega
  have HCk : Hid (∀ j v, (xs.take k)[j]? = some v → W.cell? ((⟨g, 0, none⟩ : Addr).add j) = some v) := fun j v hj => by
    have hjk : j < k := by
      apply Classical.byContradiction
      intro hn
      rw [List.getElem?_eq_none (by simp; omega)] at hj; cases hj
    rw [List.getElem?_take_of_lt hjk] at hj
    exact hx.out j v hj
  have HCd : Hid (∀ W', Below W.heap.size W W' → ∀ j v, (xs.drop k)[j]? = some v → W'.cell? ((⟨g, k, none⟩ : Addr).add j) = some v) := fun W' hW' j v hj => by
    rw [List.getElem?_drop] at hj
    have := hx.out (k + j) v hj
    rw [add_lit0] at this
    rw [add_lit0, hW'.cell (p := ⟨g, k + j, none⟩) hgl]
    rw [Nat.zero_add] at this
    exact this
  have HZ : Hid (∀ W', Below W.heap.size W W' → ∀ j v, ([z] : List Value)[j]? = some v → W'.cell? ((⟨gx, 0, none⟩ : Addr).add j) = some v) := fun W' hW' j v hj => by
    have hlt : gx < W.heap.size := World.block_lt_of_cell? W _ hz.out
    cases j with
    | zero =>
      rw [add_lit0, hW'.cell (p := ⟨gx, 0, none⟩) hlt, hz.out]; simpa using hj
    | succ j => simp at hj
  have HD : Hid ((xs.drop k).length = r) := by show _ = _; simp [hl]
  have HX : Hid (Value.int .i64 ((k : Int) + (r : Int) + 1 - (k : Int)) = .int .i64 ((r + 1 : Nat) : Int)) := by show _ = _; congr 1; omega
  have HO1 : Hid (∀ u ∈ xs.drop k, u.oneCell' = true) := fun u hu => h1x.out u (List.mem_of_mem_drop hu)
  obtain ⟨X2, hX2⟩ : ∃ X, xs.drop k = X := ⟨_, rfl⟩
  obtain ⟨X1, hX1⟩ : ∃ X, xs.take k = X := ⟨_, rfl⟩
  rw [hX2] at HCd HD HO1 ⊢
  rw [hX1] at HCk HK ⊢
  clear hX2 hX1 hx h1x hl hz
  have HMn : Hid (([z] : List Value).length = Nat.min 1 (r + 1)) := by show 1 = Nat.min 1 (r + 1); exact (Nat.min_eq_left (by omega)).symm
  have HOne : Hid (∀ v ∈ ([z] : List Value), v.oneCell' = true) := by intro v hv; rw [List.mem_singleton] at hv; subst hv; exact h1z
  have hfit1 : ∀ {cur : List Value} {cap : Nat}, cur.length = cap → k + (r + 1) ≤ cap → k + ([z] : List Value).length ≤ cur.length := fun h1 h2 => by simp; omega
  go_enter Try.func30, Try.ntmps30
  go_wp2_with (first
    | (at_builtin; refine appZB rfl (.tmp 34) (.tmp 39) rfl g k (k + r) (r + 1) X1 rfl HX.out HK.out HCk.out (by omega) (by omega) (by omega) ?_; intro w1 cur cap hg1 hcl hct hcap1 hcap2 hb1; have HB1 := Lib.hid hb1; have HCl := Lib.hid hcl; have HCt := Lib.hid hct; have hck : ¬ cap - k = 0 := (by omega); clear hcl hct hb1)
    | (with_reducible refine wpList_copy_splice rfl (.tmp 43) (.tmp 44) 33 33 rfl 5 Try.underlying33 (by kernel_rfl) _ _ _ _ _ _ rfl rfl W.heap.size k cur 5 hg1.out [z] HMn.out (fun _ => ⟨rfl, _, rfl, HZ.out _ HB1.out⟩) (hfit1 HCl.out hcap1) HOne.out W.heap.size W HB1.out (Nat.le_refl _) ?_; intro w2 hg2 hb2; have HB2 := Lib.hid hb2; clear hb2))
  have hc1 : ¬ cap - (k + 1) = 0 := (by omega)
  have hc6 : ¬ cap = k + 1 := (by omega)
  have HWk : Hid (IntKind.i64.wrap ((k : Int) + 1) = (k : Int) + 1) := Mi.fits' (Mi.small (by omega) (by omega))
  have hc2 : k + (r + 1) - (k + 1) = r := (by omega)
  have hc3 : k + 1 ≤ k + (r + 1) := (by omega)
  have hc4 : (k : Int) + 1 ≤ (k : Int) + ((r : Int) + 1) := (by omega)
  have hc5 : 0 ≤ (k : Int) + 1 := (by omega)
  have hMn2 : X2.length = Nat.min r r := HD.out.trans (Nat.min_self r).symm
  have hLen1 : (splice cur k [z]).length = cap := (length_splice _ _ _ (hfit1 HCl.out hcap1)).trans HCl.out
  have hfit2 : k + 1 + X2.length ≤ (splice cur k [z]).length := by rw [hLen1, HD.out]; omega
  have HTS : Hid ((splice (splice cur k [z]) (k + 1) X2).take (k + 1 + X2.length) = X1 ++ z :: X2) := two_splices HK.out HCt.out (by rw [HD.out, HCl.out]; omega)
  have HLen2 : Hid ((splice (splice cur k [z]) (k + 1) X2).length = cap) := (length_splice _ _ _ hfit2).trans hLen1
  refine wp_region_held_drew (S := fun _ => True) (by kernel_rfl) trivial (fun hHeld => ?_)
  refine wpAnyH_take (i := 0) (v := .slice (some ⟨W.heap.size, 0, none⟩) (k + (r + 1)) cap) rfl (by kernel_rfl) (by kernel_rfl) (by kernel_rfl) (fun _ _ _ h => h) (Or.inl ⟨by rfl, ?_⟩) (by first | assumption | exact trivial) ?_
  · intro W hSW; go_simp; try (with_reducible rfl)
  simp only [Act.put, List.getElem_toArray, List.getElem_cons_succ, List.getElem_cons_zero, List.setIfInBounds_toArray, List.set_cons_zero, List.set_cons_succ]
  refine wpAnyH_take (i := 1) (v := .int .i64 (k : Int)) rfl (by kernel_rfl) (by kernel_rfl) (by kernel_rfl) (fun _ _ _ h => h) (Or.inl ⟨by rfl, ?_⟩) (by first | assumption | exact trivial) ?_
  · intro W hSW; go_simp; try (with_reducible rfl)
  simp only [Act.put, List.getElem_toArray, List.getElem_cons_succ, List.getElem_cons_zero, List.setIfInBounds_toArray, List.set_cons_zero, List.set_cons_succ]
  refine wpAnyH_take (i := 2) (v := .int .i64 1) rfl (by kernel_rfl) (by kernel_rfl) (by kernel_rfl) (fun _ _ _ h => h) (Or.inl ⟨by rfl, ?_⟩) (by first | assumption | exact trivial) ?_
  · intro W hSW; go_simp; try (with_reducible rfl)
  simp only [Act.put, List.getElem_toArray, List.getElem_cons_succ, List.getElem_cons_zero, List.setIfInBounds_toArray, List.set_cons_zero, List.set_cons_succ]
  refine wpAnyH_take (i := 3) (v := .int .i64 ((k : Int) + 1)) rfl (by kernel_rfl) (by kernel_rfl) (by kernel_rfl) (fun _ _ _ h => h) (Or.inl ⟨by rfl, ?_⟩) (by first | assumption | exact trivial) ?_
  · intro W hSW; have q := HWk.out; go_simp; try (with_reducible rfl)
  simp only [Act.put, List.getElem_toArray, List.getElem_cons_succ, List.getElem_cons_zero, List.setIfInBounds_toArray, List.set_cons_zero, List.set_cons_succ]
  refine wpAnyH_take (i := 4) (v := .slice (some ⟨W.heap.size, k + 1, none⟩) r (cap - (k + 1))) rfl (by kernel_rfl) (by kernel_rfl) (by kernel_rfl) (fun _ _ _ h => h) (Or.inl ⟨by rfl, ?_⟩) (by first | assumption | exact trivial) ?_
  · intro W hSW; go_simp; try (with_reducible rfl)
  simp only [Act.put, List.getElem_toArray, List.getElem_cons_succ, List.getElem_cons_zero, List.setIfInBounds_toArray, List.set_cons_zero, List.set_cons_succ]
  refine wpAnyH_take (i := 5) (v := .slice (some ⟨g, 0, none⟩) (k + r) (k + r)) rfl (by kernel_rfl) (by kernel_rfl) (by kernel_rfl) (fun _ _ _ h => h) (Or.inl ⟨by rfl, ?_⟩) (by first | assumption | exact trivial) ?_
  · intro W hSW; go_simp; try (with_reducible rfl)
  simp only [Act.put, List.getElem_toArray, List.getElem_cons_succ, List.getElem_cons_zero, List.setIfInBounds_toArray, List.set_cons_zero, List.set_cons_succ]
  refine wpAnyH_take (i := 6) (v := .int .i64 (k : Int)) rfl (by kernel_rfl) (by kernel_rfl) (by kernel_rfl) (fun _ _ _ h => h) (Or.inl ⟨by rfl, ?_⟩) (by first | assumption | exact trivial) ?_
  · intro W hSW; go_simp; try (with_reducible rfl)
  simp only [Act.put, List.getElem_toArray, List.getElem_cons_succ, List.getElem_cons_zero, List.setIfInBounds_toArray, List.set_cons_zero, List.set_cons_succ]
  refine wpAnyH_take (i := 7) (v := .slice (some ⟨g, k, none⟩) r r) rfl (by kernel_rfl) (by kernel_rfl) (by kernel_rfl) (fun _ _ _ h => h) (Or.inl ⟨by rfl, ?_⟩) (by first | assumption | exact trivial) ?_
  · intro W hSW; go_simp; try (with_reducible rfl)
  simp only [Act.put, List.getElem_toArray, List.getElem_cons_succ, List.getElem_cons_zero, List.setIfInBounds_toArray, List.set_cons_zero, List.set_cons_succ]
  refine wpAnyH_ready (rs := [8]) (by kernel_rfl) (by simp) ?_
  refine AllReadyH.cons rfl (fun K hK => ?_) AllReadyH.nil
  refine step_copy_splice rfl (.tmp 50) (.tmp 53) 33 33 rfl 5 Try.underlying33 (by kernel_rfl) _ _ _ _ _ _ rfl rfl W.heap.size (k + 1) (splice cur k [z]) 5 hg2.out X2 hMn2 (fun _ => ⟨rfl, _, rfl, HCd.out _ HB2.out.drew⟩) hfit2 HO1.out W.heap.size W HB2.out.drew (Nat.le_refl _) ?_
  intro w3 hg3 hb3
  simp only [Act.put, List.getElem_toArray, List.getElem_cons_succ, List.getElem_cons_zero, List.setIfInBounds_toArray, List.set_cons_zero, List.set_cons_succ]
  refine hK.out _ _ (trivial) (fun hHeld => ?_)
  clear hK K
  refine wpAnyH_done (by kernel_rfl) ?_ _
  have HB3 := Lib.hid hb3
  clear hc6 hc1 hc2 hc3 hc4 hc5 hMn2 hLen1 hfit2 hb3
  go_wp2
  go_ret
  refine ⟨_, rfl, ⟨?_, .inr ⟨W.heap.size, cap, _, rfl, Nat.le_refl _, hg3.out, by omega, by unfold maxLen; omega, by simp; exact HLen2.out, ?_⟩⟩, HB3.out⟩
  · rw [List.length_append, List.length_cons, HK.out, HD.out]; omega
  · show (splice (splice cur k [z]) (k + 1) X2).take _ = _
    rw [← HTS.out, HD.out]
    congr 1
    omega
set_option maxRecDepth 100000 in
set_option maxHeartbeats 8000000 in
theorem InsRoomB (g gx k r c : Nat) (xs cur : List Value) (z : Value) (W : World) (hl : xs.length = k + r) (hr : 0 < r) (hc : k + r < c) (hg : Hid (W.heap[g]? = some (.cells cur.toArray 5 (0, 0)))) (hcl : Hid (cur.length = c)) (hct : Hid (cur.take (k + r) = xs)) (h1x : Hid (∀ v ∈ xs, v.oneCell' = true)) (h1z : z.oneCell' = true) (hz : Hid (W.heap[gx]? = some (.cells #[z] 5 (0, 0)))) (hne : gx ≠ g) (hb : c ≤ 9223372036854775807) (hb2 : k + r ≤ 1000000) :
    Calls Try.prog 30 #[.slice (some ⟨g, 0, none⟩) (k + r) c, .int .i64 (k : Int), .slice (some ⟨gx, 0, none⟩) 1 1] W fun e w' => e = .returned (.slice (some ⟨g, 0, none⟩) (k + r + 1) c) ∧ Hid (∃ cur' : List Value, w'.heap[g]? = some (.cells cur'.toArray 5 (0, 0)) ∧ cur'.length = c ∧ cur'.take (k + r + 1) = xs.take k ++ z :: xs.drop k) ∧ Hid (W.grownBy w' (some g)) := by
  have h1 : ¬ (k + r - k = 0) := by omega
  have h2 : (k : Int) ≤ (k : Int) + (r : Int) := by omega
  have h3 : ((k : Int) == (k : Int) + (r : Int)) = false := by
    have : ¬ (k : Int) = (k : Int) + (r : Int) := by omega
    simpa using this
  have h4 : k ≤ k + r := by omega
  have h5 : ¬ r = 0 := by omega
  have h6 : ¬ (c : Int) < (k : Int) + (r : Int) + 1 := by omega
  have h7 : k + r + 1 ≤ c := by omega
  have h8 : ¬ c = k + 1 := by omega
  have h9 : ¬ c = k := by omega
  have h10 : k ≤ c := by omega
  have h11 : (k : Int) + (r : Int) + 1 ≤ (c : Int) := by omega
  have hszx : W.shape? gx = some (5, 1) := by unfold World.shape?; rw [hz.out]; rfl
  have hszg : W.shape? g = some (5, cur.length) := by unfold World.shape?; rw [hg.out]; simp
  have hov : ∀ lb cb, (callFunc 34 #[.slice (some ⟨gx, 0, none⟩) 1 1, .slice (some ⟨g, k + 1, none⟩) lb cb]).run Try.prog W = .ok (.value (.bool false)) W := fun lb cb => by
    rw [run_callFunc_extern Try.func34 (by kernel_rfl) (by kernel_rfl) (by kernel_rfl) (e := Extern.SlicesOverlaps.overlaps #[33, 33] #[4]) (by kernel_rfl),
      Lib.run_overlaps_apart W 33 4 5 Try.underlying33 1 Try.sizeOf5 ⟨gx, 0, none⟩ ⟨g, k + 1, none⟩ 1 1 lb cb hne 5 5 1 cur.length hszx hszg (by rw [hcl.out]; omega) (frozen_of_row W gx 0 _ _ hz.out) (frozen_of_row W gx 1 _ _ hz.out)]
    rfl
  have HD : Hid ((xs.drop k).length = r) := by show _ = _; simp [hl]
  have HO1 : Hid (∀ u ∈ xs.drop k, u.oneCell' = true) := fun u hu => h1x.out u (List.mem_of_mem_drop hu)
  have HOne : Hid (∀ v ∈ ([z] : List Value), v.oneCell' = true) := by intro v hv; rw [List.mem_singleton] at hv; subst hv; exact h1z
  have HSrc : Hid (∀ j v, (xs.drop k)[j]? = some v → W.drew.cell? ((⟨g, k, none⟩ : Addr).add j) = some v) := fun j v hj => by
    rw [List.getElem?_drop, ← hct.out] at hj
    have hkj : k + j < k + r := by
      apply Classical.byContradiction
      intro hn
      rw [List.getElem?_take_eq_none (by omega)] at hj; cases hj
    rw [List.getElem?_take_of_lt hkj] at hj
    rw [add_lit0]
    show W.cell? ⟨g, k + j, none⟩ = _
    rw [cell_of_row W g _ _ _ (0, 0) hg.out]
    simpa using hj
  have HMn : Hid ((xs.drop k).length = Nat.min (r + 1) r) := by show _ = _; rw [HD.out]; exact (Nat.min_eq_right (by omega)).symm
  have HMn2 : Hid (([z] : List Value).length = Nat.min 1 (r + 1)) := by show 1 = Nat.min 1 _; exact (Nat.min_eq_left (by omega)).symm
  have HFit : Hid (k + 1 + (xs.drop k).length ≤ cur.length) := by show _ ≤ _; rw [HD.out, hcl.out]; omega
  have HFit2 : Hid (k + ([z] : List Value).length ≤ (splice cur (k + 1) (xs.drop k)).length) := by show _ ≤ _; rw [length_splice _ _ _ HFit.out, hcl.out]; simp; omega
  have HWk : Hid (IntKind.i64.wrap ((k : Int) + 1) = (k : Int) + 1) := Mi.fits' (Mi.small (by omega) (by omega))
  have HFin : Hid ((splice (splice cur (k + 1) (xs.drop k)) k [z]).length = c ∧ (splice (splice cur (k + 1) (xs.drop k)) k [z]).take (k + r + 1) = xs.take k ++ z :: xs.drop k) := by
    refine ⟨(length_splice _ _ _ HFit2.out).trans ((length_splice _ _ _ HFit.out).trans hcl.out), ?_⟩
    have e0 : cur.take k = xs.take k := by rw [← hct.out, List.take_take, Nat.min_eq_left (by omega)]
    have e1 := splices2 (cur := cur) (X1 := xs.take k) (X2 := xs.drop k) (y := z) (k := k) (by simp; omega) e0 (by rw [HD.out, hcl.out]; omega)
    rw [HD.out] at e1
    rw [← e1]
    congr 1
    omega
  have HGR : Hid (gx ≠ g) := hne
  have t1 : k + r + 1 - (k + 1) = r := by omega
  have t2 : k + r + 1 - k = r + 1 := by omega
  have t3 : (k : Int) + 1 ≤ (k : Int) + (r : Int) + 1 := by omega
  have t4 : (k : Int) ≤ (k : Int) + (r : Int) + 1 := by omega
  have t5 : k + 1 ≤ k + r + 1 := by omega
  have t6 : k ≤ k + r + 1 := by omega
  have t7 : 0 ≤ (k : Int) + 1 := by omega
  have t8 : ¬ c - k = 0 := by omega
  obtain ⟨X2, hX2⟩ : ∃ X, xs.drop k = X := ⟨_, rfl⟩
  rw [hX2] at HD HO1 HSrc HMn HFit HFit2 HFin ⊢
  have HOV := Lib.hid hov
  clear hX2 hov hszx hszg hne
  go_enter Try.func30, Try.ntmps30
  go_wp2_with (simp only [HOV.out])
  refine wp_region_held_drew (S := fun _ => True) (by kernel_rfl) trivial (fun hHeld => ?_)
  refine wpAnyH_take (i := 0) (v := .slice (some ⟨g, 0, none⟩) (k + r + 1) c) rfl (by kernel_rfl) (by kernel_rfl) (by kernel_rfl) (fun _ _ _ h => h) (Or.inl ⟨by rfl, ?_⟩) (by first | assumption | exact trivial) ?_
  · intro W hSW; go_simp; try (with_reducible rfl)
  simp only [Act.put, List.getElem_toArray, List.getElem_cons_succ, List.getElem_cons_zero, List.setIfInBounds_toArray, List.set_cons_zero, List.set_cons_succ]
  refine wpAnyH_take (i := 1) (v := .int .i64 (k : Int)) rfl (by kernel_rfl) (by kernel_rfl) (by kernel_rfl) (fun _ _ _ h => h) (Or.inl ⟨by rfl, ?_⟩) (by first | assumption | exact trivial) ?_
  · intro W hSW; go_simp; try (with_reducible rfl)
  simp only [Act.put, List.getElem_toArray, List.getElem_cons_succ, List.getElem_cons_zero, List.setIfInBounds_toArray, List.set_cons_zero, List.set_cons_succ]
  refine wpAnyH_take (i := 2) (v := .int .i64 1) rfl (by kernel_rfl) (by kernel_rfl) (by kernel_rfl) (fun _ _ _ h => h) (Or.inl ⟨by rfl, ?_⟩) (by first | assumption | exact trivial) ?_
  · intro W hSW; go_simp; try (with_reducible rfl)
  simp only [Act.put, List.getElem_toArray, List.getElem_cons_succ, List.getElem_cons_zero, List.setIfInBounds_toArray, List.set_cons_zero, List.set_cons_succ]
  refine wpAnyH_take (i := 3) (v := .int .i64 ((k : Int) + 1)) rfl (by kernel_rfl) (by kernel_rfl) (by kernel_rfl) (fun _ _ _ h => h) (Or.inl ⟨by rfl, ?_⟩) (by first | assumption | exact trivial) ?_
  · intro W hSW; have q := HWk.out; go_simp; try (with_reducible rfl)
  simp only [Act.put, List.getElem_toArray, List.getElem_cons_succ, List.getElem_cons_zero, List.setIfInBounds_toArray, List.set_cons_zero, List.set_cons_succ]
  refine wpAnyH_take (i := 4) (v := .slice (some ⟨g, k + 1, none⟩) r (c - (k + 1))) rfl (by kernel_rfl) (by kernel_rfl) (by kernel_rfl) (fun _ _ _ h => h) (Or.inl ⟨by rfl, ?_⟩) (by first | assumption | exact trivial) ?_
  · intro W hSW; go_simp; try (with_reducible rfl)
  simp only [Act.put, List.getElem_toArray, List.getElem_cons_succ, List.getElem_cons_zero, List.setIfInBounds_toArray, List.set_cons_zero, List.set_cons_succ]
  refine wpAnyH_take (i := 5) (v := .slice (some ⟨g, 0, none⟩) (k + r + 1) c) rfl (by kernel_rfl) (by kernel_rfl) (by kernel_rfl) (fun _ _ _ h => h) (Or.inl ⟨by rfl, ?_⟩) (by first | assumption | exact trivial) ?_
  · intro W hSW; go_simp; try (with_reducible rfl)
  simp only [Act.put, List.getElem_toArray, List.getElem_cons_succ, List.getElem_cons_zero, List.setIfInBounds_toArray, List.set_cons_zero, List.set_cons_succ]
  refine wpAnyH_take (i := 6) (v := .int .i64 (k : Int)) rfl (by kernel_rfl) (by kernel_rfl) (by kernel_rfl) (fun _ _ _ h => h) (Or.inl ⟨by rfl, ?_⟩) (by first | assumption | exact trivial) ?_
  · intro W hSW; go_simp; try (with_reducible rfl)
  simp only [Act.put, List.getElem_toArray, List.getElem_cons_succ, List.getElem_cons_zero, List.setIfInBounds_toArray, List.set_cons_zero, List.set_cons_succ]
  refine wpAnyH_take (i := 7) (v := .slice (some ⟨g, k, none⟩) (r + 1) (c - k)) rfl (by kernel_rfl) (by kernel_rfl) (by kernel_rfl) (fun _ _ _ h => h) (Or.inl ⟨by rfl, ?_⟩) (by first | assumption | exact trivial) ?_
  · intro W hSW; go_simp; try (with_reducible rfl)
  simp only [Act.put, List.getElem_toArray, List.getElem_cons_succ, List.getElem_cons_zero, List.setIfInBounds_toArray, List.set_cons_zero, List.set_cons_succ]
  refine wpAnyH_ready (rs := [8]) (by kernel_rfl) (by simp) ?_
  refine AllReadyH.cons rfl (fun K hK => ?_) AllReadyH.nil
  rw [if_pos (by kernel_rfl)]
  refine copyw (.tmp 73) (.tmp 76) 33 33 rfl 5 Try.underlying33 (by kernel_rfl) g (k + 1) r (c - (k + 1)) ⟨g, k, none⟩ (r + 1) (c - k) rfl rfl cur 5 hg.out X2 HMn.out HSrc.out HFit.out HO1.out ?_
  intro w1 hg1 hb1
  simp only [Act.put, List.getElem_toArray, List.getElem_cons_succ, List.getElem_cons_zero, List.setIfInBounds_toArray, List.set_cons_zero, List.set_cons_succ]
  refine hK.out _ _ (trivial) (fun hHeld => ?_)
  clear hK K
  refine wpAnyH_done (by kernel_rfl) ?_ _
  have HG1 := Lib.hid hg1
  have HB1 := Lib.hid hb1
  have HZ1 : Hid (∀ j v, ([z] : List Value)[j]? = some v → w1.cell? ((⟨gx, 0, none⟩ : Addr).add j) = some v) := fun j v hj => by
    cases j with
    | zero =>
      have hx : w1.heap[gx]? = some (.cells #[z] 5 (0, 0)) := (hb1.block gx (Array.getElem?_eq_some_iff.1 hz.out).1 (fun e => HGR.out (by injection e))).trans hz.out
      rw [add_lit0, cell_of_row w1 gx _ _ _ (0, 0) hx]; simpa using hj
    | succ j => simp at hj
  clear hg1 hb1
  go_wp2_with (with_reducible refine copyL rfl (.tmp 80) (.tmp 81) 33 33 rfl 5 Try.underlying33 (by kernel_rfl) g k _ _ ⟨gx, 0, none⟩ _ _ rfl rfl (splice cur (k + 1) X2) 5 HG1.out [z] HMn2.out HZ1.out HFit2.out HOne.out ?_; intro w2 hg2 hb2; have HG2 := Lib.hid hg2; have HB2 := Lib.hid hb2; clear hg2 hb2)
  go_ret
  refine ⟨rfl, ⟨_, HG2.out, HFin.out.1, HFin.out.2⟩, ⟨HB2.out.os.trans HB1.out.os, HB2.out.tape.trans HB1.out.tape, HB2.out.output.trans HB1.out.output, Nat.le_trans HB1.out.size HB2.out.size, fun q hq hne => ?_⟩⟩
  exact (HB2.out.block q (Nat.lt_of_lt_of_le hq HB1.out.size) hne).trans (HB1.out.block q hq hne)
end Go.Proofs.Ytcdpdijfgeeenaa.Li
