/- A number put into a list of numbers in the midst. -/
import Derived.Test.YtfnlhfelpdkieaaGreatZ11
import Derived.Laws.CopyOwn
import Derived.Lib.AppendZerosOnto
namespace Go.Proofs.YtfnlhfelpdkieaaGreat.Se
open Go.RowKit
open Go.Proofs.YtfnlhfelpdkieaaGreat.Me Go.Proofs.YtfnlhfelpdkieaaGreat.Sb
set_option linter.unusedVariables false
set_option linter.unusedSimpArgs false

theorem two_splices {cur X1 X2 : List Value} {y : Value} {k : Nat} (hk : X1.length = k) (h : cur.take k = X1) (hl : k + 1 + X2.length ≤ cur.length) : (splice (splice cur k [y]) (k + 1) X2).take (k + 1 + X2.length) = X1 ++ y :: X2 := by
  have e1 : splice cur k [y] = X1 ++ ([y] ++ cur.drop (k + 1)) := by unfold splice; rw [h]; rfl
  rw [e1]
  unfold splice
  have e2 : (X1 ++ ([y] ++ cur.drop (k + 1))).take (k + 1) = X1 ++ [y] := by
    rw [← List.append_assoc]
    exact List.take_left' (by simp [hk])
  rw [e2, ← List.append_assoc, List.take_left' (by simp [hk]; omega)]
  simp
/-- Room for K more made behind the first k numbers of a list that has no room. -/
theorem appZ {w : World} {ops : Array Oper} {rest : List Oper} {o : Oper} {a : Act} {Q : Exit → Act → World → Prop} (hgd : o.guard = none) (s x : Operand)
    (ho : o.op = .call { callee := .builtin .append, args := #[s, x], argTypes := #[110, 3] })
    (g off k c K : Nat) (l : List Int) (hs : a.eval s = .slice (some ⟨g, off, none⟩) k c) (hx : a.eval x = .int .i64 (K : Int)) (hl : l.length = k) (hc : ∀ i, i < k → w.cell? ⟨g, off + i, none⟩ = some (.int .i64 (l.getD i 0))) (hK : c < k + K) (h0 : 0 < K) (hlen : k + K ≤ 1000000000)
    (h : ∀ w' (cur : List Value) (cap : Nat), Hid (w'.heap[w.heap.size]? = some (.cells cur.toArray 3 (0, 0))) → cur.length = cap → cur.take k = l.map Mi.iV → k + K ≤ cap → cap ≤ 9223372036854775807 → Below w.heap.size w w' → wpList Tryz.prog ops Q rest (a.put o.dst (.slice (some ⟨w.heap.size, 0, none⟩) (k + K) cap)) w') : wpList Tryz.prog ops Q (o :: rest) a w := by
  obtain ⟨i0, hi, hz0, hz1, hz2⟩ := info_parts Mi.infoI
  refine wpList_plain hgd fun K' hK' => ?_
  have holds : ∀ j v, (l.map Mi.iV)[j]? = some v → w.cell? ((⟨g, off, none⟩ : Addr).add j) = some v := by
    intro j v hj
    have hj' : j < l.length := by
      apply Classical.byContradiction
      intro hn
      rw [List.getElem?_eq_none (by simpa using hn)] at hj; cases hj
    have e : (⟨g, off, none⟩ : Addr).add j = ⟨g, off + j, none⟩ := by simp [Addr.add]
    rw [e, hc j (by omega), ← hj]
    simp [hj', Mi.iV]
  have hf := run_firstCells_some (P := Tryz.prog) (w := w.drew) i0.size k ⟨g, off, none⟩ k c (l.map Mi.iV) (by rw [hz1]; simp [hl]) (by simpa using holds)
  have hr := Lib.run_append_grow_zeros (P := Tryz.prog) w 110 3 o.type 3 i0 (.int .i64 0) .i64 .i64 Tryz.underlying110 Tryz.underlying3 hi hz0 (some ⟨g, off, none⟩) k c (l.map Mi.iV) hf K h0 (by rw [hz1]; decide) hK (by omega) (by rw [hz2]; omega) (growslice_fits (by omega) (by rw [hz2]; omega))
  unfold Oper.wp execOp
  simp only [ho, resolve, invoke, builtin, Sem.run_bind, Sem.run_pure, Result.andThen_ok, List.map_toArray, List.map_cons, List.map_nil, hs, hx, hr]
  have hge := grownCap_ge w (k + K) c 3
  have hcm : grownCap w (k + K) c 3 ≤ maxLen := grownCap_le_maxLen w (k + K) c 3 (by unfold maxLen; omega)
  refine hK' _ _ (h _ ((l.map Mi.iV).toArray ++ Builtin.zeroCells (Value.int .i64 0).cells K ++ Builtin.zeroCells (Value.int .i64 0).cells (grownCap w (k + K) c 3 - (k + K))).toList _ ?_ ?_ ?_ hge (by unfold maxLen at hcm; omega) ?_)
  · show _ = _
    rw [Array.toArray_toList]
    exact heap_alloc_new w.drew _
  · rw [Array.length_toList]
    simp only [Array.size_append, List.size_toArray, size_zeroCells, List.length_map, show (Value.int IntKind.i64 0).cells.size = 1 from rfl, hl]
    omega
  · simp only [Array.toList_append, List.append_assoc]
    exact List.take_left' (by simp [hl])
  · exact ⟨rfl, rfl, rfl, by simp, fun k hk => heap_alloc_old w.drew _ hk⟩
set_option maxRecDepth 100000 in
set_option maxHeartbeats 8000000 in
theorem Ins_mid (g off gx k r : Nat) (l : List Int) (z : Int) (W : World) (hl : l.length = k + r) (hr : 0 < r) (hS : Hid (Sl W (some ⟨g, off, none⟩) (k + r) l)) (hz : Hid (W.cell? ⟨gx, 0, none⟩ = some (.int .i64 z))) (hb : k + r ≤ 1000000) :
    Calls Tryz.prog 96 #[.slice (some ⟨g, off, none⟩) (k + r) (k + r), .int .i64 (k : Int), .slice (some ⟨gx, 0, none⟩) 1 1] W fun e w' => ∃ v, e = .returned v ∧ Hid (Mi.Own w' W.heap.size v (l.take k ++ z :: l.drop k)) ∧ Hid (Below W.heap.size W w') := by
  have h1 : ¬ (k + r - k = 0) := by omega
  have h2 : (k : Int) ≤ (k : Int) + (r : Int) := by omega
  have h3 : ((k : Int) == (k : Int) + (r : Int)) = false := by
    have : ¬ (k : Int) = (k : Int) + (r : Int) := by omega
    simpa using this
  have h4 : k ≤ k + r := by omega
  have h5 : ¬ r = 0 := by omega
  have HK : Hid (l.take k = l.take k ∧ (l.take k).length = k) := ⟨rfl, by simp; omega⟩
  have HCk : Hid (∀ i, i < k → W.cell? ⟨g, off + i, none⟩ = some (.int .i64 ((l.take k).getD i 0))) := fun i hi => by
    obtain ⟨g', off', e, _, hc⟩ := hS.out.2.2.2 _ rfl
    cases e
    rw [hc i (by omega)]
    simp [hi]
  have HCd : Hid (∀ W', Below W.heap.size W W' → ∀ j v, ((l.drop k).map Mi.iV)[j]? = some v → W'.cell? ((⟨g, off + k, none⟩ : Addr).add j) = some v) := fun W' hW' j v hj => by
    obtain ⟨g', off', e, ⟨cur, hcur⟩, hc⟩ := hS.out.2.2.2 _ rfl
    cases e
    have hj' : j < r := by
      apply Classical.byContradiction
      intro hn
      rw [List.getElem?_eq_none (by simp; omega)] at hj; cases hj
    have e : (⟨g, off + k, none⟩ : Addr).add j = ⟨g, off + k + j, none⟩ := by simp [Addr.add]
    have hlt : g < W.heap.size := (Array.getElem?_eq_some_iff.1 hcur).1
    have hkj : k + j < l.length := by omega
    rw [e, hW'.cell (p := ⟨g, off + k + j, none⟩) hlt, Nat.add_assoc, hc (k + j) hkj, ← hj, List.getElem?_map, List.getElem?_drop]
    simp [hkj, Mi.iV]
  have HZ : Hid (∀ W', Below W.heap.size W W' → ∀ j v, ([Value.int .i64 z] : List Value)[j]? = some v → W'.cell? ((⟨gx, 0, none⟩ : Addr).add j) = some v) := fun W' hW' j v hj => by
    have hlt : gx < W.heap.size := World.block_lt_of_cell? W _ hz.out
    cases j with
    | zero =>
      have e : (⟨gx, 0, none⟩ : Addr).add 0 = ⟨gx, 0, none⟩ := by unfold Addr.add; split <;> simp_all
      rw [e, hW'.cell (p := ⟨gx, 0, none⟩) hlt, hz.out]; simpa using hj
    | succ j => simp at hj
  have hle : (l.drop k).length = r := by simp [hl]
  have HD : Hid (((l.drop k).map Mi.iV).length = r) := by show _ = _; simp [hl]
  have HX : Hid (Value.int .i64 ((k : Int) + (r : Int) + 1 - (k : Int)) = .int .i64 ((r + 1 : Nat) : Int)) := by show _ = _; congr 1; omega
  have HO1 : Hid (∀ u ∈ ((l.drop k).map Mi.iV), u.oneCell' = true) := Mi.one_cells _
  obtain ⟨X2, hX2⟩ : ∃ X, (l.drop k).map Mi.iV = X := ⟨_, rfl⟩
  obtain ⟨l1, hl1⟩ : ∃ X, l.take k = X := ⟨_, rfl⟩
  have HFin : Hid (l1.map Mi.iV ++ .int .i64 z :: X2 = (l.take k ++ z :: l.drop k).map Mi.iV ∧ (l.take k ++ z :: l.drop k).length = k + (r + 1)) := by
    refine ⟨by rw [← hX2, ← hl1]; simp [Mi.iV], ?_⟩
    rw [List.length_append, List.length_cons, hle, HK.out.2]
  obtain ⟨L, hL⟩ : ∃ L, l.take k ++ z :: l.drop k = L := ⟨_, rfl⟩
  rw [hL] at HFin ⊢
  rw [hX2] at HCd HD HO1
  rw [hl1] at HCk HK
  clear hX2 hL hle hl hS hl1 hz
  have HMn : Hid (([Value.int .i64 z] : List Value).length = Nat.min 1 (r + 1)) := by show 1 = Nat.min 1 (r + 1); exact (Nat.min_eq_left (by omega)).symm
  have HOne : Hid (∀ v ∈ ([Value.int .i64 z] : List Value), v.oneCell' = true) := by show ∀ v ∈ _, _; simp [Value.oneCell']
  have hfit1 : ∀ {cur : List Value} {cap : Nat}, cur.length = cap → k + (r + 1) ≤ cap → k + ([Value.int .i64 z] : List Value).length ≤ cur.length := fun h1 h2 => by simp; omega
  go_enter Tryz.func96, Tryz.ntmps96
  go_wp2_with (first
    | (at_builtin; refine appZ rfl (.tmp 34) (.tmp 39) rfl g off k (k + r) (r + 1) l1 rfl HX.out HK.out.2 HCk.out (by omega) (by omega) (by omega) ?_; intro w1 cur cap hg1 hcl hct hcap1 hcap2 hb1; have HB1 := Lib.hid hb1; have HCl := Lib.hid hcl; have HCt := Lib.hid hct; have hck : ¬ cap - k = 0 := (by omega); clear hcl hct hb1)
    | (with_reducible refine wpList_copy_splice rfl (.tmp 43) (.tmp 44) 110 110 rfl 3 Tryz.underlying110 (by kernel_rfl) _ _ _ _ _ _ rfl rfl W.heap.size k cur 3 hg1.out [.int .i64 z] HMn.out (fun _ => ⟨rfl, _, rfl, HZ.out _ HB1.out⟩) (hfit1 HCl.out hcap1) HOne.out W.heap.size W HB1.out (Nat.le_refl _) ?_; intro w2 hg2 hb2; have HB2 := Lib.hid hb2; clear hb2))
  have hc1 : ¬ cap - (k + 1) = 0 := (by omega)
  have hc6 : ¬ cap = k + 1 := (by omega)
  have HWk : Hid (IntKind.i64.wrap ((k : Int) + 1) = (k : Int) + 1) := Mi.fits' (Mi.small (by omega) (by omega))
  have hc2 : k + (r + 1) - (k + 1) = r := (by omega)
  have hc3 : k + 1 ≤ k + (r + 1) := (by omega)
  have hc4 : (k : Int) + 1 ≤ (k : Int) + ((r : Int) + 1) := (by omega)
  have hc5 : 0 ≤ (k : Int) + 1 := (by omega)
  have hMn2 : X2.length = Nat.min r r := HD.out.trans (Nat.min_self r).symm
  have hLen1 : (splice cur k [Value.int .i64 z]).length = cap := (length_splice _ _ _ (hfit1 HCl.out hcap1)).trans HCl.out
  have hfit2 : k + 1 + X2.length ≤ (splice cur k [Value.int .i64 z]).length := by rw [hLen1, HD.out]; omega
  have HTS : Hid ((splice (splice cur k [Value.int .i64 z]) (k + 1) X2).take (k + 1 + X2.length) = l1.map Mi.iV ++ .int .i64 z :: X2) := two_splices (by rw [List.length_map]; exact HK.out.2) HCt.out (by rw [HD.out, HCl.out]; omega)
  have HLen2 : Hid ((splice (splice cur k [Value.int .i64 z]) (k + 1) X2).length = cap) := (length_splice _ _ _ hfit2).trans hLen1
  refine wp_region_held_drew (S := fun _ => True) (by kernel_rfl) trivial (fun hHeld => ?_)
  refine wpAnyH_take (i := 0) (v := .slice (some ⟨W.heap.size, 0, none⟩) (k + (r + 1)) cap) rfl (by kernel_rfl) (by kernel_rfl) (by kernel_rfl) (fun _ _ _ h => h) (Or.inl ⟨by rfl, ?_⟩) (by first | assumption | exact trivial) ?_
  · intro W hSW; go_simp; try (with_reducible rfl)
  simp only [Act.put, List.getElem_toArray, List.getElem_cons_succ, List.getElem_cons_zero, List.setIfInBounds_toArray, List.set_cons_zero, List.set_cons_succ]
  refine wpAnyH_take (i := 1) (v := .int .i64 (k : Int)) rfl (by kernel_rfl) (by kernel_rfl) (by kernel_rfl) (fun _ _ _ h => h) (Or.inl ⟨by rfl, ?_⟩) (by first | assumption | exact trivial) ?_
  · intro W hSW; go_simp; try (with_reducible rfl)
  simp only [Act.put, List.getElem_toArray, List.getElem_cons_succ, List.getElem_cons_zero, List.setIfInBounds_toArray, List.set_cons_zero, List.set_cons_succ]
  refine wpAnyH_take (i := 2) (v := .int .i64 1) rfl (by kernel_rfl) (by kernel_rfl) (by kernel_rfl) (fun _ _ _ h => h) (Or.inl ⟨by rfl, ?_⟩) (by first | assumption | exact trivial) ?_
  · intro W hSW; go_simp; try (with_reducible rfl)
  simp only [Act.put, List.getElem_toArray, List.getElem_cons_succ, List.getElem_cons_zero, List.setIfInBounds_toArray, List.set_cons_zero, List.set_cons_succ]
  refine wpAnyH_take (i := 3) (v := .int .i64 ((k : Int) + 1)) rfl (by kernel_rfl) (by kernel_rfl) (by kernel_rfl) (fun _ _ _ h => h) (Or.inl ⟨by rfl, ?_⟩) (by first | assumption | exact trivial) ?_
  · intro W hSW; have q := HWk.out; go_simp; try (with_reducible rfl)
  simp only [Act.put, List.getElem_toArray, List.getElem_cons_succ, List.getElem_cons_zero, List.setIfInBounds_toArray, List.set_cons_zero, List.set_cons_succ]
  refine wpAnyH_take (i := 4) (v := .slice (some ⟨W.heap.size, k + 1, none⟩) r (cap - (k + 1))) rfl (by kernel_rfl) (by kernel_rfl) (by kernel_rfl) (fun _ _ _ h => h) (Or.inl ⟨by rfl, ?_⟩) (by first | assumption | exact trivial) ?_
  · intro W hSW; go_simp; try (with_reducible rfl)
  simp only [Act.put, List.getElem_toArray, List.getElem_cons_succ, List.getElem_cons_zero, List.setIfInBounds_toArray, List.set_cons_zero, List.set_cons_succ]
  refine wpAnyH_take (i := 5) (v := .slice (some ⟨g, off, none⟩) (k + r) (k + r)) rfl (by kernel_rfl) (by kernel_rfl) (by kernel_rfl) (fun _ _ _ h => h) (Or.inl ⟨by rfl, ?_⟩) (by first | assumption | exact trivial) ?_
  · intro W hSW; go_simp; try (with_reducible rfl)
  simp only [Act.put, List.getElem_toArray, List.getElem_cons_succ, List.getElem_cons_zero, List.setIfInBounds_toArray, List.set_cons_zero, List.set_cons_succ]
  refine wpAnyH_take (i := 6) (v := .int .i64 (k : Int)) rfl (by kernel_rfl) (by kernel_rfl) (by kernel_rfl) (fun _ _ _ h => h) (Or.inl ⟨by rfl, ?_⟩) (by first | assumption | exact trivial) ?_
  · intro W hSW; go_simp; try (with_reducible rfl)
  simp only [Act.put, List.getElem_toArray, List.getElem_cons_succ, List.getElem_cons_zero, List.setIfInBounds_toArray, List.set_cons_zero, List.set_cons_succ]
  refine wpAnyH_take (i := 7) (v := .slice (some ⟨g, off + k, none⟩) r r) rfl (by kernel_rfl) (by kernel_rfl) (by kernel_rfl) (fun _ _ _ h => h) (Or.inl ⟨by rfl, ?_⟩) (by first | assumption | exact trivial) ?_
  · intro W hSW; go_simp; try (with_reducible rfl)
  simp only [Act.put, List.getElem_toArray, List.getElem_cons_succ, List.getElem_cons_zero, List.setIfInBounds_toArray, List.set_cons_zero, List.set_cons_succ]
  refine wpAnyH_ready (rs := [8]) (by kernel_rfl) (by simp) ?_
  refine AllReadyH.cons rfl (fun K hK => ?_) AllReadyH.nil
  refine step_copy_splice rfl (.tmp 50) (.tmp 53) 110 110 rfl 3 Tryz.underlying110 (by kernel_rfl) _ _ _ _ _ _ rfl rfl W.heap.size (k + 1) (splice cur k [.int .i64 z]) 3 hg2.out X2 hMn2 (fun _ => ⟨rfl, _, rfl, HCd.out _ HB2.out.drew⟩) hfit2 HO1.out W.heap.size W HB2.out.drew (Nat.le_refl _) ?_
  intro w3 hg3 hb3
  simp only [Act.put, List.getElem_toArray, List.getElem_cons_succ, List.getElem_cons_zero, List.setIfInBounds_toArray, List.set_cons_zero, List.set_cons_succ]
  refine hK.out _ _ (trivial) (fun hHeld => ?_)
  clear hK K
  refine wpAnyH_done (by kernel_rfl) ?_ _
  have HB3 := Lib.hid hb3
  have HLL : Hid (k + (r + 1) = L.length) := HFin.out.2.symm
  clear hc6 hc1 hc2 hc3 hc4 hc5 hMn2 hLen1 hfit2 hb3
  go_wp2
  go_ret
  refine ⟨_, rfl, ⟨by simp, .inr ⟨W.heap.size, cap, _, by rw [HLL.out]; rfl, Nat.le_refl _, hg3.out, by rw [← HLL.out]; exact hcap1, by unfold maxLen; omega, by simp; exact HLen2.out, ?_⟩⟩, HB3.out⟩
  show (splice (splice cur k [Value.int .i64 z]) (k + 1) X2).take (L.length * 1) = L.map Mi.iV
  rw [← HFin.out.1, ← HTS.out, Nat.mul_one, ← HLL.out, HD.out, Nat.add_assoc, Nat.add_comm 1 r]
theorem insAt {W : World} {A : Option Addr} {l : List Int} {c : Int} (hS : Sl W A l.length l) (hl : l.length ≤ 1000000) : InsAt W A l c := by
  by_cases he : lb l c = l.length
  · exact insAt_end hS hl he
  · intro W' gx hb hz
    have hlb := lb_le l c
    cases A with
    | none => exact absurd (by rw [(hS.2.2.1 rfl).1]; rfl) he
    | some a =>
      obtain ⟨g, off, rfl, _⟩ := hS.2.2.2 a rfl
      have hS' := hS.keep (Ints.below hb)
      obtain ⟨r, hr⟩ : ∃ r, l.length = lb l c + r := ⟨l.length - lb l c, by omega⟩
      rw [hr] at hS' ⊢
      exact Ins_mid g off gx (lb l c) r l c W' hr (by omega) hS' hz (by omega)
end Go.Proofs.YtfnlhfelpdkieaaGreat.Se
