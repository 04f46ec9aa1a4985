/- A number put into a list of numbers in the midst. -/
import Derived.Test.YtfnlhfelpdkieaaGreatZ8
import Derived.Test.YtfnlhfelpdkieaaGreatSeAdd
import Derived.Test.YtfnlhfelpdkieaaGreatZ14
import Derived.Test.YtfnlhfelpdkieaaGreatZ15
import Derived.Test.YtfnlhfelpdkieaaGreatSoNew
import Derived.Laws.CopyOwn
import Derived.Lib.AppendZerosOnto
namespace Go.Proofs.YtfnlhfelpdkieaaGreat.Se
open Go.RowKit
open Go.Proofs.YtfnlhfelpdkieaaGreat.Me Go.Proofs.YtfnlhfelpdkieaaGreat.Sb
set_option linter.unusedVariables false
set_option linter.unusedSimpArgs false

theorem two_splices {cur X1 X2 : List Value} {y : Value} {k : Nat} (hk : X1.length = k) (h : cur.take k = X1) (hl : k + 1 + X2.length ≤ cur.length) : (splice (splice cur k [y]) (k + 1) X2).take (k + 1 + X2.length) = X1 ++ y :: X2 := by
  have e1 : splice cur k [y] = X1 ++ ([y] ++ cur.drop (k + 1)) := by unfold splice; rw [h]; rfl
  rw [e1]
  unfold splice
  have e2 : (X1 ++ ([y] ++ cur.drop (k + 1))).take (k + 1) = X1 ++ [y] := by
    rw [← List.append_assoc]
    exact List.take_left' (by simp [hk])
  rw [e2, ← List.append_assoc, List.take_left' (by simp [hk]; omega)]
  simp
/-- Room for K more made behind the first k numbers of a list that has no room. -/
theorem appZ {w : World} {ops : Array Oper} {rest : List Oper} {o : Oper} {a : Act} {Q : Exit → Act → World → Prop} (hgd : o.guard = none) (s x : Operand)
    (ho : o.op = .call { callee := .builtin .append, args := #[s, x], argTypes := #[110, 3] })
    (g off k c K : Nat) (l : List Int) (hs : a.eval s = .slice (some ⟨g, off, none⟩) k c) (hx : a.eval x = .int .i64 (K : Int)) (hl : l.length = k) (hc : ∀ i, i < k → w.cell? ⟨g, off + i, none⟩ = some (.int .i64 (l.getD i 0))) (hK : c < k + K) (h0 : 0 < K) (hlen : k + K ≤ 1000000000)
    (h : ∀ w' (cur : List Value) (cap : Nat), Hid (w'.heap[w.heap.size]? = some (.cells cur.toArray 3 (0, 0))) → cur.length = cap → cur.take k = l.map Mi.iV → k + K ≤ cap → cap ≤ 9223372036854775807 → Below w.heap.size w w' → wpList Tryz.prog ops Q rest (a.put o.dst (.slice (some ⟨w.heap.size, 0, none⟩) (k + K) cap)) w') : wpList Tryz.prog ops Q (o :: rest) a w := by
  obtain ⟨i0, hi, hz0, hz1, hz2⟩ := info_parts Mi.infoI
  refine wpList_plain hgd fun K' hK' => ?_
  have holds : ∀ j v, (l.map Mi.iV)[j]? = some v → w.cell? ((⟨g, off, none⟩ : Addr).add j) = some v := by
    intro j v hj
    have hj' : j < l.length := by
      apply Classical.byContradiction
      intro hn
      rw [List.getElem?_eq_none (by simpa using hn)] at hj; cases hj
    have e : (⟨g, off, none⟩ : Addr).add j = ⟨g, off + j, none⟩ := by simp [Addr.add]
    rw [e, hc j (by omega), ← hj]
    simp [hj', Mi.iV]
  have hf := run_firstCells_some (P := Tryz.prog) (w := w.drew) i0.size k ⟨g, off, none⟩ k c (l.map Mi.iV) (by rw [hz1]; simp [hl]) (by simpa using holds)
  have hr := Lib.run_append_grow_zeros (P := Tryz.prog) w 110 3 o.type 3 i0 (.int .i64 0) .i64 .i64 Tryz.underlying110 Tryz.underlying3 hi hz0 (some ⟨g, off, none⟩) k c (l.map Mi.iV) hf K h0 (by rw [hz1]; decide) hK (by omega) (by rw [hz2]; omega) (growslice_fits (by omega) (by rw [hz2]; omega))
  unfold Oper.wp execOp
  simp only [ho, resolve, invoke, builtin, Sem.run_bind, Sem.run_pure, Result.andThen_ok, List.map_toArray, List.map_cons, List.map_nil, hs, hx, hr]
  have hge := grownCap_ge w (k + K) c 3
  have hcm : grownCap w (k + K) c 3 ≤ maxLen := grownCap_le_maxLen w (k + K) c 3 (by unfold maxLen; omega)
  refine hK' _ _ (h _ ((l.map Mi.iV).toArray ++ Builtin.zeroCells (Value.int .i64 0).cells K ++ Builtin.zeroCells (Value.int .i64 0).cells (grownCap w (k + K) c 3 - (k + K))).toList _ ?_ ?_ ?_ hge (by unfold maxLen at hcm; omega) ?_)
  · show _ = _
    rw [Array.toArray_toList]
    exact heap_alloc_new w.drew _
  · rw [Array.length_toList]
    simp only [Array.size_append, List.size_toArray, size_zeroCells, List.length_map, show (Value.int IntKind.i64 0).cells.size = 1 from rfl, hl]
    omega
  · simp only [Array.toList_append, List.append_assoc]
    exact List.take_left' (by simp [hl])
  · exact ⟨rfl, rfl, rfl, by simp, fun k hk => heap_alloc_old w.drew _ hk⟩
set_option maxRecDepth 100000 in
set_option maxHeartbeats 8000000 in
theorem Ins_mid (g off gx k r : Nat) (l : List Int) (z : Int) (W : World) (hl : l.length = k + r) (hr : 0 < r) (hS : Hid (Sl W (some ⟨g, off, none⟩) (k + r) l)) (hz : Hid (W.cell? ⟨gx, 0, none⟩ = some (.int .i64 z))) (hb : k + r ≤ 1000000) :
    Calls Tryz.prog 96 #[.slice (some ⟨g, off, none⟩) (k + r) (k + r), .int .i64 (k : Int), .slice (some ⟨gx, 0, none⟩) 1 1] W fun e w' => ∃ v, e = .returned v ∧ Hid (Mi.Own w' W.heap.size v (l.take k ++ z :: l.drop k)) ∧ Hid (Below W.heap.size W w') := by
  have h1 : ¬ (k + r - k = 0) := by omega
  have h2 : (k : Int) ≤ (k : Int) + (r : Int) := by omega
  have h3 : ((k : Int) == (k : Int) + (r : Int)) = false := by
    have : ¬ (k : Int) = (k : Int) + (r : Int) := by omega
    simpa using this
  have h4 : k ≤ k + r := by omega
  have h5 : ¬ r = 0 := by omega
  have HK : Hid (l.take k = l.take k ∧ (l.take k).length = k) := ⟨rfl, by simp; omega⟩
  have HCk : Hid (∀ i, i < k → W.cell? ⟨g, off + i, none⟩ = some (.int .i64 ((l.take k).getD i 0))) := fun i hi => by
    obtain ⟨g', off', e, _, hc⟩ := hS.out.2.2.2 _ rfl
    cases e
    rw [hc i (by omega)]
    simp [hi]
  have HCd : Hid (∀ W', Below W.heap.size W W' → ∀ j v, ((l.drop k).map Mi.iV)[j]? = some v → W'.cell? ((⟨g, off + k, none⟩ : Addr).add j) = some v) := fun W' hW' j v hj => by
    obtain ⟨g', off', e, ⟨cur, hcur⟩, hc⟩ := hS.out.2.2.2 _ rfl
    cases e
    have hj' : j < r := by
      apply Classical.byContradiction
      intro hn
      rw [List.getElem?_eq_none (by simp; omega)] at hj; cases hj
    have e : (⟨g, off + k, none⟩ : Addr).add j = ⟨g, off + k + j, none⟩ := by simp [Addr.add]
    have hlt : g < W.heap.size := (Array.getElem?_eq_some_iff.1 hcur).1
    have hkj : k + j < l.length := by omega
    rw [e, hW'.cell (p := ⟨g, off + k + j, none⟩) hlt, Nat.add_assoc, hc (k + j) hkj, ← hj, List.getElem?_map, List.getElem?_drop]
    simp [hkj, Mi.iV]
  have HZ : Hid (∀ W', Below W.heap.size W W' → ∀ j v, ([Value.int .i64 z] : List Value)[j]? = some v → W'.cell? ((⟨gx, 0, none⟩ : Addr).add j) = some v) := fun W' hW' j v hj => by
    have hlt : gx < W.heap.size := World.block_lt_of_cell? W _ hz.out
    cases j with
    | zero =>
      have e : (⟨gx, 0, none⟩ : Addr).add 0 = ⟨gx, 0, none⟩ := by unfold Addr.add; split <;> simp_all
      rw [e, hW'.cell (p := ⟨gx, 0, none⟩) hlt, hz.out]; simpa using hj
    | succ j => simp at hj
  have hle : (l.drop k).length = r := by simp [hl]
  have HD : Hid (((l.drop k).map Mi.iV).length = r) := by show _ = _; simp [hl]
  have HX : Hid (Value.int .i64 ((k : Int) + (r : Int) + 1 - (k : Int)) = .int .i64 ((r + 1 : Nat) : Int)) := by show _ = _; congr 1; omega
  have HO1 : Hid (∀ u ∈ ((l.drop k).map Mi.iV), u.oneCell' = true) := Mi.one_cells _
  obtain ⟨X2, hX2⟩ : ∃ X, (l.drop k).map Mi.iV = X := ⟨_, rfl⟩
  obtain ⟨l1, hl1⟩ : ∃ X, l.take k = X := ⟨_, rfl⟩
  have HFin : Hid (l1.map Mi.iV ++ .int .i64 z :: X2 = (l.take k ++ z :: l.drop k).map Mi.iV ∧ (l.take k ++ z :: l.drop k).length = k + (r + 1)) := by
    refine ⟨by rw [← hX2, ← hl1]; simp [Mi.iV], ?_⟩
    rw [List.length_append, List.length_cons, hle, HK.out.2]
  obtain ⟨L, hL⟩ : ∃ L, l.take k ++ z :: l.drop k = L := ⟨_, rfl⟩
  rw [hL] at HFin ⊢
  rw [hX2] at HCd HD HO1
  rw [hl1] at HCk HK
  clear hX2 hL hle hl hS hl1 hz
  have HMn : Hid (([Value.int .i64 z] : List Value).length = Nat.min 1 (r + 1)) := by show 1 = Nat.min 1 (r + 1); exact (Nat.min_eq_left (by omega)).symm
  have HOne : Hid (∀ v ∈ ([Value.int .i64 z] : List Value), v.oneCell' = true) := by show ∀ v ∈ _, _; simp [Value.oneCell']
  have hfit1 : ∀ {cur : List Value} {cap : Nat}, cur.length = cap → k + (r + 1) ≤ cap → k + ([Value.int .i64 z] : List Value).length ≤ cur.length := fun h1 h2 => by simp; omega
  go_enter Tryz.func96, Tryz.ntmps96
  go_wp2_with (first
    | (at_builtin; refine appZ rfl (.tmp 34) (.tmp 39) rfl g off k (k + r) (r + 1) l1 rfl HX.out HK.out.2 HCk.out (by omega) (by omega) (by omega) ?_; intro w1 cur cap hg1 hcl hct hcap1 hcap2 hb1; have HB1 := Lib.hid hb1; have HCl := Lib.hid hcl; have HCt := Lib.hid hct; have hck : ¬ cap - k = 0 := (by omega); clear hcl hct hb1)
    | (with_reducible refine wpList_copy_splice rfl (.tmp 43) (.tmp 44) 110 110 rfl 3 Tryz.underlying110 (by kernel_rfl) _ _ _ _ _ _ rfl rfl W.heap.size k cur 3 hg1.out [.int .i64 z] HMn.out (fun _ => ⟨rfl, _, rfl, HZ.out _ HB1.out⟩) (hfit1 HCl.out hcap1) HOne.out W.heap.size W HB1.out (Nat.le_refl _) ?_; intro w2 hg2 hb2; have HB2 := Lib.hid hb2; clear hb2))
  have hc1 : ¬ cap - (k + 1) = 0 := (by omega)
  have hc6 : ¬ cap = k + 1 := (by omega)
  have HWk : Hid (IntKind.i64.wrap ((k : Int) + 1) = (k : Int) + 1) := Mi.fits' (Mi.small (by omega) (by omega))
  have hc2 : k + (r + 1) - (k + 1) = r := (by omega)
  have hc3 : k + 1 ≤ k + (r + 1) := (by omega)
  have hc4 : (k : Int) + 1 ≤ (k : Int) + ((r : Int) + 1) := (by omega)
  have hc5 : 0 ≤ (k : Int) + 1 := (by omega)
  have hMn2 : X2.length = Nat.min r r := HD.out.trans (Nat.min_self r).symm
  have hLen1 : (splice cur k [Value.int .i64 z]).length = cap := (length_splice _ _ _ (hfit1 HCl.out hcap1)).trans HCl.out
  have hfit2 : k + 1 + X2.length ≤ (splice cur k [Value.int .i64 z]).length := by rw [hLen1, HD.out]; omega
  have HTS : Hid ((splice (splice cur k [Value.int .i64 z]) (k + 1) X2).take (k + 1 + X2.length) = l1.map Mi.iV ++ .int .i64 z :: X2) := two_splices (by rw [List.length_map]; exact HK.out.2) HCt.out (by rw [HD.out, HCl.out]; omega)
  have HLen2 : Hid ((splice (splice cur k [Value.int .i64 z]) (k + 1) X2).length = cap) := (length_splice _ _ _ hfit2).trans hLen1
  refine wp_region_held_drew (S := fun _ => True) (by kernel_rfl) trivial (fun hHeld => ?_)
  refine wpAnyH_take (i := 0) (v := .slice (some ⟨W.heap.size, 0, none⟩) (k + (r + 1)) cap) rfl (by kernel_rfl) (by kernel_rfl) (by kernel_rfl) (fun _ _ _ h => h) (Or.inl ⟨by rfl, ?_⟩) (by first | assumption | exact trivial) ?_
  · intro W hSW; go_simp; try (with_reducible rfl)
  simp only [Act.put, List.getElem_toArray, List.getElem_cons_succ, List.getElem_cons_zero, List.setIfInBounds_toArray, List.set_cons_zero, List.set_cons_succ]
  refine wpAnyH_take (i := 1) (v := .int .i64 (k : Int)) rfl (by kernel_rfl) (by kernel_rfl) (by kernel_rfl) (fun _ _ _ h => h) (Or.inl ⟨by rfl, ?_⟩) (by first | assumption | exact trivial) ?_
  · intro W hSW; go_simp; try (with_reducible rfl)
  simp only [Act.put, List.getElem_toArray, List.getElem_cons_succ, List.getElem_cons_zero, List.setIfInBounds_toArray, List.set_cons_zero, List.set_cons_succ]
  refine wpAnyH_take (i := 2) (v := .int .i64 1) rfl (by kernel_rfl) (by kernel_rfl) (by kernel_rfl) (fun _ _ _ h => h) (Or.inl ⟨by rfl, ?_⟩) (by first | assumption | exact trivial) ?_
  · intro W hSW; go_simp; try (with_reducible rfl)
  simp only [Act.put, List.getElem_toArray, List.getElem_cons_succ, List.getElem_cons_zero, List.setIfInBounds_toArray, List.set_cons_zero, List.set_cons_succ]
  refine wpAnyH_take (i := 3) (v := .int .i64 ((k : Int) + 1)) rfl (by kernel_rfl) (by kernel_rfl) (by kernel_rfl) (fun _ _ _ h => h) (Or.inl ⟨by rfl, ?_⟩) (by first | assumption | exact trivial) ?_
  · intro W hSW; have q := HWk.out; go_simp; try (with_reducible rfl)
  simp only [Act.put, List.getElem_toArray, List.getElem_cons_succ, List.getElem_cons_zero, List.setIfInBounds_toArray, List.set_cons_zero, List.set_cons_succ]
  refine wpAnyH_take (i := 4) (v := .slice (some ⟨W.heap.size, k + 1, none⟩) r (cap - (k + 1))) rfl (by kernel_rfl) (by kernel_rfl) (by kernel_rfl) (fun _ _ _ h => h) (Or.inl ⟨by rfl, ?_⟩) (by first | assumption | exact trivial) ?_
  · intro W hSW; go_simp; try (with_reducible rfl)
  simp only [Act.put, List.getElem_toArray, List.getElem_cons_succ, List.getElem_cons_zero, List.setIfInBounds_toArray, List.set_cons_zero, List.set_cons_succ]
  refine wpAnyH_take (i := 5) (v := .slice (some ⟨g, off, none⟩) (k + r) (k + r)) rfl (by kernel_rfl) (by kernel_rfl) (by kernel_rfl) (fun _ _ _ h => h) (Or.inl ⟨by rfl, ?_⟩) (by first | assumption | exact trivial) ?_
  · intro W hSW; go_simp; try (with_reducible rfl)
  simp only [Act.put, List.getElem_toArray, List.getElem_cons_succ, List.getElem_cons_zero, List.setIfInBounds_toArray, List.set_cons_zero, List.set_cons_succ]
  refine wpAnyH_take (i := 6) (v := .int .i64 (k : Int)) rfl (by kernel_rfl) (by kernel_rfl) (by kernel_rfl) (fun _ _ _ h => h) (Or.inl ⟨by rfl, ?_⟩) (by first | assumption | exact trivial) ?_
  · intro W hSW; go_simp; try (with_reducible rfl)
  simp only [Act.put, List.getElem_toArray, List.getElem_cons_succ, List.getElem_cons_zero, List.setIfInBounds_toArray, List.set_cons_zero, List.set_cons_succ]
  refine wpAnyH_take (i := 7) (v := .slice (some ⟨g, off + k, none⟩) r r) rfl (by kernel_rfl) (by kernel_rfl) (by kernel_rfl) (fun _ _ _ h => h) (Or.inl ⟨by rfl, ?_⟩) (by first | assumption | exact trivial) ?_
  · intro W hSW; go_simp; try (with_reducible rfl)
  simp only [Act.put, List.getElem_toArray, List.getElem_cons_succ, List.getElem_cons_zero, List.setIfInBounds_toArray, List.set_cons_zero, List.set_cons_succ]
  refine wpAnyH_ready (rs := [8]) (by kernel_rfl) (by simp) ?_
  refine AllReadyH.cons rfl (fun K hK => ?_) AllReadyH.nil
  refine step_copy_splice rfl (.tmp 50) (.tmp 53) 110 110 rfl 3 Tryz.underlying110 (by kernel_rfl) _ _ _ _ _ _ rfl rfl W.heap.size (k + 1) (splice cur k [.int .i64 z]) 3 hg2.out X2 hMn2 (fun _ => ⟨rfl, _, rfl, HCd.out _ HB2.out.drew⟩) hfit2 HO1.out W.heap.size W HB2.out.drew (Nat.le_refl _) ?_
  intro w3 hg3 hb3
  simp only [Act.put, List.getElem_toArray, List.getElem_cons_succ, List.getElem_cons_zero, List.setIfInBounds_toArray, List.set_cons_zero, List.set_cons_succ]
  refine hK.out _ _ (trivial) (fun hHeld => ?_)
  clear hK K
  refine wpAnyH_done (by kernel_rfl) ?_ _
  have HB3 := Lib.hid hb3
  have HLL : Hid (k + (r + 1) = L.length) := HFin.out.2.symm
  clear hc6 hc1 hc2 hc3 hc4 hc5 hMn2 hLen1 hfit2 hb3
  go_wp2
  go_ret
  refine ⟨_, rfl, ⟨by simp, .inr ⟨W.heap.size, cap, _, by rw [HLL.out]; rfl, Nat.le_refl _, hg3.out, by rw [← HLL.out]; exact hcap1, by unfold maxLen; omega, by simp; exact HLen2.out, ?_⟩⟩, HB3.out⟩
  show (splice (splice cur k [Value.int .i64 z]) (k + 1) X2).take (L.length * 1) = L.map Mi.iV
  rw [← HFin.out.1, ← HTS.out, Nat.mul_one, ← HLL.out, HD.out, Nat.add_assoc, Nat.add_comm 1 r]
theorem insAt {W : World} {A : Option Addr} {l : List Int} {c : Int} (hS : Sl W A l.length l) (hl : l.length ≤ 1000000) : InsAt W A l c := by
  by_cases he : lb l c = l.length
  · exact insAt_end hS hl he
  · intro W' gx hb hz
    have hlb := lb_le l c
    cases A with
    | none => exact absurd (by rw [(hS.2.2.1 rfl).1]; rfl) he
    | some a =>
      obtain ⟨g, off, rfl, _⟩ := hS.2.2.2 a rfl
      have hS' := hS.keep (Ints.below hb)
      obtain ⟨r, hr⟩ : ∃ r, l.length = lb l c + r := ⟨l.length - lb l c, by omega⟩
      rw [hr] at hS' ⊢
      exact Ins_mid g off gx (lb l c) r l c W' hr (by omega) hS' hz (by omega)
end Go.Proofs.YtfnlhfelpdkieaaGreat.Se
/- Add, of any set. -/
namespace Go.Proofs.YtfnlhfelpdkieaaGreat.Se
open Go.RowKit
open Go.Proofs.YtfnlhfelpdkieaaGreat.Me Go.Proofs.YtfnlhfelpdkieaaGreat.Sb
set_option linter.unusedVariables false
set_option linter.unusedSimpArgs false

theorem Add_all (D b n : Nat) (s : St) (i : Mg.Id4) (w : World) (hS : Hid (Set w true D b n s)) (hn : n ≤ 1000000) : Calls Tryz.prog 37 #[.pointer (some ⟨D, 0, none⟩), .agg (Mg.idC i)] w (AddP D b n s i w) :=
  Add_any D b n s i w hS hn fun _ A W hA => insAt hA (by have h1 := hS.out.ok.more_le i.o i.e; have h2 := hS.out.ok.g1; have h3 := hS.out.ok.r1; omega)
end Go.Proofs.YtfnlhfelpdkieaaGreat.Se
/- An event makes of a store what it is behind it: Apply. -/
namespace Go.Proofs.YtfnlhfelpdkieaaGreat.So
open Go.RowKit
open Go.Proofs.YtfnlhfelpdkieaaGreat.Me Go.Proofs.YtfnlhfelpdkieaaGreat.Sb
set_option linter.unusedVariables false
set_option linter.unusedSimpArgs false

/-- 64 noughts. -/
def z64 : Array Value := (List.replicate 64 (Value.int .i64 0)).toArray
theorem build_z (w : World) : (Instr.build 76 #[]).run Tryz.prog w = .ok (.agg z64) w := by kernel_rfl
theorem exec_z (ρ : Operand → Value) (o : Oper) (ho : o.op = .build 76 #[]) (w : World) : (execOp ρ o).run Tryz.prog w = .ok (.value (.agg z64)) w := by
  unfold execOp
  rw [ho]
  simp [build_z, Result.andThen]
set_option maxRecDepth 100000 in
theorem Box.zero {w : World} {D : Nat} {s : Sto} {hb sd : Nat} {v : Value} {n : Int} (h : Box w D s hb sd v n) : Box (w.setCells D 5 z64.toList) D ⟨s.self, s.qh, s.qb, s.qg, s.epoch, fun _ => 0, s.held, s.seen⟩ hb sd v n := by
  have hl : z64.toList.length = 64 := by show (List.replicate 64 (Value.int .i64 0)).length = 64; exact List.length_replicate
  have hz : ∀ j, j < 64 → z64.toList[j]? = some (.int .i64 0) := fun j hj => by show (List.replicate 64 (Value.int .i64 0))[j]? = _; rw [List.getElem?_replicate, if_pos hj]
  obtain ⟨z, hzz⟩ : ∃ z, z64.toList = z := ⟨_, rfl⟩
  rw [hzz] at hl hz ⊢
  clear hzz
  obtain ⟨cur, hcur⟩ : ∃ x, scs s hb sd v n = x := ⟨_, rfl⟩
  have hs : cur.size = 73 := by rw [← hcur]; exact row_size _
  have hat : ∀ k, k < 73 → cur[k]? = some (gc s.self s.qh s.qb s.qg s.epoch s.last (.map (some hb)) v n (.pointer (some ⟨sd, 0, none⟩)) k) := fun k hk => by rw [← hcur]; exact row_at _ hk
  have h' : w.heap[D]? = some (.cells cur 79 (0, 0)) := by rw [← hcur]; exact h
  clear hcur h
  obtain ⟨cur', q1, q2, q3, q4⟩ := heap_setCells D 79 z 5 w cur h'
  have hc : cur' = row (gc s.self s.qh s.qb s.qg s.epoch (fun _ => 0) (.map (some hb)) v n (.pointer (some ⟨sd, 0, none⟩))) := by
    apply Array.ext_getElem?
    intro k
    by_cases hk : k < 73
    · rw [row_at _ hk]
      by_cases h5 : 5 ≤ k ∧ k < 69
      · obtain ⟨j, rfl⟩ : ∃ j, k = 5 + j := ⟨k - 5, by omega⟩
        rw [q4 j (by rw [hl]; omega) (by rw [hs]; omega), gc_last _ _ _ _ _ _ _ _ _ _ (by omega), hz j (by omega)]
      · rw [q3 k (by rw [hl]; omega), hat k hk]
        congr 1
        unfold gc
        by_cases k5 : k < 5
        · have : k = 0 ∨ k = 1 ∨ k = 2 ∨ k = 3 ∨ k = 4 := by omega
          rcases this with rfl | rfl | rfl | rfl | rfl <;> rfl
        · have : k = 69 ∨ k = 70 ∨ k = 71 ∨ k = 72 := by omega
          rcases this with rfl | rfl | rfl | rfl <;> rfl
    · rw [Array.getElem?_eq_none (by rw [q2, hs]; omega), Array.getElem?_eq_none (by rw [row_size]; omega)]
  rw [hc] at q1
  exact q1
theorem Box.there {w : World} {D : Nat} {s : Sto} {hb sd : Nat} {v : Value} {n : Int} (h : Box w D s hb sd v n) : w.there D 5 64 := fun j hj => ⟨by rw [h.cell (by omega)]; rfl, h.frozen _⟩
/-- Only the set was turned. -/
theorem Sq.deliver {E : Nat → Prop} {w w' : World} {D hb sd sb m m' : Nat} {v : Value} {s : Sto} {i : Mg.Id4} (h : Sq E w D hb sd sb m v s) (hb' : But (fun k => k = sd ∨ k = sb) w w') (hset : Se.Set w' true sd sb m' (Se.addS s.seen i)) (hok : Ok (delS s i)) : Sq E w' D hb sd sb m' v (delS s i) := by
  obtain ⟨a1, a2, a3, a4, a5, a6, a7⟩ := h.apart
  have hu : U8s E w w' := U8s.but hb' fun k cs _ hk e => by
    rcases e with rfl | rfl
    · exact (h.no8 (.inr (.inr (.inl rfl))) cs).1 hk
    · exact (h.no8 (.inr (.inr (.inr (.inl rfl)))) cs).1 hk
  refine ⟨h.box.at_ (hb'.same D h.box.lt fun e => e.elim a2 a3), h.map.keep (hb'.same hb h.map.lt fun e => e.elim a4 a5) hu fun _ _ h => h, ki_at h.ord fun k e => hb'.same k (Ki.lt h.ord e).2 fun q => q.elim (a7 k e).2.2.1 (a7 k e).2.2.2, hset, hok, h.ne⟩
/-- What Apply leaves. -/
def AppP (E : Nat → Prop) (D hb sd sb m : Nat) (v : Value) (s : Sto) (k : Int) (i : Mg.Id4) (p : List Nat) (w : World) (e : Ending) (w' : World) : Prop :=
  e = .returned (.int .i64 (mayE s k i p.length : Int)) ∧ ∃ v' m', m' ≤ m + 1 ∧ Hid (Sq E w' D hb sd sb m' v' (appE s k i p)) ∧ Hid (But (Chg D hb sd sb v) w w') ∧ Hid (∀ q, v'.ownBlock = some q → v.ownBlock = some q ∨ w.heap.size ≤ q)
section
variable (E : Nat → Prop) (D hb sd sb m : Nat) (v : Value) (s : Sto) (w : World)
set_option maxRecDepth 100000 in
set_option maxHeartbeats 8000000 in
theorem Apply_any (k : Int) (i : Mg.Id4) (A : Option Addr) (c : Nat) (p : List Nat) (hm : m ≤ 1000000) (hp : Hid (Rd w w.heap.size A p)) (hA : Hid (A = none → p.length = 0 ∧ c = 0)) (hE : Hid (∀ k, w.heap.size ≤ k → E k)) (hS : Hid (Sq E w D hb sd sb m v s)) :
    Calls Tryz.prog 13 #[.pointer (some ⟨D, 0, none⟩), .agg (evC k i A p.length c)] w (AppP E D hb sd sb m v s k i p w) := by
  have HM : Hid (∀ W, Below w.heap.size w W → Calls Tryz.prog 18 #[.pointer (some ⟨D, 0, none⟩), .agg (evC k i A p.length c)] W fun e w' => e = .returned (.int .i64 (mayE s k i p.length : Int)) ∧ Hid (Below W.heap.size W w')) := fun W hW => May_any E D hb sd sb m v s W k i A p.length c (hS.out.below hW)
  obtain ⟨V, hV⟩ : ∃ V, w.alloc (.cells (evC k i A p.length c) 48) = V := ⟨_, rfl⟩
  have hB : Below w.heap.size w V := by rw [← hV]; exact Me.below_alloc (Below.refl _ _)
  have hR : V.heap[w.heap.size]? = some (.cells (evC k i A p.length c) 48 (0, 0)) := by rw [← hV]; exact heap_alloc_new w _
  have HC : Hid (∀ W, Below V.heap.size V W → Sq E W D hb sd sb m v s ∧ W.heap[w.heap.size]? = some (.cells (evC k i A p.length c) 48 (0, 0)) ∧ Below w.heap.size w W) := fun W hW => by
    have h := hB.trans (hW.mono hB.size)
    exact ⟨hS.out.below h, (hW.block _ (Array.getElem?_eq_some_iff.1 hR).1).trans hR, h⟩
  have HV := Lib.hid hV
  have HB := Lib.hid hB
  have HLt := Lib.hid hS.out.lt
  have hbytes : ∀ z ∈ p, z < 256 := hp.out.1
  have HOkA := Lib.hid (hS.out.ok.app k i hbytes)
  unfold AppP
  by_cases h0 : mayE s k i p.length = 0
  · have hch : chkE k i p.length = 0 := by
      unfold mayE at h0
      split at h0
      · rename_i h1; exact absurd h0 h1
      · rename_i h1; exact Decidable.not_not.1 h1
    rw [h0] at HM ⊢
    rcases fit_ev hch with rfl | ⟨rfl, hr, hn⟩ | ⟨rfl, hr⟩ | ⟨rfl, hr⟩
    · have hap : appE s 1 i p = bootS s := by unfold appE; rw [if_neg (by simp [h0]), if_pos rfl]
      rw [hap] at HOkA ⊢
      have he1 := hS.out.ok.e1
      have he0 := hS.out.ok.e0
      have HWr : Hid (IntKind.i64.wrap (s.epoch + 1) = s.epoch + 1) := Mi.fits' ⟨by omega, by omega⟩
      have HE : Hid (∀ W, Below V.heap.size V W → W.heap[w.heap.size]? = some (.cells (evC 1 i A p.length c) 48 (0, 0))) := fun W hW => (HC.out W hW).2.1
      obtain ⟨pn, hpn⟩ : ∃ x, p.length = x := ⟨_, rfl⟩
      rw [hpn] at HM HV HE ⊢
      obtain ⟨o, d, ee, cc⟩ := i
      simp only [evC, show ((0 : Nat) : Int) = 0 from rfl] at HM HV HE ⊢
      obtain ⟨ep, hep⟩ : ∃ x, s.epoch = x := ⟨_, rfl⟩
      have HEp := Lib.hid hep
      rw [hep] at HWr
      clear hV hB hR hch hap hbytes hpn hp hA hS hep h0 he0 he1
      go_enter Tryz.func13, Tryz.ntmps13
      go_wp2_with (first
        | (go_at_call 18; rw [HV.out]; refine (HM.out _ HB.out).mono ?_; rintro e w2 ⟨rfl, b2⟩; obtain ⟨x0, x1, x2, x3, x4, x5⟩ := ev_cells (HE.out w2 b2.out); have HS2 := Lib.hid (HC.out w2 b2.out).1; have ye := HS2.out.box.epoch; rw [HEp.out] at ye; have yf := HS2.out.box.frozen 4; have q := HWr.out)
        | (refine valTo rfl (.agg z64) (exec_z _ _ rfl _) ?_)
        | (refine wpList_store_mid rfl 76 (.tmp 26) (.tmp 24) rfl D 5 z64 rfl rfl ?ht (by kernel_rfl) (by kernel_rfl) ?_))
      case ht => exact (HS2.out.box.setE (ep + 1)).there
      go_ret
      have hbox : Box ((w2.setCell ⟨D, 4, none⟩ (.int .i64 (ep + 1))).setCells D 5 z64.toList) D (bootS s) hb sd v (bytesOf (bootS s).held) := by
        have := (HS2.out.box.setE (ep + 1)).zero
        rw [← HEp.out] at this ⊢
        exact this
      have hbut : But (fun k => k = D) w2 ((w2.setCell ⟨D, 4, none⟩ (.int .i64 (ep + 1))).setCells D 5 z64.toList) := ((But.refl (fun k => k = D) w2).set (p := ⟨D, 4, none⟩) (.inl rfl) _).trans (but_setCells _ D 5 _).1 fun _ _ h => h
      exact ⟨rfl, v, m, by omega, HS2.out.only hbut rfl rfl hbox HOkA.out, (But.of_below (HC.out w2 b2.out).2.2).trans hbut fun _ _ h => .inl h, fun q e => .inl e⟩
    · have hap : appE s 2 i p = useS (holdS s i p) i := by unfold appE; rw [if_neg (by simp [h0]), if_neg (by decide), if_pos rfl]
      have hmh : mayH s i p.length = 0 := by
        unfold mayE at h0
        rw [if_neg (by simp [hch]), if_neg (by decide), if_pos rfl] at h0
        exact h0
      have hg : Mg.msgN i p.length = 0 := by
        unfold chkE at hch
        rw [if_neg (by decide), if_pos rfl] at hch
        exact hch
      have hno : findH s.held i = none := by
        cases hf : findH s.held i with
        | none => rfl
        | some q =>
          unfold mayH at hmh
          split at hmh
          · cases hmh
          split at hmh
          · cases hmh
          rename_i h2
          exact absurd (by unfold hasH; rw [hf]; rfl) h2
      rw [hap]
      have HHo : Hid (∀ W, Below V.heap.size V W → Calls Tryz.prog 34 #[.pointer (some ⟨D, 0, none⟩), .agg (Mg.msgC i A p.length c)] W fun e w' => (∃ x, e = .returned x) ∧ ∃ v', Hid (Sq E w' D hb sd sb m v' (holdS s i p)) ∧ Hid (But (Chg D hb sd sb v) W w') ∧ Hid (∀ k, v'.ownBlock = some k → v.ownBlock = some k ∨ W.heap.size ≤ k)) := fun W hW => by
        obtain ⟨s1, _, s3⟩ := HC.out W hW
        exact hold_any E D hb sd sb m v s W i A c p hr hno (hS.out.ok.hold hmh hg hbytes) ((hp.out.below s3).more s3.size) hA (fun k hk => hE.out k (by have := s3.size; omega)) s1
      have HUs : Hid (∀ W v', Sq E W D hb sd sb m v' (holdS s i p) → Calls Tryz.prog 35 #[.pointer (some ⟨D, 0, none⟩), .agg (Mg.idC i)] W fun e w' => (∃ x, e = .returned x) ∧ Hid (Sq E w' D hb sd sb m v' (useS (holdS s i p) i)) ∧ Hid (But (fun k => k = D) W w')) := fun W v' hW => use_any E D hb sd sb m v' (holdS s i p) W i hr hW
      have HE : Hid (∀ W, Below V.heap.size V W → W.heap[w.heap.size]? = some (.cells (evC 2 i A p.length c) 48 (0, 0))) := fun W hW => (HC.out W hW).2.1
      have HW : Hid (∀ W, Below V.heap.size V W → Below w.heap.size w W) := fun W hW => (HC.out W hW).2.2
      have HXc : Hid (¬ Chg D hb sd sb v w.heap.size) := fun h => by have := HLt.out _ h; omega
      obtain ⟨S2, hS2⟩ : ∃ x, holdS s i p = x := ⟨_, rfl⟩
      rw [hS2] at HHo HUs ⊢
      obtain ⟨S3, hS3⟩ : ∃ x, useS S2 i = x := ⟨_, rfl⟩
      rw [hS3] at HUs ⊢
      obtain ⟨pn, hpn⟩ : ∃ x, p.length = x := ⟨_, rfl⟩
      rw [hpn] at HM HV HE HHo ⊢
      obtain ⟨o, d, ee, cc⟩ := i
      simp only [evC, Mg.msgC, Mg.idC, show ((0 : Nat) : Int) = 0 from rfl] at HM HV HE HHo HUs ⊢
      clear hV hB hR hch hap hbytes hpn hp hA hS h0 hmh hg hno hS2 hS3 hr hn HOkA HC
      go_enter Tryz.func13, Tryz.ntmps13
      go_wp2_with (first
        | (go_at_call 18; rw [HV.out]; refine (HM.out _ HB.out).mono ?_; rintro e w2 ⟨rfl, b2⟩; obtain ⟨x0, x1, x2, x3, x4, x5⟩ := ev_cells (HE.out w2 b2.out))
        | (go_at_call 34; refine (HHo.out _ b2.out).mono ?_; rintro e w3 ⟨⟨y, rfl⟩, v3, hs3, hb3, hv3⟩; obtain ⟨x0, x1, x2, x3, x4, x5⟩ := ev_cells (hb3.out.at_ (HE.out w2 b2.out) HXc.out))
        | (go_at_call 35; refine (HUs.out _ v3 hs3.out).mono ?_; rintro e w4 ⟨⟨y4, rfl⟩, hs4, hb4⟩))
      go_ret
      have hbw := HW.out w2 b2.out
      refine ⟨rfl, v3, m, by omega, hs4.out, ((But.of_below hbw).trans hb3.out fun _ _ h => h).trans hb4.out fun _ _ h => .inl h, fun q e => ?_⟩
      rcases hv3.out q e with h | h
      · exact .inl h
      · have := hbw.size
        exact .inr (by omega)
    · have hap : appE s 3 i p = relS s i := by unfold appE; rw [if_neg (by simp [h0]), if_neg (by decide), if_neg (by decide), if_pos rfl]
      have hmr : mayR s i = 0 := by
        unfold mayE at h0
        rw [if_neg (by simp [hch]), if_neg (by decide), if_neg (by decide), if_pos rfl] at h0
        exact h0
      obtain ⟨q0, hq0⟩ : ∃ q, findH s.held i = some q := by
        unfold mayR hasH at hmr
        cases hf : findH s.held i with
        | some q => exact ⟨q, rfl⟩
        | none => rw [hf] at hmr; exact absurd hmr (by decide)
      rw [hap]
      have HRe : Hid (∀ W, Below V.heap.size V W → Calls Tryz.prog 36 #[.pointer (some ⟨D, 0, none⟩), .agg (Mg.idC i)] W fun e w' => (∃ x, e = .returned x) ∧ ∃ v', Hid (Sq E w' D hb sd sb m v' (relS s i)) ∧ Hid (But (Chg D hb sd sb v) W w') ∧ Hid (v'.ownBlock = v.ownBlock)) := fun W hW => release_any E D hb sd sb m v s W i q0 hr hq0 (HC.out W hW).1
      have HE : Hid (∀ W, Below V.heap.size V W → W.heap[w.heap.size]? = some (.cells (evC 3 i A p.length c) 48 (0, 0))) := fun W hW => (HC.out W hW).2.1
      have HW : Hid (∀ W, Below V.heap.size V W → Below w.heap.size w W) := fun W hW => (HC.out W hW).2.2
      obtain ⟨S2, hS2⟩ : ∃ x, relS s i = x := ⟨_, rfl⟩
      rw [hS2] at HRe ⊢
      obtain ⟨pn, hpn⟩ : ∃ x, p.length = x := ⟨_, rfl⟩
      rw [hpn] at HM HV HE ⊢
      obtain ⟨o, d, ee, cc⟩ := i
      simp only [evC, Mg.idC, show ((0 : Nat) : Int) = 0 from rfl] at HM HV HE HRe ⊢
      clear hV hB hR hch hap hbytes hpn hp hA hS h0 hmr hq0 hS2 hr HOkA HC
      go_enter Tryz.func13, Tryz.ntmps13
      go_wp2_with (first
        | (go_at_call 18; rw [HV.out]; refine (HM.out _ HB.out).mono ?_; rintro e w2 ⟨rfl, b2⟩; obtain ⟨x0, x1, x2, x3, x4, x5⟩ := ev_cells (HE.out w2 b2.out))
        | (go_at_call 36; refine (HRe.out _ b2.out).mono ?_; rintro e w3 ⟨⟨y, rfl⟩, v3, hs3, hb3, hv3⟩))
      go_ret
      have hbw := HW.out w2 b2.out
      exact ⟨rfl, v3, m, by omega, hs3.out, (But.of_below hbw).trans hb3.out fun _ _ h => h, fun q e => .inl (hv3.out.symm.trans e)⟩
    · have hap : appE s 4 i p = delS s i := by unfold appE; rw [if_neg (by simp [h0]), if_neg (by decide), if_neg (by decide), if_neg (by decide)]
      have hmd : Se.mayN s.seen i = 0 := by
        unfold mayE at h0
        rw [if_neg (by simp [hch]), if_neg (by decide), if_neg (by decide), if_neg (by decide)] at h0
        unfold mayD at h0
        split at h0
        · cases h0
        · exact h0
      rw [hap] at HOkA ⊢
      have HAd : Hid (∀ W, Below V.heap.size V W → Calls Tryz.prog 37 #[.pointer (some ⟨sd, 0, none⟩), .agg (Mg.idC i)] W fun e w' => e = .returned (.int .i64 0) ∧ ∃ m', m' ≤ m + 1 ∧ Hid (Sq E w' D hb sd sb m' v (delS s i)) ∧ Hid (But (fun k => k = sd ∨ k = sb) W w')) := fun W hW => (Se.Add_all sd sb m s.seen i W (HC.out W hW).1.set hm).mono fun e w' h => by
        unfold Se.AddP at h
        rw [hmd] at h
        obtain ⟨h1, n', h2, h3, h4⟩ := h
        exact ⟨h1, n', h2, (HC.out W hW).1.deliver h4.out h3.out HOkA.out, h4⟩
      have HE : Hid (∀ W, Below V.heap.size V W → W.heap[w.heap.size]? = some (.cells (evC 4 i A p.length c) 48 (0, 0)) ∧ W.cell? ⟨D, 72, none⟩ = some (.pointer (some ⟨sd, 0, none⟩))) := fun W hW => ⟨(HC.out W hW).2.1, (HC.out W hW).1.box.set⟩
      have HW : Hid (∀ W, Below V.heap.size V W → Below w.heap.size w W) := fun W hW => (HC.out W hW).2.2
      have HDs : Hid (¬ (D = sd ∨ D = sb)) := fun h => h.elim hS.out.apart.2.1 hS.out.apart.2.2.1
      obtain ⟨S2, hS2⟩ : ∃ x, delS s i = x := ⟨_, rfl⟩
      rw [hS2] at HAd ⊢
      obtain ⟨pn, hpn⟩ : ∃ x, p.length = x := ⟨_, rfl⟩
      rw [hpn] at HM HV HE ⊢
      obtain ⟨o, d, ee, cc⟩ := i
      simp only [evC, Mg.idC, show ((0 : Nat) : Int) = 0 from rfl] at HM HV HE HAd ⊢
      clear hV hB hR hch hap hbytes hpn hp hA hS h0 hmd hS2 hr HOkA HC
      go_enter Tryz.func13, Tryz.ntmps13
      go_wp2_with (go_at_call 18; rw [HV.out]; refine (HM.out _ HB.out).mono ?_; rintro e w2 ⟨rfl, b2⟩; obtain ⟨x0, x1, x2, x3, x4, x5⟩ := ev_cells (HE.out w2 b2.out).1)
      have S0 : But (fun k => k = sd ∨ k = sb) w2 w2.drew := But.of_below (Below.refl _ _).drew
      have HB2 := Lib.hid b2.out
      have hX2 : ∀ W, Below w2.heap.size w2 W → W.heap[w.heap.size]? = some (.cells #[.int .i64 4, .int .i64 o, .int .i64 d, .int .i64 ee, .int .i64 cc, .slice A pn c] 48 (0, 0)) ∧ W.cell? ⟨D, 72, none⟩ = some (.pointer (some ⟨sd, 0, none⟩)) := fun W hW => HE.out W (HB2.out.trans (hW.mono HB2.out.size))
      have hxs : ¬ (w.heap.size = sd ∨ w.heap.size = sb) ∧ ¬ (D = sd ∨ D = sb) := ⟨fun h => by
        have h1 := HLt.out sd (.inr (.inr (.inl rfl)))
        have h2 := HLt.out sb (.inr (.inr (.inr (.inl rfl))))
        rcases h with h | h <;> omega, HDs.out⟩
      have HX3 : Hid (∀ W, But (fun k => k = sd ∨ k = sb) w2 W → W.heap[w.heap.size]? = some (.cells #[.int .i64 4, .int .i64 o, .int .i64 d, .int .i64 ee, .int .i64 cc, .slice A pn c] 48 (0, 0)) ∧ W.cell? ⟨D, 72, none⟩ = some (.pointer (some ⟨sd, 0, none⟩))) := fun W hW => by
        obtain ⟨h1, h2⟩ := hX2 w2 (Below.refl _ _)
        refine ⟨hW.at_ h1 hxs.1, ?_⟩
        rw [← h2]
        exact World.cell?_of_block (w := w2) (a := ⟨D, 72, none⟩) (hW.same D (World.block_lt_of_cell? w2 _ h2) hxs.2)
      clear hX2 hxs x0 x1 x2 x3 x4 x5
      refine wp_region_held_drew (S := fun W => But (fun k => k = sd ∨ k = sb) w2 W) (by kernel_rfl) S0 (fun hHeld => ?_)
      refine wpAnyH_take (i := 0) (v := .pointer (some ⟨D, 0, none⟩)) rfl (by kernel_rfl) (by kernel_rfl) (by kernel_rfl) (fun _ _ _ h => h) (Or.inl ⟨by rfl, ?_⟩) (by first | assumption | exact trivial) ?_
      · intro W hSW; go_simp; try (with_reducible rfl)
      simp only [Act.put, List.getElem_toArray, List.getElem_cons_succ, List.getElem_cons_zero, List.setIfInBounds_toArray, List.set_cons_zero, List.set_cons_succ]
      refine wpAnyH_take (i := 1) (v := .pointer (some ⟨D, 0, none⟩)) rfl (by kernel_rfl) (by kernel_rfl) (by kernel_rfl) (fun _ _ _ h => h) (Or.inl ⟨by rfl, ?_⟩) (by first | assumption | exact trivial) ?_
      · intro W hSW; go_simp; try (with_reducible rfl)
      simp only [Act.put, List.getElem_toArray, List.getElem_cons_succ, List.getElem_cons_zero, List.setIfInBounds_toArray, List.set_cons_zero, List.set_cons_succ]
      refine wpAnyH_take (i := 2) (v := .pointer (some ⟨D, 72, none⟩)) rfl (by kernel_rfl) (by kernel_rfl) (by kernel_rfl) (fun _ _ _ h => h) (Or.inl ⟨by rfl, ?_⟩) (by first | assumption | exact trivial) ?_
      · intro W hSW; go_simp; try (with_reducible rfl)
      simp only [Act.put, List.getElem_toArray, List.getElem_cons_succ, List.getElem_cons_zero, List.setIfInBounds_toArray, List.set_cons_zero, List.set_cons_succ]
      refine wpAnyH_take (i := 3) (v := .pointer (some ⟨sd, 0, none⟩)) rfl (by kernel_rfl) (by kernel_rfl) (by kernel_rfl) (fun _ _ _ h => h) (Or.inl ⟨by rfl, ?_⟩) (by first | assumption | exact trivial) ?_
      · intro W hSW; have y := (HX3.out W hSW).2; go_simp; try (with_reducible rfl)
      simp only [Act.put, List.getElem_toArray, List.getElem_cons_succ, List.getElem_cons_zero, List.setIfInBounds_toArray, List.set_cons_zero, List.set_cons_succ]
      refine wpAnyH_take (i := 4) (v := .pointer (some ⟨w.heap.size, 1, none⟩)) rfl (by kernel_rfl) (by kernel_rfl) (by kernel_rfl) (fun _ _ _ h => h) (Or.inl ⟨by rfl, ?_⟩) (by first | assumption | exact trivial) ?_
      · intro W hSW; go_simp; try (with_reducible rfl)
      simp only [Act.put, List.getElem_toArray, List.getElem_cons_succ, List.getElem_cons_zero, List.setIfInBounds_toArray, List.set_cons_zero, List.set_cons_succ]
      refine wpAnyH_take (i := 5) (v := .pointer (some ⟨w.heap.size, 1, none⟩)) rfl (by kernel_rfl) (by kernel_rfl) (by kernel_rfl) (fun _ _ _ h => h) (Or.inl ⟨by rfl, ?_⟩) (by first | assumption | exact trivial) ?_
      · intro W hSW; go_simp; try (with_reducible rfl)
      simp only [Act.put, List.getElem_toArray, List.getElem_cons_succ, List.getElem_cons_zero, List.setIfInBounds_toArray, List.set_cons_zero, List.set_cons_succ]
      refine wpAnyH_take (i := 6) (v := .agg #[.int .i64 o, .int .i64 d, .int .i64 ee, .int .i64 cc]) rfl (by kernel_rfl) (by kernel_rfl) (by kernel_rfl) (fun _ _ _ h => h) (Or.inl ⟨by rfl, ?_⟩) (by first | assumption | exact trivial) ?_
      · intro W hSW; obtain ⟨z0, z1, z2, z3, z4, z5⟩ := ev_cells (HX3.out W hSW).1; go_simp; try (with_reducible rfl)
      simp only [Act.put, List.getElem_toArray, List.getElem_cons_succ, List.getElem_cons_zero, List.setIfInBounds_toArray, List.set_cons_zero, List.set_cons_succ]
      refine wpAnyH_ready (rs := [7]) (by kernel_rfl) (by simp) ?_
      refine AllReadyH.cons rfl (fun K hK => ?_) AllReadyH.nil
      go_simp
      have SB : Below V.heap.size V w2.drew := HB2.out.drew
      go_wp2_with (go_at_call 37; refine (HAd.out _ SB).mono ?_; rintro e w3 ⟨rfl, m3, hm3, hs3, hb3⟩)
      have S3 := S0.trans hb3.out fun _ _ h => h
      refine hK.out _ _ (S3) (fun hHeld => ?_)
      clear hK K
      refine wpAnyH_take (i := 8) (v := .int .i64 0) rfl (by kernel_rfl) (by kernel_rfl) (by kernel_rfl) (fun _ _ _ h => h) (Or.inl ⟨by rfl, ?_⟩) (by first | assumption | exact trivial) ?_
      · intro W hSW; go_simp; try (with_reducible rfl)
      simp only [Act.put, List.getElem_toArray, List.getElem_cons_succ, List.getElem_cons_zero, List.setIfInBounds_toArray, List.set_cons_zero, List.set_cons_succ]
      refine wpAnyH_done (by kernel_rfl) ?_ _
      go_wp2
      go_ret
      refine ⟨rfl, v, m3, hm3, hs3.out, (But.of_below (HW.out w2 HB2.out)).trans S3 fun k _ h => ?_, fun q e => .inl e⟩
      rcases h with h | h
      · exact .inr (.inr (.inl h))
      · exact .inr (.inr (.inr (.inl h)))
  · have hap : appE s k i p = s := by unfold appE; rw [if_pos h0]
    rw [hap]
    have hne := Mg.nz h0
    obtain ⟨z, hz⟩ : ∃ z, mayE s k i p.length = z := ⟨_, rfl⟩
    rw [hz] at HM hne ⊢
    obtain ⟨pn, hpn⟩ : ∃ x, p.length = x := ⟨_, rfl⟩
    rw [hpn] at HM HV ⊢
    obtain ⟨o, d, ee, cc⟩ := i
    simp only [evC] at HM HV ⊢
    clear hV hB hR hap hbytes hpn hp hA hS h0 hz
    go_enter Tryz.func13, Tryz.ntmps13
    go_wp2_with (go_at_call 18; rw [HV.out]; refine (HM.out _ HB.out).mono ?_; rintro e w2 ⟨rfl, b2⟩)
    go_ret
    obtain ⟨s1, _, s3⟩ := HC.out w2 b2.out
    exact ⟨rfl, v, m, by omega, s1, But.of_below s3, fun q e => .inl e⟩
end
end Go.Proofs.YtfnlhfelpdkieaaGreat.So
