/- The reference's CopyMarks: marks in new memory. -/
import Derived.Test.YthajocfgpodimaaZ3
import Derived.Test.YthajocfgpodimaaZ11
import Derived.Test.YthajocfgpodimaaSeFromL
import Derived.Test.YthajocfgpodimaaZ13
import Derived.Test.YthajocfgpodimaaZ6
import Derived.Test.YthajocfgpodimaaZ15
import Derived.Laws.AppendOwnNone
namespace Go.Proofs.Ythajocfgpodimaa.Se
open Go.RowKit
open Go.Proofs.Ythajocfgpodimaa.Me Go.Proofs.Ythajocfgpodimaa.Sb
set_option linter.unusedVariables false
set_option linter.unusedSimpArgs false

/-- Numbers appended to a list of one's own, as one operation. -/
theorem appIntsW {w : World} {o : Oper} {a : Act} {K : Act → World → Prop} {Q : Exit → Act → World → Prop} (s x : Operand)
    (ho : o.op = .call { callee := .builtin .append, args := #[s, x], argTypes := #[53, 53] })
    (B Bx : Nat) (v : Value) (l r : List Int) (hs : a.eval s = v) (hown : Mi.Own w B v l) (A : Option Addr) (n c : Nat) (hn : n = r.length) (hx : a.eval x = .slice A n c) (hr : Mi.Rd w Bx A r) (hA : A = none → r.length = 0 ∧ c = 0) (hlen : (l.length + r.length) * 8 ≤ 140737488355328) (hB : B ≤ w.heap.size)
    (h : ∀ v' w', Mi.Own w' B v' (l ++ r) → w.grownBy w' v.ownBlock → (∀ k, v.ownBlock = some k → B ≤ k) → K (a.put o.dst v') w') : o.wp Try.prog a w K Q := by
  obtain ⟨i0, hi, hz0, hz1, hz2⟩ := info_parts Mi.infoI
  subst hn
  have hlt : ∀ k, v.ownBlock = some k → B ≤ k := fun k hk => (hown.lt k hk).1
  rcases A with _ | ad
  · obtain ⟨h1, rfl⟩ := hA rfl
    obtain rfl : r = [] := List.eq_nil_of_length_eq_zero h1
    have hrun := run_append_owned_none (P := Try.prog) (w := w) B 53 o.type 3 i0 1 Try.underlying53 hi v l.length (l.map Mi.iV) hown
    unfold Oper.wp
    simp only [List.length_nil] at hx
    simp [execOp, ho, resolve, invoke, builtin, hs, hx, hrun, Result.andThen]
    exact h v w (by rw [List.append_nil]; exact hown) ⟨rfl, rfl, rfl, Nat.le_refl _, fun _ _ _ => rfl⟩ hlt
  · obtain ⟨v', w', hr', h2, h3, h4⟩ := run_append_own_at (P := Try.prog) w B 53 o.type 3 i0 (.int .i64 0) 1 8 Try.underlying53 hi hz0 hz1 hz2 rfl (by decide) v l.length (l.map Mi.iV) hown ad r.length c (r.map Mi.iV) (by simp) (Mi.rd_cells hr) (Mi.one_cells r) (by unfold maxLen; omega) hlen hB
    unfold Oper.wp execOp
    simp only [ho, resolve, invoke, builtin, Sem.run_bind, Sem.run_pure, Result.andThen_ok, List.map_toArray, List.map_cons, List.map_nil, hs, hx, hr']
    refine h v' w' ?_ h3 hlt
    unfold Mi.Own
    rw [List.length_append, List.map_append]
    exact h2
/-- One mark appended, as one operation; the bound in bytes. -/
theorem appMwB {w : World} {o : Oper} {a : Act} {K : Act → World → Prop} {Q : Exit → Act → World → Prop} (s x : Operand)
    (ho : o.op = .call { callee := .builtin .append, args := #[s, x], argTypes := #[35, 35] })
    (B : Nat) (v : Value) (P : List Pm) (p : Pm) (gx : Nat) (hs : a.eval s = v) (hown : Mw w B v P) (hp : Mi.Own w B p.v p.m.more) (hx : a.eval x = .slice (some ⟨gx, 0, none⟩) 1 1) (hz : ∀ j u, (pV p)[j]? = some u → w.cell? ⟨gx, j, none⟩ = some u) (hlen : (P.length + 1) * 48 ≤ 140737488355328) (hB : B ≤ w.heap.size)
    (h : ∀ v' w', Mw w' B v' (P ++ [p]) → w.grownBy w' v.ownBlock → (∀ k, v.ownBlock = some k → B ≤ k) → K (a.put o.dst v') w') : o.wp Try.prog a w K Q := by
  obtain ⟨i0, hi, hz0, hz1, hz2⟩ := info_parts infoMk
  have hnews : ∀ j u, (pV p)[j]? = some u → w.cell? ((⟨gx, 0, none⟩ : Addr).add j) = some u := by
    intro j u hj
    rw [add_mk, Nat.zero_add]
    exact hz j u hj
  obtain ⟨v', w', hr, h2, h3, h4⟩ := run_append_own_at (P := Try.prog) w B 35 o.type 55 i0 (.agg #[.int .i64 0, .int .i64 0, .int .i64 0, .slice none 0 0]) 4 48 Try.underlying35 hi hz0 hz1 hz2 rfl (by decide) v P.length (psV P) hown.own ⟨gx, 0, none⟩ 1 1 (pV p) rfl hnews (by simp [pV, Pm.v, Value.oneCell']) (by unfold maxLen; omega) (by omega) hB
  unfold Oper.wp execOp
  simp only [ho, resolve, invoke, builtin, Sem.run_bind, Sem.run_pure, Result.andThen_ok, List.map_toArray, List.map_cons, List.map_nil, hs, hx, hr]
  have hk : ∀ q : Pm, Mi.Own w B q.v q.m.more → Mi.Own w' B q.v q.m.more := fun q hq => hq.kept h3 (ty_ne hq hown.own (by decide))
  refine h v' w' ⟨?_, fun q hq => ?_⟩ h3 fun k hk => (hown.own.lt k hk).1
  · rw [List.length_append, psV_snoc]; exact h2
  · rcases List.mem_append.1 hq with hq | hq
    · exact hk q (hown.each q hq)
    · obtain rfl : q = p := by simpa using hq
      exact hk q hp
theorem Mw.lit {w : World} : Mw (w.alloc (.cells #[] 55)) w.heap.size (.slice (some ⟨w.heap.size, 0, none⟩) 0 0) [] :=
  ⟨World.ownsRow_made w #[] 0 (Nat.le_refl _) (by unfold maxLen; omega) rfl, fun p hp => by simp at hp⟩
set_option maxRecDepth 100000 in
set_option maxHeartbeats 8000000 in
theorem CopyMarks_any (A : Option Addr) (n c : Nat) (P : List Pm) (w : World) (hv : Hid (Mv w (.slice A n c) P)) (hz : Hid (Msz c P)) : Calls Try.prog 25 #[.slice A n c] w fun e w' => ∃ v' P', e = .returned v' ∧ Hid (Mw w' w.heap.size v' P') ∧ Hid (P'.map Pm.m = P.map Pm.m) ∧ Hid (Below w.heap.size w w') := by
  obtain ⟨A0, c0, e0, hc1, hc2, hrows⟩ := hv.out
  injection e0 with e1 e2 e3
  subst e1 e2 e3
  obtain ⟨N, hN⟩ : ∃ N, P.length = N := ⟨_, rfl⟩
  have hcap := hz.out.cap
  rw [hN] at hc1 ⊢
  have HN := Lib.hid hN
  have HR := Lib.hid hrows
  have HL0 : Hid (Mw (w.alloc (.cells #[] 55)) w.heap.size (.slice (some ⟨w.heap.size, 0, none⟩) 0 0) []) := Mw.lit
  have HB0 : Hid (Below w.heap.size w (w.alloc (.cells #[] 55))) := Me.below_alloc (Below.refl _ _)
  clear hN hrows
  go_enter Try.func25, Try.ntmps25
  go_wp2
  go_loopw [3, 4] (fun v3 v4 wr => ∃ (j : Nat) (P' : List Pm), j ≤ N ∧ v4 = .int .i64 (j : Int) ∧ Hid (Mw wr w.heap.size v3 P') ∧ Hid (P'.map Pm.m = (P.take j).map Pm.m) ∧ Hid (P'.length = j) ∧ Hid (Below w.heap.size w wr)) (fun _ v4 _ => N - (intOf v4).toNat)
  case atStart => exact ⟨0, [], by omega, rfl, HL0.out, (by show _ = _; simp), rfl, HB0.out⟩
  case round =>
    obtain ⟨j, P', hj, rfl, HM, HP, HL, HBr⟩ := hrel
    by_cases hlt : j < N
    · obtain ⟨p, hp⟩ : ∃ p, P[j]? = some p := ⟨_, List.getElem?_eq_getElem (by have := HN.out; omega)⟩
      obtain ⟨g, off, rfl, hg, ⟨x0, x1, x2, x3⟩, hk1, hk2, hrd⟩ := HR.out j p hp
      have hsz := hz.out.each p (List.mem_of_getElem? hp)
      have HTK := Lib.hid (takeP_snoc hp)
      obtain ⟨⟨o, e, u, ml⟩, pA, pc⟩ := p
      simp only [Pm.v] at x0 x1 x2 x3 hk1 hk2 hrd hsz
      obtain ⟨M, hM⟩ : ∃ M, ml.length = M := ⟨_, rfl⟩
      rw [hM] at x3 hk1
      have HMM := Lib.hid hM
      have HRd := Lib.hid hrd
      have HSz := Lib.hid hsz
      have HC : Hid (∀ W, Below w.heap.size w W → W.cell? ⟨g, off + j * 4, none⟩ = some (.int .i64 o) ∧ W.cell? ⟨g, off + j * 4 + 1, none⟩ = some (.int .i64 e) ∧ W.cell? ⟨g, off + j * 4 + 2, none⟩ = some (.int .i64 u) ∧ W.cell? ⟨g, off + j * 4 + 3, none⟩ = some (.slice pA M pc)) := fun W hW => ⟨(hW.cell hg).trans x0, (hW.cell hg).trans x1, (hW.cell hg).trans x2, (hW.cell hg).trans x3⟩
      have hjn : (j : Int) < (N : Int) := by omega
      have hjn2 : ¬ ((N : Int) ≤ (j : Int)) := by omega
      have HLen : Hid ((P'.length + 1) * 48 ≤ 140737488355328) := by have := HL.out; show _ ≤ _; omega
      have HK1 := Lib.hid hk1
      clear hp x0 x1 x2 x3 hg hrd hsz hM hk1 hk2
      go_wp2
      have S0 : Below w.heap.size w wr.drew := HBr.out.drew
      refine wp_region_held_drew (S := fun W => Below w.heap.size w W) (by kernel_rfl) S0 (fun hHeld => ?_)
      refine wpAnyH_take (i := 0) (v := u3) rfl (by kernel_rfl) (by kernel_rfl) (by kernel_rfl) (fun _ _ _ h => h) (Or.inl ⟨by rfl, ?_⟩) (by first | assumption | exact trivial) ?_
      · intro W hSW; go_simp; try (with_reducible rfl)
      simp only [Act.put, List.getElem_toArray, List.getElem_cons_succ, List.getElem_cons_zero, List.setIfInBounds_toArray, List.set_cons_zero, List.set_cons_succ]
      refine wpAnyH_take (i := 1) (v := .slice (some ⟨g, off, none⟩) N c) rfl (by kernel_rfl) (by kernel_rfl) (by kernel_rfl) (fun _ _ _ h => h) (Or.inl ⟨by rfl, ?_⟩) (by first | assumption | exact trivial) ?_
      · intro W hSW; go_simp; try (with_reducible rfl)
      simp only [Act.put, List.getElem_toArray, List.getElem_cons_succ, List.getElem_cons_zero, List.setIfInBounds_toArray, List.set_cons_zero, List.set_cons_succ]
      refine wpAnyH_take (i := 2) (v := .int .i64 (j : Int)) rfl (by kernel_rfl) (by kernel_rfl) (by kernel_rfl) (fun _ _ _ h => h) (Or.inl ⟨by rfl, ?_⟩) (by first | assumption | exact trivial) ?_
      · intro W hSW; go_simp; try (with_reducible rfl)
      simp only [Act.put, List.getElem_toArray, List.getElem_cons_succ, List.getElem_cons_zero, List.setIfInBounds_toArray, List.set_cons_zero, List.set_cons_succ]
      refine wpAnyH_take (i := 3) (v := .pointer (some ⟨g, off + j * 4, none⟩)) rfl (by kernel_rfl) (by kernel_rfl) (by kernel_rfl) (fun _ _ _ h => h) (Or.inl ⟨by rfl, ?_⟩) (by first | assumption | exact trivial) ?_
      · intro W hSW; go_simp; try (with_reducible rfl)
      simp only [Act.put, List.getElem_toArray, List.getElem_cons_succ, List.getElem_cons_zero, List.setIfInBounds_toArray, List.set_cons_zero, List.set_cons_succ]
      refine wpAnyH_take (i := 4) (v := .pointer (some ⟨g, off + j * 4, none⟩)) rfl (by kernel_rfl) (by kernel_rfl) (by kernel_rfl) (fun _ _ _ h => h) (Or.inl ⟨by rfl, ?_⟩) (by first | assumption | exact trivial) ?_
      · intro W hSW; go_simp; try (with_reducible rfl)
      simp only [Act.put, List.getElem_toArray, List.getElem_cons_succ, List.getElem_cons_zero, List.setIfInBounds_toArray, List.set_cons_zero, List.set_cons_succ]
      refine wpAnyH_take (i := 5) (v := .int .i64 o) rfl (by kernel_rfl) (by kernel_rfl) (by kernel_rfl) (fun _ _ _ h => h) (Or.inl ⟨by rfl, ?_⟩) (by first | assumption | exact trivial) ?_
      · intro W hSW; obtain ⟨z0, z1, z2, z3⟩ := HC.out W hSW; go_simp; try (with_reducible rfl)
      simp only [Act.put, List.getElem_toArray, List.getElem_cons_succ, List.getElem_cons_zero, List.setIfInBounds_toArray, List.set_cons_zero, List.set_cons_succ]
      refine wpAnyH_take (i := 6) (v := .slice (some ⟨g, off, none⟩) N c) rfl (by kernel_rfl) (by kernel_rfl) (by kernel_rfl) (fun _ _ _ h => h) (Or.inl ⟨by rfl, ?_⟩) (by first | assumption | exact trivial) ?_
      · intro W hSW; go_simp; try (with_reducible rfl)
      simp only [Act.put, List.getElem_toArray, List.getElem_cons_succ, List.getElem_cons_zero, List.setIfInBounds_toArray, List.set_cons_zero, List.set_cons_succ]
      refine wpAnyH_take (i := 7) (v := .int .i64 (j : Int)) rfl (by kernel_rfl) (by kernel_rfl) (by kernel_rfl) (fun _ _ _ h => h) (Or.inl ⟨by rfl, ?_⟩) (by first | assumption | exact trivial) ?_
      · intro W hSW; go_simp; try (with_reducible rfl)
      simp only [Act.put, List.getElem_toArray, List.getElem_cons_succ, List.getElem_cons_zero, List.setIfInBounds_toArray, List.set_cons_zero, List.set_cons_succ]
      refine wpAnyH_take (i := 8) (v := .pointer (some ⟨g, off + j * 4, none⟩)) rfl (by kernel_rfl) (by kernel_rfl) (by kernel_rfl) (fun _ _ _ h => h) (Or.inl ⟨by rfl, ?_⟩) (by first | assumption | exact trivial) ?_
      · intro W hSW; go_simp; try (with_reducible rfl)
      simp only [Act.put, List.getElem_toArray, List.getElem_cons_succ, List.getElem_cons_zero, List.setIfInBounds_toArray, List.set_cons_zero, List.set_cons_succ]
      refine wpAnyH_take (i := 9) (v := .pointer (some ⟨g, off + j * 4 + 1, none⟩)) rfl (by kernel_rfl) (by kernel_rfl) (by kernel_rfl) (fun _ _ _ h => h) (Or.inl ⟨by rfl, ?_⟩) (by first | assumption | exact trivial) ?_
      · intro W hSW; go_simp; try (with_reducible rfl)
      simp only [Act.put, List.getElem_toArray, List.getElem_cons_succ, List.getElem_cons_zero, List.setIfInBounds_toArray, List.set_cons_zero, List.set_cons_succ]
      refine wpAnyH_take (i := 10) (v := .int .i64 e) rfl (by kernel_rfl) (by kernel_rfl) (by kernel_rfl) (fun _ _ _ h => h) (Or.inl ⟨by rfl, ?_⟩) (by first | assumption | exact trivial) ?_
      · intro W hSW; obtain ⟨z0, z1, z2, z3⟩ := HC.out W hSW; go_simp; try (with_reducible rfl)
      simp only [Act.put, List.getElem_toArray, List.getElem_cons_succ, List.getElem_cons_zero, List.setIfInBounds_toArray, List.set_cons_zero, List.set_cons_succ]
      refine wpAnyH_take (i := 11) (v := .slice (some ⟨g, off, none⟩) N c) rfl (by kernel_rfl) (by kernel_rfl) (by kernel_rfl) (fun _ _ _ h => h) (Or.inl ⟨by rfl, ?_⟩) (by first | assumption | exact trivial) ?_
      · intro W hSW; go_simp; try (with_reducible rfl)
      simp only [Act.put, List.getElem_toArray, List.getElem_cons_succ, List.getElem_cons_zero, List.setIfInBounds_toArray, List.set_cons_zero, List.set_cons_succ]
      refine wpAnyH_take (i := 12) (v := .int .i64 (j : Int)) rfl (by kernel_rfl) (by kernel_rfl) (by kernel_rfl) (fun _ _ _ h => h) (Or.inl ⟨by rfl, ?_⟩) (by first | assumption | exact trivial) ?_
      · intro W hSW; go_simp; try (with_reducible rfl)
      simp only [Act.put, List.getElem_toArray, List.getElem_cons_succ, List.getElem_cons_zero, List.setIfInBounds_toArray, List.set_cons_zero, List.set_cons_succ]
      refine wpAnyH_take (i := 13) (v := .pointer (some ⟨g, off + j * 4, none⟩)) rfl (by kernel_rfl) (by kernel_rfl) (by kernel_rfl) (fun _ _ _ h => h) (Or.inl ⟨by rfl, ?_⟩) (by first | assumption | exact trivial) ?_
      · intro W hSW; go_simp; try (with_reducible rfl)
      simp only [Act.put, List.getElem_toArray, List.getElem_cons_succ, List.getElem_cons_zero, List.setIfInBounds_toArray, List.set_cons_zero, List.set_cons_succ]
      refine wpAnyH_take (i := 14) (v := .pointer (some ⟨g, off + j * 4 + 2, none⟩)) rfl (by kernel_rfl) (by kernel_rfl) (by kernel_rfl) (fun _ _ _ h => h) (Or.inl ⟨by rfl, ?_⟩) (by first | assumption | exact trivial) ?_
      · intro W hSW; go_simp; try (with_reducible rfl)
      simp only [Act.put, List.getElem_toArray, List.getElem_cons_succ, List.getElem_cons_zero, List.setIfInBounds_toArray, List.set_cons_zero, List.set_cons_succ]
      refine wpAnyH_take (i := 15) (v := .int .i64 u) rfl (by kernel_rfl) (by kernel_rfl) (by kernel_rfl) (fun _ _ _ h => h) (Or.inl ⟨by rfl, ?_⟩) (by first | assumption | exact trivial) ?_
      · intro W hSW; obtain ⟨z0, z1, z2, z3⟩ := HC.out W hSW; go_simp; try (with_reducible rfl)
      simp only [Act.put, List.getElem_toArray, List.getElem_cons_succ, List.getElem_cons_zero, List.setIfInBounds_toArray, List.set_cons_zero, List.set_cons_succ]
      refine wpAnyH_take (i := 17) (v := .slice (some ⟨g, off, none⟩) N c) rfl (by kernel_rfl) (by kernel_rfl) (by kernel_rfl) (fun _ _ _ h => h) (Or.inl ⟨by rfl, ?_⟩) (by first | assumption | exact trivial) ?_
      · intro W hSW; go_simp; try (with_reducible rfl)
      simp only [Act.put, List.getElem_toArray, List.getElem_cons_succ, List.getElem_cons_zero, List.setIfInBounds_toArray, List.set_cons_zero, List.set_cons_succ]
      refine wpAnyH_take (i := 18) (v := .int .i64 (j : Int)) rfl (by kernel_rfl) (by kernel_rfl) (by kernel_rfl) (fun _ _ _ h => h) (Or.inl ⟨by rfl, ?_⟩) (by first | assumption | exact trivial) ?_
      · intro W hSW; go_simp; try (with_reducible rfl)
      simp only [Act.put, List.getElem_toArray, List.getElem_cons_succ, List.getElem_cons_zero, List.setIfInBounds_toArray, List.set_cons_zero, List.set_cons_succ]
      refine wpAnyH_take (i := 19) (v := .pointer (some ⟨g, off + j * 4, none⟩)) rfl (by kernel_rfl) (by kernel_rfl) (by kernel_rfl) (fun _ _ _ h => h) (Or.inl ⟨by rfl, ?_⟩) (by first | assumption | exact trivial) ?_
      · intro W hSW; go_simp; try (with_reducible rfl)
      simp only [Act.put, List.getElem_toArray, List.getElem_cons_succ, List.getElem_cons_zero, List.setIfInBounds_toArray, List.set_cons_zero, List.set_cons_succ]
      refine wpAnyH_take (i := 20) (v := .pointer (some ⟨g, off + j * 4 + 3, none⟩)) rfl (by kernel_rfl) (by kernel_rfl) (by kernel_rfl) (fun _ _ _ h => h) (Or.inl ⟨by rfl, ?_⟩) (by first | assumption | exact trivial) ?_
      · intro W hSW; go_simp; try (with_reducible rfl)
      simp only [Act.put, List.getElem_toArray, List.getElem_cons_succ, List.getElem_cons_zero, List.setIfInBounds_toArray, List.set_cons_zero, List.set_cons_succ]
      refine wpAnyH_take (i := 21) (v := .slice pA M pc) rfl (by kernel_rfl) (by kernel_rfl) (by kernel_rfl) (fun _ _ _ h => h) (Or.inl ⟨by rfl, ?_⟩) (by first | assumption | exact trivial) ?_
      · intro W hSW; obtain ⟨z0, z1, z2, z3⟩ := HC.out W hSW; go_simp; try (with_reducible rfl)
      simp only [Act.put, List.getElem_toArray, List.getElem_cons_succ, List.getElem_cons_zero, List.setIfInBounds_toArray, List.set_cons_zero, List.set_cons_succ]
      refine wpAnyH_ready (rs := [16]) (by kernel_rfl) (by simp) ?_
      refine AllReadyH.cons rfl (fun K hK => ?_) AllReadyH.nil
      go_simp
      obtain ⟨W1, hW1⟩ : ∃ V, (wr.alloc (.cells #[] 3)).drew = V := ⟨_, rfl⟩
      have hb1 : Below wr.heap.size wr W1 := by rw [← hW1]; exact (Me.below_alloc (Below.refl _ _)).drew
      have ho1 : Mi.Own W1 wr.heap.size (.slice (some ⟨wr.heap.size, 0, none⟩) 0 0) [] := by
        rw [← hW1]
        exact (Mi.Own.lit (Below.refl wr.heap.size wr)).below (Below.refl _ _).drew
      rw [hW1]
      clear hW1
      have S1 : Below w.heap.size w W1 := go_on HBr.out hb1
      refine hK.out _ _ (S1) (fun hHeld => ?_)
      clear hK K
      refine wpAnyH_ready (rs := [22]) (by kernel_rfl) (by simp) ?_
      refine AllReadyH.cons rfl (fun K hK => ?_) AllReadyH.nil
      rw [if_pos (by kernel_rfl)]
      refine appIntsW (.tmp 28) (.tmp 33) rfl wr.heap.size w.heap.size _ [] ml rfl ho1 pA M pc HMM.out.symm rfl (HRd.out.below S1) HSz.out.2 (by have h1 := HSz.out.1; have h2 := HK1.out; have h3 := HMM.out; simp; omega) hb1.size ?_
      intro v2 W2 ho2 hg2 hk2
      simp only [Act.put, List.getElem_toArray, List.getElem_cons_succ, List.getElem_cons_zero, List.setIfInBounds_toArray, List.set_cons_zero, List.set_cons_succ]
      rw [List.nil_append] at ho2
      have hb2 : Below wr.heap.size wr W2 := hb1.grown hg2 hb1.size hk2
      obtain ⟨Ac, cc, rfl, _⟩ := Mi.Own.form ho2
      rw [HMM.out] at ho2 ⊢
      have S2 : Below w.heap.size w W2 := go_on HBr.out hb2
      refine hK.out _ _ (S2) (fun hHeld => ?_)
      clear hK K
      refine wpAnyH_take (i := 23) (v := .agg #[.int .i64 o, .int .i64 e, .int .i64 u, .slice Ac M cc]) rfl (by kernel_rfl) (by kernel_rfl) (by kernel_rfl) (fun _ _ _ h => h) (Or.inl ⟨by rfl, ?_⟩) (by first | assumption | exact trivial) ?_
      · intro W hSW; go_simp; try (with_reducible rfl)
      simp only [Act.put, List.getElem_toArray, List.getElem_cons_succ, List.getElem_cons_zero, List.setIfInBounds_toArray, List.set_cons_zero, List.set_cons_succ]
      refine wpAnyH_ready (rs := [24]) (by kernel_rfl) (by simp) ?_
      refine AllReadyH.cons rfl (fun K hK => ?_) AllReadyH.nil
      go_simp
      obtain ⟨W3, hW3⟩ : ∃ V, W2.alloc (.cells #[.int .i64 o, .int .i64 e, .int .i64 u, .slice Ac M cc] 55) = V := ⟨_, rfl⟩
      have hb3 : Below W2.heap.size W2 W3 := by rw [← hW3]; exact Me.below_alloc (Below.refl _ _)
      have hz3 : W3.heap[W2.heap.size]? = some (.cells #[.int .i64 o, .int .i64 e, .int .i64 u, .slice Ac M cc] 55 (0, 0)) := by rw [← hW3]; exact heap_alloc_new W2 _
      rw [hW3]
      clear hW3
      have S3 : Below w.heap.size w W3 := go_on S2 hb3
      have hM3 := (HM.out.below hb2).below hb3
      have ho3 : Mi.Own W3 w.heap.size (.slice Ac M cc) ml := (ho2.below hb3).base fun k hk => Nat.le_trans HBr.out.size ((ho2.below hb3).lt k hk).1
      refine hK.out _ _ (S3) (fun hHeld => ?_)
      clear hK K
      refine wpAnyH_ready (rs := [25]) (by kernel_rfl) (by simp) ?_
      refine AllReadyH.cons rfl (fun K hK => ?_) AllReadyH.nil
      rw [if_pos (by kernel_rfl)]
      refine appMwB (.tmp 12) (.tmp 36) rfl w.heap.size u3 P' ⟨⟨o, e, u, ml⟩, Ac, cc⟩ W2.heap.size rfl hM3 (by show Mi.Own W3 _ (.slice Ac ml.length cc) ml; rw [HMM.out]; exact ho3) rfl (fun j' u' hj' => ?_) HLen.out S3.size ?_
      · rw [cell_of_row W3 W2.heap.size j' _ _ (0, 0) hz3]
        have e9 : pV ⟨⟨o, e, u, ml⟩, Ac, cc⟩ = [.int .i64 o, .int .i64 e, .int .i64 u, .slice Ac M cc] := by simp only [pV, Pm.v, HMM.out]
        rw [e9] at hj'
        simpa using hj'
      intro v7 W7 hM7 hg7 hk7
      simp only [Act.put, List.getElem_toArray, List.getElem_cons_succ, List.getElem_cons_zero, List.setIfInBounds_toArray, List.set_cons_zero, List.set_cons_succ]
      have S7 : Below w.heap.size w W7 := S3.grown hg7 S3.size hk7
      refine hK.out _ _ (S7) (fun hHeld => ?_)
      clear hK K
      refine wpAnyH_take (i := 26) (v := v7) rfl (by kernel_rfl) (by kernel_rfl) (by kernel_rfl) (fun _ _ _ h => h) (Or.inl ⟨by rfl, ?_⟩) (by first | assumption | exact trivial) ?_
      · intro W hSW; go_simp; try (with_reducible rfl)
      simp only [Act.put, List.getElem_toArray, List.getElem_cons_succ, List.getElem_cons_zero, List.setIfInBounds_toArray, List.set_cons_zero, List.set_cons_succ]
      refine wpAnyH_done (by kernel_rfl) ?_ _
      have HM7 := Lib.hid hM7
      have HB7 : Hid (Below w.heap.size w W7) := S7
      clear hHeld S0 S1 S2 S3 S7 hM7 hg7 hk7 hM3 ho3 hb3 hz3 hb2 hb1 ho1 ho2 hg2 hk2
      go_wp2
      go_roundw
      case rel =>
        refine ⟨j + 1, P' ++ [⟨⟨o, e, u, ml⟩, Ac, cc⟩], hlt, by go_num, HM7, ?_, ?_, HB7⟩
        · show _ = _
          rw [List.map_append, HP.out, HTK.out, List.map_append]
          rfl
        · show _ = _
          rw [List.length_append, HL.out]; rfl
      case measure => simp [intOf]; omega
    · obtain rfl : j = N := by omega
      have g1 : ¬ (j : Int) < (j : Int) := by omega
      go_wp2
      go_ret
      refine ⟨_, rfl, P', HM.out, ?_, HBr.out⟩
      show _ = _
      rw [HP.out, List.take_of_length_le (by have := HN.out; omega)]
end Go.Proofs.Ythajocfgpodimaa.Se
/- The law of From. -/
namespace Go.Proofs.Ythajocfgpodimaa.Se
open Go.RowKit
open Go.Proofs.Ythajocfgpodimaa.Me Go.Proofs.Ythajocfgpodimaa.Sb
set_option linter.unusedVariables false
set_option linter.unusedSimpArgs false

/-- n numbers from the beginning of a block from B on, whatever they are. -/
def Dz (w : World) (B : Nat) (A : Option Addr) (n : Nat) : Prop :=
  n = 0 ∨ ∃ g cs, A = some ⟨g, 0, none⟩ ∧ B ≤ g ∧ w.heap[g]? = some (.cells cs 3 (0, 0)) ∧ n ≤ cs.size
section
variable {w w' : World} {B : Nat} {A : Option Addr} {n : Nat}
theorem Dz.of_own {c : Nat} {l : List Int} (h : Mi.Own w B (.slice A l.length c) l) : Dz w B A l.length := by
  rcases h.2 with ⟨h1, h2⟩ | ⟨g, cap, cur, h1, h2, h3, h4, h5, h6, h7⟩
  · exact .inl h2
  · cases h1
    exact .inr ⟨g, cur, rfl, h2, h3, by omega⟩
theorem Dz.at_ (h : Dz w B A n) {i : Nat} (hi : i < n) : ∃ (g : Nat) (u : Value) (cs : Array Value), A = some ⟨g, 0, none⟩ ∧ B ≤ g ∧ w.heap[g]? = some (.cells cs 3 (0, 0)) ∧ w.cell? ⟨g, i, none⟩ = some u ∧ w.frozen? ⟨g, i, none⟩ = false := by
  rcases h with h | ⟨g, cs, h1, h2, h3, h4⟩
  · omega
  · have hl : i < cs.size := by omega
    exact ⟨g, cs[i], cs, h1, h2, h3, (cell_of_row w g _ _ _ (0, 0) h3).trans (Array.getElem?_eq_getElem hl), frozen_of_row w g _ _ _ h3⟩
theorem Dz.set (h : Dz w B A n) (g i : Nat) (u : Value) : Dz (w.setCell ⟨g, i, none⟩ u) B A n := by
  rcases h with h | ⟨g', cs, h1, h2, h3, h4⟩
  · exact .inl h
  · by_cases e : g' = g
    · subst e
      exact .inr ⟨g', _, h1, h2, heap_setCell_same w g' i _ _ _ h3, by simpa using h4⟩
    · exact .inr ⟨g', cs, h1, h2, (heap_setCell_other w _ _ _ e).trans h3, h4⟩
end
/-- Marks that are written over: their rows, and lists, whatever these are. -/
def Rz (w : World) (B : Nat) (A : Option Addr) (P : List Pm) : Prop :=
  ∀ j p, P[j]? = some p → ∃ (g : Nat) (cur : Array Value), A = some ⟨g, 0, none⟩ ∧ B ≤ g ∧ w.heap[g]? = some (.cells cur 55 (0, 0)) ∧ cur[j * 4 + 3]? = some p.v ∧ Dz w B p.A p.m.more.length
theorem Rz.of_mw {w : World} {B n c : Nat} {A : Option Addr} {P : List Pm} (h : Mw w B (.slice A n c) P) : Rz w B A P := fun j p hj => by
  obtain ⟨g, e1, e2, e3, e4⟩ := h.at_ hj
  obtain ⟨_, _, _, c3, _⟩ := e4 w rfl
  rcases h.own.2 with ⟨h1, h2⟩ | ⟨g', cap, cur, h1, h2, h3, h4, h5, h6, h7⟩
  · have : P = [] := by simpa using h2
    subst this; simp at hj
  · cases h1
    cases e1
    rw [cell_of_row w g _ _ _ (0, 0) h3] at c3
    exact ⟨g, cur, rfl, h2, h3, c3, Dz.of_own (h.each p (List.mem_of_getElem? hj))⟩
theorem Rz.set {w : World} {B : Nat} {A : Option Addr} {P : List Pm} (h : Rz w B A P) {g i : Nat} {cs : Array Value} (hg : w.heap[g]? = some (.cells cs 3 (0, 0))) (u : Value) : Rz (w.setCell ⟨g, i, none⟩ u) B A P := fun j p hj => by
  obtain ⟨g', cur, h1, h2, h3, h4, h5⟩ := h j p hj
  have hne : g' ≠ g := fun e => by
    subst e
    rw [h3] at hg
    simp at hg
  exact ⟨g', cur, h1, h2, (heap_setCell_other w _ _ _ hne).trans h3, h4, h5.set g i u⟩
theorem below_setI {w0 w : World} {p : Addr} (h : Below w0.heap.size w0 w) (hp : w0.heap.size ≤ p.block) (u : Value) : Below w0.heap.size w0 (w.setCell p u) :=
  h.trans (((But.refl (fun k => k = p.block) w).set (p := p) (.inl rfl) u).below h.size fun k hk => by rw [hk]; exact hp)
/-- Behind Add an id is there, or there is no room. -/
theorem add_there {s : St} {i : Mg.Id4} (h : Mg.chkN i = 0) : hasS (addS s i) i = true ∨ mayN (addS s i) i = 6 := by
  by_cases h0 : mayN s i = 0
  · obtain ⟨hr, hh, _⟩ := mayN_zero h0
    left
    unfold hasS addS
    rw [if_neg (by simp [h0])]
    simp only [h, get_set]
    simp
    exact (has_wth _ _ _).2 (.inr rfl)
  · have e : addS s i = s := by unfold addS; rw [if_pos h0]
    rw [e]
    have hm : mayN s i = 5 ∨ mayN s i = 6 := by
      unfold mayN at h0 ⊢
      rw [if_neg (by simp [h])] at h0 ⊢
      split at h0
      · rename_i h1; rw [if_pos h1]; exact .inl rfl
      · rename_i h1
        rw [if_neg h1]
        split at h0
        · rename_i h2; rw [if_pos h2]; exact .inr rfl
        · exact absurd rfl h0
    rcases hm with hm | hm
    · left
      unfold hasS
      unfold mayN at hm
      rw [if_neg (by simp [h])] at hm
      split at hm
      · rename_i h1; simp only [h]; simpa using h1
      · split at hm <;> cases hm
    · exact .inr hm
set_option maxRecDepth 100000 in
set_option maxHeartbeats 16000000 in
theorem seenFrom_no (g : Int) (A : Option Addr) (len cap : Nat) (P : List Pm) (i : Mg.Id4) (w : World) (hv : Mv w (.slice A len cap) P) (hz : Msz cap P) (hbad : (g < 0 ∨ 256 < g) ∨ ¬ okMs (P.map Pm.m) (P.map Pm.m).length ∨ g < gapsTo (P.map Pm.m) (P.map Pm.m).length) :
    Calls Try.prog 5 #[.int .i64 g, .slice A len cap, .agg (Mg.idC i)] w fun e w' => e = .returned (.bool true) ∧ Below w.heap.size w w' := by
  obtain ⟨o, d, ee, cc⟩ := i
  simp only [Mg.idC]
  have hB : Below w.heap.size w (w.alloc (.cells #[.int .i64 o, .int .i64 d, .int .i64 ee, .int .i64 cc] 39)) := Me.below_alloc (Below.refl _ _)
  obtain ⟨V0, hV0⟩ : ∃ V, w.alloc (.cells #[.int .i64 o, .int .i64 d, .int .i64 ee, .int .i64 cc] 39) = V := ⟨_, rfl⟩
  rw [hV0] at hB
  have HV0 := Lib.hid hV0
  have HB := Lib.hid hB
  obtain ⟨ms, hms⟩ : ∃ ms, P.map Pm.m = ms := ⟨_, rfl⟩
  have HMs := Lib.hid hms
  have hl : P.length = ms.length := by rw [← hms]; simp
  have hcl : P.length ≤ cap := by
    obtain ⟨A0, c0, e0, hc1, _⟩ := hv
    simp only [Value.slice.injEq] at e0
    omega
  rw [hms] at hbad
  have HP3 : Hid (P.length ≤ 3000000000000) := (hz.msn hcl).len
  have HCp := Lib.hid (CopyMarks_any A len cap P V0 (Lib.hid (hv.below hB)) (Lib.hid hz))
  have hck : ckE g ms ≠ 0 := by
    unfold ckE
    by_cases h1 : g < 0 ∨ 256 < g
    · rw [if_pos h1]; omega
    · rw [if_neg h1]
      by_cases h2 : okMs ms ms.length
      · rw [if_neg (by simpa using h2)]
        rcases hbad with h | h | h
        · exact absurd h h1
        · exact absurd h2 h
        · rw [if_pos h]; omega
      · rw [if_pos h2]; omega
  have HFr : Hid (∀ W A1 c1 P1, Mv W (.slice A1 P1.length c1) P1 → Msn P1 → P1.map Pm.m = ms → Calls Try.prog 26 #[.int .i64 g, .slice A1 P1.length c1] W fun e w' => e = .returned (.tuple #[.pointer none, .int .i64 (ckE g ms : Int)]) ∧ Hid (Below W.heap.size W w')) := fun W A1 c1 P1 k1 k2 k3 => by
    by_cases h : (g < 0 ∨ 256 < g) ∨ ¬ okMs ms ms.length
    · exact From_bad g A1 P1.length c1 P1 ms W (Lib.hid k1) (Lib.hid k2) (Lib.hid k3) h
    · have hg : ¬ (g < 0 ∨ 256 < g) := fun h' => h (.inl h')
      have hok : okMs ms ms.length := Classical.byContradiction fun h' => h (.inr h')
      have hgp : g < gapsTo ms ms.length := by
        rcases hbad with h' | h' | h'
        · exact absurd h' hg
        · exact absurd hok h'
        · exact h'
      have hk : ckE g ms = 6 := by unfold ckE; rw [if_neg hg, if_neg (by simpa using hok), if_pos hgp]
      rw [hk]
      refine (From_goodL (fun k => W.heap.size ≤ k) g A1 P1.length c1 P1 ms W (fun k hk => hk) (Lib.hid k1) (Lib.hid k2) (Lib.hid k3) (by omega) (by omega) hok).mono ?_
      rintro e w' ⟨b2, ⟨_, rfl⟩ | ⟨hn, _⟩⟩
      · exact ⟨rfl, b2⟩
      · exact absurd hgp hn
  have HCk : Hid (∀ W, Below w.heap.size w W → Calls Try.prog 27 #[.int .i64 g, .slice A len cap] W fun e w' => e = .returned (.int .i64 (ckE g ms : Int)) ∧ Hid (Below W.heap.size W w')) := fun W hW => by
    have := CheckMarks_any g A len cap P W (Lib.hid (hv.below hW)) (Lib.hid hz)
    rw [hms] at this
    exact this
  have HAw := Lib.hid (fun W => awake_any W)
  have hnz := Mg.nz hck
  obtain ⟨k, hk⟩ : ∃ k, ckE g ms = k := ⟨_, rfl⟩
  rw [hk] at HFr HCk hnz
  have HL := Lib.hid hl
  have hnb : ((k : Int) != 0) = true := by rw [bne, hnz]; rfl
  clear hB hV0 hms hl hcl hv hz hbad hck hk
  go_enter Try.func5, Try.ntmps5
  go_wp2_with (first
    | (go_at_call 25
       rw [HV0.out]
       refine HCp.out.mono ?_
       rintro e w1 ⟨v1, P1, rfl, m1, p1, b1⟩
       obtain ⟨A1, c1, rfl, hc1, hc2⟩ := m1.out.form
       have q1 : Hid (P1.map Pm.m = ms) := p1.out.trans HMs.out
       have hl1 : P1.length = ms.length := by rw [← q1.out]; simp
       have HN1 : Hid (Msn P1) := m1.out.msn (by have := HP3.out; have := HL.out; omega)
       have M1 := Lib.hid m1.out.mv
       clear hc1 hc2 hl1)
    | (go_at_call 26; refine (HFr.out w1 A1 c1 P1 M1.out HN1.out q1.out).mono ?_; rintro e w2 ⟨rfl, b2⟩)
    | (go_at_call 27; refine (HCk.out w2 (go_on (go_on HB.out b1.out) b2.out)).mono ?_; rintro e w3 ⟨rfl, b3⟩)
    | (go_at_call 11; refine (HAw.out _).mono ?_; rintro e w4 ⟨rfl, b4⟩))
  go_ret
  exact ⟨rfl, go_on (go_on (go_on (go_on HB.out b1.out) b2.out) b3.out) b4.out⟩
set_option maxRecDepth 100000 in
set_option maxHeartbeats 32000000 in
theorem seenFrom_ok (g : Int) (A : Option Addr) (len cap : Nat) (P : List Pm) (i : Mg.Id4) (w : World) (hv : Mv w (.slice A len cap) P) (hz : Msz cap P) (h0 : 0 ≤ g) (h1 : g ≤ 256) (hok : okMs (P.map Pm.m) (P.map Pm.m).length) (hgp : ¬ g < gapsTo (P.map Pm.m) (P.map Pm.m).length) :
    Calls Try.prog 5 #[.int .i64 g, .slice A len cap, .agg (Mg.idC i)] w fun e w' => e = .returned (.bool true) ∧ Below w.heap.size w w' := by
  obtain ⟨o, d, ee, cc⟩ := i
  simp only [Mg.idC]
  have hB : Below w.heap.size w (w.alloc (.cells #[.int .i64 o, .int .i64 d, .int .i64 ee, .int .i64 cc] 39)) := Me.below_alloc (Below.refl _ _)
  have hX : (w.alloc (.cells #[.int .i64 o, .int .i64 d, .int .i64 ee, .int .i64 cc] 39)).heap[w.heap.size]? = some (.cells #[.int .i64 o, .int .i64 d, .int .i64 ee, .int .i64 cc] 39 (0, 0)) := heap_alloc_new w _
  obtain ⟨V0, hV0⟩ : ∃ V, w.alloc (.cells #[.int .i64 o, .int .i64 d, .int .i64 ee, .int .i64 cc] 39) = V := ⟨_, rfl⟩
  rw [hV0] at hB hX
  have HV0 := Lib.hid hV0
  have HB := Lib.hid hB
  have HX := Lib.hid hX
  obtain ⟨ms, hms⟩ : ∃ ms, P.map Pm.m = ms := ⟨_, rfl⟩
  have HMs := Lib.hid hms
  have hl : P.length = ms.length := by rw [← hms]; simp
  have hlen := okMs_len hok
  rw [hms] at hok hgp hlen
  have hP5 : P.length ≤ 4194304 := by omega
  have HV : Hid (∀ W, Below w.heap.size w W → Mv W (.slice A len cap) P) := fun W hW => hv.below hW
  have HCp := Lib.hid (CopyMarks_any A len cap P V0 (Lib.hid (hv.below hB)) (Lib.hid hz))
  have HCk : Hid (∀ W, Below w.heap.size w W → Calls Try.prog 27 #[.int .i64 g, .slice A len cap] W fun e w' => e = .returned (.int .i64 0) ∧ Hid (Below W.heap.size W w')) := fun W hW => by
    have := CheckMarks_any g A len cap P W (Lib.hid (hv.below hW)) (Lib.hid hz)
    rw [hms] at this
    have hk : ckE g ms = 0 := by unfold ckE; rw [if_neg (by omega), if_neg (by simpa using hok), if_neg hgp]
    rw [hk] at this
    exact this
  have HOk := Lib.hid hok
  have HGp := Lib.hid hgp
  have HP5 := Lib.hid hP5
  have HAw := Lib.hid (fun W => awake_any W)
  have HSa : Hid (∀ W v1 P1, Below w.heap.size w W → Mv W v1 P1 → P1.map Pm.m = ms → Calls Try.prog 19 #[v1, .slice A len cap] W fun e w' => e = .returned (.bool true) ∧ Hid (Below W.heap.size W w')) := fun W v1 P1 hW hv1 he =>
    Same_eq v1 _ P1 P W (Lib.hid hv1) (Lib.hid (hv.below hW)) (Lib.hid (he.trans hms.symm)) (by
      have := congrArg List.length (he.trans hms.symm)
      rw [List.length_map, List.length_map] at this
      omega)
  have HH : Hid (0 ≤ g ∧ g ≤ 256) := ⟨h0, h1⟩
  have HL := Lib.hid hl
  clear hB hX hV0 hms hok hgp hl hlen hP5 hv hz h0 h1
  go_enter Try.func5, Try.ntmps5
  go_wp2_with (first
    | (go_at_call 25
       rw [HV0.out]
       refine HCp.out.mono ?_
       rintro e w1 ⟨v1, P1, rfl, m1, p1, b1⟩
       obtain ⟨A1, c1, rfl, hc1, hc2⟩ := m1.out.form
       have q1 : Hid (P1.map Pm.m = ms) := p1.out.trans HMs.out
       have hl1 : P1.length = ms.length := by rw [← q1.out]; simp
       have HW1 := Lib.hid (go_on HB.out b1.out)
       have HN1 : Hid (Msn P1) := m1.out.msn (by have := HP5.out; have := HL.out; omega)
       have M1 := Lib.hid m1.out.mv
       have HF : Hid (Calls Try.prog 26 #[.int .i64 g, .slice A1 P1.length c1] w1 fun e w' => ∃ D b, e = .returned (.tuple #[.pointer (some ⟨D, 0, none⟩), .int .i64 0]) ∧ Hid (SetL (fun k => w1.heap.size ≤ k) w' D b ms.length ⟨g, gapsTo ms ms.length, keptTo ms ms.length⟩) ∧ Hid (w1.heap.size ≤ D ∧ w1.heap.size ≤ b) ∧ Hid (Below w1.heap.size w1 w')) :=
         (From_goodL (fun k => w1.heap.size ≤ k) g A1 P1.length c1 P1 ms w1 (fun k hk => hk) M1 HN1 q1 HH.out.1 HH.out.2 HOk.out).mono fun e w' ⟨k2, h⟩ => h.elim (fun h => absurd h.1 HGp.out) fun ⟨_, D, b, k3, k4, k5, k6⟩ => ⟨D, b, k3, k4, ⟨k5, k6⟩, k2⟩
       clear hc1 hc2 hl1)
    | (go_at_call 26
       refine HF.out.mono ?_
       rintro e w2 ⟨D, b, rfl, HS2, HDb, b2⟩)
    | (go_at_call 27; refine (HCk.out w2 (go_on HW1.out b2.out)).mono ?_; rintro e w3 ⟨rfl, b3⟩; have HB3 := Lib.hid (go_on b2.out b3.out); have S3 := Lib.hid (HS2.out.below b3.out))
    | (go_at_call 20
       refine (Marks_any false D b ms.length _ w3 (Lib.hid S3.out.set) (by have := HP5.out; have := HL.out; omega)).mono ?_
       rintro e w4 ⟨v4, P4, L4, rfl, m4, b4, o4, p4⟩
       have S4 := Lib.hid (S3.out.below b4.out)
       have HB4 := Lib.hid (go_on HB3.out b4.out)
       have Q4 : Hid (P4.map Pm.m = ms) := p4.out.trans (ord_from HOk.out o4.out))
    | (go_at_call 19; (with_reducible refine (HSa.out w4 v4 P4 (go_on HW1.out HB4.out) m4.out.mv Q4.out).mono ?_); rintro e w5 ⟨rfl, b5⟩; have S5 := Lib.hid (S4.out.below b5.out); have HB5 := Lib.hid (go_on HB4.out b5.out); obtain ⟨i0, i1, i2, i3⟩ := id_cells (((go_on b1.out HB5.out).block _ (Array.getElem?_eq_some_iff.1 HX.out).1).trans HX.out))
    | (go_at_call 18
       have HAd := Add_anyL (fun k => w1.heap.size ≤ k) D b ms.length _ ⟨o, d, ee, cc⟩ w5 S5 (by have := HP5.out; have := HL.out; omega) (fun k hk => Nat.le_trans HB5.out.size hk)
       unfold AddPL at HAd
       simp only [Mg.idC] at HAd
       refine HAd.mono ?_
       clear HAd
       rintro e w6 ⟨rfl, n6, hn6, S6, b6⟩
       have HN6 : Hid (n6 ≤ 5000000) := (by have := HP5.out; have := HL.out; show _ ≤ _; omega)
       have HB6 : Hid (Below w1.heap.size w1 w6) := HB5.out.trans (b6.out.below HB5.out.size fun k hk => hk.elim (fun e => by rw [e]; exact HDb.out.1) fun h => h.elim (fun e => by rw [e]; exact HDb.out.2) fun h => h.1)
       clear hn6 b6)
    | (go_at_call 20
       refine (Marks_any false D b n6 _ w6 (Lib.hid S6.out.set) HN6.out).mono ?_
       rintro e w7 ⟨v7, P7, L7, rfl, m7, b7, o7, p7⟩
       obtain ⟨A7, c7, rfl, hc7, hd7⟩ := m7.out.form
       have S7 := Lib.hid (S6.out.below b7.out)
       have HB7 := Lib.hid (go_on HB6.out b7.out)
       have HR7 := Lib.hid (Rz.of_mw m7.out)
       have HN7 : Hid (P7.length ≤ 5000000) := (by
         have h1 := congrArg List.length p7.out
         rw [List.length_map, List.length_map] at h1
         have h2 := o7.out.le
         have h3 := HN6.out
         show _ ≤ _
         omega)
       clear hc7 hd7))
  have HMore : Hid (∀ p ∈ P7, p.m.more.length ≤ 65536) := fun p hp => by
    have h1 : p.m ∈ P7.map Pm.m := List.mem_map_of_mem hp
    rw [p7.out] at h1
    obtain ⟨q, hq, e⟩ := List.mem_map.1 h1
    rw [← e]
    have h2 := S6.out.ok.more_le q.1 q.2
    have h3 := S6.out.ok.g1
    have h4 := S6.out.ok.r1
    show (getM _ q.1 q.2).more.length ≤ _
    omega
  obtain ⟨s7, hs7⟩ : ∃ s, addS ⟨g, gapsTo ms ms.length, keptTo ms ms.length⟩ ⟨o, d, ee, cc⟩ = s := ⟨_, rfl⟩
  have HThere : Hid (Mg.chkN ⟨o, d, ee, cc⟩ = 0 → hasS s7 ⟨o, d, ee, cc⟩ = true ∨ mayN s7 ⟨o, d, ee, cc⟩ = 6) := fun h => by rw [← hs7]; exact add_there h
  rw [hs7] at S6
  have HB67 := b7
  obtain ⟨N7, hN7⟩ : ∃ n, P7.length = n := ⟨_, rfl⟩
  have HN8 := Lib.hid hN7
  have hN75 : N7 ≤ 5000000 := by rw [← hN7]; exact HN7.out
  rw [hN7]
  clear hs7 S7 m7 p7 o7 hN7 i0 i1 i2 i3
  go_loopw [12] (fun v12 wr => ∃ j : Nat, v12 = .int .i64 (j : Int) ∧ j ≤ N7 ∧ Hid (Rz wr w6.heap.size A7 P7) ∧ Hid (Below w6.heap.size w7 wr) ∧ Hid (w7.heap.size ≤ wr.heap.size)) (fun v12 _ => N7 - (intOf v12).toNat)
  case atStart => exact ⟨0, rfl, Nat.zero_le _, HR7, Below.refl _ _, Nat.le_refl _⟩
  case round =>
    obtain ⟨j, rfl, hj, HR, HBr, HZr⟩ := hrel
    by_cases hlt : j < N7
    · obtain ⟨p, hp⟩ : ∃ p, P7[j]? = some p := ⟨_, List.getElem?_eq_getElem (by have := HN8.out; omega)⟩
      have HP := Lib.hid hp
      obtain ⟨g7, cur7, rfl, z1, z2, z3, z4⟩ := HR.out j p hp
      clear z1 z2 z3 z4
      have hmm := HMore.out p (List.mem_of_getElem? hp)
      obtain ⟨np, hnp⟩ : ∃ n, p.m.more.length = n := ⟨_, rfl⟩
      obtain ⟨pA, hpA⟩ : ∃ n, p.A = n := ⟨_, rfl⟩
      obtain ⟨pc, hpc⟩ : ∃ n, p.c = n := ⟨_, rfl⟩
      have HV : Hid (p.v = .slice pA np pc) := by show _ = _; unfold Pm.v; rw [hpA, hnp, hpc]
      have HNP := Lib.hid hnp
      have HPA := Lib.hid hpA
      rw [hnp] at hmm
      have g1 : (j : Int) < (N7 : Int) := by omega
      have g2 : ¬ ((N7 : Int) ≤ (j : Int)) := by omega
      have g3 : (j : Int) < 5000000 := by omega
      clear hnp hpA hpc hp
      go_wp2
      go_loopw [13] (fun v13 wr => ∃ k : Nat, v13 = .int .i64 (k : Int) ∧ k ≤ np ∧ Hid (Rz wr w6.heap.size (some ⟨g7, 0, none⟩) P7) ∧ Hid (Below w6.heap.size w7 wr) ∧ Hid (w7.heap.size ≤ wr.heap.size)) (fun v13 _ => np - (intOf v13).toNat)
      case atStart => exact ⟨0, rfl, Nat.zero_le _, HR, HBr, HZr⟩
      case round =>
        obtain ⟨k, rfl, hk, HRq, HBq, HZq⟩ := hrel
        obtain ⟨g8, cur8, e8, hg8, hc8, hd8, hz8⟩ := HRq.out j p HP.out
        cases e8
        have y4 := (cell_of_row wr g7 (j * 4 + 3) _ _ (0, 0) hc8).trans hd8
        rw [HV.out] at y4
        rw [HPA.out, HNP.out] at hz8
        by_cases hlk : k < np
        · obtain ⟨gd, u, cs, e9, hgd, hcs, z0, z1⟩ := hz8.at_ hlk
          rw [e9] at y4
          have HGd := Lib.hid hgd
          have HCs := Lib.hid hcs
          have t1 : (k : Int) < (np : Int) := by omega
          have t2 : ¬ ((np : Int) ≤ (k : Int)) := by omega
          have t4 : (k : Int) < 100000 := by omega
          clear hgd hcs e9 hg8 hc8 hd8 hz8
          go_wp2
          go_roundw
          case rel =>
            refine ⟨k + 1, by go_num, by omega, HRq.out.set HCs.out _, HBq.out.trans (((But.refl (fun q => q = gd) wr).set (p := ⟨gd, k, none⟩) (.inl rfl) _).below (Nat.le_trans HB67.out.size HZq.out) fun q hq => by rw [hq]; exact HGd.out), ?_⟩
            show _ ≤ _
            simpa using HZq.out
          case measure => simp [intOf]; omega
        · obtain rfl : k = np := by omega
          have t1 : ¬ (k : Int) < (k : Int) := by omega
          clear hg8 hc8 hd8 hz8
          go_wp2
          go_roundw
          case rel => exact ⟨j + 1, by go_num, by omega, HRq, HBq, HZq⟩
          case measure => simp [intOf]; omega
    · obtain rfl : j = N7 := by omega
      have t1 : ¬ (j : Int) < (j : Int) := by omega
      have B6r : Below w6.heap.size w6 wr := HB67.out.trans HBr.out
      have B1r := Lib.hid (go_on HB6.out B6r)
      have SR := Lib.hid (S6.out.below B6r)
      have HWr := Lib.hid (go_on HW1.out B1r.out)
      have HS1 := Lib.hid (HSa.out wr _ P1 HWr.out (M1.out.below B1r.out) q1.out)
      have HIc : Hid (∀ W, Below wr.heap.size wr W → W.heap[w.heap.size]? = some (.cells #[.int .i64 o, .int .i64 d, .int .i64 ee, .int .i64 cc] 39 (0, 0))) := fun W hW => ((go_on (go_on b1.out B1r.out) hW).block _ (Array.getElem?_eq_some_iff.1 HX.out).1).trans HX.out
      have HCk2 := Lib.hid (fun W => Mg.RCheck_any ⟨o, d, ee, cc⟩ W)
      have HHas := Lib.hid (fun W (hW : Below wr.heap.size wr W) => Has_any false D b n6 s7 ⟨o, d, ee, cc⟩ W (Lib.hid (SR.out.set.below hW)))
      have HMay := Lib.hid (fun W (hW : Below wr.heap.size wr W) => May_any false D b n6 s7 ⟨o, d, ee, cc⟩ W (Lib.hid (SR.out.set.below hW)))
      simp only [Mg.idC] at HCk2 HHas HMay
      clear B6r HSa HMore HR HBr HZr HB67 HCk HF HCp
      by_cases hc0 : Mg.chkN ⟨o, d, ee, cc⟩ = 0
      · have HT := HThere.out hc0
        rw [hc0, show ((0 : Nat) : Int) = 0 from rfl] at HCk2
        cases hh : hasS s7 ⟨o, d, ee, cc⟩ with
        | true =>
          rw [hh] at HHas
          clear hc0 HT hh HThere
          go_wp2_with (first
            | (go_at_call 19; refine HS1.out.mono ?_; rintro e w8 ⟨rfl, b8⟩; obtain ⟨i0, i1, i2, i3⟩ := id_cells (HIc.out w8 b8.out))
            | (go_at_call 28; refine (HCk2.out _).mono ?_; rintro e w9 ⟨rfl, b9⟩; have B9 := Lib.hid (go_on b8.out b9.out); clear i0 i1 i2 i3; obtain ⟨i0, i1, i2, i3⟩ := id_cells (HIc.out w9 B9.out))
            | (go_at_call 23; refine (HHas.out w9 B9.out).mono ?_; rintro e w10 ⟨rfl, b10⟩; have B10 := Lib.hid (go_on B9.out b10.out))
            | (go_at_call 11; refine (HAw.out _).mono ?_; rintro e w11 ⟨rfl, b11⟩))
          go_ret
          exact ⟨rfl, go_on (go_on HWr.out B10.out) b11.out⟩
        | false =>
          have hm6 : mayN s7 ⟨o, d, ee, cc⟩ = 6 := HT.resolve_left (by rw [hh]; decide)
          rw [hh] at HHas
          rw [hm6, show ((6 : Nat) : Int) = 6 from rfl] at HMay
          clear hc0 HT hh HThere hm6
          go_wp2_with (first
            | (go_at_call 19; refine HS1.out.mono ?_; rintro e w8 ⟨rfl, b8⟩; obtain ⟨i0, i1, i2, i3⟩ := id_cells (HIc.out w8 b8.out))
            | (go_at_call 28; refine (HCk2.out _).mono ?_; rintro e w9 ⟨rfl, b9⟩; have B9 := Lib.hid (go_on b8.out b9.out); clear i0 i1 i2 i3; obtain ⟨i0, i1, i2, i3⟩ := id_cells (HIc.out w9 B9.out))
            | (go_at_call 23; refine (HHas.out w9 B9.out).mono ?_; rintro e w10 ⟨rfl, b10⟩; have B10 := Lib.hid (go_on B9.out b10.out); clear i0 i1 i2 i3; obtain ⟨i0, i1, i2, i3⟩ := id_cells (HIc.out w10 B10.out))
            | (go_at_call 17; refine (HMay.out w10 B10.out).mono ?_; rintro e w11 ⟨rfl, b11⟩; have B11 := Lib.hid (go_on B10.out b11.out))
            | (go_at_call 11; refine (HAw.out _).mono ?_; rintro e w12 ⟨rfl, b12⟩))
          go_ret
          exact ⟨rfl, go_on (go_on HWr.out B11.out) b12.out⟩
      · have hz0 := Mg.nz hc0
        obtain ⟨ck, hck⟩ : ∃ k, Mg.chkN ⟨o, d, ee, cc⟩ = k := ⟨_, rfl⟩
        rw [hck] at HCk2 hz0
        have hnb : ((ck : Int) != 0) = true := by rw [bne, hz0]; rfl
        clear hc0 hck HThere
        go_wp2_with (first
          | (go_at_call 19; refine HS1.out.mono ?_; rintro e w8 ⟨rfl, b8⟩; obtain ⟨i0, i1, i2, i3⟩ := id_cells (HIc.out w8 b8.out))
          | (go_at_call 28; refine (HCk2.out _).mono ?_; rintro e w9 ⟨rfl, b9⟩; have B9 := Lib.hid (go_on b8.out b9.out))
          | (go_at_call 11; refine (HAw.out _).mono ?_; rintro e w11 ⟨rfl, b11⟩))
        go_ret
        exact ⟨rfl, go_on (go_on HWr.out B9.out) b11.out⟩
theorem seenFrom (g : Int) (A : Option Addr) (len cap : Nat) (P : List Pm) (o d ee cc : Int) (w : World) (w0 : (Lit.int .i64 g).wf = true) (w1 : len = P.length ∧ Mv w (.slice A len cap) P ∧ Msz cap P) (w2 : (Lit.int .i64 o).wf = true) (w3 : (Lit.int .i64 d).wf = true) (w4 : (Lit.int .i64 ee).wf = true) (w5 : (Lit.int .i64 cc).wf = true) :
    Calls Try.prog 5 #[.int .i64 g, .slice A len cap, .agg #[.int .i64 o, .int .i64 d, .int .i64 ee, .int .i64 cc]] w fun e w' => e = .returned (.bool true) ∧ Below w.heap.size w w' := by
  by_cases h : (g < 0 ∨ 256 < g) ∨ ¬ okMs (P.map Pm.m) (P.map Pm.m).length ∨ g < gapsTo (P.map Pm.m) (P.map Pm.m).length
  · exact seenFrom_no g A len cap P ⟨o, d, ee, cc⟩ w w1.2.1 w1.2.2 h
  · have h1 : ¬ (g < 0 ∨ 256 < g) := fun h' => h (.inl h')
    have h2 : okMs (P.map Pm.m) (P.map Pm.m).length := Classical.byContradiction fun h' => h (.inr (.inl h'))
    have h3 : ¬ g < gapsTo (P.map Pm.m) (P.map Pm.m).length := fun h' => h (.inr (.inr h'))
    exact seenFrom_ok g A len cap P ⟨o, d, ee, cc⟩ w w1.2.1 w1.2.2 (by omega) (by omega) h2 h3
end Go.Proofs.Ythajocfgpodimaa.Se
