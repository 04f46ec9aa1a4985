/- The reference's CopyMarks: marks in new memory. -/
import Derived.Test.YtfnlhfelpdkieaaGreatZ8
import Derived.Test.YtfnlhfelpdkieaaGreatZ13
import Derived.Test.YtfnlhfelpdkieaaGreatZ6
import Derived.Test.YtfnlhfelpdkieaaGreatMgOwn
import Derived.Laws.AppendOwnNone
namespace Go.Proofs.YtfnlhfelpdkieaaGreat.Se
open Go.RowKit
open Go.Proofs.YtfnlhfelpdkieaaGreat.Me Go.Proofs.YtfnlhfelpdkieaaGreat.Sb
set_option linter.unusedVariables false
set_option linter.unusedSimpArgs false

/-- Numbers appended to a list of one's own, as one operation. -/
theorem appIntsW {w : World} {o : Oper} {a : Act} {K : Act → World → Prop} {Q : Exit → Act → World → Prop} (s x : Operand)
    (ho : o.op = .call { callee := .builtin .append, args := #[s, x], argTypes := #[110, 110] })
    (B Bx : Nat) (v : Value) (l r : List Int) (hs : a.eval s = v) (hown : Mi.Own w B v l) (A : Option Addr) (n c : Nat) (hn : n = r.length) (hx : a.eval x = .slice A n c) (hr : Mi.Rd w Bx A r) (hA : A = none → r.length = 0 ∧ c = 0) (hlen : (l.length + r.length) * 8 ≤ 140737488355328) (hB : B ≤ w.heap.size)
    (h : ∀ v' w', Mi.Own w' B v' (l ++ r) → w.grownBy w' v.ownBlock → (∀ k, v.ownBlock = some k → B ≤ k) → K (a.put o.dst v') w') : o.wp Tryz.prog a w K Q := by
  obtain ⟨i0, hi, hz0, hz1, hz2⟩ := info_parts Mi.infoI
  subst hn
  have hlt : ∀ k, v.ownBlock = some k → B ≤ k := fun k hk => (hown.lt k hk).1
  rcases A with _ | ad
  · obtain ⟨h1, rfl⟩ := hA rfl
    obtain rfl : r = [] := List.eq_nil_of_length_eq_zero h1
    have hrun := run_append_owned_none (P := Tryz.prog) (w := w) B 110 o.type 3 i0 1 Tryz.underlying110 hi v l.length (l.map Mi.iV) hown
    unfold Oper.wp
    simp only [List.length_nil] at hx
    simp [execOp, ho, resolve, invoke, builtin, hs, hx, hrun, Result.andThen]
    exact h v w (by rw [List.append_nil]; exact hown) ⟨rfl, rfl, rfl, Nat.le_refl _, fun _ _ _ => rfl⟩ hlt
  · obtain ⟨v', w', hr', h2, h3, h4⟩ := run_append_own_at (P := Tryz.prog) w B 110 o.type 3 i0 (.int .i64 0) 1 8 Tryz.underlying110 hi hz0 hz1 hz2 rfl (by decide) v l.length (l.map Mi.iV) hown ad r.length c (r.map Mi.iV) (by simp) (Mi.rd_cells hr) (Mi.one_cells r) (by unfold maxLen; omega) hlen hB
    unfold Oper.wp execOp
    simp only [ho, resolve, invoke, builtin, Sem.run_bind, Sem.run_pure, Result.andThen_ok, List.map_toArray, List.map_cons, List.map_nil, hs, hx, hr']
    refine h v' w' ?_ h3 hlt
    unfold Mi.Own
    rw [List.length_append, List.map_append]
    exact h2
/-- One mark appended, as one operation; the bound in bytes. -/
theorem appMwB {w : World} {o : Oper} {a : Act} {K : Act → World → Prop} {Q : Exit → Act → World → Prop} (s x : Operand)
    (ho : o.op = .call { callee := .builtin .append, args := #[s, x], argTypes := #[57, 57] })
    (B : Nat) (v : Value) (P : List Pm) (p : Pm) (gx : Nat) (hs : a.eval s = v) (hown : Mw w B v P) (hp : Mi.Own w B p.v p.m.more) (hx : a.eval x = .slice (some ⟨gx, 0, none⟩) 1 1) (hz : ∀ j u, (pV p)[j]? = some u → w.cell? ⟨gx, j, none⟩ = some u) (hlen : (P.length + 1) * 48 ≤ 140737488355328) (hB : B ≤ w.heap.size)
    (h : ∀ v' w', Mw w' B v' (P ++ [p]) → w.grownBy w' v.ownBlock → (∀ k, v.ownBlock = some k → B ≤ k) → K (a.put o.dst v') w') : o.wp Tryz.prog a w K Q := by
  obtain ⟨i0, hi, hz0, hz1, hz2⟩ := info_parts infoMk
  have hnews : ∀ j u, (pV p)[j]? = some u → w.cell? ((⟨gx, 0, none⟩ : Addr).add j) = some u := by
    intro j u hj
    rw [add_mk, Nat.zero_add]
    exact hz j u hj
  obtain ⟨v', w', hr, h2, h3, h4⟩ := run_append_own_at (P := Tryz.prog) w B 57 o.type 112 i0 (.agg #[.int .i64 0, .int .i64 0, .int .i64 0, .slice none 0 0]) 4 48 Tryz.underlying57 hi hz0 hz1 hz2 rfl (by decide) v P.length (psV P) hown.own ⟨gx, 0, none⟩ 1 1 (pV p) rfl hnews (by simp [pV, Pm.v, Value.oneCell']) (by unfold maxLen; omega) (by omega) hB
  unfold Oper.wp execOp
  simp only [ho, resolve, invoke, builtin, Sem.run_bind, Sem.run_pure, Result.andThen_ok, List.map_toArray, List.map_cons, List.map_nil, hs, hx, hr]
  have hk : ∀ q : Pm, Mi.Own w B q.v q.m.more → Mi.Own w' B q.v q.m.more := fun q hq => hq.kept h3 (ty_ne hq hown.own (by decide))
  refine h v' w' ⟨?_, fun q hq => ?_⟩ h3 fun k hk => (hown.own.lt k hk).1
  · rw [List.length_append, psV_snoc]; exact h2
  · rcases List.mem_append.1 hq with hq | hq
    · exact hk q (hown.each q hq)
    · obtain rfl : q = p := by simpa using hq
      exact hk q hp
theorem Mw.lit {w : World} : Mw (w.alloc (.cells #[] 112)) w.heap.size (.slice (some ⟨w.heap.size, 0, none⟩) 0 0) [] :=
  ⟨World.ownsRow_made w #[] 0 (Nat.le_refl _) (by unfold maxLen; omega) rfl, fun p hp => by simp at hp⟩
set_option maxRecDepth 100000 in
set_option maxHeartbeats 8000000 in
theorem CopyMarks_any (A : Option Addr) (n c : Nat) (P : List Pm) (w : World) (hv : Hid (Mv w (.slice A n c) P)) (hz : Hid (Msz c P)) : Calls Tryz.prog 52 #[.slice A n c] w fun e w' => ∃ v' P', e = .returned v' ∧ Hid (Mw w' w.heap.size v' P') ∧ Hid (P'.map Pm.m = P.map Pm.m) ∧ Hid (Below w.heap.size w w') := by
  obtain ⟨A0, c0, e0, hc1, hc2, hrows⟩ := hv.out
  injection e0 with e1 e2 e3
  subst e1 e2 e3
  obtain ⟨N, hN⟩ : ∃ N, P.length = N := ⟨_, rfl⟩
  have hcap := hz.out.cap
  rw [hN] at hc1 ⊢
  have HN := Lib.hid hN
  have HR := Lib.hid hrows
  have HL0 : Hid (Mw (w.alloc (.cells #[] 112)) w.heap.size (.slice (some ⟨w.heap.size, 0, none⟩) 0 0) []) := Mw.lit
  have HB0 : Hid (Below w.heap.size w (w.alloc (.cells #[] 112))) := Me.below_alloc (Below.refl _ _)
  clear hN hrows
  go_enter Tryz.func52, Tryz.ntmps52
  go_wp2
  go_loopw [3, 4] (fun v3 v4 wr => ∃ (j : Nat) (P' : List Pm), j ≤ N ∧ v4 = .int .i64 (j : Int) ∧ Hid (Mw wr w.heap.size v3 P') ∧ Hid (P'.map Pm.m = (P.take j).map Pm.m) ∧ Hid (P'.length = j) ∧ Hid (Below w.heap.size w wr)) (fun _ v4 _ => N - (intOf v4).toNat)
  case atStart => exact ⟨0, [], by omega, rfl, HL0.out, (by show _ = _; simp), rfl, HB0.out⟩
  case round =>
    obtain ⟨j, P', hj, rfl, HM, HP, HL, HBr⟩ := hrel
    by_cases hlt : j < N
    · obtain ⟨p, hp⟩ : ∃ p, P[j]? = some p := ⟨_, List.getElem?_eq_getElem (by have := HN.out; omega)⟩
      obtain ⟨g, off, rfl, hg, ⟨x0, x1, x2, x3⟩, hk1, hk2, hrd⟩ := HR.out j p hp
      have hsz := hz.out.each p (List.mem_of_getElem? hp)
      have HTK := Lib.hid (takeP_snoc hp)
      obtain ⟨⟨o, e, u, ml⟩, pA, pc⟩ := p
      simp only [Pm.v] at x0 x1 x2 x3 hk1 hk2 hrd hsz
      obtain ⟨M, hM⟩ : ∃ M, ml.length = M := ⟨_, rfl⟩
      rw [hM] at x3 hk1
      have HMM := Lib.hid hM
      have HRd := Lib.hid hrd
      have HSz := Lib.hid hsz
      have HC : Hid (∀ W, Below w.heap.size w W → W.cell? ⟨g, off + j * 4, none⟩ = some (.int .i64 o) ∧ W.cell? ⟨g, off + j * 4 + 1, none⟩ = some (.int .i64 e) ∧ W.cell? ⟨g, off + j * 4 + 2, none⟩ = some (.int .i64 u) ∧ W.cell? ⟨g, off + j * 4 + 3, none⟩ = some (.slice pA M pc)) := fun W hW => ⟨(hW.cell hg).trans x0, (hW.cell hg).trans x1, (hW.cell hg).trans x2, (hW.cell hg).trans x3⟩
      have hjn : (j : Int) < (N : Int) := by omega
      have hjn2 : ¬ ((N : Int) ≤ (j : Int)) := by omega
      have HLen : Hid ((P'.length + 1) * 48 ≤ 140737488355328) := by have := HL.out; show _ ≤ _; omega
      have HK1 := Lib.hid hk1
      clear hp x0 x1 x2 x3 hg hrd hsz hM hk1 hk2
      go_wp2
      have S0 : Below w.heap.size w wr.drew := HBr.out.drew
      refine wp_region_held_drew (S := fun W => Below w.heap.size w W) (by kernel_rfl) S0 (fun hHeld => ?_)
      refine wpAnyH_take (i := 0) (v := u3) rfl (by kernel_rfl) (by kernel_rfl) (by kernel_rfl) (fun _ _ _ h => h) (Or.inl ⟨by rfl, ?_⟩) (by first | assumption | exact trivial) ?_
      · intro W hSW; go_simp; try (with_reducible rfl)
      simp only [Act.put, List.getElem_toArray, List.getElem_cons_succ, List.getElem_cons_zero, List.setIfInBounds_toArray, List.set_cons_zero, List.set_cons_succ]
      refine wpAnyH_take (i := 1) (v := .slice (some ⟨g, off, none⟩) N c) rfl (by kernel_rfl) (by kernel_rfl) (by kernel_rfl) (fun _ _ _ h => h) (Or.inl ⟨by rfl, ?_⟩) (by first | assumption | exact trivial) ?_
      · intro W hSW; go_simp; try (with_reducible rfl)
      simp only [Act.put, List.getElem_toArray, List.getElem_cons_succ, List.getElem_cons_zero, List.setIfInBounds_toArray, List.set_cons_zero, List.set_cons_succ]
      refine wpAnyH_take (i := 2) (v := .int .i64 (j : Int)) rfl (by kernel_rfl) (by kernel_rfl) (by kernel_rfl) (fun _ _ _ h => h) (Or.inl ⟨by rfl, ?_⟩) (by first | assumption | exact trivial) ?_
      · intro W hSW; go_simp; try (with_reducible rfl)
      simp only [Act.put, List.getElem_toArray, List.getElem_cons_succ, List.getElem_cons_zero, List.setIfInBounds_toArray, List.set_cons_zero, List.set_cons_succ]
      refine wpAnyH_take (i := 3) (v := .pointer (some ⟨g, off + j * 4, none⟩)) rfl (by kernel_rfl) (by kernel_rfl) (by kernel_rfl) (fun _ _ _ h => h) (Or.inl ⟨by rfl, ?_⟩) (by first | assumption | exact trivial) ?_
      · intro W hSW; go_simp; try (with_reducible rfl)
      simp only [Act.put, List.getElem_toArray, List.getElem_cons_succ, List.getElem_cons_zero, List.setIfInBounds_toArray, List.set_cons_zero, List.set_cons_succ]
      refine wpAnyH_take (i := 4) (v := .pointer (some ⟨g, off + j * 4, none⟩)) rfl (by kernel_rfl) (by kernel_rfl) (by kernel_rfl) (fun _ _ _ h => h) (Or.inl ⟨by rfl, ?_⟩) (by first | assumption | exact trivial) ?_
      · intro W hSW; go_simp; try (with_reducible rfl)
      simp only [Act.put, List.getElem_toArray, List.getElem_cons_succ, List.getElem_cons_zero, List.setIfInBounds_toArray, List.set_cons_zero, List.set_cons_succ]
      refine wpAnyH_take (i := 5) (v := .int .i64 o) rfl (by kernel_rfl) (by kernel_rfl) (by kernel_rfl) (fun _ _ _ h => h) (Or.inl ⟨by rfl, ?_⟩) (by first | assumption | exact trivial) ?_
      · intro W hSW; obtain ⟨z0, z1, z2, z3⟩ := HC.out W hSW; go_simp; try (with_reducible rfl)
      simp only [Act.put, List.getElem_toArray, List.getElem_cons_succ, List.getElem_cons_zero, List.setIfInBounds_toArray, List.set_cons_zero, List.set_cons_succ]
      refine wpAnyH_take (i := 6) (v := .slice (some ⟨g, off, none⟩) N c) rfl (by kernel_rfl) (by kernel_rfl) (by kernel_rfl) (fun _ _ _ h => h) (Or.inl ⟨by rfl, ?_⟩) (by first | assumption | exact trivial) ?_
      · intro W hSW; go_simp; try (with_reducible rfl)
      simp only [Act.put, List.getElem_toArray, List.getElem_cons_succ, List.getElem_cons_zero, List.setIfInBounds_toArray, List.set_cons_zero, List.set_cons_succ]
      refine wpAnyH_take (i := 7) (v := .int .i64 (j : Int)) rfl (by kernel_rfl) (by kernel_rfl) (by kernel_rfl) (fun _ _ _ h => h) (Or.inl ⟨by rfl, ?_⟩) (by first | assumption | exact trivial) ?_
      · intro W hSW; go_simp; try (with_reducible rfl)
      simp only [Act.put, List.getElem_toArray, List.getElem_cons_succ, List.getElem_cons_zero, List.setIfInBounds_toArray, List.set_cons_zero, List.set_cons_succ]
      refine wpAnyH_take (i := 8) (v := .pointer (some ⟨g, off + j * 4, none⟩)) rfl (by kernel_rfl) (by kernel_rfl) (by kernel_rfl) (fun _ _ _ h => h) (Or.inl ⟨by rfl, ?_⟩) (by first | assumption | exact trivial) ?_
      · intro W hSW; go_simp; try (with_reducible rfl)
      simp only [Act.put, List.getElem_toArray, List.getElem_cons_succ, List.getElem_cons_zero, List.setIfInBounds_toArray, List.set_cons_zero, List.set_cons_succ]
      refine wpAnyH_take (i := 9) (v := .pointer (some ⟨g, off + j * 4 + 1, none⟩)) rfl (by kernel_rfl) (by kernel_rfl) (by kernel_rfl) (fun _ _ _ h => h) (Or.inl ⟨by rfl, ?_⟩) (by first | assumption | exact trivial) ?_
      · intro W hSW; go_simp; try (with_reducible rfl)
      simp only [Act.put, List.getElem_toArray, List.getElem_cons_succ, List.getElem_cons_zero, List.setIfInBounds_toArray, List.set_cons_zero, List.set_cons_succ]
      refine wpAnyH_take (i := 10) (v := .int .i64 e) rfl (by kernel_rfl) (by kernel_rfl) (by kernel_rfl) (fun _ _ _ h => h) (Or.inl ⟨by rfl, ?_⟩) (by first | assumption | exact trivial) ?_
      · intro W hSW; obtain ⟨z0, z1, z2, z3⟩ := HC.out W hSW; go_simp; try (with_reducible rfl)
      simp only [Act.put, List.getElem_toArray, List.getElem_cons_succ, List.getElem_cons_zero, List.setIfInBounds_toArray, List.set_cons_zero, List.set_cons_succ]
      refine wpAnyH_take (i := 11) (v := .slice (some ⟨g, off, none⟩) N c) rfl (by kernel_rfl) (by kernel_rfl) (by kernel_rfl) (fun _ _ _ h => h) (Or.inl ⟨by rfl, ?_⟩) (by first | assumption | exact trivial) ?_
      · intro W hSW; go_simp; try (with_reducible rfl)
      simp only [Act.put, List.getElem_toArray, List.getElem_cons_succ, List.getElem_cons_zero, List.setIfInBounds_toArray, List.set_cons_zero, List.set_cons_succ]
      refine wpAnyH_take (i := 12) (v := .int .i64 (j : Int)) rfl (by kernel_rfl) (by kernel_rfl) (by kernel_rfl) (fun _ _ _ h => h) (Or.inl ⟨by rfl, ?_⟩) (by first | assumption | exact trivial) ?_
      · intro W hSW; go_simp; try (with_reducible rfl)
      simp only [Act.put, List.getElem_toArray, List.getElem_cons_succ, List.getElem_cons_zero, List.setIfInBounds_toArray, List.set_cons_zero, List.set_cons_succ]
      refine wpAnyH_take (i := 13) (v := .pointer (some ⟨g, off + j * 4, none⟩)) rfl (by kernel_rfl) (by kernel_rfl) (by kernel_rfl) (fun _ _ _ h => h) (Or.inl ⟨by rfl, ?_⟩) (by first | assumption | exact trivial) ?_
      · intro W hSW; go_simp; try (with_reducible rfl)
      simp only [Act.put, List.getElem_toArray, List.getElem_cons_succ, List.getElem_cons_zero, List.setIfInBounds_toArray, List.set_cons_zero, List.set_cons_succ]
      refine wpAnyH_take (i := 14) (v := .pointer (some ⟨g, off + j * 4 + 2, none⟩)) rfl (by kernel_rfl) (by kernel_rfl) (by kernel_rfl) (fun _ _ _ h => h) (Or.inl ⟨by rfl, ?_⟩) (by first | assumption | exact trivial) ?_
      · intro W hSW; go_simp; try (with_reducible rfl)
      simp only [Act.put, List.getElem_toArray, List.getElem_cons_succ, List.getElem_cons_zero, List.setIfInBounds_toArray, List.set_cons_zero, List.set_cons_succ]
      refine wpAnyH_take (i := 15) (v := .int .i64 u) rfl (by kernel_rfl) (by kernel_rfl) (by kernel_rfl) (fun _ _ _ h => h) (Or.inl ⟨by rfl, ?_⟩) (by first | assumption | exact trivial) ?_
      · intro W hSW; obtain ⟨z0, z1, z2, z3⟩ := HC.out W hSW; go_simp; try (with_reducible rfl)
      simp only [Act.put, List.getElem_toArray, List.getElem_cons_succ, List.getElem_cons_zero, List.setIfInBounds_toArray, List.set_cons_zero, List.set_cons_succ]
      refine wpAnyH_take (i := 17) (v := .slice (some ⟨g, off, none⟩) N c) rfl (by kernel_rfl) (by kernel_rfl) (by kernel_rfl) (fun _ _ _ h => h) (Or.inl ⟨by rfl, ?_⟩) (by first | assumption | exact trivial) ?_
      · intro W hSW; go_simp; try (with_reducible rfl)
      simp only [Act.put, List.getElem_toArray, List.getElem_cons_succ, List.getElem_cons_zero, List.setIfInBounds_toArray, List.set_cons_zero, List.set_cons_succ]
      refine wpAnyH_take (i := 18) (v := .int .i64 (j : Int)) rfl (by kernel_rfl) (by kernel_rfl) (by kernel_rfl) (fun _ _ _ h => h) (Or.inl ⟨by rfl, ?_⟩) (by first | assumption | exact trivial) ?_
      · intro W hSW; go_simp; try (with_reducible rfl)
      simp only [Act.put, List.getElem_toArray, List.getElem_cons_succ, List.getElem_cons_zero, List.setIfInBounds_toArray, List.set_cons_zero, List.set_cons_succ]
      refine wpAnyH_take (i := 19) (v := .pointer (some ⟨g, off + j * 4, none⟩)) rfl (by kernel_rfl) (by kernel_rfl) (by kernel_rfl) (fun _ _ _ h => h) (Or.inl ⟨by rfl, ?_⟩) (by first | assumption | exact trivial) ?_
      · intro W hSW; go_simp; try (with_reducible rfl)
      simp only [Act.put, List.getElem_toArray, List.getElem_cons_succ, List.getElem_cons_zero, List.setIfInBounds_toArray, List.set_cons_zero, List.set_cons_succ]
      refine wpAnyH_take (i := 20) (v := .pointer (some ⟨g, off + j * 4 + 3, none⟩)) rfl (by kernel_rfl) (by kernel_rfl) (by kernel_rfl) (fun _ _ _ h => h) (Or.inl ⟨by rfl, ?_⟩) (by first | assumption | exact trivial) ?_
      · intro W hSW; go_simp; try (with_reducible rfl)
      simp only [Act.put, List.getElem_toArray, List.getElem_cons_succ, List.getElem_cons_zero, List.setIfInBounds_toArray, List.set_cons_zero, List.set_cons_succ]
      refine wpAnyH_take (i := 21) (v := .slice pA M pc) rfl (by kernel_rfl) (by kernel_rfl) (by kernel_rfl) (fun _ _ _ h => h) (Or.inl ⟨by rfl, ?_⟩) (by first | assumption | exact trivial) ?_
      · intro W hSW; obtain ⟨z0, z1, z2, z3⟩ := HC.out W hSW; go_simp; try (with_reducible rfl)
      simp only [Act.put, List.getElem_toArray, List.getElem_cons_succ, List.getElem_cons_zero, List.setIfInBounds_toArray, List.set_cons_zero, List.set_cons_succ]
      refine wpAnyH_ready (rs := [16]) (by kernel_rfl) (by simp) ?_
      refine AllReadyH.cons rfl (fun K hK => ?_) AllReadyH.nil
      go_simp
      obtain ⟨W1, hW1⟩ : ∃ V, (wr.alloc (.cells #[] 3)).drew = V := ⟨_, rfl⟩
      have hb1 : Below wr.heap.size wr W1 := by rw [← hW1]; exact (Me.below_alloc (Below.refl _ _)).drew
      have ho1 : Mi.Own W1 wr.heap.size (.slice (some ⟨wr.heap.size, 0, none⟩) 0 0) [] := by
        rw [← hW1]
        exact (Mi.Own.lit (Below.refl wr.heap.size wr)).below (Below.refl _ _).drew
      rw [hW1]
      clear hW1
      have S1 : Below w.heap.size w W1 := go_on HBr.out hb1
      refine hK.out _ _ (S1) (fun hHeld => ?_)
      clear hK K
      refine wpAnyH_ready (rs := [22]) (by kernel_rfl) (by simp) ?_
      refine AllReadyH.cons rfl (fun K hK => ?_) AllReadyH.nil
      rw [if_pos (by kernel_rfl)]
      refine appIntsW (.tmp 28) (.tmp 33) rfl wr.heap.size w.heap.size _ [] ml rfl ho1 pA M pc HMM.out.symm rfl (HRd.out.below S1) HSz.out.2 (by have h1 := HSz.out.1; have h2 := HK1.out; have h3 := HMM.out; simp; omega) hb1.size ?_
      intro v2 W2 ho2 hg2 hk2
      simp only [Act.put, List.getElem_toArray, List.getElem_cons_succ, List.getElem_cons_zero, List.setIfInBounds_toArray, List.set_cons_zero, List.set_cons_succ]
      rw [List.nil_append] at ho2
      have hb2 : Below wr.heap.size wr W2 := hb1.grown hg2 hb1.size hk2
      obtain ⟨Ac, cc, rfl, _⟩ := Mi.Own.form ho2
      rw [HMM.out] at ho2 ⊢
      have S2 : Below w.heap.size w W2 := go_on HBr.out hb2
      refine hK.out _ _ (S2) (fun hHeld => ?_)
      clear hK K
      refine wpAnyH_take (i := 23) (v := .agg #[.int .i64 o, .int .i64 e, .int .i64 u, .slice Ac M cc]) rfl (by kernel_rfl) (by kernel_rfl) (by kernel_rfl) (fun _ _ _ h => h) (Or.inl ⟨by rfl, ?_⟩) (by first | assumption | exact trivial) ?_
      · intro W hSW; go_simp; try (with_reducible rfl)
      simp only [Act.put, List.getElem_toArray, List.getElem_cons_succ, List.getElem_cons_zero, List.setIfInBounds_toArray, List.set_cons_zero, List.set_cons_succ]
      refine wpAnyH_ready (rs := [24]) (by kernel_rfl) (by simp) ?_
      refine AllReadyH.cons rfl (fun K hK => ?_) AllReadyH.nil
      go_simp
      obtain ⟨W3, hW3⟩ : ∃ V, W2.alloc (.cells #[.int .i64 o, .int .i64 e, .int .i64 u, .slice Ac M cc] 112) = V := ⟨_, rfl⟩
      have hb3 : Below W2.heap.size W2 W3 := by rw [← hW3]; exact Me.below_alloc (Below.refl _ _)
      have hz3 : W3.heap[W2.heap.size]? = some (.cells #[.int .i64 o, .int .i64 e, .int .i64 u, .slice Ac M cc] 112 (0, 0)) := by rw [← hW3]; exact heap_alloc_new W2 _
      rw [hW3]
      clear hW3
      have S3 : Below w.heap.size w W3 := go_on S2 hb3
      have hM3 := (HM.out.below hb2).below hb3
      have ho3 : Mi.Own W3 w.heap.size (.slice Ac M cc) ml := (ho2.below hb3).base fun k hk => Nat.le_trans HBr.out.size ((ho2.below hb3).lt k hk).1
      refine hK.out _ _ (S3) (fun hHeld => ?_)
      clear hK K
      refine wpAnyH_ready (rs := [25]) (by kernel_rfl) (by simp) ?_
      refine AllReadyH.cons rfl (fun K hK => ?_) AllReadyH.nil
      rw [if_pos (by kernel_rfl)]
      refine appMwB (.tmp 12) (.tmp 36) rfl w.heap.size u3 P' ⟨⟨o, e, u, ml⟩, Ac, cc⟩ W2.heap.size rfl hM3 (by show Mi.Own W3 _ (.slice Ac ml.length cc) ml; rw [HMM.out]; exact ho3) rfl (fun j' u' hj' => ?_) HLen.out S3.size ?_
      · rw [cell_of_row W3 W2.heap.size j' _ _ (0, 0) hz3]
        have e9 : pV ⟨⟨o, e, u, ml⟩, Ac, cc⟩ = [.int .i64 o, .int .i64 e, .int .i64 u, .slice Ac M cc] := by simp only [pV, Pm.v, HMM.out]
        rw [e9] at hj'
        simpa using hj'
      intro v7 W7 hM7 hg7 hk7
      simp only [Act.put, List.getElem_toArray, List.getElem_cons_succ, List.getElem_cons_zero, List.setIfInBounds_toArray, List.set_cons_zero, List.set_cons_succ]
      have S7 : Below w.heap.size w W7 := S3.grown hg7 S3.size hk7
      refine hK.out _ _ (S7) (fun hHeld => ?_)
      clear hK K
      refine wpAnyH_take (i := 26) (v := v7) rfl (by kernel_rfl) (by kernel_rfl) (by kernel_rfl) (fun _ _ _ h => h) (Or.inl ⟨by rfl, ?_⟩) (by first | assumption | exact trivial) ?_
      · intro W hSW; go_simp; try (with_reducible rfl)
      simp only [Act.put, List.getElem_toArray, List.getElem_cons_succ, List.getElem_cons_zero, List.setIfInBounds_toArray, List.set_cons_zero, List.set_cons_succ]
      refine wpAnyH_done (by kernel_rfl) ?_ _
      have HM7 := Lib.hid hM7
      have HB7 : Hid (Below w.heap.size w W7) := S7
      clear hHeld S0 S1 S2 S3 S7 hM7 hg7 hk7 hM3 ho3 hb3 hz3 hb2 hb1 ho1 ho2 hg2 hk2
      go_wp2
      go_roundw
      case rel =>
        refine ⟨j + 1, P' ++ [⟨⟨o, e, u, ml⟩, Ac, cc⟩], hlt, by go_num, HM7, ?_, ?_, HB7⟩
        · show _ = _
          rw [List.map_append, HP.out, HTK.out, List.map_append]
          rfl
        · show _ = _
          rw [List.length_append, HL.out]; rfl
      case measure => simp [intOf]; omega
    · obtain rfl : j = N := by omega
      have g1 : ¬ (j : Int) < (j : Int) := by omega
      go_wp2
      go_ret
      refine ⟨_, rfl, P', HM.out, ?_, HBr.out⟩
      show _ = _
      rw [HP.out, List.take_of_length_le (by have := HN.out; omega)]
end Go.Proofs.YtfnlhfelpdkieaaGreat.Se
/- The document's copy of a state. -/
namespace Go.Proofs.YtfnlhfelpdkieaaGreat.So
open Go.RowKit Go.Deep
open Go.Proofs.YtfnlhfelpdkieaaGreat.Me Go.Proofs.YtfnlhfelpdkieaaGreat.Sb
set_option linter.unusedVariables false
set_option linter.unusedSimpArgs false

/-- One message appended, as one operation; the bound in bytes. -/
theorem appMsgB {w : World} {o : Oper} {a : Act} {K : Act → World → Prop} {Q : Exit → Act → World → Prop} (s x : Operand)
    (ho : o.op = .call { callee := .builtin .append, args := #[s, x], argTypes := #[32, 32] })
    (B : Nat) (v : Value) (P : List Pq) (p : Pq) (gx : Nat) (hs : a.eval s = v) (hown : Ow w B v P) (hp : Me.Own w B p.v p.x.p) (hx : a.eval x = .slice (some ⟨gx, 0, none⟩) 1 1) (hz : ∀ j u, (qV p)[j]? = some u → w.cell? ⟨gx, j, none⟩ = some u) (hlen : (P.length + 1) * 56 ≤ 140737488355328) (hB : B ≤ w.heap.size)
    (h : ∀ v' w', Ow w' B v' (P ++ [p]) → w.grownBy w' v.ownBlock → (∀ k, v.ownBlock = some k → B ≤ k) → K (a.put o.dst v') w') : o.wp Tryz.prog a w K Q := by
  obtain ⟨i0, hi, hz0, hz1, hz2⟩ := info_parts infoMsg
  have hnews : ∀ j u, (qV p)[j]? = some u → w.cell? ((⟨gx, 0, none⟩ : Addr).add j) = some u := by
    intro j u hj
    rw [add_mk, Nat.zero_add]
    exact hz j u hj
  obtain ⟨v', w', hr, h2, h3, h4⟩ := run_append_own_at (P := Tryz.prog) w B 32 o.type 46 i0 (.agg #[.int .i64 0, .int .i64 0, .int .i64 0, .int .i64 0, .slice none 0 0]) 5 56 Tryz.underlying32 hi hz0 hz1 hz2 rfl (by decide) v P.length (qsV P) hown.own ⟨gx, 0, none⟩ 1 1 (qV p) rfl hnews (by simp [qV, Pq.v, Value.oneCell']) (by unfold maxLen; omega) (by omega) hB
  unfold Oper.wp execOp
  simp only [ho, resolve, invoke, builtin, Sem.run_bind, Sem.run_pure, Result.andThen_ok, List.map_toArray, List.map_cons, List.map_nil, hs, hx, hr]
  have hk : ∀ q : Pq, Me.Own w B q.v q.x.p → Me.Own w' B q.v q.x.p := fun q hq => own_same hq fun k e hk => h3.block k hk fun e' => two_ty hq hown.own (by decide) k e e'.symm
  refine h v' w' ⟨?_, fun q hq => ?_⟩ h3 fun k hk => (hown.own.lt k hk).1
  · rw [List.length_append, qsV_snoc]; exact h2
  · rcases List.mem_append.1 hq with hq | hq
    · exact hk q (hown.each q hq)
    · obtain rfl : q = p := by simpa using hq
      exact hk q hp

/-- A list of counters appended to none of one's own, as one operation. -/
theorem appNxAll {w : World} {o : Oper} {a : Act} {K : Act → World → Prop} {Q : Exit → Act → World → Prop} (s x : Operand)
    (ho : o.op = .call { callee := .builtin .append, args := #[s, x], argTypes := #[31, 31] })
    (B : Nat) (v : Value) (P : Nx) (hs : a.eval s = v) (hown : Kn w B v []) (A : Option Addr) (n c : Nat) (hn : n = P.length) (hx : a.eval x = .slice A n c) (hr : Nq w A P) (hA : A = none → P.length = 0 ∧ c = 0) (hlen : P.length * 16 ≤ 140737488355328) (hB : B ≤ w.heap.size)
    (h : ∀ v' w', Kn w' B v' P → w.grownBy w' v.ownBlock → (∀ k, v.ownBlock = some k → B ≤ k) → K (a.put o.dst v') w') : o.wp Tryz.prog a w K Q := by
  obtain ⟨i0, hi, hz0, hz1, hz2⟩ := info_parts infoNx
  subst hn
  have hlt : ∀ k, v.ownBlock = some k → B ≤ k := fun k hk => (World.ownsRow.lt hown k hk).1
  rcases A with _ | ad
  · obtain ⟨h1, rfl⟩ := hA rfl
    obtain rfl : P = [] := List.eq_nil_of_length_eq_zero h1
    have hrun := run_append_owned_none (P := Tryz.prog) (w := w) B 31 o.type 62 i0 2 Tryz.underlying31 hi v 0 [] hown
    unfold Oper.wp
    simp only [List.length_nil] at hx
    simp [execOp, ho, resolve, invoke, builtin, hs, hx, hrun, Result.andThen]
    exact h v w hown ⟨rfl, rfl, rfl, Nat.le_refl _, fun _ _ _ => rfl⟩ hlt
  · have hcells : ∀ j u, (nsV P)[j]? = some u → w.cell? (ad.add j) = some u := fun j u hj => by
      have hjl : j < P.length * 2 := by rw [← nsV_len]; exact (List.getElem?_eq_some_iff.1 hj).1
      obtain ⟨p, hp⟩ : ∃ p, P[j / 2]? = some p := ⟨_, List.getElem?_eq_getElem (by omega)⟩
      obtain ⟨g, off, e, _, c0, c1⟩ := hr (j / 2) p hp
      obtain rfl : ad = ⟨g, off, none⟩ := Option.some.inj e
      rw [add_mk]
      by_cases h0 : j % 2 = 0
      · have ej : j = j / 2 * 2 + 0 := by omega
        rw [ej, nsV_get hp (by omega)] at hj
        have : u = .int .i64 p.1 := by simpa [nV] using hj.symm
        rw [this, show off + j = off + j / 2 * 2 by omega]
        exact c0
      · have ej : j = j / 2 * 2 + 1 := by omega
        rw [ej, nsV_get hp (by omega)] at hj
        have : u = .int .i64 p.2 := by simpa [nV] using hj.symm
        rw [this, show off + j = off + j / 2 * 2 + 1 by omega]
        exact c1
    have hone : ∀ u ∈ nsV P, u.oneCell' = true := fun u hu => by
      unfold nsV at hu
      obtain ⟨p, _, hu⟩ := List.mem_flatMap.1 hu
      simp [nV] at hu
      rcases hu with rfl | rfl <;> rfl
    obtain ⟨v', w', hr', h2, h3, h4⟩ := run_append_own_at (P := Tryz.prog) w B 31 o.type 62 i0 (.agg #[.int .i64 0, .int .i64 0]) 2 16 Tryz.underlying31 hi hz0 hz1 hz2 rfl (by decide) v 0 [] hown ad P.length c (nsV P) (by rw [nsV_len]) hcells hone (by unfold maxLen; omega) (by omega) hB
    unfold Oper.wp execOp
    simp only [ho, resolve, invoke, builtin, Sem.run_bind, Sem.run_pure, Result.andThen_ok, List.map_toArray, List.map_cons, List.map_nil, hs, hx, hr']
    refine h v' w' ?_ h3 hlt
    unfold Kn
    rw [Nat.zero_add, List.nil_append] at h2
    exact h2
set_option maxRecDepth 100000 in
set_option maxHeartbeats 16000000 in
theorem CopyMsgs_any (A : Option Addr) (c : Nat) (H : List It) (w : World) (hv : Hid (Mq w A H)) (hc : H.length ≤ c) (hcap : c * 56 ≤ 140737488351232) (hb : Hid (∀ x ∈ H, x.p.length ≤ 140737488351232)) : Calls Tryz.prog 51 #[.slice A H.length c] w fun e w' => ∃ v' P', e = .returned v' ∧ Hid (Ow w' w.heap.size v' P') ∧ Hid (P'.map Pq.x = H) ∧ Hid (Below w.heap.size w w') := by
  obtain ⟨N, hN⟩ : ∃ N, H.length = N := ⟨_, rfl⟩
  rw [hN] at hc ⊢
  have HN := Lib.hid hN
  have HL0 : Hid (Ow (w.alloc (.cells #[] 46)) w.heap.size (.slice (some ⟨w.heap.size, 0, none⟩) 0 0) []) := Ow.lit (Nat.le_refl _)
  have HB0 : Hid (Below w.heap.size w (w.alloc (.cells #[] 46))) := Me.below_alloc (Below.refl _ _)
  clear hN
  go_enter Tryz.func51, Tryz.ntmps51
  go_wp2
  go_loopw [3, 4] (fun v3 v4 wr => ∃ (j : Nat) (P' : List Pq), j ≤ N ∧ v4 = .int .i64 (j : Int) ∧ Hid (Ow wr w.heap.size v3 P') ∧ Hid (P'.map Pq.x = H.take j) ∧ Hid (P'.length = j) ∧ Hid (Below w.heap.size w wr)) (fun _ v4 _ => N - (intOf v4).toNat)
  case atStart => exact ⟨0, [], by omega, rfl, HL0.out, (by show _ = _; simp), rfl, HB0.out⟩
  case round =>
    obtain ⟨j, P', hj, rfl, HM, HP, HL, HBr⟩ := hrel
    by_cases hlt : j < N
    · obtain ⟨x, hp⟩ : ∃ p, H[j]? = some p := ⟨_, List.getElem?_eq_getElem (by have := HN.out; omega)⟩
      obtain ⟨g, off, R, cr, rfl, hg, ⟨x0, x1, x2, x3, x4⟩, hrd, hnil, hk1, hk2⟩ := hv.out j x hp
      have hsz := hb.out x (List.mem_of_getElem? hp)
      have HTK : Hid (H.take (j + 1) = H.take j ++ [x]) := by show _ = _; rw [List.take_add_one, hp]; rfl
      obtain ⟨⟨oo, d, ee, cc⟩, p⟩ := x
      simp only at x0 x1 x2 x3 x4 hk1 hrd hsz hnil
      obtain ⟨M, hM⟩ : ∃ M, p.length = M := ⟨_, rfl⟩
      have HLT : Hid (∀ z ∈ p, z < 256) := hrd.1
      rw [hM] at x4 hk1
      have HMM := Lib.hid hM
      have HRd := Lib.hid hrd
      have HNil := Lib.hid hnil
      have HSz := Lib.hid hsz
      have HC : Hid (∀ W, Below w.heap.size w W → W.cell? ⟨g, off + j * 5, none⟩ = some (.int .i64 oo) ∧ W.cell? ⟨g, off + j * 5 + 1, none⟩ = some (.int .i64 d) ∧ W.cell? ⟨g, off + j * 5 + 2, none⟩ = some (.int .i64 ee) ∧ W.cell? ⟨g, off + j * 5 + 3, none⟩ = some (.int .i64 cc) ∧ W.cell? ⟨g, off + j * 5 + 4, none⟩ = some (.slice R M cr)) := fun W hW => ⟨(hW.cell (p := ⟨g, off + j * 5, none⟩) hg).trans x0, (hW.cell (p := ⟨g, off + j * 5 + 1, none⟩) hg).trans x1, (hW.cell (p := ⟨g, off + j * 5 + 2, none⟩) hg).trans x2, (hW.cell (p := ⟨g, off + j * 5 + 3, none⟩) hg).trans x3, (hW.cell (p := ⟨g, off + j * 5 + 4, none⟩) hg).trans x4⟩
      have hjn : (j : Int) < (N : Int) := by omega
      have hjn2 : ¬ ((N : Int) ≤ (j : Int)) := by omega
      have hjn3 : (j : Int) ≤ 9223372036854775806 := by omega
      have HLen : Hid ((P'.length + 1) * 56 ≤ 140737488355328) := by have := HL.out; show _ ≤ _; omega
      clear hp x0 x1 x2 x3 x4 hg hrd hsz hM hk1 hk2 hnil
      go_wp2
      have S0 : Below w.heap.size w wr.drew := HBr.out.drew
      refine wp_region_held_drew (S := fun W => Below w.heap.size w W) (by kernel_rfl) S0 (fun hHeld => ?_)
      refine wpAnyH_take (i := 0) (v := u3) rfl (by kernel_rfl) (by kernel_rfl) (by kernel_rfl) (fun _ _ _ h => h) (Or.inl ⟨by rfl, ?_⟩) (by first | assumption | exact trivial) ?_
      · intro W hSW; go_simp; try (with_reducible rfl)
      simp only [Act.put, List.getElem_toArray, List.getElem_cons_succ, List.getElem_cons_zero, List.setIfInBounds_toArray, List.set_cons_zero, List.set_cons_succ]
      refine wpAnyH_take (i := 1) (v := .slice (some ⟨g, off, none⟩) N c) rfl (by kernel_rfl) (by kernel_rfl) (by kernel_rfl) (fun _ _ _ h => h) (Or.inl ⟨by rfl, ?_⟩) (by first | assumption | exact trivial) ?_
      · intro W hSW; go_simp; try (with_reducible rfl)
      simp only [Act.put, List.getElem_toArray, List.getElem_cons_succ, List.getElem_cons_zero, List.setIfInBounds_toArray, List.set_cons_zero, List.set_cons_succ]
      refine wpAnyH_take (i := 2) (v := .int .i64 (j : Int)) rfl (by kernel_rfl) (by kernel_rfl) (by kernel_rfl) (fun _ _ _ h => h) (Or.inl ⟨by rfl, ?_⟩) (by first | assumption | exact trivial) ?_
      · intro W hSW; go_simp; try (with_reducible rfl)
      simp only [Act.put, List.getElem_toArray, List.getElem_cons_succ, List.getElem_cons_zero, List.setIfInBounds_toArray, List.set_cons_zero, List.set_cons_succ]
      refine wpAnyH_take (i := 3) (v := .pointer (some ⟨g, off + j * 5, none⟩)) rfl (by kernel_rfl) (by kernel_rfl) (by kernel_rfl) (fun _ _ _ h => h) (Or.inl ⟨by rfl, ?_⟩) (by first | assumption | exact trivial) ?_
      · intro W hSW; go_simp; try (with_reducible rfl)
      simp only [Act.put, List.getElem_toArray, List.getElem_cons_succ, List.getElem_cons_zero, List.setIfInBounds_toArray, List.set_cons_zero, List.set_cons_succ]
      refine wpAnyH_take (i := 4) (v := .pointer (some ⟨g, off + j * 5, none⟩)) rfl (by kernel_rfl) (by kernel_rfl) (by kernel_rfl) (fun _ _ _ h => h) (Or.inl ⟨by rfl, ?_⟩) (by first | assumption | exact trivial) ?_
      · intro W hSW; go_simp; try (with_reducible rfl)
      simp only [Act.put, List.getElem_toArray, List.getElem_cons_succ, List.getElem_cons_zero, List.setIfInBounds_toArray, List.set_cons_zero, List.set_cons_succ]
      refine wpAnyH_take (i := 5) (v := .agg #[.int .i64 oo, .int .i64 d, .int .i64 ee, .int .i64 cc]) rfl (by kernel_rfl) (by kernel_rfl) (by kernel_rfl) (fun _ _ _ h => h) (Or.inl ⟨by rfl, ?_⟩) (by first | assumption | exact trivial) ?_
      · intro W hSW; obtain ⟨z0, z1, z2, z3, z4⟩ := HC.out W hSW; go_simp; try (with_reducible rfl)
      simp only [Act.put, List.getElem_toArray, List.getElem_cons_succ, List.getElem_cons_zero, List.setIfInBounds_toArray, List.set_cons_zero, List.set_cons_succ]
      refine wpAnyH_take (i := 7) (v := .slice (some ⟨g, off, none⟩) N c) rfl (by kernel_rfl) (by kernel_rfl) (by kernel_rfl) (fun _ _ _ h => h) (Or.inl ⟨by rfl, ?_⟩) (by first | assumption | exact trivial) ?_
      · intro W hSW; go_simp; try (with_reducible rfl)
      simp only [Act.put, List.getElem_toArray, List.getElem_cons_succ, List.getElem_cons_zero, List.setIfInBounds_toArray, List.set_cons_zero, List.set_cons_succ]
      refine wpAnyH_take (i := 8) (v := .int .i64 (j : Int)) rfl (by kernel_rfl) (by kernel_rfl) (by kernel_rfl) (fun _ _ _ h => h) (Or.inl ⟨by rfl, ?_⟩) (by first | assumption | exact trivial) ?_
      · intro W hSW; go_simp; try (with_reducible rfl)
      simp only [Act.put, List.getElem_toArray, List.getElem_cons_succ, List.getElem_cons_zero, List.setIfInBounds_toArray, List.set_cons_zero, List.set_cons_succ]
      refine wpAnyH_take (i := 9) (v := .pointer (some ⟨g, off + j * 5, none⟩)) rfl (by kernel_rfl) (by kernel_rfl) (by kernel_rfl) (fun _ _ _ h => h) (Or.inl ⟨by rfl, ?_⟩) (by first | assumption | exact trivial) ?_
      · intro W hSW; go_simp; try (with_reducible rfl)
      simp only [Act.put, List.getElem_toArray, List.getElem_cons_succ, List.getElem_cons_zero, List.setIfInBounds_toArray, List.set_cons_zero, List.set_cons_succ]
      refine wpAnyH_take (i := 10) (v := .pointer (some ⟨g, off + j * 5 + 4, none⟩)) rfl (by kernel_rfl) (by kernel_rfl) (by kernel_rfl) (fun _ _ _ h => h) (Or.inl ⟨by rfl, ?_⟩) (by first | assumption | exact trivial) ?_
      · intro W hSW; go_simp; try (with_reducible rfl)
      simp only [Act.put, List.getElem_toArray, List.getElem_cons_succ, List.getElem_cons_zero, List.setIfInBounds_toArray, List.set_cons_zero, List.set_cons_succ]
      refine wpAnyH_take (i := 11) (v := .slice R M cr) rfl (by kernel_rfl) (by kernel_rfl) (by kernel_rfl) (fun _ _ _ h => h) (Or.inl ⟨by rfl, ?_⟩) (by first | assumption | exact trivial) ?_
      · intro W hSW; obtain ⟨z0, z1, z2, z3, z4⟩ := HC.out W hSW; go_simp; try (with_reducible rfl)
      simp only [Act.put, List.getElem_toArray, List.getElem_cons_succ, List.getElem_cons_zero, List.setIfInBounds_toArray, List.set_cons_zero, List.set_cons_succ]
      refine wpAnyH_ready (rs := [6]) (by kernel_rfl) (by simp) ?_
      refine AllReadyH.cons rfl (fun K hK => ?_) AllReadyH.nil
      go_simp
      obtain ⟨W1, hW1⟩ : ∃ V, (wr.alloc (.cells #[] 5)).drew = V := ⟨_, rfl⟩
      have hb1 : Below wr.heap.size wr W1 := by rw [← hW1]; exact (Me.below_alloc (Below.refl _ _)).drew
      have ho1 : Me.Own W1 wr.heap.size (.slice (some ⟨wr.heap.size, 0, none⟩) 0 0) [] := by rw [← hW1]; exact Own.lit (Below.refl _ _)
      rw [hW1]
      clear hW1
      have S1 : Below w.heap.size w W1 := go_on HBr.out hb1
      refine hK.out _ _ (S1) (fun hHeld => ?_)
      clear hK K
      refine wpAnyH_ready (rs := [12]) (by kernel_rfl) (by simp) ?_
      refine AllReadyH.cons rfl (fun K hK => ?_) AllReadyH.nil
      rw [if_pos (by kernel_rfl)]
      refine Mg.app8b (.tmp 18) (.tmp 23) rfl wr.heap.size w.heap.size _ [] p rfl ho1 hb1 hb1.size R cr (by rw [HMM.out]; rfl) (HRd.out.below S1) HNil.out (by have := HSz.out; show 0 + _ ≤ _; omega) ?_
      intro v2 W2 ho2 hb2 _
      rw [List.nil_append] at ho2
      obtain ⟨Ac, cq, rfl, p1, p2, _⟩ := ho2.held HLT.out
      rw [HMM.out] at ho2 p1 ⊢
      simp only [Act.put, List.getElem_toArray, List.getElem_cons_succ, List.getElem_cons_zero, List.setIfInBounds_toArray, List.set_cons_zero, List.set_cons_succ]
      have S2 : Below w.heap.size w W2 := go_on HBr.out hb2
      refine hK.out _ _ (S2) (fun hHeld => ?_)
      clear hK K
      refine wpAnyH_take (i := 13) (v := .agg #[.int .i64 oo, .int .i64 d, .int .i64 ee, .int .i64 cc, .slice Ac M cq]) rfl (by kernel_rfl) (by kernel_rfl) (by kernel_rfl) (fun _ _ _ h => h) (Or.inl ⟨by rfl, ?_⟩) (by first | assumption | exact trivial) ?_
      · intro W hSW; go_simp; try (with_reducible rfl)
      simp only [Act.put, List.getElem_toArray, List.getElem_cons_succ, List.getElem_cons_zero, List.setIfInBounds_toArray, List.set_cons_zero, List.set_cons_succ]
      refine wpAnyH_ready (rs := [14]) (by kernel_rfl) (by simp) ?_
      refine AllReadyH.cons rfl (fun K hK => ?_) AllReadyH.nil
      go_simp
      obtain ⟨W3, hW3⟩ : ∃ V, W2.alloc (.cells #[.int .i64 oo, .int .i64 d, .int .i64 ee, .int .i64 cc, .slice Ac M cq] 46) = V := ⟨_, rfl⟩
      have hb3 : Below W2.heap.size W2 W3 := by rw [← hW3]; exact Me.below_alloc (Below.refl _ _)
      have hz3 : W3.heap[W2.heap.size]? = some (.cells #[.int .i64 oo, .int .i64 d, .int .i64 ee, .int .i64 cc, .slice Ac M cq] 46 (0, 0)) := by rw [← hW3]; exact heap_alloc_new W2 _
      rw [hW3]
      clear hW3
      have S3 : Below w.heap.size w W3 := go_on S2 hb3
      have hM3 := (HM.out.below hb2).below hb3
      have ho3 : Me.Own W3 w.heap.size (.slice Ac M cq) p := own_base (own_same ho2 fun k _ hk => hb3.block k hk) fun k hk => by have := (World.ownsRow.lt ho2 k hk).1; have := HBr.out.size; omega
      refine hK.out _ _ (S3) (fun hHeld => ?_)
      clear hK K
      refine wpAnyH_ready (rs := [15]) (by kernel_rfl) (by simp) ?_
      refine AllReadyH.cons rfl (fun K hK => ?_) AllReadyH.nil
      rw [if_pos (by kernel_rfl)]
      refine appMsgB (.tmp 12) (.tmp 26) rfl w.heap.size u3 P' ⟨⟨⟨oo, d, ee, cc⟩, p⟩, Ac, cq⟩ W2.heap.size rfl hM3 (by show Me.Own W3 _ (.slice Ac p.length cq) p; rw [HMM.out]; exact ho3) rfl (fun j' u' hj' => ?_) HLen.out S3.size ?_
      · rw [cell_of_row W3 W2.heap.size j' _ _ (0, 0) hz3]
        have e9 : qV ⟨⟨⟨oo, d, ee, cc⟩, p⟩, Ac, cq⟩ = [.int .i64 oo, .int .i64 d, .int .i64 ee, .int .i64 cc, .slice Ac M cq] := by simp only [qV, Pq.v, HMM.out]
        rw [e9] at hj'
        simpa using hj'
      intro v7 W7 hM7 hg7 hk7
      simp only [Act.put, List.getElem_toArray, List.getElem_cons_succ, List.getElem_cons_zero, List.setIfInBounds_toArray, List.set_cons_zero, List.set_cons_succ]
      have S7 : Below w.heap.size w W7 := S3.grown hg7 S3.size hk7
      refine hK.out _ _ (S7) (fun hHeld => ?_)
      clear hK K
      refine wpAnyH_take (i := 16) (v := v7) rfl (by kernel_rfl) (by kernel_rfl) (by kernel_rfl) (fun _ _ _ h => h) (Or.inl ⟨by rfl, ?_⟩) (by first | assumption | exact trivial) ?_
      · intro W hSW; go_simp; try (with_reducible rfl)
      simp only [Act.put, List.getElem_toArray, List.getElem_cons_succ, List.getElem_cons_zero, List.setIfInBounds_toArray, List.set_cons_zero, List.set_cons_succ]
      refine wpAnyH_done (by kernel_rfl) ?_ _
      have HM7 := Lib.hid hM7
      have HB7 : Hid (Below w.heap.size w W7) := S7
      clear hHeld S0 S1 S2 S3 S7 hM7 hg7 hk7 hM3 ho3 hb3 hz3 hb2 hb1 ho1 ho2
      go_wp2
      go_roundw
      case rel =>
        refine ⟨j + 1, P' ++ [⟨⟨⟨oo, d, ee, cc⟩, p⟩, Ac, cq⟩], hlt, by go_num, HM7, ?_, ?_, HB7⟩
        · show _ = _
          rw [List.map_append, HP.out, HTK.out]
          rfl
        · show _ = _
          rw [List.length_append, HL.out]; rfl
      case measure => simp [intOf]; omega
    · obtain rfl : j = N := by omega
      have g1 : ¬ (j : Int) < (j : Int) := by omega
      go_wp2
      go_ret
      refine ⟨_, rfl, P', HM, ?_, HBr⟩
      show _ = _
      rw [HP.out, List.take_of_length_le (by have := HN.out; omega)]
end Go.Proofs.YtfnlhfelpdkieaaGreat.So
