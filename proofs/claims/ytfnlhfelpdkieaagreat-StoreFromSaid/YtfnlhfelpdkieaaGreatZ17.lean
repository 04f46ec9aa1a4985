/- A message is put down: hold, use. -/
import Derived.Test.YtfnlhfelpdkieaaGreatZ15
import Derived.Test.YtfnlhfelpdkieaaGreatZ1
namespace Go.Proofs.YtfnlhfelpdkieaaGreat.So
open Go.RowKit
open Go.Proofs.YtfnlhfelpdkieaaGreat.Me Go.Proofs.YtfnlhfelpdkieaaGreat.Sb
set_option linter.unusedVariables false
set_option linter.unusedSimpArgs false

/-- Only the block itself was turned. -/
theorem Sq.only {E : Nat → Prop} {w w' : World} {D hb sd sb m : Nat} {v : Value} {s s' : Sto} (h : Sq E w D hb sd sb m v s) (hb' : But (fun k => k = D) w w') (e1 : s'.held = s.held) (e2 : s'.seen = s.seen) (hbox : Box w' D s' hb sd v (bytesOf s'.held)) (hok : Ok s') : Sq E w' D hb sd sb m v s' := by
  obtain ⟨a1, a2, a3, a4, a5, a6, a7⟩ := h.apart
  have hi : Se.IntsF E w w' := Se.IntsF.but hb' fun k cs _ hk e => by subst e; exact (h.no8 (.inl rfl) cs).2 hk
  have hu : U8s E w w' := U8s.but hb' fun k cs _ hk e => by subst e; exact (h.no8 (.inl rfl) cs).1 hk
  refine ⟨hbox, ?_, ?_, ?_, hok, h.ne⟩
  · rw [e1]; exact h.map.keep (hb'.same hb h.map.lt a1.symm) hu fun _ _ h => h
  · rw [e1]; exact ki_at h.ord fun k e => hb'.same k (Ki.lt h.ord e).2 (a7 k e).1
  · rw [e2]; exact h.set.keep (hb'.same sd h.set.lt.1 a2.symm) (hb'.same sb h.set.lt.2 a3.symm) hi fun _ _ h => h
section
variable (E : Nat → Prop) (D hb sd sb m : Nat) (v : Value) (s : Sto) (w : World)
set_option maxRecDepth 100000 in
set_option maxHeartbeats 8000000 in
/-- 'use': the last counter of an id's destination. -/
theorem use_any (i : Mg.Id4) (hr : Mg.Right i) (hS : Hid (Sq E w D hb sd sb m v s)) : Calls Tryz.prog 35 #[.pointer (some ⟨D, 0, none⟩), .agg (Mg.idC i)] w fun e w' => (∃ x, e = .returned x) ∧ Hid (Sq E w' D hb sd sb m v (useS s i)) ∧ Hid (But (fun k => k = D) w w') := by
  have HOk := Lib.hid (hS.out.ok.use hr)
  obtain ⟨V, hV⟩ : ∃ V, w.alloc (.cells (Mg.idC i) 43) = V := ⟨_, rfl⟩
  have hB : Below w.heap.size w V := by rw [← hV]; exact Me.below_alloc (Below.refl _ _)
  have hR : V.heap[w.heap.size]? = some (.cells (Mg.idC i) 43 (0, 0)) := by rw [← hV]; exact heap_alloc_new w _
  have hSV := hS.out.below hB
  have c0 := hSV.box.self
  have c4 := hSV.box.epoch
  have HV := Lib.hid hV
  have HB := Lib.hid hB
  have HSV := Lib.hid hSV
  obtain ⟨o, d, ee, c⟩ := i
  have hd0 := hr.d0
  have hd1 := hr.d1
  simp only at hd0 hd1
  obtain ⟨j, rfl⟩ : ∃ j : Nat, d = (j : Int) := ⟨d.toNat, by omega⟩
  have hj : j < 64 := by omega
  simp only [Mg.idC] at HV hR ⊢
  obtain ⟨x0, x1, x2, x3⟩ := id_cells hR
  have HRV := Lib.hid hR
  have HJ := Lib.hid hj
  have HD : Hid (D ≠ w.heap.size) := by have := hS.out.box.lt; show D ≠ _; omega
  have hu : useS s ⟨o, (j : Int), ee, c⟩ = ⟨s.self, s.qh, s.qb, s.qg, s.epoch, useL s ⟨o, (j : Int), ee, c⟩, s.held, s.seen⟩ := rfl
  rw [hu] at HOk ⊢
  by_cases h : o = s.self ∧ ee = s.epoch
  · have hl : useL s ⟨o, (j : Int), ee, c⟩ = fun k => if k = j then max (s.last j) c else s.last k := by
      unfold useL
      rw [if_pos h]
      funext k
      by_cases e : k = j
      · subst e; simp
      · have : ¬ (k : Int) = (j : Int) := by omega
        simp [e, this]
    rw [hl] at HOk ⊢
    have hbx := hSV.box
    have cl := hbx.last hj
    obtain ⟨rfl, rfl⟩ := h
    have g1 : (s.self == s.self) = true := by simp
    have g2 : (s.epoch == s.epoch) = true := by simp
    obtain ⟨la, hla⟩ : ∃ x, s.last j = x := ⟨_, rfl⟩
    rw [hla] at cl HOk ⊢
    obtain ⟨mx, hmx⟩ : ∃ x, max la c = x := ⟨_, rfl⟩
    have HMx := Lib.hid hmx
    have HLa := Lib.hid hla
    have HBx := Lib.hid hbx
    rw [hmx] at HOk ⊢
    clear hV hB hR hSV hS hr hd0 hd1 hu hl hla hmx hbx
    go_enter Tryz.func35, Tryz.ntmps35
    go_wp2
    rw [HV.out]
    go_quiet (fail)
    have hq : Below V.heap.size V (V.drewN nq) := Me.below_drewN (Below.refl _ _) _
    have hqb : Box (V.drewN nq) D s hb sd v (bytesOf s.held) := HBx.out
    have hqi : (V.drewN nq).heap[w.heap.size]? = _ := HRV.out
    obtain ⟨U, hU⟩ : ∃ W, V.drewN nq = W := ⟨_, rfl⟩
    rw [hU] at hq hqb hqi ⊢
    have HQ := Lib.hid hq
    have HQb := Lib.hid hqb
    have HQi := Lib.hid hqi
    clear hU hq hqb hqi c0 c4 cl x0 x1 x2 x3
    go_wp2
    have t1 : (j : Int) < 64 := by have := HJ.out; omega
    have t2 : ¬ (64 : Int) ≤ (j : Int) := by omega
    have S0 : But (fun k => k = D) U U.drew := But.of_below (Below.refl _ _).drew
    refine wp_region_held_drew (S := fun W => But (fun k => k = D) U W) (by kernel_rfl) S0 (fun hHeld => ?_)
    refine wpAnyH_take (i := 0) (v := .pointer (some ⟨D, 0, none⟩)) rfl (by kernel_rfl) (by kernel_rfl) (by kernel_rfl) (fun _ _ _ h => h) (Or.inl ⟨by rfl, ?_⟩) (by first | assumption | exact trivial) ?_
    · intro W hSW; go_simp; try (with_reducible rfl)
    simp only [Act.put, List.getElem_toArray, List.getElem_cons_succ, List.getElem_cons_zero, List.setIfInBounds_toArray, List.set_cons_zero, List.set_cons_succ]
    refine wpAnyH_take (i := 1) (v := .pointer (some ⟨w.heap.size, 1, none⟩)) rfl (by kernel_rfl) (by kernel_rfl) (by kernel_rfl) (fun _ _ _ h => h) (Or.inl ⟨by rfl, ?_⟩) (by first | assumption | exact trivial) ?_
    · intro W hSW; go_simp; try (with_reducible rfl)
    simp only [Act.put, List.getElem_toArray, List.getElem_cons_succ, List.getElem_cons_zero, List.setIfInBounds_toArray, List.set_cons_zero, List.set_cons_succ]
    refine wpAnyH_take (i := 2) (v := .int .i64 (j : Int)) rfl (by kernel_rfl) (by kernel_rfl) (by kernel_rfl) (fun _ _ _ h => h) (Or.inl ⟨by rfl, ?_⟩) (by first | assumption | exact trivial) ?_
    · intro W hSW; obtain ⟨y0, y1, y2, y3⟩ := id_cells (hSW.at_ HQi.out (fun e => HD.out e.symm)); go_simp; try (with_reducible rfl)
    simp only [Act.put, List.getElem_toArray, List.getElem_cons_succ, List.getElem_cons_zero, List.setIfInBounds_toArray, List.set_cons_zero, List.set_cons_succ]
    refine wpAnyH_take (i := 3) (v := .pointer (some ⟨D, 0, none⟩)) rfl (by kernel_rfl) (by kernel_rfl) (by kernel_rfl) (fun _ _ _ h => h) (Or.inl ⟨by rfl, ?_⟩) (by first | assumption | exact trivial) ?_
    · intro W hSW; go_simp; try (with_reducible rfl)
    simp only [Act.put, List.getElem_toArray, List.getElem_cons_succ, List.getElem_cons_zero, List.setIfInBounds_toArray, List.set_cons_zero, List.set_cons_succ]
    refine wpAnyH_take (i := 4) (v := .pointer (some ⟨w.heap.size, 1, none⟩)) rfl (by kernel_rfl) (by kernel_rfl) (by kernel_rfl) (fun _ _ _ h => h) (Or.inl ⟨by rfl, ?_⟩) (by first | assumption | exact trivial) ?_
    · intro W hSW; go_simp; try (with_reducible rfl)
    simp only [Act.put, List.getElem_toArray, List.getElem_cons_succ, List.getElem_cons_zero, List.setIfInBounds_toArray, List.set_cons_zero, List.set_cons_succ]
    refine wpAnyH_take (i := 5) (v := .int .i64 (j : Int)) rfl (by kernel_rfl) (by kernel_rfl) (by kernel_rfl) (fun _ _ _ h => h) (Or.inl ⟨by rfl, ?_⟩) (by first | assumption | exact trivial) ?_
    · intro W hSW; obtain ⟨y0, y1, y2, y3⟩ := id_cells (hSW.at_ HQi.out (fun e => HD.out e.symm)); go_simp; try (with_reducible rfl)
    simp only [Act.put, List.getElem_toArray, List.getElem_cons_succ, List.getElem_cons_zero, List.setIfInBounds_toArray, List.set_cons_zero, List.set_cons_succ]
    refine wpAnyH_take (i := 6) (v := .pointer (some ⟨D, 0, none⟩)) rfl (by kernel_rfl) (by kernel_rfl) (by kernel_rfl) (fun _ _ _ h => h) (Or.inl ⟨by rfl, ?_⟩) (by first | assumption | exact trivial) ?_
    · intro W hSW; go_simp; try (with_reducible rfl)
    simp only [Act.put, List.getElem_toArray, List.getElem_cons_succ, List.getElem_cons_zero, List.setIfInBounds_toArray, List.set_cons_zero, List.set_cons_succ]
    refine wpAnyH_take (i := 7) (v := .pointer (some ⟨D, 5, none⟩)) rfl (by kernel_rfl) (by kernel_rfl) (by kernel_rfl) (fun _ _ _ h => h) (Or.inl ⟨by rfl, ?_⟩) (by first | assumption | exact trivial) ?_
    · intro W hSW; go_simp; try (with_reducible rfl)
    simp only [Act.put, List.getElem_toArray, List.getElem_cons_succ, List.getElem_cons_zero, List.setIfInBounds_toArray, List.set_cons_zero, List.set_cons_succ]
    refine wpAnyH_take (i := 8) (v := .pointer (some ⟨D, 5 + j, none⟩)) rfl (by kernel_rfl) (by kernel_rfl) (by kernel_rfl) (fun _ _ _ h => h) (Or.inl ⟨by rfl, ?_⟩) (by first | assumption | exact trivial) ?_
    · intro W hSW; go_simp; try (with_reducible rfl)
    simp only [Act.put, List.getElem_toArray, List.getElem_cons_succ, List.getElem_cons_zero, List.setIfInBounds_toArray, List.set_cons_zero, List.set_cons_succ]
    refine wpAnyH_take (i := 10) (v := .pointer (some ⟨w.heap.size, 3, none⟩)) rfl (by kernel_rfl) (by kernel_rfl) (by kernel_rfl) (fun _ _ _ h => h) (Or.inl ⟨by rfl, ?_⟩) (by first | assumption | exact trivial) ?_
    · intro W hSW; go_simp; try (with_reducible rfl)
    simp only [Act.put, List.getElem_toArray, List.getElem_cons_succ, List.getElem_cons_zero, List.setIfInBounds_toArray, List.set_cons_zero, List.set_cons_succ]
    refine wpAnyH_take (i := 11) (v := .int .i64 c) rfl (by kernel_rfl) (by kernel_rfl) (by kernel_rfl) (fun _ _ _ h => h) (Or.inl ⟨by rfl, ?_⟩) (by first | assumption | exact trivial) ?_
    · intro W hSW; obtain ⟨y0, y1, y2, y3⟩ := id_cells (hSW.at_ HQi.out (fun e => HD.out e.symm)); go_simp; try (with_reducible rfl)
    simp only [Act.put, List.getElem_toArray, List.getElem_cons_succ, List.getElem_cons_zero, List.setIfInBounds_toArray, List.set_cons_zero, List.set_cons_succ]
    refine wpAnyH_take (i := 13) (v := .pointer (some ⟨D, 0, none⟩)) rfl (by kernel_rfl) (by kernel_rfl) (by kernel_rfl) (fun _ _ _ h => h) (Or.inl ⟨by rfl, ?_⟩) (by first | assumption | exact trivial) ?_
    · intro W hSW; go_simp; try (with_reducible rfl)
    simp only [Act.put, List.getElem_toArray, List.getElem_cons_succ, List.getElem_cons_zero, List.setIfInBounds_toArray, List.set_cons_zero, List.set_cons_succ]
    refine wpAnyH_take (i := 14) (v := .pointer (some ⟨D, 5, none⟩)) rfl (by kernel_rfl) (by kernel_rfl) (by kernel_rfl) (fun _ _ _ h => h) (Or.inl ⟨by rfl, ?_⟩) (by first | assumption | exact trivial) ?_
    · intro W hSW; go_simp; try (with_reducible rfl)
    simp only [Act.put, List.getElem_toArray, List.getElem_cons_succ, List.getElem_cons_zero, List.setIfInBounds_toArray, List.set_cons_zero, List.set_cons_succ]
    refine wpAnyH_ready (rs := [9]) (by kernel_rfl) (by simp) ?_
    refine AllReadyH.cons rfl (fun K hK => ?_) AllReadyH.nil
    have yD : U.drew.cell? ⟨D, 5 + j, none⟩ = some (.int .i64 la) := by rw [← HLa.out]; exact HQb.out.last HJ.out
    go_simp
    refine hK.out _ _ (S0) (fun hHeld => ?_)
    clear hK K
    refine wpAnyH_take (i := 12) (v := .int .i64 mx) rfl (by kernel_rfl) (by kernel_rfl) (by kernel_rfl) (fun _ _ _ h => h) (Or.inl ⟨by rfl, ?_⟩) (by first | assumption | exact trivial) ?_
    · intro W hSW; have q := HMx.out; go_simp; try (with_reducible rfl)
    simp only [Act.put, List.getElem_toArray, List.getElem_cons_succ, List.getElem_cons_zero, List.setIfInBounds_toArray, List.set_cons_zero, List.set_cons_succ]
    refine wpAnyH_take (i := 15) (v := .pointer (some ⟨D, 5 + j, none⟩)) rfl (by kernel_rfl) (by kernel_rfl) (by kernel_rfl) (fun _ _ _ h => h) (Or.inl ⟨by rfl, ?_⟩) (by first | assumption | exact trivial) ?_
    · intro W hSW; go_simp; try (with_reducible rfl)
    simp only [Act.put, List.getElem_toArray, List.getElem_cons_succ, List.getElem_cons_zero, List.setIfInBounds_toArray, List.set_cons_zero, List.set_cons_succ]
    refine wpAnyH_ready (rs := [16]) (by kernel_rfl) (by simp) ?_
    refine AllReadyH.cons rfl (fun K hK => ?_) AllReadyH.nil
    have fD : U.drew.frozen? ⟨D, 5 + j, none⟩ = false := HQb.out.frozen _
    go_simp
    have b3 : But (fun k => k = D) U ((U.setCell ⟨D, 5 + j, none⟩ (.int .i64 mx)).drew) := ((But.refl (fun k => k = D) U).set (p := ⟨D, 5 + j, none⟩) (.inl rfl) _).trans (But.of_below (S := fun _ => False) (Below.refl _ _).drew) (fun _ _ h => h.elim)
    have x3 : Box ((U.setCell ⟨D, 5 + j, none⟩ (.int .i64 mx)).drew) D ⟨s.self, s.qh, s.qb, s.qg, s.epoch, fun k => if k = j then mx else s.last k, s.held, s.seen⟩ hb sd v (bytesOf s.held) := HQb.out.setL HJ.out mx
    refine hK.out _ _ (b3) (fun hHeld => ?_)
    clear hK K
    refine wpAnyH_done (by kernel_rfl) ?_ _
    go_end0
    have bq : But (fun k => k = D) V ((U.setCell ⟨D, 5 + j, none⟩ (.int .i64 mx)).drew) := (But.of_below (S := fun k => k = D) HQ.out).trans b3 fun _ _ h => h
    exact ⟨⟨_, rfl⟩, HSV.out.only bq rfl rfl x3 HOk.out, (But.of_below (S := fun k => k = D) HB.out).trans bq fun _ _ h => h⟩
  · have hl : useL s ⟨o, (j : Int), ee, c⟩ = s.last := by
      unfold useL
      rw [if_neg h]
    rw [hl] at HOk ⊢
    obtain ⟨me, hme⟩ : ∃ x, s.self = x := ⟨_, rfl⟩
    obtain ⟨ep, hep⟩ : ∃ x, s.epoch = x := ⟨_, rfl⟩
    have hs : (⟨s.self, s.qh, s.qb, s.qg, s.epoch, s.last, s.held, s.seen⟩ : Sto) = s := rfl
    rw [hs]
    rw [hme] at c0 h
    rw [hep] at c4 h
    have hc : (o == me) = false ∨ ((o == me) = true ∧ (ee == ep) = false) := by
      by_cases h1 : o = me
      · exact .inr ⟨by simpa using h1, by simp; exact fun h2 => h ⟨h1, h2⟩⟩
      · exact .inl (by simpa using h1)
    clear hV hB hR hSV hS hr hd0 hd1 hu hl hs h HRV HOk
    rcases hc with g1 | ⟨g1, g2⟩
    all_goals
      go_enter Tryz.func35, Tryz.ntmps35
      go_wp2
      rw [HV.out]
      go_quiet (fail)
      have hq : Below V.heap.size V (V.drewN nq) := Me.below_drewN (Below.refl _ _) _
      go_wp2
      go_end0
      exact ⟨⟨_, rfl⟩, HSV.out.below hq, But.of_below (go_on HB.out hq)⟩
end
end Go.Proofs.YtfnlhfelpdkieaaGreat.So
/- A message is put down: hold. -/
namespace Go.Proofs.YtfnlhfelpdkieaaGreat.So
open Go.RowKit
open Go.Proofs.YtfnlhfelpdkieaaGreat.Me Go.Proofs.YtfnlhfelpdkieaaGreat.Sb
set_option linter.unusedVariables false
set_option linter.unusedSimpArgs false

/-- An id appended to a list of one's own. -/
theorem appIdW {w : World} {o : Oper} {a : Act} {K : Act → World → Prop} {Q : Exit → Act → World → Prop} (s x : Operand)
    (ho : o.op = .call { callee := .builtin .append, args := #[s, x], argTypes := #[77, 77] })
    (v : Value) (l : List Mg.Id4) (i : Mg.Id4) (hs : a.eval s = v) (hown : Ki w 0 v l) (g : Nat) (hx : a.eval x = .slice (some ⟨g, 0, none⟩) 1 1) (hg : w.heap[g]? = some (.cells (Mg.idC i) 43 (0, 0))) (hlen : l.length ≤ 1000)
    (h : ∀ v' w', Ki w' 0 v' (l ++ [i]) → w.grownBy w' v.ownBlock → (v'.ownBlock = v.ownBlock ∨ v'.ownBlock = some w.heap.size) → K (a.put o.dst v') w') : o.wp Tryz.prog a w K Q := by
  obtain ⟨i0, hi, hz0, hz1, hz2⟩ := info_parts infoId
  have hnews : ∀ j u, (idc i)[j]? = some u → w.cell? ((⟨g, 0, none⟩ : Addr).add j) = some u := fun j u hj => by
    rw [add_mk, Nat.zero_add, cell_of_row w g j _ _ (0, 0) hg]
    rw [← hj]
    show (Mg.idC i)[j]? = (idc i)[j]?
    rw [← Array.getElem?_toList]
    rfl
  obtain ⟨v', w', hr, h2, h3, h4, h5⟩ := run_append_own_at (P := Tryz.prog) w 0 77 o.type 43 i0 (.agg #[.int .i64 0, .int .i64 0, .int .i64 0, .int .i64 0]) 4 32 Tryz.underlying77 hi hz0 hz1 hz2 rfl (by decide) v l.length (idsV l) hown ⟨g, 0, none⟩ 1 1 (idc i) rfl hnews (fun u hu => by
    simp only [idc, List.mem_cons, List.not_mem_nil, or_false] at hu
    rcases hu with rfl | rfl | rfl | rfl <;> rfl) (by unfold maxLen; omega) (by omega) (Nat.zero_le _)
  unfold Oper.wp execOp
  simp only [ho, resolve, invoke, builtin, Sem.run_bind, Sem.run_pure, Result.andThen_ok, List.map_toArray, List.map_cons, List.map_nil, hs, hx, hr]
  refine h v' w' ?_ h3 h5
  unfold Ki
  rw [List.length_append, idsV_app]
  have : idsV [i] = idc i := by simp [idsV]
  rw [this]
  exact h2
theorem el_new {E : Nat → Prop} {w w' : World} {v : Value} {l : List Nat} (h : Me.Own w' w.heap.size v l) (hE : ∀ k, w.heap.size ≤ k → E k) : El E w' v l := by
  rcases h.2 with ⟨h1, h2⟩ | ⟨g, cap, cur, h1, h2, h3⟩
  · have : l = [] := by simpa using h2
    subst this
    exact ⟨none, 0, h1, Me.Own.nil _ _, fun a e => by cases e⟩
  · subst h1
    exact ⟨some ⟨g, 0, none⟩, cap, rfl, own_base h fun _ _ => Nat.zero_le _, fun a e => by cases e; exact hE _ h2⟩
theorem find_hold {s : Sto} {i : Mg.Id4} {p : List Nat} (h : findH s.held i = none) : findH (s.held ++ [(⟨i, p⟩ : It)]) = fun k => if k = i then some p else findH s.held k := funext fun j => findH_app h
section
variable (E : Nat → Prop) (D hb sd sb m : Nat) (v : Value) (s : Sto) (w : World)
set_option maxRecDepth 100000 in
set_option maxHeartbeats 16000000 in
theorem hold_any (i : Mg.Id4) (A : Option Addr) (c : Nat) (p : List Nat) (hr : Mg.Right i) (hno : findH s.held i = none) (hok : Ok (holdS s i p)) (hp : Hid (Rd w w.heap.size A p)) (hA : Hid (A = none → p.length = 0 ∧ c = 0)) (hE : Hid (∀ k, w.heap.size ≤ k → E k)) (hS : Hid (Sq E w D hb sd sb m v s)) :
    Calls Tryz.prog 34 #[.pointer (some ⟨D, 0, none⟩), .agg (Mg.msgC i A p.length c)] w fun e w' => (∃ x, e = .returned x) ∧ ∃ v', Hid (Sq E w' D hb sd sb m v' (holdS s i p)) ∧ Hid (But (Chg D hb sd sb v) w w') ∧ Hid (∀ k, v'.ownBlock = some k → v.ownBlock = some k ∨ w.heap.size ≤ k) := by
  obtain ⟨a1, a2, a3, a4, a5, a6, a7⟩ := hS.out.apart
  have hlen : s.held.length ≤ 256 := by have h1 := hS.out.ok.len; have h2 := hS.out.ok.h1; omega
  have hpl : p.length ≤ 48 := (msgN_zero (hok.all ⟨i, p⟩ (List.mem_append_right _ (List.mem_singleton.2 rfl))).1).2.2
  have hby := hS.out.ok.byt
  have hb1 := hS.out.ok.b1
  have hb0 := bytesOf_nonneg s.held
  obtain ⟨V, hV⟩ : ∃ V, w.alloc (.cells (Mg.msgC i A p.length c) 46) = V := ⟨_, rfl⟩
  have hB : Below w.heap.size w V := by rw [← hV]; exact Me.below_alloc (Below.refl _ _)
  have hR : V.heap[w.heap.size]? = some (.cells (Mg.msgC i A p.length c) 46 (0, 0)) := by rw [← hV]; exact heap_alloc_new w _
  have hzV : V.heap.size = w.heap.size + 1 := by rw [← hV]; simp
  have hSV := hS.out.below hB
  have HCl : Hid (∀ W, Below V.heap.size V W → Calls Tryz.prog 43 #[.slice A p.length c] W fun e w' => ∃ x, e = .returned x ∧ Hid (Me.Own w' W.heap.size x p) ∧ Hid (Below W.heap.size W w')) := fun W hW => Hd.BClone_any A c w.heap.size p W (hp.out.below (hB.trans (hW.mono hB.size))) hA (by have := hW.size; omega) (by omega)
  obtain ⟨A0, c0, rfl, _, _, _⟩ := hSV.ord.form
  have HV := Lib.hid hV
  have HB := Lib.hid hB
  have HR := Lib.hid hR
  have HSV := Lib.hid hSV
  have HZ := Lib.hid hzV
  have HOk := Lib.hid hok
  have HNo := Lib.hid hno
  have HFit := Lib.hid (fit_right hr)
  have HAp : Hid (D ≠ hb ∧ D ≠ sd ∧ D ≠ sb ∧ hb ≠ sd ∧ hb ≠ sb ∧ sd ≠ sb ∧ ∀ k, (Value.slice A0 (s.held.map It.i).length c0).ownBlock = some k → k ≠ D ∧ k ≠ hb ∧ k ≠ sd ∧ k ≠ sb) := ⟨a1, a2, a3, a4, a5, a6, a7⟩
  have HLt : Hid (∀ k, Chg D hb sd sb (.slice A0 (s.held.map It.i).length c0) k → k < w.heap.size) := hS.out.lt
  have HWr : Hid (IntKind.i64.wrap (bytesOf s.held + (p.length : Int)) = bytesOf s.held + (p.length : Int)) := Mi.fits' ⟨by omega, by omega⟩
  have HKd := Lib.hid hSV.kind
  have HLen := Lib.hid hlen
  obtain ⟨pn, hpn⟩ : ∃ x, p.length = x := ⟨_, rfl⟩
  obtain ⟨ln, hln⟩ : ∃ x, (s.held.map It.i).length = x := ⟨_, rfl⟩
  have HPn := Lib.hid hpn
  have HLn := Lib.hid hln
  rw [hpn] at HV HCl HR HWr
  rw [hln] at HSV HAp HLt HKd
  rw [hpn]
  rw [hln]
  obtain ⟨by0, hby0⟩ : ∃ x, bytesOf s.held = x := ⟨_, rfl⟩
  have HBy := Lib.hid hby0
  rw [hby0] at HWr
  obtain ⟨o, d, ee, cc⟩ := i
  simp only [Mg.msgC] at HV HR ⊢
  clear hV hB hR hzV hSV hS hr hno hok hp hA hlen hpl hby hb1 hb0 hpn hln hby0 a1 a2 a3 a4 a5 a6 a7
  go_enter Tryz.func34, Tryz.ntmps34
  go_wp2
  rw [HV.out]
  have S0 : But (fun k => k = hb) V V.drew := But.of_below (Below.refl _ _).drew
  have HX : Hid (∀ W, But (fun k => k = hb) V W → W.cell? ⟨D, 69, none⟩ = some (.map (some hb)) ∧ W.heap[w.heap.size]? = some (.cells #[.int .i64 o, .int .i64 d, .int .i64 ee, .int .i64 cc, .slice A pn c] 46 (0, 0))) := fun W hW =>
    ⟨(HSV.out.box.at_ (hW.same D HSV.out.box.lt HAp.out.1)).map, hW.at_ HR.out (by have := HLt.out hb (.inr (.inl rfl)); omega)⟩
  refine wp_region_held_drew (S := fun W => But (fun k => k = hb) V W) (by kernel_rfl) S0 (fun hHeld => ?_)
  refine wpAnyH_take (i := 0) (v := .pointer (some ⟨D, 0, none⟩)) rfl (by kernel_rfl) (by kernel_rfl) (by kernel_rfl) (fun _ _ _ h => h) (Or.inl ⟨by rfl, ?_⟩) (by first | assumption | exact trivial) ?_
  · intro W hSW; go_simp; try (with_reducible rfl)
  simp only [Act.put, List.getElem_toArray, List.getElem_cons_succ, List.getElem_cons_zero, List.setIfInBounds_toArray, List.set_cons_zero, List.set_cons_succ]
  refine wpAnyH_take (i := 1) (v := .pointer (some ⟨D, 0, none⟩)) rfl (by kernel_rfl) (by kernel_rfl) (by kernel_rfl) (fun _ _ _ h => h) (Or.inl ⟨by rfl, ?_⟩) (by first | assumption | exact trivial) ?_
  · intro W hSW; go_simp; try (with_reducible rfl)
  simp only [Act.put, List.getElem_toArray, List.getElem_cons_succ, List.getElem_cons_zero, List.setIfInBounds_toArray, List.set_cons_zero, List.set_cons_succ]
  refine wpAnyH_take (i := 2) (v := .pointer (some ⟨D, 69, none⟩)) rfl (by kernel_rfl) (by kernel_rfl) (by kernel_rfl) (fun _ _ _ h => h) (Or.inl ⟨by rfl, ?_⟩) (by first | assumption | exact trivial) ?_
  · intro W hSW; go_simp; try (with_reducible rfl)
  simp only [Act.put, List.getElem_toArray, List.getElem_cons_succ, List.getElem_cons_zero, List.setIfInBounds_toArray, List.set_cons_zero, List.set_cons_succ]
  refine wpAnyH_take (i := 3) (v := .map (some hb)) rfl (by kernel_rfl) (by kernel_rfl) (by kernel_rfl) (fun _ _ _ h => h) (Or.inl ⟨by rfl, ?_⟩) (by first | assumption | exact trivial) ?_
  · intro W hSW; have y := (HX.out W hSW).1; go_simp; try (with_reducible rfl)
  simp only [Act.put, List.getElem_toArray, List.getElem_cons_succ, List.getElem_cons_zero, List.setIfInBounds_toArray, List.set_cons_zero, List.set_cons_succ]
  refine wpAnyH_take (i := 4) (v := .pointer (some ⟨w.heap.size, 0, none⟩)) rfl (by kernel_rfl) (by kernel_rfl) (by kernel_rfl) (fun _ _ _ h => h) (Or.inl ⟨by rfl, ?_⟩) (by first | assumption | exact trivial) ?_
  · intro W hSW; go_simp; try (with_reducible rfl)
  simp only [Act.put, List.getElem_toArray, List.getElem_cons_succ, List.getElem_cons_zero, List.setIfInBounds_toArray, List.set_cons_zero, List.set_cons_succ]
  refine wpAnyH_take (i := 5) (v := .agg #[.int .i64 o, .int .i64 d, .int .i64 ee, .int .i64 cc]) rfl (by kernel_rfl) (by kernel_rfl) (by kernel_rfl) (fun _ _ _ h => h) (Or.inl ⟨by rfl, ?_⟩) (by first | assumption | exact trivial) ?_
  · intro W hSW; obtain ⟨z0, z1, z2, z3, z4⟩ := msg_cells (HX.out W hSW).2; go_simp; try (with_reducible rfl)
  simp only [Act.put, List.getElem_toArray, List.getElem_cons_succ, List.getElem_cons_zero, List.setIfInBounds_toArray, List.set_cons_zero, List.set_cons_succ]
  refine wpAnyH_take (i := 6) (v := .pointer (some ⟨w.heap.size, 4, none⟩)) rfl (by kernel_rfl) (by kernel_rfl) (by kernel_rfl) (fun _ _ _ h => h) (Or.inl ⟨by rfl, ?_⟩) (by first | assumption | exact trivial) ?_
  · intro W hSW; go_simp; try (with_reducible rfl)
  simp only [Act.put, List.getElem_toArray, List.getElem_cons_succ, List.getElem_cons_zero, List.setIfInBounds_toArray, List.set_cons_zero, List.set_cons_succ]
  refine wpAnyH_take (i := 7) (v := .slice A pn c) rfl (by kernel_rfl) (by kernel_rfl) (by kernel_rfl) (fun _ _ _ h => h) (Or.inl ⟨by rfl, ?_⟩) (by first | assumption | exact trivial) ?_
  · intro W hSW; obtain ⟨z0, z1, z2, z3, z4⟩ := msg_cells (HX.out W hSW).2; go_simp; try (with_reducible rfl)
  simp only [Act.put, List.getElem_toArray, List.getElem_cons_succ, List.getElem_cons_zero, List.setIfInBounds_toArray, List.set_cons_zero, List.set_cons_succ]
  refine wpAnyH_ready (rs := [8]) (by kernel_rfl) (by simp) ?_
  refine AllReadyH.cons rfl (fun K hK => ?_) AllReadyH.nil
  go_simp
  have SB0 : Below V.heap.size V V.drew := (Below.refl _ _).drew
  go_wp2_with (go_at_call 43; refine (HCl.out _ SB0).mono ?_; rintro e w3 ⟨x, rfl, ho3, hb3⟩)
  have SB3 : Below V.heap.size V w3 := SB0.trans hb3.out
  have hel : El E w3 x p := el_new ho3.out fun k hk => hE.out k (by have h1 := HZ.out; have h2 : V.heap.size ≤ k := hk; omega)
  obtain ⟨Ax, cx, rfl, hx1, hx2⟩ := hel
  have S3 : But (fun k => k = hb) V w3 := But.of_below SB3
  refine hK.out _ _ (S3) (fun hHeld => ?_)
  clear hK K
  refine wpAnyH_ready (rs := [9]) (by kernel_rfl) (by simp) ?_
  refine AllReadyH.cons rfl (fun K hK => ?_) AllReadyH.nil
  rw [if_pos (by kernel_rfl)]
  refine putW (.tmp 7) (.tmp 9) (.tmp 12) rfl E hb s.held.length (findH s.held) ⟨o, d, ee, cc⟩ p (.slice Ax p.length cx) rfl rfl (by first | rfl | (rw [HPn.out]; rfl)) (HSV.out.map.keep (SB3.block _ HSV.out.map.lt) (U8s.below SB3) fun _ _ h => h) (by have := HLen.out; omega) HFit.out HNo.out ⟨Ax, cx, rfl, hx1, hx2⟩ ?_
  intro w4 hM4 hB4 hz4
  simp only [Act.put, List.getElem_toArray, List.getElem_cons_succ, List.getElem_cons_zero, List.setIfInBounds_toArray, List.set_cons_zero, List.set_cons_succ]
  have S4 : But (fun k => k = hb) V w4 := S3.trans hB4 (fun _ _ h => h)
  refine hK.out _ _ (S4) (fun hHeld => ?_)
  clear hK K
  refine wpAnyH_done (by kernel_rfl) ?_ _
  have HM4 := Lib.hid hM4
  have HS4 := Lib.hid S4
  clear hHeld S0 S3 S4 SB0 SB3 hM4 hB4 hz4 ho3 hb3 hx1 hx2 HCl HX HV
  have hbox4 : Box w4 D s hb sd (.slice A0 ln c0) (bytesOf s.held) := HSV.out.box.at_ (HS4.out.same D HSV.out.box.lt HAp.out.1)
  have hord4 : Ki w4 0 (.slice A0 ln c0) (s.held.map It.i) := ki_at HSV.out.ord fun k e => HS4.out.same k (Ki.lt HSV.out.ord e).2 (HAp.out.2.2.2.2.2.2 k e).2.1
  have hR4 : w4.heap[w.heap.size]? = some (.cells #[.int .i64 o, .int .i64 d, .int .i64 ee, .int .i64 cc, .slice A pn c] 46 (0, 0)) := HS4.out.at_ HR.out (by have := HLt.out hb (.inr (.inl rfl)); omega)
  have HBox4 := Lib.hid hbox4
  have HOrd4 := Lib.hid hord4
  have HR4 := Lib.hid hR4
  have HDX : Hid (w.heap.size ≠ D ∧ ∀ k, (Value.slice A0 ln c0).ownBlock = some k → w.heap.size ≠ k) := ⟨by have := HLt.out D (.inl rfl); omega, fun k e => by have := HLt.out k (.inr (.inr (.inr (.inr e)))); omega⟩
  clear hbox4 hord4 hR4
  go_wp2
  have S0 : But (fun k => k = D ∨ (Value.slice A0 ln c0).ownBlock = some k) w4 w4.drew := But.of_below (Below.refl _ _).drew
  have HX : Hid (∀ W, But (fun k => k = D ∨ (Value.slice A0 ln c0).ownBlock = some k) w4 W → W.heap[w.heap.size]? = some (.cells #[.int .i64 o, .int .i64 d, .int .i64 ee, .int .i64 cc, .slice A pn c] 46 (0, 0))) := fun W hW =>
    hW.at_ HR4.out (fun h => h.elim HDX.out.1 fun e => HDX.out.2 _ e rfl)
  refine wp_region_held_drew (S := fun W => But (fun k => k = D ∨ (Value.slice A0 ln c0).ownBlock = some k) w4 W) (by kernel_rfl) S0 (fun hHeld => ?_)
  refine wpAnyH_take (i := 0) (v := .pointer (some ⟨D, 0, none⟩)) rfl (by kernel_rfl) (by kernel_rfl) (by kernel_rfl) (fun _ _ _ h => h) (Or.inl ⟨by rfl, ?_⟩) (by first | assumption | exact trivial) ?_
  · intro W hSW; go_simp; try (with_reducible rfl)
  simp only [Act.put, List.getElem_toArray, List.getElem_cons_succ, List.getElem_cons_zero, List.setIfInBounds_toArray, List.set_cons_zero, List.set_cons_succ]
  refine wpAnyH_take (i := 1) (v := .pointer (some ⟨D, 0, none⟩)) rfl (by kernel_rfl) (by kernel_rfl) (by kernel_rfl) (fun _ _ _ h => h) (Or.inl ⟨by rfl, ?_⟩) (by first | assumption | exact trivial) ?_
  · intro W hSW; go_simp; try (with_reducible rfl)
  simp only [Act.put, List.getElem_toArray, List.getElem_cons_succ, List.getElem_cons_zero, List.setIfInBounds_toArray, List.set_cons_zero, List.set_cons_succ]
  refine wpAnyH_take (i := 2) (v := .pointer (some ⟨D, 0, none⟩)) rfl (by kernel_rfl) (by kernel_rfl) (by kernel_rfl) (fun _ _ _ h => h) (Or.inl ⟨by rfl, ?_⟩) (by first | assumption | exact trivial) ?_
  · intro W hSW; go_simp; try (with_reducible rfl)
  simp only [Act.put, List.getElem_toArray, List.getElem_cons_succ, List.getElem_cons_zero, List.setIfInBounds_toArray, List.set_cons_zero, List.set_cons_succ]
  refine wpAnyH_take (i := 3) (v := .pointer (some ⟨D, 70, none⟩)) rfl (by kernel_rfl) (by kernel_rfl) (by kernel_rfl) (fun _ _ _ h => h) (Or.inl ⟨by rfl, ?_⟩) (by first | assumption | exact trivial) ?_
  · intro W hSW; go_simp; try (with_reducible rfl)
  simp only [Act.put, List.getElem_toArray, List.getElem_cons_succ, List.getElem_cons_zero, List.setIfInBounds_toArray, List.set_cons_zero, List.set_cons_succ]
  refine wpAnyH_take (i := 5) (v := .pointer (some ⟨w.heap.size, 0, none⟩)) rfl (by kernel_rfl) (by kernel_rfl) (by kernel_rfl) (fun _ _ _ h => h) (Or.inl ⟨by rfl, ?_⟩) (by first | assumption | exact trivial) ?_
  · intro W hSW; go_simp; try (with_reducible rfl)
  simp only [Act.put, List.getElem_toArray, List.getElem_cons_succ, List.getElem_cons_zero, List.setIfInBounds_toArray, List.set_cons_zero, List.set_cons_succ]
  refine wpAnyH_take (i := 6) (v := .agg #[.int .i64 o, .int .i64 d, .int .i64 ee, .int .i64 cc]) rfl (by kernel_rfl) (by kernel_rfl) (by kernel_rfl) (fun _ _ _ h => h) (Or.inl ⟨by rfl, ?_⟩) (by first | assumption | exact trivial) ?_
  · intro W hSW; obtain ⟨z0, z1, z2, z3, z4⟩ := msg_cells (HX.out W hSW); go_simp; try (with_reducible rfl)
  simp only [Act.put, List.getElem_toArray, List.getElem_cons_succ, List.getElem_cons_zero, List.setIfInBounds_toArray, List.set_cons_zero, List.set_cons_succ]
  refine wpAnyH_ready (rs := [4, 7]) (by kernel_rfl) (by simp) ?_
  refine AllReadyH.cons rfl (fun K hK => ?pa) (AllReadyH.cons rfl (fun K hK => ?pb) AllReadyH.nil)
  case' pa =>
    have yD : w4.drew.cell? ⟨D, 70, none⟩ = some (.slice A0 ln c0) := HBox4.out.ord
    go_simp
    refine hK.out _ _ (S0) (fun hHeld => ?_)
    clear hK K
    refine wpAnyH_ready (rs := [7]) (by kernel_rfl) (by simp) ?_
    refine AllReadyH.cons rfl (fun K hK => ?_) AllReadyH.nil
    go_simp
    obtain ⟨V5, hV5⟩ : ∃ V, (w4.alloc (.cells #[.int .i64 o, .int .i64 d, .int .i64 ee, .int .i64 cc] 43)).drew = V := ⟨_, rfl⟩
    have hb5 : Below w4.heap.size w4 V5 := by rw [← hV5]; exact (Me.below_alloc (Below.refl _ _)).drew
    have hG5 : V5.heap[w4.heap.size]? = some (.cells #[.int .i64 o, .int .i64 d, .int .i64 ee, .int .i64 cc] 43 (0, 0)) := by rw [← hV5]; exact heap_alloc_new w4 _
    rw [hV5]
    clear hV5
    have S5 : But (fun k => k = D ∨ (Value.slice A0 ln c0).ownBlock = some k) w4 V5 := But.of_below hb5
    refine hK.out _ _ (S5) (fun hHeld => ?_)
    clear hK K
  case' pb =>
    go_simp
    obtain ⟨V5, hV5⟩ : ∃ V, (w4.alloc (.cells #[.int .i64 o, .int .i64 d, .int .i64 ee, .int .i64 cc] 43)).drew = V := ⟨_, rfl⟩
    have hb5 : Below w4.heap.size w4 V5 := by rw [← hV5]; exact (Me.below_alloc (Below.refl _ _)).drew
    have hG5 : V5.heap[w4.heap.size]? = some (.cells #[.int .i64 o, .int .i64 d, .int .i64 ee, .int .i64 cc] 43 (0, 0)) := by rw [← hV5]; exact heap_alloc_new w4 _
    rw [hV5]
    clear hV5
    have S5 : But (fun k => k = D ∨ (Value.slice A0 ln c0).ownBlock = some k) w4 V5 := But.of_below hb5
    refine hK.out _ _ (S5) (fun hHeld => ?_)
    clear hK K
    refine wpAnyH_ready (rs := [4]) (by kernel_rfl) (by simp) ?_
    refine AllReadyH.cons rfl (fun K hK => ?_) AllReadyH.nil
    have yD : V5.cell? ⟨D, 70, none⟩ = some (.slice A0 ln c0) := (HBox4.out.below hb5).ord
    go_simp
    refine hK.out _ _ (S5) (fun hHeld => ?_)
    clear hK K
  all_goals
    refine wpAnyH_ready (rs := [8]) (by kernel_rfl) (by simp) ?_
    refine AllReadyH.cons rfl (fun K hK => ?_) AllReadyH.nil
    rw [if_pos (by kernel_rfl)]
    refine appIdW (.tmp 17) (.tmp 20) rfl (.slice A0 ln c0) (s.held.map It.i) ⟨o, d, ee, cc⟩ rfl (ki_at HOrd4.out fun k e => hb5.block k (Ki.lt HOrd4.out e).2) w4.heap.size rfl hG5 (by have := HLen.out; simpa using (by omega : s.held.length ≤ 1000)) ?_
    intro v6 V6 hK6 hg6 hv6
    simp only [Act.put, List.getElem_toArray, List.getElem_cons_succ, List.getElem_cons_zero, List.setIfInBounds_toArray, List.set_cons_zero, List.set_cons_succ]
    obtain ⟨A6, c6, rfl, hk61, hk62, _⟩ := hK6.form
    obtain ⟨L6, hL6⟩ : ∃ n, (s.held.map It.i ++ [(⟨o, d, ee, cc⟩ : Mg.Id4)]).length = n := ⟨_, rfl⟩
    rw [hL6] at hK6 hv6 ⊢
    clear hL6 hk61 hk62
    have S6 : But (fun k => (Value.slice A0 ln c0).ownBlock = some k) w4 V6 := (But.of_below hb5).grown hg6 fun r e => .inl e
    have hb6 : Box V6 D s hb sd (.slice A0 ln c0) (bytesOf s.held) := HBox4.out.at_ (S6.same D HBox4.out.lt fun e => (HAp.out.2.2.2.2.2.2 D e).1 rfl)
    refine hK.out _ _ (S6.mono fun _ _ h => .inr h) (fun hHeld => ?_)
    clear hK K
    refine wpAnyH_take (i := 9) (v := .pointer (some ⟨D, 0, none⟩)) rfl (by kernel_rfl) (by kernel_rfl) (by kernel_rfl) (fun _ _ _ h => h) (Or.inl ⟨by rfl, ?_⟩) (by first | assumption | exact trivial) ?_
    · intro W hSW; go_simp; try (with_reducible rfl)
    simp only [Act.put, List.getElem_toArray, List.getElem_cons_succ, List.getElem_cons_zero, List.setIfInBounds_toArray, List.set_cons_zero, List.set_cons_succ]
    refine wpAnyH_take (i := 10) (v := .pointer (some ⟨D, 70, none⟩)) rfl (by kernel_rfl) (by kernel_rfl) (by kernel_rfl) (fun _ _ _ h => h) (Or.inl ⟨by rfl, ?_⟩) (by first | assumption | exact trivial) ?_
    · intro W hSW; go_simp; try (with_reducible rfl)
    simp only [Act.put, List.getElem_toArray, List.getElem_cons_succ, List.getElem_cons_zero, List.setIfInBounds_toArray, List.set_cons_zero, List.set_cons_succ]
    refine wpAnyH_ready (rs := [11]) (by kernel_rfl) (by simp) ?_
    refine AllReadyH.cons rfl (fun K hK => ?_) AllReadyH.nil
    have fD : V6.frozen? ⟨D, 70, none⟩ = false := hb6.frozen 70
    have yD : V6.cell? ⟨D, 70, none⟩ = some (.slice A0 ln c0) := hb6.ord
    go_simp
    obtain ⟨V7, hV7⟩ : ∃ V, V6.setCell ⟨D, 70, none⟩ (.slice A6 L6 c6) = V := ⟨_, rfl⟩
    rw [hV7]
    have b67 : But (fun k => k = D) V6 V7 := by rw [← hV7]; exact (But.refl (fun k => k = D) V6).set (p := ⟨D, 70, none⟩) (.inl rfl) _
    have hb7 : Box V7 D s hb sd (.slice A6 L6 c6) (bytesOf s.held) := by rw [← hV7]; exact hb6.setV _
    clear hV7
    have h6D : ∀ k, (Value.slice A6 L6 c6).ownBlock = some k → k ≠ D := fun k e => by
      rcases hv6 with hv6 | hv6
      · exact (HAp.out.2.2.2.2.2.2 k (hv6.symm.trans e)).1
      · rw [hv6] at e
        cases e
        have h1 := HBox4.out.lt
        have h2 := hb5.size
        omega
    have hK7 : Ki V7 0 (.slice A6 L6 c6) (s.held.map It.i ++ [(⟨o, d, ee, cc⟩ : Mg.Id4)]) := ki_at hK6 fun k e => b67.same k (Ki.lt hK6 e).2 (h6D k e)
    have S7 : But (fun k => k = D ∨ (Value.slice A0 ln c0).ownBlock = some k) w4 V7 := (S6.mono fun _ _ h => .inr h).trans b67 fun _ _ h => .inl h
    refine hK.out _ _ (S7) (fun hHeld => ?_)
    clear hK K
    refine wpAnyH_done (by kernel_rfl) ?_ _
    have HK7 := Lib.hid hK7
    have HB7 := Lib.hid hb7
    have HS7 := Lib.hid S7
    have HR7 := Lib.hid (HX.out V7 S7)
    have HV6 : Hid (∀ k, (Value.slice A6 L6 c6).ownBlock = some k → (Value.slice A0 ln c0).ownBlock = some k ∨ w.heap.size ≤ k) := fun k e => by
      rcases hv6 with hv6 | hv6
      · exact .inl (hv6.symm.trans e)
      · rw [hv6] at e
        cases e
        have h2 := hb5.size
        have h3 := HS4.out.size
        have h4 := HB.out.size
        exact .inr (by omega)
    clear hHeld S0 S5 S6 S7 hb5 hG5 hK6 hg6 hv6 hb6 b67 hb7 h6D hK7 fD yD HX
    go_wp2
    have S0 : But (fun k => k = D) V7 V7.drew := But.of_below (Below.refl _ _).drew
    refine wp_region_held_drew (S := fun W => But (fun k => k = D) V7 W) (by kernel_rfl) S0 (fun hHeld => ?_)
    refine wpAnyH_take (i := 0) (v := .pointer (some ⟨D, 0, none⟩)) rfl (by kernel_rfl) (by kernel_rfl) (by kernel_rfl) (fun _ _ _ h => h) (Or.inl ⟨by rfl, ?_⟩) (by first | assumption | exact trivial) ?_
    · intro W hSW; go_simp; try (with_reducible rfl)
    simp only [Act.put, List.getElem_toArray, List.getElem_cons_succ, List.getElem_cons_zero, List.setIfInBounds_toArray, List.set_cons_zero, List.set_cons_succ]
    refine wpAnyH_take (i := 1) (v := .pointer (some ⟨D, 0, none⟩)) rfl (by kernel_rfl) (by kernel_rfl) (by kernel_rfl) (fun _ _ _ h => h) (Or.inl ⟨by rfl, ?_⟩) (by first | assumption | exact trivial) ?_
    · intro W hSW; go_simp; try (with_reducible rfl)
    simp only [Act.put, List.getElem_toArray, List.getElem_cons_succ, List.getElem_cons_zero, List.setIfInBounds_toArray, List.set_cons_zero, List.set_cons_succ]
    refine wpAnyH_take (i := 2) (v := .pointer (some ⟨D, 71, none⟩)) rfl (by kernel_rfl) (by kernel_rfl) (by kernel_rfl) (fun _ _ _ h => h) (Or.inl ⟨by rfl, ?_⟩) (by first | assumption | exact trivial) ?_
    · intro W hSW; go_simp; try (with_reducible rfl)
    simp only [Act.put, List.getElem_toArray, List.getElem_cons_succ, List.getElem_cons_zero, List.setIfInBounds_toArray, List.set_cons_zero, List.set_cons_succ]
    refine wpAnyH_take (i := 4) (v := .pointer (some ⟨w.heap.size, 4, none⟩)) rfl (by kernel_rfl) (by kernel_rfl) (by kernel_rfl) (fun _ _ _ h => h) (Or.inl ⟨by rfl, ?_⟩) (by first | assumption | exact trivial) ?_
    · intro W hSW; go_simp; try (with_reducible rfl)
    simp only [Act.put, List.getElem_toArray, List.getElem_cons_succ, List.getElem_cons_zero, List.setIfInBounds_toArray, List.set_cons_zero, List.set_cons_succ]
    refine wpAnyH_take (i := 5) (v := .slice A pn c) rfl (by kernel_rfl) (by kernel_rfl) (by kernel_rfl) (fun _ _ _ h => h) (Or.inl ⟨by rfl, ?_⟩) (by first | assumption | exact trivial) ?_
    · intro W hSW; obtain ⟨z0, z1, z2, z3, z4⟩ := msg_cells (hSW.at_ HR7.out HDX.out.1); go_simp; try (with_reducible rfl)
    simp only [Act.put, List.getElem_toArray, List.getElem_cons_succ, List.getElem_cons_zero, List.setIfInBounds_toArray, List.set_cons_zero, List.set_cons_succ]
    refine wpAnyH_take (i := 6) (v := .int .i64 (pn : Int)) rfl (by kernel_rfl) (by kernel_rfl) (by kernel_rfl) (fun _ _ _ h => h) (Or.inl ⟨by rfl, ?_⟩) (by first | assumption | exact trivial) ?_
    · intro W hSW; go_simp; try (with_reducible rfl)
    simp only [Act.put, List.getElem_toArray, List.getElem_cons_succ, List.getElem_cons_zero, List.setIfInBounds_toArray, List.set_cons_zero, List.set_cons_succ]
    refine wpAnyH_ready (rs := [3]) (by kernel_rfl) (by simp) ?_
    refine AllReadyH.cons rfl (fun K hK => ?_) AllReadyH.nil
    have yD : V7.drew.cell? ⟨D, 71, none⟩ = some (.int .i64 by0) := by rw [← HBy.out]; exact HB7.out.byt
    go_simp
    refine hK.out _ _ (S0) (fun hHeld => ?_)
    clear hK K
    refine wpAnyH_take (i := 7) (v := .int .i64 (by0 + (pn : Int))) rfl (by kernel_rfl) (by kernel_rfl) (by kernel_rfl) (fun _ _ _ h => h) (Or.inl ⟨by rfl, ?_⟩) (by first | assumption | exact trivial) ?_
    · intro W hSW; have q := HWr.out; go_simp; try (with_reducible rfl)
    simp only [Act.put, List.getElem_toArray, List.getElem_cons_succ, List.getElem_cons_zero, List.setIfInBounds_toArray, List.set_cons_zero, List.set_cons_succ]
    refine wpAnyH_take (i := 8) (v := .pointer (some ⟨D, 0, none⟩)) rfl (by kernel_rfl) (by kernel_rfl) (by kernel_rfl) (fun _ _ _ h => h) (Or.inl ⟨by rfl, ?_⟩) (by first | assumption | exact trivial) ?_
    · intro W hSW; go_simp; try (with_reducible rfl)
    simp only [Act.put, List.getElem_toArray, List.getElem_cons_succ, List.getElem_cons_zero, List.setIfInBounds_toArray, List.set_cons_zero, List.set_cons_succ]
    refine wpAnyH_take (i := 9) (v := .pointer (some ⟨D, 71, none⟩)) rfl (by kernel_rfl) (by kernel_rfl) (by kernel_rfl) (fun _ _ _ h => h) (Or.inl ⟨by rfl, ?_⟩) (by first | assumption | exact trivial) ?_
    · intro W hSW; go_simp; try (with_reducible rfl)
    simp only [Act.put, List.getElem_toArray, List.getElem_cons_succ, List.getElem_cons_zero, List.setIfInBounds_toArray, List.set_cons_zero, List.set_cons_succ]
    refine wpAnyH_ready (rs := [10]) (by kernel_rfl) (by simp) ?_
    refine AllReadyH.cons rfl (fun K hK => ?_) AllReadyH.nil
    have fD : V7.drew.frozen? ⟨D, 71, none⟩ = false := HB7.out.frozen 71
    go_simp
    obtain ⟨V9, hV9⟩ : ∃ V, (V7.setCell ⟨D, 71, none⟩ (.int .i64 (by0 + (pn : Int)))).drew = V := ⟨_, rfl⟩
    rw [hV9]
    have b79 : But (fun k => k = D) V7 V9 := by rw [← hV9]; exact ((But.refl (fun k => k = D) V7).set (p := ⟨D, 71, none⟩) (.inl rfl) _).trans (But.of_below (S := fun _ => False) (Below.refl _ _).drew) (fun _ _ h => h.elim)
    have hb9 : Box V9 D s hb sd (.slice A6 L6 c6) (by0 + (pn : Int)) := by rw [← hV9]; exact HB7.out.setN _
    clear hV9
    refine hK.out _ _ (b79) (fun hHeld => ?_)
    clear hK K
    refine wpAnyH_done (by kernel_rfl) ?_ _
    go_end0
    have b49 : But (fun k => k = D ∨ (Value.slice A0 ln c0).ownBlock = some k) w4 V9 := HS7.out.trans b79 fun _ _ h => .inl h
    have bV9 : But (Chg D hb sd sb (.slice A0 ln c0)) V V9 := (HS4.out.mono fun _ _ h => .inr (.inl h)).trans b49 fun k _ h => h.elim (fun h => .inl h) fun h => .inr (.inr (.inr (.inr h)))
    have bV9' : But (fun k => k = hb ∨ k = D ∨ (Value.slice A0 ln c0).ownBlock = some k) V V9 := (HS4.out.mono fun _ _ h => .inl h).trans b49 fun k _ h => .inr h
    have hbytes : bytesOf (holdS s ⟨o, d, ee, cc⟩ p).held = by0 + (pn : Int) := by
      show bytesOf (s.held ++ [(⟨⟨o, d, ee, cc⟩, p⟩ : It)]) = _
      rw [bytesOf_app, HBy.out]
      simp only [bytesOf]
      rw [HPn.out]
      omega
    have hu : U8s E w4 V9 := U8s.but b49 fun k cs _ hk h => by
      rcases h with rfl | h
      · have := HBox4.out
        unfold Box at this
        rw [this] at hk
        simp at hk
      · obtain ⟨cur, hc⟩ := own_type HOrd4.out k h
        rw [hc] at hk
        simp at hk
    have hi : Se.IntsF E V V9 := Se.IntsF.but bV9 fun k cs _ hk h => (HSV.out.no8 h cs).2 hk
    have hnot : ∀ k, k = sd ∨ k = sb → ¬ (k = hb ∨ k = D ∨ (Value.slice A0 ln c0).ownBlock = some k) := by
      obtain ⟨q1, q2, q3, q4, q5, q6, q7⟩ := HAp.out
      rintro k (rfl | rfl) (h | h | h)
      · exact q4 h.symm
      · exact q2 h.symm
      · exact (q7 _ h).2.2.1 rfl
      · exact q5 h.symm
      · exact q3 h.symm
      · exact (q7 _ h).2.2.2 rfl
    refine ⟨⟨_, rfl⟩, .slice A6 L6 c6, ⟨?_, ?_, ?_, ?_, HOk.out, HAp.out.2.2.2.2.1⟩, (But.of_below HB.out).trans bV9 fun _ _ h => h, HV6.out⟩
    · rw [hbytes]; exact hb9
    · have h1 := HM4.out.keep (E' := E) (b49.same hb HM4.out.lt fun h => h.elim (fun h => HAp.out.1 h.symm) fun h => (HAp.out.2.2.2.2.2.2 _ h).2.1 rfl) hu fun _ _ h => h
      rw [← find_hold HNo.out] at h1
      show Mp E V9 hb (s.held ++ [(⟨⟨o, d, ee, cc⟩, p⟩ : It)]).length _
      rw [List.length_append]
      exact h1
    · show Ki V9 0 _ ((s.held ++ [(⟨⟨o, d, ee, cc⟩, p⟩ : It)]).map It.i)
      rw [List.map_append]
      refine ki_at HK7.out fun k e => b79.same k (Ki.lt HK7.out e).2 fun h => ?_
      subst h
      obtain ⟨cur, hc⟩ := own_type HK7.out k e
      have := HB7.out
      unfold Box at this
      rw [this] at hc
      simp at hc
    · exact HSV.out.set.keep (bV9'.same sd HSV.out.set.lt.1 (hnot sd (.inl rfl))) (bV9'.same sb HSV.out.set.lt.2 (hnot sb (.inr rfl))) hi fun _ _ h => h
end
end Go.Proofs.YtfnlhfelpdkieaaGreat.So
