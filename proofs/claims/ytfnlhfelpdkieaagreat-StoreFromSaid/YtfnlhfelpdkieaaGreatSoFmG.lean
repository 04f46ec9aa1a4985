/- The program's From, where there is a store. -/
import Derived.Test.YtfnlhfelpdkieaaGreatZ27
namespace Go.Proofs.YtfnlhfelpdkieaaGreat.So
open Go.RowKit
open Go.Proofs.YtfnlhfelpdkieaaGreat.Me Go.Proofs.YtfnlhfelpdkieaaGreat.Sb
set_option linter.unusedVariables false
set_option linter.unusedSimpArgs false

set_option maxRecDepth 100000 in
set_option maxHeartbeats 32000000 in
theorem From_ok (E : Nat → Prop) (q : Fq) (AN AH AM : Option Addr) (cN cH cM : Nat) (w : World) (hE : Hid (∀ k, w.heap.size ≤ k → E k)) (hq : Hid (FqAt w q AN AH AM cM)) (hz : frmN q = 0) (hby : Hid (∀ x ∈ q.H, ∀ z ∈ x.p, z < 256)) :
    Calls Tryz.prog 20 #[.agg #[.int .i64 q.qh, .int .i64 q.qb, .int .i64 q.qg], .agg #[.int .i64 q.me, .int .i64 q.ep, .slice AN q.N.length cN, .slice AH q.H.length cH, .slice AM q.P.length cM]] w fun e w' => ∃ D hb sd sb v, e = .returned (.tuple #[.pointer (some ⟨D, 0, none⟩), .int .i64 0]) ∧ Hid (Sq E w' D hb sd sb q.ms.length v (fromS q)) ∧ Hid (w.heap.size ≤ D ∧ w.heap.size ≤ hb ∧ w.heap.size ≤ sd ∧ w.heap.size ≤ sb) ∧ Hid (∀ k, v.ownBlock = some k → w.heap.size ≤ k) ∧ Hid (Below w.heap.size w w') := by
  have hb1 : Below w.heap.size w (w.alloc (.cells #[.int .i64 q.qh, .int .i64 q.qb, .int .i64 q.qg] 23)) := Me.below_alloc (Below.refl _ _)
  have hx1 := heap_alloc_new w (.cells #[.int .i64 q.qh, .int .i64 q.qb, .int .i64 q.qg] 23 (0, 0))
  obtain ⟨V1, hV1⟩ : ∃ V, w.alloc (.cells #[.int .i64 q.qh, .int .i64 q.qb, .int .i64 q.qg] 23) = V := ⟨_, rfl⟩
  have hs1 : V1.heap.size = w.heap.size + 1 := by rw [← hV1]; simp
  rw [hV1] at hb1 hx1
  have hb2 : Below V1.heap.size V1 (V1.alloc (.cells #[.int .i64 q.me, .int .i64 q.ep, .slice AN q.N.length cN, .slice AH q.H.length cH, .slice AM q.P.length cM] 59)) := Me.below_alloc (Below.refl _ _)
  have hx2 := heap_alloc_new V1 (.cells #[.int .i64 q.me, .int .i64 q.ep, .slice AN q.N.length cN, .slice AH q.H.length cH, .slice AM q.P.length cM] 59 (0, 0))
  obtain ⟨V, hV⟩ : ∃ V, V1.alloc (.cells #[.int .i64 q.me, .int .i64 q.ep, .slice AN q.N.length cN, .slice AH q.H.length cH, .slice AM q.P.length cM] 59) = V := ⟨_, rfl⟩
  rw [hV] at hb2 hx2
  have HLv : Hid (∀ W, Below V.heap.size V W → W.heap[w.heap.size]? = some (.cells #[.int .i64 q.qh, .int .i64 q.qb, .int .i64 q.qg] 23 (0, 0)) ∧ W.heap[w.heap.size + 1]? = some (.cells #[.int .i64 q.me, .int .i64 q.ep, .slice AN q.N.length cN, .slice AH q.H.length cH, .slice AM q.P.length cM] 59 (0, 0)) ∧ Below w.heap.size w W) := fun W hW => by
    have k := go_on hb1 hb2
    have hx1' := (hb2.block _ (Array.getElem?_eq_some_iff.1 hx1).1).trans hx1
    rw [hs1] at hx2
    exact ⟨(hW.block _ (Array.getElem?_eq_some_iff.1 hx1').1).trans hx1', (hW.block _ (Array.getElem?_eq_some_iff.1 hx2).1).trans hx2, go_on k hW⟩
  have HFq : Hid (∀ W, Below V.heap.size V W → FqAt W q AN AH AM cM) := fun W hW => hq.out.below (HLv.out W hW).2.2
  have HV : Hid ((w.alloc (.cells #[.int .i64 q.qh, .int .i64 q.qb, .int .i64 q.qg] 23)).alloc (.cells #[.int .i64 q.me, .int .i64 q.ep, .slice AN q.N.length cN, .slice AH q.H.length cH, .slice AM q.P.length cM] 59) = V) := by show _ = _; rw [hV1, hV]
  have HS1 : Hid ((w.alloc (.cells #[.int .i64 q.qh, .int .i64 q.qb, .int .i64 q.qg] 23)).heap.size = w.heap.size + 1) := by show _ = _; rw [hV1]; exact hs1
  clear hV1 hs1 hb1 hx1 hb2 hx2 hV hq
  obtain ⟨hno, hrg, hmk, hgp, hck, hlen, hbyt⟩ := frm_zero hz
  have hzV : w.heap.size ≤ V.heap.size := (HLv.out V (Below.refl _ _)).2.2.size
  have HzV := Lib.hid hzV
  have HEV : Hid (∀ W : World, Below V.heap.size V W → ∀ k, W.heap.size ≤ k → E k) := fun W hW k hk => hE.out k (by have := hW.size; omega)
  have HN := Lib.hid (fun W => New_ok E q.me q.qh q.qb q.qg hno W)
  have HSf : Hid (∀ W, Below V.heap.size V W → Calls Tryz.prog 53 #[.int .i64 q.qg, .slice AM q.P.length cM] W fun e w' => ∃ D b, e = .returned (.tuple #[.pointer (some ⟨D, 0, none⟩), .int .i64 0]) ∧ Hid (Se.SetL E w' D b q.ms.length ⟨q.qg, Se.gapsTo q.ms q.ms.length, Se.keptTo q.ms q.ms.length⟩) ∧ Hid (W.heap.size ≤ D ∧ W.heap.size ≤ b) ∧ Hid (Below W.heap.size W w')) := fun W hW => by
    refine (Se.From_goodL E q.qg AM q.P.length cM q.P q.ms W (Lib.hid (HEV.out W hW)) (Lib.hid (HFq.out W hW).m) (Lib.hid (HFq.out W hW).ml) rfl hno.g0 hno.g1 hmk).mono ?_
    rintro e w' ⟨hb, ⟨h3, _⟩ | ⟨_, D, b, rfl, k1, k2, k3⟩⟩
    · exact absurd h3 hgp
    · exact ⟨D, b, rfl, k1, ⟨k2, k3⟩, hb⟩
  have HIr : Hid (∀ W, Below V.heap.size V W → Calls Tryz.prog 54 #[.agg #[.int .i64 q.me, .int .i64 q.ep, .slice AN q.N.length cN, .slice AH q.H.length cH, .slice AM q.P.length cM]] W fun e w' => e = .returned (.bool true) ∧ Hid (Below W.heap.size W w')) := fun W hW => by
    have := isRight_any q.me q.ep AN AH AM cN cH cM q.N q.H q.P q.ms W (HFq.out W hW).n (HFq.out W hW).nl (HFq.out W hW).h (HFq.out W hW).hl (HFq.out W hW).m (HFq.out W hW).ml rfl
    rw [hrg] at this
    exact this
  have HSz : Hid (∀ W, Below V.heap.size V W → Calls Tryz.prog 55 #[.slice AH q.H.length cH] W fun e w' => e = .returned (.int .i64 (bytesOf q.H)) ∧ Hid (Below W.heap.size W w')) := fun W hW => sizeOf_any AH cH q.H W (HFq.out W hW).h (hd48 hrg) (by have := hno.h1; omega)
  have HCo : Hid (∀ W, Below V.heap.size V W → Calls Tryz.prog 56 #[.slice AN q.N.length cN] W fun e w' => e = .returned (.agg (lastV (cntOf q.N))) ∧ Hid (Below W.heap.size W w')) := fun W hW => countersOf_any AN cN q.N W (HFq.out W hW).n (fun p hp => by
    have := (nxB_iff.1 (rg_parts hrg).2.2.1).1 p hp
    exact ⟨this.1.1, this.1.2.1⟩) (by
    have := nxB_len (by omega) (rg_parts hrg).2.2.1
    omega)
  have HMq : Hid (∀ W, Below V.heap.size V W → Mq W AH q.H) := fun W hW => (HFq.out W hW).h
  have HOk : Hid (∀ j, Ok (midS q j)) := fun j => mid_ok hz hby.out j
  have HNo : Hid (∀ (j : Nat) (x : It), q.H[j]? = some x → findH (midS q j).held x.i = none) := fun j x hx => mid_no hz hx
  have HRi : Hid (∀ (j : Nat) (x : It), q.H[j]? = some x → Mg.Right x.i ∧ x.p.length ≤ 48) := fun j x hx => by
    have h1 := hd_parts ((rg_parts hrg).2.2.2.1 x (List.mem_of_getElem? hx))
    exact ⟨(msgN_zero h1.1).1, (msgN_zero h1.1).2.2⟩
  have HStp : Hid (∀ (j : Nat) (x : It), q.H[j]? = some x → holdS (midS q j) x.i x.p = midS q (j + 1)) := fun j x hx => mid_step hx
  have HM0 : Hid (midS q 0 = ⟨q.me, q.qh, q.qb, q.qg, q.ep, cntOf q.N, [], ⟨q.qg, Se.gapsTo q.ms q.ms.length, Se.keptTo q.ms q.ms.length⟩⟩) := rfl
  obtain ⟨ML, hML⟩ : ∃ x, q.ms.length = x := ⟨_, rfl⟩
  obtain ⟨ss, hss⟩ : ∃ x, (⟨q.qg, Se.gapsTo q.ms q.ms.length, Se.keptTo q.ms q.ms.length⟩ : Se.St) = x := ⟨_, rfl⟩
  obtain ⟨LN, hLN⟩ : ∃ x, q.N.length = x := ⟨_, rfl⟩
  obtain ⟨LH, hLH⟩ : ∃ x, q.H.length = x := ⟨_, rfl⟩
  obtain ⟨LP, hLP⟩ : ∃ x, q.P.length = x := ⟨_, rfl⟩
  obtain ⟨by0, hb0⟩ : ∃ x, bytesOf q.H = x := ⟨_, rfl⟩
  obtain ⟨f, hf⟩ : ∃ x, cntOf q.N = x := ⟨_, rfl⟩
  have HLh := Lib.hid hLH
  rw [hss] at HSf HM0
  rw [hf] at HM0 HCo
  rw [hML] at HSf ⊢
  rw [hb0] at HSz hbyt
  rw [hLN] at HIr HCo
  rw [hLH] at HIr HSz hlen
  rw [hLP] at HIr HSf
  rw [hLN, hLH, hLP] at HLv HV ⊢
  have hL256 : LH ≤ 256 := by have := hno.h1; omega
  obtain ⟨mS, hmS⟩ : ∃ m, midS q = m := ⟨_, rfl⟩
  have HFs : Hid (fromS q = mS LH) := by show _ = _; rw [← hmS, ← hLH]; rfl
  rw [hmS] at HOk HNo HStp HM0
  obtain ⟨y0, y1, y2⟩ := quota_cells (HLv.out V (Below.refl _ _)).1
  obtain ⟨x0, x1, x2, x3, x4⟩ := state_cells (HLv.out V (Below.refl _ _)).2.1
  obtain ⟨me, qh, qb, qg, ep, N, H, P⟩ := q
  simp only at *
  clear hML hss hLN hLH hLP hb0 hf hmS HFq hby hno hrg hmk hgp hck hz hzV
  go_enter Tryz.func20, Tryz.ntmps20
  go_wp2_with (first
    | (rw [HV.out])
    | (go_at_call 7; refine (HN.out _).mono ?_; rintro e w1 ⟨D, hb, sd, sb, rfl, hSq, hGe, b1⟩; obtain ⟨k1, k2, _⟩ := HLv.out _ b1.out; clear x0 x1 x2 x3 x4 y0 y1 y2; obtain ⟨y0, y1, y2⟩ := quota_cells k1; obtain ⟨x0, x1, x2, x3, x4⟩ := state_cells k2; clear k1 k2)
    | (go_at_call 53; refine (HSf.out _ b1.out).mono ?_; rintro e w2 ⟨sd', sb', rfl, hSet, hGs, b2⟩; have B2 := Lib.hid (go_on b1.out b2.out); obtain ⟨k1, k2, _⟩ := HLv.out _ B2.out; clear x0 x1 x2 x3 x4 y0 y1 y2; obtain ⟨x0, x1, x2, x3, x4⟩ := state_cells k2; clear k1 k2)
    | (go_at_call 54; refine (HIr.out _ B2.out).mono ?_; rintro e w3 ⟨rfl, b3⟩; have B3 := Lib.hid (go_on B2.out b3.out)))
  clear x0 x1 x2 x3 x4
  have S0 : Below V.heap.size V w3.drew := B3.out.drew
  have S0' : Below w3.heap.size w3 w3.drew := (Below.refl _ _).drew
  refine wp_region_held_drew (S := fun W => Below V.heap.size V W) (by kernel_rfl) S0 (fun hHeld => ?_)
  refine wpAnyH_take (i := 0) (v := .int .i64 0) rfl (by kernel_rfl) (by kernel_rfl) (by kernel_rfl) (fun _ _ _ h => h) (Or.inl ⟨by rfl, ?_⟩) (by first | assumption | exact trivial) ?_
  · intro W hSW; go_simp; try (with_reducible rfl)
  simp only [Act.put, List.getElem_toArray, List.getElem_cons_succ, List.getElem_cons_zero, List.setIfInBounds_toArray, List.set_cons_zero, List.set_cons_succ]
  refine wpAnyH_take (i := 1) (v := .bool false) rfl (by kernel_rfl) (by kernel_rfl) (by kernel_rfl) (fun _ _ _ h => h) (Or.inl ⟨by rfl, ?_⟩) (by first | assumption | exact trivial) ?_
  · intro W hSW; go_simp; try (with_reducible rfl)
  simp only [Act.put, List.getElem_toArray, List.getElem_cons_succ, List.getElem_cons_zero, List.setIfInBounds_toArray, List.set_cons_zero, List.set_cons_succ]
  refine wpAnyH_take (i := 2) (v := .bool false) rfl (by kernel_rfl) (by kernel_rfl) (by kernel_rfl) (fun _ _ _ h => h) (Or.inl ⟨by rfl, ?_⟩) (by first | assumption | exact trivial) ?_
  · intro W hSW; go_simp; try (with_reducible rfl)
  simp only [Act.put, List.getElem_toArray, List.getElem_cons_succ, List.getElem_cons_zero, List.setIfInBounds_toArray, List.set_cons_zero, List.set_cons_succ]
  refine wpAnyH_take (i := 3) (v := .pointer (some ⟨w.heap.size + 1, 3, none⟩)) rfl (by kernel_rfl) (by kernel_rfl) (by kernel_rfl) (fun _ _ _ h => h) (Or.inl ⟨by rfl, ?_⟩) (by first | assumption | exact trivial) ?_
  · intro W hSW; go_simp; try (with_reducible rfl)
  simp only [Act.put, List.getElem_toArray, List.getElem_cons_succ, List.getElem_cons_zero, List.setIfInBounds_toArray, List.set_cons_zero, List.set_cons_succ]
  refine wpAnyH_take (i := 4) (v := .slice AH LH cH) rfl (by kernel_rfl) (by kernel_rfl) (by kernel_rfl) (fun _ _ _ h => h) (Or.inl ⟨by rfl, ?_⟩) (by first | assumption | exact trivial) ?_
  · intro W hSW; obtain ⟨x0, x1, x2, x3, x4⟩ := state_cells (HLv.out _ hSW).2.1; go_simp; try (with_reducible rfl)
  simp only [Act.put, List.getElem_toArray, List.getElem_cons_succ, List.getElem_cons_zero, List.setIfInBounds_toArray, List.set_cons_zero, List.set_cons_succ]
  refine wpAnyH_take (i := 5) (v := .int .i64 (LH : Int)) rfl (by kernel_rfl) (by kernel_rfl) (by kernel_rfl) (fun _ _ _ h => h) (Or.inl ⟨by rfl, ?_⟩) (by first | assumption | exact trivial) ?_
  · intro W hSW; go_simp; try (with_reducible rfl)
  simp only [Act.put, List.getElem_toArray, List.getElem_cons_succ, List.getElem_cons_zero, List.setIfInBounds_toArray, List.set_cons_zero, List.set_cons_succ]
  refine wpAnyH_take (i := 6) (v := .pointer (some ⟨w.heap.size, 0, none⟩)) rfl (by kernel_rfl) (by kernel_rfl) (by kernel_rfl) (fun _ _ _ h => h) (Or.inl ⟨by rfl, ?_⟩) (by first | assumption | exact trivial) ?_
  · intro W hSW; go_simp; try (with_reducible rfl)
  simp only [Act.put, List.getElem_toArray, List.getElem_cons_succ, List.getElem_cons_zero, List.setIfInBounds_toArray, List.set_cons_zero, List.set_cons_succ]
  refine wpAnyH_take (i := 7) (v := .int .i64 qh) rfl (by kernel_rfl) (by kernel_rfl) (by kernel_rfl) (fun _ _ _ h => h) (Or.inl ⟨by rfl, ?_⟩) (by first | assumption | exact trivial) ?_
  · intro W hSW; obtain ⟨y0, y1, y2⟩ := quota_cells (HLv.out _ hSW).1; go_simp; try (with_reducible rfl)
  simp only [Act.put, List.getElem_toArray, List.getElem_cons_succ, List.getElem_cons_zero, List.setIfInBounds_toArray, List.set_cons_zero, List.set_cons_succ]
  refine wpAnyH_take (i := 8) (v := .bool false) rfl (by kernel_rfl) (by kernel_rfl) (by kernel_rfl) (fun _ _ _ h => h) (Or.inl ⟨by rfl, ?_⟩) (by first | assumption | exact trivial) ?_
  · intro W hSW; go_simp; try (with_reducible rfl)
  simp only [Act.put, List.getElem_toArray, List.getElem_cons_succ, List.getElem_cons_zero, List.setIfInBounds_toArray, List.set_cons_zero, List.set_cons_succ]
  refine wpAnyH_take (i := 9) (v := .bool false) rfl (by kernel_rfl) (by kernel_rfl) (by kernel_rfl) (fun _ _ _ h => h) (Or.inl ⟨by rfl, ?_⟩) (by first | assumption | exact trivial) ?_
  · intro W hSW; go_simp; try (with_reducible rfl)
  simp only [Act.put, List.getElem_toArray, List.getElem_cons_succ, List.getElem_cons_zero, List.setIfInBounds_toArray, List.set_cons_zero, List.set_cons_succ]
  refine wpAnyH_take (i := 10) (v := .bool false) rfl (by kernel_rfl) (by kernel_rfl) (by kernel_rfl) (fun _ _ _ h => h) (Or.inl ⟨by rfl, ?_⟩) (by first | assumption | exact trivial) ?_
  · intro W hSW; go_simp; try (with_reducible rfl)
  simp only [Act.put, List.getElem_toArray, List.getElem_cons_succ, List.getElem_cons_zero, List.setIfInBounds_toArray, List.set_cons_zero, List.set_cons_succ]
  refine wpAnyH_take (i := 11) (v := .pointer (some ⟨w.heap.size + 1, 3, none⟩)) rfl (by kernel_rfl) (by kernel_rfl) (by kernel_rfl) (fun _ _ _ h => h) (Or.inl ⟨by rfl, ?_⟩) (by first | assumption | exact trivial) ?_
  · intro W hSW; go_simp; try (with_reducible rfl)
  simp only [Act.put, List.getElem_toArray, List.getElem_cons_succ, List.getElem_cons_zero, List.setIfInBounds_toArray, List.set_cons_zero, List.set_cons_succ]
  refine wpAnyH_take (i := 12) (v := .slice AH LH cH) rfl (by kernel_rfl) (by kernel_rfl) (by kernel_rfl) (fun _ _ _ h => h) (Or.inl ⟨by rfl, ?_⟩) (by first | assumption | exact trivial) ?_
  · intro W hSW; obtain ⟨x0, x1, x2, x3, x4⟩ := state_cells (HLv.out _ hSW).2.1; go_simp; try (with_reducible rfl)
  simp only [Act.put, List.getElem_toArray, List.getElem_cons_succ, List.getElem_cons_zero, List.setIfInBounds_toArray, List.set_cons_zero, List.set_cons_succ]
  refine wpAnyH_take (i := 14) (v := .pointer (some ⟨w.heap.size, 1, none⟩)) rfl (by kernel_rfl) (by kernel_rfl) (by kernel_rfl) (fun _ _ _ h => h) (Or.inl ⟨by rfl, ?_⟩) (by first | assumption | exact trivial) ?_
  · intro W hSW; go_simp; try (with_reducible rfl)
  simp only [Act.put, List.getElem_toArray, List.getElem_cons_succ, List.getElem_cons_zero, List.setIfInBounds_toArray, List.set_cons_zero, List.set_cons_succ]
  refine wpAnyH_take (i := 15) (v := .int .i64 qb) rfl (by kernel_rfl) (by kernel_rfl) (by kernel_rfl) (fun _ _ _ h => h) (Or.inl ⟨by rfl, ?_⟩) (by first | assumption | exact trivial) ?_
  · intro W hSW; obtain ⟨y0, y1, y2⟩ := quota_cells (HLv.out _ hSW).1; go_simp; try (with_reducible rfl)
  simp only [Act.put, List.getElem_toArray, List.getElem_cons_succ, List.getElem_cons_zero, List.setIfInBounds_toArray, List.set_cons_zero, List.set_cons_succ]
  refine wpAnyH_ready (rs := [13]) (by kernel_rfl) (by simp) ?_
  refine AllReadyH.cons rfl (fun K hK => ?_) AllReadyH.nil
  go_simp
  go_wp2_with (go_at_call 55; refine (HSz.out _ S0).mono ?_; rintro e w4 ⟨rfl, b4⟩)
  have S4 := go_on S0 b4.out
  have S34 := go_on S0' b4.out
  refine hK.out _ _ (S4) (fun hHeld => ?_)
  clear hK K
  refine wpAnyH_take (i := 16) (v := .bool false) rfl (by kernel_rfl) (by kernel_rfl) (by kernel_rfl) (fun _ _ _ h => h) (Or.inl ⟨by rfl, ?_⟩) (by first | assumption | exact trivial) ?_
  · intro W hSW; go_simp; try (with_reducible rfl)
  simp only [Act.put, List.getElem_toArray, List.getElem_cons_succ, List.getElem_cons_zero, List.setIfInBounds_toArray, List.set_cons_zero, List.set_cons_succ]
  refine wpAnyH_take (i := 17) (v := .bool false) rfl (by kernel_rfl) (by kernel_rfl) (by kernel_rfl) (fun _ _ _ h => h) (Or.inl ⟨by rfl, ?_⟩) (by first | assumption | exact trivial) ?_
  · intro W hSW; go_simp; try (with_reducible rfl)
  simp only [Act.put, List.getElem_toArray, List.getElem_cons_succ, List.getElem_cons_zero, List.setIfInBounds_toArray, List.set_cons_zero, List.set_cons_succ]
  refine wpAnyH_take (i := 18) (v := .bool false) rfl (by kernel_rfl) (by kernel_rfl) (by kernel_rfl) (fun _ _ _ h => h) (Or.inl ⟨by rfl, ?_⟩) (by first | assumption | exact trivial) ?_
  · intro W hSW; go_simp; try (with_reducible rfl)
  simp only [Act.put, List.getElem_toArray, List.getElem_cons_succ, List.getElem_cons_zero, List.setIfInBounds_toArray, List.set_cons_zero, List.set_cons_succ]
  refine wpAnyH_done (by kernel_rfl) ?_ _
  have HS4 := Lib.hid S4
  have HSt4 : Hid (w4.heap[w.heap.size + 1]? = some (.cells #[.int .i64 me, .int .i64 ep, .slice AN LN cN, .slice AH LH cH, .slice AM LP cM] 59 (0, 0))) := (HLv.out _ S4).2.1
  have k24 := go_on b3.out S34
  have k14 := go_on b2.out k24
  have hSq4 := Lib.hid (hSq.out.below k14)
  have hSet4 := Lib.hid (hSet.out.below k24)
  have hb1s := hSq.out.lt hb (.inr (.inl rfl))
  have HNe : Hid (hb ≠ sb') := by have := hGs.out.2; show hb ≠ sb'; omega
  have HNx : Hid (D ≠ w.heap.size + 1) := by have h1 := (Array.getElem?_eq_some_iff.1 (HLv.out V (Below.refl _ _)).2.1).1; have h2 := hGe.out.1; show D ≠ w.heap.size + 1; omega
  have HGe : Hid (V.heap.size ≤ D ∧ V.heap.size ≤ hb ∧ V.heap.size ≤ sd' ∧ V.heap.size ≤ sb') := by
    obtain ⟨a, b, _, _⟩ := hGe.out
    obtain ⟨c, d⟩ := hGs.out
    have h1 := b1.out.size
    exact ⟨by omega, by omega, by omega, by omega⟩
  clear S0 S0' S4 S34 k24 k14 hSq hSet hGe hGs hHeld b1 b2 b3 b4 B2 B3 HSz HIr HSf HN hb1s hlen hbyt
  go_wp2
  have T0 : But (fun k => k = D) w4 w4.drew := But.of_below (Below.refl _ _).drew
  refine wp_region_held_drew (S := fun W => But (fun k => k = D) w4 W) (by kernel_rfl) T0 (fun hHeld => ?_)
  refine wpAnyH_take (i := 0) (v := .pointer (some ⟨D, 0, none⟩)) rfl (by kernel_rfl) (by kernel_rfl) (by kernel_rfl) (fun _ _ _ h => h) (Or.inl ⟨by rfl, ?_⟩) (by first | assumption | exact trivial) ?_
  · intro W hSW; go_simp; try (with_reducible rfl)
  simp only [Act.put, List.getElem_toArray, List.getElem_cons_succ, List.getElem_cons_zero, List.setIfInBounds_toArray, List.set_cons_zero, List.set_cons_succ]
  refine wpAnyH_take (i := 1) (v := .pointer (some ⟨D, 0, none⟩)) rfl (by kernel_rfl) (by kernel_rfl) (by kernel_rfl) (fun _ _ _ h => h) (Or.inl ⟨by rfl, ?_⟩) (by first | assumption | exact trivial) ?_
  · intro W hSW; go_simp; try (with_reducible rfl)
  simp only [Act.put, List.getElem_toArray, List.getElem_cons_succ, List.getElem_cons_zero, List.setIfInBounds_toArray, List.set_cons_zero, List.set_cons_succ]
  refine wpAnyH_take (i := 2) (v := .pointer (some ⟨D, 0, none⟩)) rfl (by kernel_rfl) (by kernel_rfl) (by kernel_rfl) (fun _ _ _ h => h) (Or.inl ⟨by rfl, ?_⟩) (by first | assumption | exact trivial) ?_
  · intro W hSW; go_simp; try (with_reducible rfl)
  simp only [Act.put, List.getElem_toArray, List.getElem_cons_succ, List.getElem_cons_zero, List.setIfInBounds_toArray, List.set_cons_zero, List.set_cons_succ]
  refine wpAnyH_take (i := 8) (v := .pointer (some ⟨sd', 0, none⟩)) rfl (by kernel_rfl) (by kernel_rfl) (by kernel_rfl) (fun _ _ _ h => h) (Or.inl ⟨by rfl, ?_⟩) (by first | assumption | exact trivial) ?_
  · intro W hSW; go_simp; try (with_reducible rfl)
  simp only [Act.put, List.getElem_toArray, List.getElem_cons_succ, List.getElem_cons_zero, List.setIfInBounds_toArray, List.set_cons_zero, List.set_cons_succ]
  refine wpAnyH_take (i := 3) (v := .pointer (some ⟨w.heap.size + 1, 1, none⟩)) rfl (by kernel_rfl) (by kernel_rfl) (by kernel_rfl) (fun _ _ _ h => h) (Or.inl ⟨by rfl, ?_⟩) (by first | assumption | exact trivial) ?_
  · intro W hSW; go_simp; try (with_reducible rfl)
  simp only [Act.put, List.getElem_toArray, List.getElem_cons_succ, List.getElem_cons_zero, List.setIfInBounds_toArray, List.set_cons_zero, List.set_cons_succ]
  refine wpAnyH_take (i := 4) (v := .int .i64 ep) rfl (by kernel_rfl) (by kernel_rfl) (by kernel_rfl) (fun _ _ _ h => h) (Or.inl ⟨by rfl, ?_⟩) (by first | assumption | exact trivial) ?_
  · intro W hSW; obtain ⟨x0, x1, x2, x3, x4⟩ := state_cells (hSW.at_ HSt4.out (fun h => HNx.out h.symm)); go_simp; try (with_reducible rfl)
  simp only [Act.put, List.getElem_toArray, List.getElem_cons_succ, List.getElem_cons_zero, List.setIfInBounds_toArray, List.set_cons_zero, List.set_cons_succ]
  refine wpAnyH_take (i := 5) (v := .pointer (some ⟨w.heap.size + 1, 2, none⟩)) rfl (by kernel_rfl) (by kernel_rfl) (by kernel_rfl) (fun _ _ _ h => h) (Or.inl ⟨by rfl, ?_⟩) (by first | assumption | exact trivial) ?_
  · intro W hSW; go_simp; try (with_reducible rfl)
  simp only [Act.put, List.getElem_toArray, List.getElem_cons_succ, List.getElem_cons_zero, List.setIfInBounds_toArray, List.set_cons_zero, List.set_cons_succ]
  refine wpAnyH_take (i := 6) (v := .slice AN LN cN) rfl (by kernel_rfl) (by kernel_rfl) (by kernel_rfl) (fun _ _ _ h => h) (Or.inl ⟨by rfl, ?_⟩) (by first | assumption | exact trivial) ?_
  · intro W hSW; obtain ⟨x0, x1, x2, x3, x4⟩ := state_cells (hSW.at_ HSt4.out (fun h => HNx.out h.symm)); go_simp; try (with_reducible rfl)
  simp only [Act.put, List.getElem_toArray, List.getElem_cons_succ, List.getElem_cons_zero, List.setIfInBounds_toArray, List.set_cons_zero, List.set_cons_succ]
  refine wpAnyH_ready (rs := [7]) (by kernel_rfl) (by simp) ?_
  refine AllReadyH.cons rfl (fun K hK => ?_) AllReadyH.nil
  go_simp
  go_wp2_with (go_at_call 56; refine (HCo.out _ HS4.out.drew).mono ?_; rintro e w5 ⟨rfl, b5⟩)
  have T5 := T0.trans (But.of_below (S := fun k => k = D) b5.out) (fun _ _ h => h)
  refine hK.out _ _ (T5) (fun hHeld => ?_)
  clear hK K
  have HSq5 := hSq4.out.below (go_on (Below.refl w4.heap.size w4).drew b5.out)
  have hx5 := HSq5.box
  refine wpAnyH_take (i := 9) (v := .pointer (some ⟨D, 0, none⟩)) rfl (by kernel_rfl) (by kernel_rfl) (by kernel_rfl) (fun _ _ _ h => h) (Or.inl ⟨by rfl, ?_⟩) (by first | assumption | exact trivial) ?_
  · intro W hSW; go_simp; try (with_reducible rfl)
  simp only [Act.put, List.getElem_toArray, List.getElem_cons_succ, List.getElem_cons_zero, List.setIfInBounds_toArray, List.set_cons_zero, List.set_cons_succ]
  refine wpAnyH_take (i := 10) (v := .pointer (some ⟨D, 4, none⟩)) rfl (by kernel_rfl) (by kernel_rfl) (by kernel_rfl) (fun _ _ _ h => h) (Or.inl ⟨by rfl, ?_⟩) (by first | assumption | exact trivial) ?_
  · intro W hSW; go_simp; try (with_reducible rfl)
  simp only [Act.put, List.getElem_toArray, List.getElem_cons_succ, List.getElem_cons_zero, List.setIfInBounds_toArray, List.set_cons_zero, List.set_cons_succ]
  refine wpAnyH_ready (rs := [11]) (by kernel_rfl) (by simp) ?_
  refine AllReadyH.cons rfl (fun K hK => ?_) AllReadyH.nil
  have fD5 := hx5.frozen 4
  have yD5 := hx5.epoch
  go_simp
  obtain ⟨V6, hV6⟩ : ∃ V, w5.setCell ⟨D, 4, none⟩ (.int .i64 ep) = V := ⟨_, rfl⟩
  have hx6 : Box V6 D ⟨me, qh, qb, qg, ep, fun _ => 0, [], ⟨qg, 0, fun _ _ => none⟩⟩ hb sd (.slice none 0 0) 0 := by rw [← hV6]; exact hx5.setE ep
  have T6 : But (fun k => k = D) w4 V6 := by rw [← hV6]; exact T5.set (p := ⟨D, 4, none⟩) (.inl rfl) _
  rw [hV6]
  clear hV6 fD5 yD5 hx5 HSq5
  refine hK.out _ _ (T6) (fun hHeld => ?_)
  clear hK K
  refine wpAnyH_take (i := 12) (v := .pointer (some ⟨D, 0, none⟩)) rfl (by kernel_rfl) (by kernel_rfl) (by kernel_rfl) (fun _ _ _ h => h) (Or.inl ⟨by rfl, ?_⟩) (by first | assumption | exact trivial) ?_
  · intro W hSW; go_simp; try (with_reducible rfl)
  simp only [Act.put, List.getElem_toArray, List.getElem_cons_succ, List.getElem_cons_zero, List.setIfInBounds_toArray, List.set_cons_zero, List.set_cons_succ]
  refine wpAnyH_take (i := 13) (v := .pointer (some ⟨D, 5, none⟩)) rfl (by kernel_rfl) (by kernel_rfl) (by kernel_rfl) (fun _ _ _ h => h) (Or.inl ⟨by rfl, ?_⟩) (by first | assumption | exact trivial) ?_
  · intro W hSW; go_simp; try (with_reducible rfl)
  simp only [Act.put, List.getElem_toArray, List.getElem_cons_succ, List.getElem_cons_zero, List.setIfInBounds_toArray, List.set_cons_zero, List.set_cons_succ]
  refine wpAnyH_ready (rs := [14]) (by kernel_rfl) (by simp) ?_
  refine AllReadyH.cons rfl (fun K hK => ?_) AllReadyH.nil
  refine wp_store_mid 76 (.tmp 68) (.tmp 63) rfl D 5 (lastV f) rfl rfl (by rw [lastV_size]; exact hx6.there) (size64 f) (lastV_one f) ?_
  obtain ⟨V7, hV7⟩ : ∃ V, V6.setCells D 5 (lastV f).toList = V := ⟨_, rfl⟩
  have hx7 : Box V7 D ⟨me, qh, qb, qg, ep, f, [], ⟨qg, 0, fun _ _ => none⟩⟩ hb sd (.slice none 0 0) 0 := by rw [← hV7]; exact hx6.cnt f
  have T7 : But (fun k => k = D) w4 V7 := by rw [← hV7]; exact T6.trans (but_setCells _ D 5 _).1 fun _ _ h => h
  rw [hV7]
  clear hV7 hx6
  refine hK.out _ _ (T7) (fun hHeld => ?_)
  clear hK K
  refine wpAnyH_take (i := 15) (v := .pointer (some ⟨D, 0, none⟩)) rfl (by kernel_rfl) (by kernel_rfl) (by kernel_rfl) (fun _ _ _ h => h) (Or.inl ⟨by rfl, ?_⟩) (by first | assumption | exact trivial) ?_
  · intro W hSW; go_simp; try (with_reducible rfl)
  simp only [Act.put, List.getElem_toArray, List.getElem_cons_succ, List.getElem_cons_zero, List.setIfInBounds_toArray, List.set_cons_zero, List.set_cons_succ]
  refine wpAnyH_take (i := 16) (v := .pointer (some ⟨D, 72, none⟩)) rfl (by kernel_rfl) (by kernel_rfl) (by kernel_rfl) (fun _ _ _ h => h) (Or.inl ⟨by rfl, ?_⟩) (by first | assumption | exact trivial) ?_
  · intro W hSW; go_simp; try (with_reducible rfl)
  simp only [Act.put, List.getElem_toArray, List.getElem_cons_succ, List.getElem_cons_zero, List.setIfInBounds_toArray, List.set_cons_zero, List.set_cons_succ]
  refine wpAnyH_ready (rs := [17]) (by kernel_rfl) (by simp) ?_
  refine AllReadyH.cons rfl (fun K hK => ?_) AllReadyH.nil
  have fD7 := hx7.frozen 72
  have yD7 := hx7.set
  go_simp
  obtain ⟨V8, hV8⟩ : ∃ V, V7.setCell ⟨D, 72, none⟩ (.pointer (some ⟨sd', 0, none⟩)) = V := ⟨_, rfl⟩
  have hx8 : Box V8 D ⟨me, qh, qb, qg, ep, f, [], ⟨qg, 0, fun _ _ => none⟩⟩ hb sd' (.slice none 0 0) 0 := by rw [← hV8]; exact hx7.setP sd'
  have T8 : But (fun k => k = D) w4 V8 := by rw [← hV8]; exact T7.set (p := ⟨D, 72, none⟩) (.inl rfl) _
  rw [hV8]
  clear hV8 hx7 fD7 yD7
  refine hK.out _ _ (T8) (fun hHeld => ?_)
  clear hK K
  refine wpAnyH_done (by kernel_rfl) ?_ _
  have hap := hSq4.out.apart
  have hI8 : Se.IntsF E w4 V8 := Se.IntsF.but T8 fun k cs _ hk e => by subst e; exact (hSq4.out.no8 (.inl rfl) cs).2 hk
  have hU8 : U8s E w4 V8 := U8s.but T8 fun k cs _ hk e => by subst e; exact (hSq4.out.no8 (.inl rfl) cs).1 hk
  have hDs : sd' ≠ D := fun e => by
    have h1 := hSet4.out.box
    rw [e, show w4.heap[D]? = _ from hSq4.out.box] at h1
    simp at h1
  have hDb : sb' ≠ D := fun e => by
    obtain ⟨es, c, h1⟩ := hSet4.out.map.isMap
    rw [e, show w4.heap[D]? = _ from hSq4.out.box] at h1
    cases h1
  have HQ8 : Hid (Sq E V8 D hb sd' sb' ML (.slice none 0 0) (mS 0)) := by
    show Sq _ _ _ _ _ _ _ _ _
    have hok0 := HOk.out 0
    rw [HM0.out] at hok0 ⊢
    exact ⟨hx8, hSq4.out.map.keep (T8.same hb hSq4.out.map.lt hap.1.symm) hU8 fun _ _ h => h, ki_nil _, hSet4.out.keep (T8.same sd' hSet4.out.lt.1 hDs) (T8.same sb' hSet4.out.lt.2 hDb) hI8 fun _ _ h => h, hok0, HNe.out⟩
  have HB8 : Hid (Below V.heap.size V V8) := HS4.out.trans (T8.below HS4.out.size fun k hk => by have := HGe.out.1; omega)
  have hX8 := T8.at_ HSt4.out (fun h => HNx.out h.symm)
  obtain ⟨x0, x1, x2, x3, x4⟩ := state_cells hX8
  clear hHeld T0 T5 T6 T7 T8 hx8 hap hI8 hU8 hDs hDb hX8 b5 hSq4 hSet4 HCo HSt4 HS4
  go_wp2
  go_loopw [74] (fun v74 wr => ∃ j : Nat, j ≤ LH ∧ v74 = .int .i64 j ∧ (∃ v, Hid (Sq E wr D hb sd' sb' ML v (mS j)) ∧ Hid (∀ k, v.ownBlock = some k → V.heap.size ≤ k)) ∧ Hid (Below V.heap.size V wr)) (fun k _ => LH - (intOf k).toNat)
  case atStart => exact ⟨0, Nat.zero_le _, rfl, ⟨_, HQ8, fun k hk => by cases hk⟩, HB8⟩
  case round =>
    clear x0 x1 x2 x3 x4
    obtain ⟨j, hj, rfl, ⟨v, HS, Hv⟩, HB⟩ := hrel
    by_cases hlt : j < LH
    · obtain ⟨x, hx⟩ : ∃ x, H[j]? = some x := ⟨_, List.getElem?_eq_getElem (by have := HLh.out; omega)⟩
      obtain ⟨g, off, R, cr, rfl, hg, ⟨c0, c1, c2, c3, c4⟩, hrd, hnil, _, _⟩ := HMq.out wr HB.out j x hx
      obtain ⟨hri, h48⟩ := HRi.out j x hx
      have hzw := HB.out.size
      have HHd : Hid (∀ W, Below wr.heap.size wr W → Calls Tryz.prog 34 #[.pointer (some ⟨D, 0, none⟩), .agg (Mg.msgC x.i R x.p.length cr)] W fun e w' => (∃ y, e = .returned y) ∧ ∃ v', Hid (Sq E w' D hb sd' sb' ML v' (mS (j + 1))) ∧ Hid (∀ k, v'.ownBlock = some k → V.heap.size ≤ k) ∧ Hid (Below V.heap.size V w')) := fun W hW => by
        have hBW : Below V.heap.size V W := go_on HB.out hW
        refine (hold_any E D hb sd' sb' ML v (mS j) W x.i R cr x.p hri (HNo.out j x hx) (by rw [HStp.out j x hx]; exact HOk.out _) (Lib.hid (Me.Rd.more (hrd.below hW) hW.size)) (Lib.hid hnil) (Lib.hid (HEV.out W hBW)) (Lib.hid (HS.out.below hW))).mono ?_
        rintro e w' ⟨he, v', k1, k2, k3⟩
        rw [HStp.out j x hx] at k1
        refine ⟨he, v', k1, fun k hk => (k3.out k hk).elim (Hv.out k) fun h => by have := hW.size; omega, hBW.trans (k2.out.below hBW.size fun k hk => ?_)⟩
        obtain ⟨a, b, c, d⟩ := HGe.out
        rcases hk with rfl | rfl | rfl | rfl | h
        · exact a
        · exact b
        · exact c
        · exact d
        · exact Hv.out k h
      obtain ⟨⟨o, d, ee, cc⟩, p⟩ := x
      simp only [Mg.msgC, Mg.idC] at c0 c1 c2 c3 c4 HHd
      obtain ⟨n, hn⟩ : ∃ n, p.length = n := ⟨_, rfl⟩
      rw [hn] at c4 HHd
      have g1 : (j : Int) < (LH : Int) := by omega
      have g2 : ¬ ((LH : Int) ≤ (j : Int)) := by omega
      have g3 : (j : Int) < 100000 := by omega
      obtain ⟨VX, hVX⟩ : ∃ V, wr.alloc (.cells #[.int .i64 o, .int .i64 d, .int .i64 ee, .int .i64 cc, .slice R n cr] 46) = V := ⟨_, rfl⟩
      have hbv : Below wr.heap.size wr VX := by rw [← hVX]; exact Me.below_alloc (Below.refl _ _)
      have hxv : VX.heap[wr.heap.size]? = some (.cells #[.int .i64 o, .int .i64 d, .int .i64 ee, .int .i64 cc, .slice R n cr] 46 (0, 0)) := by rw [← hVX]; exact heap_alloc_new wr _
      obtain ⟨z0, z1, z2, z3, z4⟩ := msg_cells hxv
      have HVX := Lib.hid hVX
      have HBV := Lib.hid hbv
      clear hVX hbv hxv hx hg hrd hnil hri h48 hzw hn HS Hv
      go_wp2_with (first
        | (rw [HVX.out])
        | (go_at_call 34; refine (HHd.out _ HBV.out).mono ?_; rintro e w9 ⟨⟨y9, rfl⟩, v', hS9, hv9, hb9⟩))
      go_roundw
      case rel => exact ⟨j + 1, by omega, by go_num, ⟨v', hS9, hv9⟩, hb9⟩
      case measure => simp [intOf]; omega
    · obtain rfl : j = LH := by omega
      have g1 : ¬ (j : Int) < (j : Int) := by omega
      go_wp2
      go_ret2
      obtain ⟨a, b, c, d⟩ := HGe.out
      have h2 := HzV.out
      refine ⟨_, rfl, hb, sd', sb', v, ?_, ⟨by omega, by omega, by omega, by omega⟩, fun k hk => by have := Hv.out k hk; omega, (HLv.out _ HB.out).2.2⟩
      show Sq _ _ _ _ _ _ _ _ _
      rw [HFs.out]
      exact HS.out
end Go.Proofs.YtfnlhfelpdkieaaGreat.So
