/- The document's CopyState. -/
import Derived.Test.YtfnlhfelpdkieaaGreatZ30
import Derived.Test.YtfnlhfelpdkieaaGreatZ27
import Derived.Test.YtfnlhfelpdkieaaGreatZ22
import Derived.Test.YtfnlhfelpdkieaaGreatSoFmG
import Derived.Test.YtfnlhfelpdkieaaGreatSoFrC
import Derived.Test.YtfnlhfelpdkieaaGreatZ29
import Derived.Test.YtfnlhfelpdkieaaGreatZ20
namespace Go.Proofs.YtfnlhfelpdkieaaGreat.So
open Go.RowKit Go.Deep
open Go.Proofs.YtfnlhfelpdkieaaGreat.Me Go.Proofs.YtfnlhfelpdkieaaGreat.Sb
set_option linter.unusedVariables false
set_option linter.unusedSimpArgs false

/-- What is known of the memory that a state takes. -/
structure FqSz (q : Fq) (AN : Option Addr) (cN cH cM : Nat) : Prop where
  na : AN = none → q.N.length = 0 ∧ cN = 0
  nc : q.N.length ≤ cN
  nb : cN * 16 ≤ 140737488351232
  hc : q.H.length ≤ cH
  hb : cH * 56 ≤ 140737488351232
  by_ : ∀ x ∈ q.H, x.p.length ≤ 140737488351232
  lt : ∀ x ∈ q.H, ∀ z ∈ x.p, z < 256
  mz : Se.Msz cM q.P
/-- The same state with marks that lie elsewhere. -/
def Fq.with (q : Fq) (P : List Se.Pm) : Fq := ⟨q.me, q.qh, q.qb, q.qg, q.ep, q.N, q.H, P⟩
set_option maxRecDepth 100000 in
set_option maxHeartbeats 16000000 in
theorem CopyState_any (q : Fq) (AN AH AM : Option Addr) (cN cH cM : Nat) (w : World) (hq : Hid (FqAt w q AN AH AM cM)) (hz : Hid (FqSz q AN cN cH cM)) :
    Calls Tryz.prog 19 #[.agg #[.int .i64 q.me, .int .i64 q.ep, .slice AN q.N.length cN, .slice AH q.H.length cH, .slice AM q.P.length cM]] w fun e w' => ∃ AN' AH' AM' cN' cH' cM' P', e = .returned (.agg #[.int .i64 q.me, .int .i64 q.ep, .slice AN' q.N.length cN', .slice AH' q.H.length cH', .slice AM' q.P.length cM']) ∧ Hid (P'.length = q.P.length ∧ P'.map Se.Pm.m = q.P.map Se.Pm.m) ∧ Hid (FqAt w' (q.with P') AN' AH' AM' cM') ∧ Hid (Below w.heap.size w w') := by
  obtain ⟨hB, hY, hX⟩ := two_new w #[.int .i64 q.me, .int .i64 q.ep, .slice AN q.N.length cN, .slice AH q.H.length cH, .slice AM q.P.length cM] #[.int .i64 0, .int .i64 0, .slice none 0 0, .slice none 0 0, .slice none 0 0] 59 59
  obtain ⟨V0, hV0⟩ : ∃ V, (w.alloc (.cells #[.int .i64 q.me, .int .i64 q.ep, .slice AN q.N.length cN, .slice AH q.H.length cH, .slice AM q.P.length cM] 59)).alloc (.cells #[.int .i64 0, .int .i64 0, .slice none 0 0, .slice none 0 0, .slice none 0 0] 59) = V := ⟨_, rfl⟩
  rw [hV0] at hB hY hX
  have hlt0 : w.heap.size + 1 < V0.heap.size := (Array.getElem?_eq_some_iff.1 hY).1
  have HQ : Hid (∀ W, Below V0.heap.size V0 W → FqAt W q AN AH AM cM) := fun W hW => hq.out.below (go_on hB hW)
  have HCp : Hid (∀ W, Below V0.heap.size V0 W → Calls Tryz.prog 51 #[.slice AH q.H.length cH] W fun e w' => ∃ A' c' P', e = .returned (.slice A' q.H.length c') ∧ Hid (Ow w' W.heap.size (.slice A' q.H.length c') P') ∧ Hid (P'.map Pq.x = q.H) ∧ Hid (Below W.heap.size W w')) := fun W hW => by
    refine (CopyMsgs_any AH cH q.H W (Lib.hid (HQ.out W hW).h) hz.out.hc hz.out.hb hz.out.by_).mono ?_
    rintro e w' ⟨v', P', rfl, k1, k2, k3⟩
    obtain ⟨A', c', rfl, _, _⟩ := k1.out.form
    have hl : P'.length = q.H.length := by rw [← k2.out, List.length_map]
    rw [hl] at k1 ⊢
    exact ⟨A', c', P', rfl, k1, k2, k3⟩
  have HCm : Hid (∀ W, Below V0.heap.size V0 W → Calls Tryz.prog 52 #[.slice AM q.P.length cM] W fun e w' => ∃ A' c' P', e = .returned (.slice A' q.P.length c') ∧ Hid (Se.Mw w' W.heap.size (.slice A' q.P.length c') P') ∧ Hid (P'.length = q.P.length ∧ P'.map Se.Pm.m = q.P.map Se.Pm.m) ∧ Hid (Below W.heap.size W w')) := fun W hW => by
    refine (Se.CopyMarks_any AM q.P.length cM q.P W (Lib.hid (HQ.out W hW).m) (Lib.hid hz.out.mz)).mono ?_
    rintro e w' ⟨v', P', rfl, k1, k2, k3⟩
    obtain ⟨A', c', rfl, _, _⟩ := k1.out.form
    have hl : P'.length = q.P.length := by have := congrArg List.length k2.out; simpa using this
    rw [hl] at k1 ⊢
    exact ⟨A', c', P', rfl, k1, ⟨hl, k2.out⟩, k3⟩
  have HNq : Hid (∀ W, Below V0.heap.size V0 W → Nq W AN q.N) := fun W hW => (HQ.out W hW).n
  have HNa := Lib.hid hz.out.na
  have HNb : Hid (q.N.length * 16 ≤ 140737488355328) := by have h1 := hz.out.nc; have h2 := hz.out.nb; show _ ≤ _; omega
  have HLT : Hid (∀ x ∈ q.H, ∀ z ∈ x.p, z < 256) := hz.out.lt
  have HLs : Hid (q.N.length ≤ 100000000000000 ∧ q.H.length ≤ 10000000000000 ∧ q.P.length ≤ 3000000000000) := ⟨hq.out.nl, hq.out.hl, hq.out.ml.len⟩
  have HLv : Hid (∀ W, Below V0.heap.size V0 W → W.heap[w.heap.size]? = some (.cells #[.int .i64 q.me, .int .i64 q.ep, .slice AN q.N.length cN, .slice AH q.H.length cH, .slice AM q.P.length cM] 59 (0, 0)) ∧ W.heap[w.heap.size + 1]? = some (.cells #[.int .i64 0, .int .i64 0, .slice none 0 0, .slice none 0 0, .slice none 0 0] 59 (0, 0)) ∧ Below w.heap.size w W) := fun W hW => ⟨(hW.block _ (Array.getElem?_eq_some_iff.1 hX).1).trans hX, (hW.block _ (Array.getElem?_eq_some_iff.1 hY).1).trans hY, go_on hB hW⟩
  obtain ⟨me, qh, qb, qg, ep, N, H, P⟩ := q
  simp only [Fq.with] at HCp HCm HNq HNa HNb HLT HLs HLv hV0 ⊢
  obtain ⟨LN, hLN⟩ : ∃ x, N.length = x := ⟨_, rfl⟩
  obtain ⟨LH, hLH⟩ : ∃ x, H.length = x := ⟨_, rfl⟩
  obtain ⟨LP, hLP⟩ : ∃ x, P.length = x := ⟨_, rfl⟩
  have HLN := Lib.hid hLN
  rw [hLP] at HLs
  rw [hLH] at HCp
  rw [hLP] at HCm
  rw [hLN, hLH, hLP] at HLv hV0 ⊢
  have HV := Lib.hid hV0
  have HLT0 := Lib.hid hlt0
  clear hq hz HQ hB hX hY hV0 hlt0 hLN hLH hLP
  go_enter Tryz.func19, Tryz.ntmps19
  go_wp2
  rw [HV.out]
  have HSS : Hid (∀ W, Below V0.heap.size V0 W → Below w.heap.size w W ∧ W.heap[w.heap.size]? = some (.cells #[.int .i64 me, .int .i64 ep, .slice AN LN cN, .slice AH LH cH, .slice AM LP cM] 59 (0, 0))) := fun W hW => ⟨(HLv.out W hW).2.2, (HLv.out W hW).1⟩
  have S0 := HSS.out V0.drew (Below.refl _ _).drew
  refine wp_region_held_drew (S := fun W => Below w.heap.size w W ∧ W.heap[w.heap.size]? = some (.cells #[.int .i64 me, .int .i64 ep, .slice AN LN cN, .slice AH LH cH, .slice AM LP cM] 59 (0, 0))) (by kernel_rfl) S0 (fun hHeld => ?_)
  refine wpAnyH_take (i := 0) (v := .pointer (some ⟨w.heap.size, 0, none⟩)) rfl (by kernel_rfl) (by kernel_rfl) (by kernel_rfl) (fun _ _ _ h => h) (Or.inl ⟨by rfl, ?_⟩) (by first | assumption | exact trivial) ?_
  · intro W hSW; go_simp; try (with_reducible rfl)
  simp only [Act.put, List.getElem_toArray, List.getElem_cons_succ, List.getElem_cons_zero, List.setIfInBounds_toArray, List.set_cons_zero, List.set_cons_succ]
  refine wpAnyH_take (i := 1) (v := .int .i64 me) rfl (by kernel_rfl) (by kernel_rfl) (by kernel_rfl) (fun _ _ _ h => h) (Or.inl ⟨by rfl, ?_⟩) (by first | assumption | exact trivial) ?_
  · intro W hSW; obtain ⟨x0, x1, x2, x3, x4⟩ := state_cells hSW.2; go_simp; try (with_reducible rfl)
  simp only [Act.put, List.getElem_toArray, List.getElem_cons_succ, List.getElem_cons_zero, List.setIfInBounds_toArray, List.set_cons_zero, List.set_cons_succ]
  refine wpAnyH_take (i := 2) (v := .pointer (some ⟨w.heap.size, 1, none⟩)) rfl (by kernel_rfl) (by kernel_rfl) (by kernel_rfl) (fun _ _ _ h => h) (Or.inl ⟨by rfl, ?_⟩) (by first | assumption | exact trivial) ?_
  · intro W hSW; go_simp; try (with_reducible rfl)
  simp only [Act.put, List.getElem_toArray, List.getElem_cons_succ, List.getElem_cons_zero, List.setIfInBounds_toArray, List.set_cons_zero, List.set_cons_succ]
  refine wpAnyH_take (i := 3) (v := .int .i64 ep) rfl (by kernel_rfl) (by kernel_rfl) (by kernel_rfl) (fun _ _ _ h => h) (Or.inl ⟨by rfl, ?_⟩) (by first | assumption | exact trivial) ?_
  · intro W hSW; obtain ⟨x0, x1, x2, x3, x4⟩ := state_cells hSW.2; go_simp; try (with_reducible rfl)
  simp only [Act.put, List.getElem_toArray, List.getElem_cons_succ, List.getElem_cons_zero, List.setIfInBounds_toArray, List.set_cons_zero, List.set_cons_succ]
  refine wpAnyH_take (i := 5) (v := .pointer (some ⟨w.heap.size, 2, none⟩)) rfl (by kernel_rfl) (by kernel_rfl) (by kernel_rfl) (fun _ _ _ h => h) (Or.inl ⟨by rfl, ?_⟩) (by first | assumption | exact trivial) ?_
  · intro W hSW; go_simp; try (with_reducible rfl)
  simp only [Act.put, List.getElem_toArray, List.getElem_cons_succ, List.getElem_cons_zero, List.setIfInBounds_toArray, List.set_cons_zero, List.set_cons_succ]
  refine wpAnyH_take (i := 6) (v := .slice AN LN cN) rfl (by kernel_rfl) (by kernel_rfl) (by kernel_rfl) (fun _ _ _ h => h) (Or.inl ⟨by rfl, ?_⟩) (by first | assumption | exact trivial) ?_
  · intro W hSW; obtain ⟨x0, x1, x2, x3, x4⟩ := state_cells hSW.2; go_simp; try (with_reducible rfl)
  simp only [Act.put, List.getElem_toArray, List.getElem_cons_succ, List.getElem_cons_zero, List.setIfInBounds_toArray, List.set_cons_zero, List.set_cons_succ]
  refine wpAnyH_take (i := 8) (v := .pointer (some ⟨w.heap.size, 3, none⟩)) rfl (by kernel_rfl) (by kernel_rfl) (by kernel_rfl) (fun _ _ _ h => h) (Or.inl ⟨by rfl, ?_⟩) (by first | assumption | exact trivial) ?_
  · intro W hSW; go_simp; try (with_reducible rfl)
  simp only [Act.put, List.getElem_toArray, List.getElem_cons_succ, List.getElem_cons_zero, List.setIfInBounds_toArray, List.set_cons_zero, List.set_cons_succ]
  refine wpAnyH_take (i := 9) (v := .slice AH LH cH) rfl (by kernel_rfl) (by kernel_rfl) (by kernel_rfl) (fun _ _ _ h => h) (Or.inl ⟨by rfl, ?_⟩) (by first | assumption | exact trivial) ?_
  · intro W hSW; obtain ⟨x0, x1, x2, x3, x4⟩ := state_cells hSW.2; go_simp; try (with_reducible rfl)
  simp only [Act.put, List.getElem_toArray, List.getElem_cons_succ, List.getElem_cons_zero, List.setIfInBounds_toArray, List.set_cons_zero, List.set_cons_succ]
  refine wpAnyH_take (i := 11) (v := .pointer (some ⟨w.heap.size, 4, none⟩)) rfl (by kernel_rfl) (by kernel_rfl) (by kernel_rfl) (fun _ _ _ h => h) (Or.inl ⟨by rfl, ?_⟩) (by first | assumption | exact trivial) ?_
  · intro W hSW; go_simp; try (with_reducible rfl)
  simp only [Act.put, List.getElem_toArray, List.getElem_cons_succ, List.getElem_cons_zero, List.setIfInBounds_toArray, List.set_cons_zero, List.set_cons_succ]
  refine wpAnyH_take (i := 12) (v := .slice AM LP cM) rfl (by kernel_rfl) (by kernel_rfl) (by kernel_rfl) (fun _ _ _ h => h) (Or.inl ⟨by rfl, ?_⟩) (by first | assumption | exact trivial) ?_
  · intro W hSW; obtain ⟨x0, x1, x2, x3, x4⟩ := state_cells hSW.2; go_simp; try (with_reducible rfl)
  simp only [Act.put, List.getElem_toArray, List.getElem_cons_succ, List.getElem_cons_zero, List.setIfInBounds_toArray, List.set_cons_zero, List.set_cons_succ]
  refine wpAnyH_ready (rs := [4]) (by kernel_rfl) (by simp) ?_
  refine AllReadyH.cons rfl (fun K hK => ?_) AllReadyH.nil
  go_simp
  have hb1 : Below V0.heap.size V0 (V0.alloc (.cells #[] 62)).drew := (Me.below_alloc (Below.refl _ _)).drew
  have ho1 : Kn (V0.alloc (.cells #[] 62)).drew V0.heap.size (.slice (some ⟨V0.heap.size, 0, none⟩) 0 0) [] := (Kn.lit (Nat.le_refl _)).below (Below.refl _ _).drew
  obtain ⟨V1, hV1⟩ : ∃ V, (V0.alloc (.cells #[] 62)).drew = V := ⟨_, rfl⟩
  rw [hV1] at hb1 ho1 ⊢
  clear hV1
  have SS1 := HSS.out _ hb1
  refine hK.out _ _ (SS1) (fun hHeld => ?_)
  clear hK K
  refine wpAnyH_ready (rs := [7]) (by kernel_rfl) (by simp) ?_
  refine AllReadyH.cons rfl (fun K hK => ?_) AllReadyH.nil
  rw [if_pos (by kernel_rfl)]
  refine appNxAll (.tmp 7) (.tmp 9) rfl V0.heap.size _ N rfl ho1 AN LN cN HLN.out.symm rfl (HNq.out _ hb1) HNa.out HNb.out hb1.size ?_
  intro v2 W2 ho2 hg2 hk2
  have hb2 : Below V0.heap.size V0 W2 := hb1.grown hg2 hb1.size hk2
  obtain ⟨A2, c2, rfl, _, _⟩ := ho2.form
  rw [HLN.out] at ho2 ⊢
  simp only [Act.put, List.getElem_toArray, List.getElem_cons_succ, List.getElem_cons_zero, List.setIfInBounds_toArray, List.set_cons_zero, List.set_cons_succ]
  have SS2 := HSS.out _ hb2
  refine hK.out _ _ (SS2) (fun hHeld => ?_)
  clear hK K
  refine wpAnyH_ready (rs := [10]) (by kernel_rfl) (by simp) ?_
  refine AllReadyH.cons rfl (fun K hK => ?_) AllReadyH.nil
  go_simp
  go_wp2_with (go_at_call 51; refine (HCp.out _ hb2).mono ?_; rintro e w3 ⟨A3, c3, P3, rfl, ho3, hm3, b3⟩)
  have hb3 := go_on hb2 b3.out
  have SS3 := HSS.out _ hb3
  refine hK.out _ _ (SS3) (fun hHeld => ?_)
  clear hK K
  refine wpAnyH_ready (rs := [13]) (by kernel_rfl) (by simp) ?_
  refine AllReadyH.cons rfl (fun K hK => ?_) AllReadyH.nil
  go_simp
  go_wp2_with (go_at_call 52; refine (HCm.out _ hb3).mono ?_; rintro e w4 ⟨A4, c4, P4, rfl, ho4, hm4, b4⟩)
  have hb4 := go_on hb3 b4.out
  have SS4 := HSS.out _ hb4
  refine hK.out _ _ (SS4) (fun hHeld => ?_)
  clear hK K
  refine wpAnyH_take (i := 14) (v := .agg #[.int .i64 me, .int .i64 ep, .slice A2 LN c2, .slice A3 LH c3, .slice A4 LP c4]) rfl (by kernel_rfl) (by kernel_rfl) (by kernel_rfl) (fun _ _ _ h => h) (Or.inl ⟨by rfl, ?_⟩) (by first | assumption | exact trivial) ?_
  · intro W hSW; go_simp; try (with_reducible rfl)
  simp only [Act.put, List.getElem_toArray, List.getElem_cons_succ, List.getElem_cons_zero, List.setIfInBounds_toArray, List.set_cons_zero, List.set_cons_succ]
  refine wpAnyH_ready (rs := [15]) (by kernel_rfl) (by simp) ?_
  refine AllReadyH.cons rfl (fun K hK => ?_) AllReadyH.nil
  rw [if_pos (by kernel_rfl)]
  refine wp_store_row 59 (.tmp 2) (.tmp 17) rfl (w.heap.size + 1) #[.int .i64 me, .int .i64 ep, .slice A2 LN c2, .slice A3 LH c3, .slice A4 LP c4] rfl (by rfl) 59 _ (HLv.out _ hb4).2.1 (by kernel_rfl) rfl (st_one _ _ _ _ _ _ _ _ _ _ _) ?_
  simp only [Act.put, List.getElem_toArray, List.getElem_cons_succ, List.getElem_cons_zero, List.setIfInBounds_toArray, List.set_cons_zero, List.set_cons_succ]
  obtain ⟨V9, hV9⟩ : ∃ V, w4.setRow (w.heap.size + 1) #[.int .i64 me, .int .i64 ep, .slice A2 LN c2, .slice A3 LH c3, .slice A4 LP c4] = V := ⟨_, rfl⟩
  have hbut : But (fun k => k = w.heap.size + 1) w4 V9 := by rw [← hV9]; exact (But.refl (fun k => k = w.heap.size + 1) w4).setRow (.inl rfl) _
  have hD9 : V9.heap[w.heap.size + 1]? = some (.cells #[.int .i64 me, .int .i64 ep, .slice A2 LN c2, .slice A3 LH c3, .slice A4 LP c4] 59 (0, 0)) := by rw [← hV9]; exact setRow_heap _ _ _ _ _ _ (HLv.out _ hb4).2.1
  have hB9 : Below w.heap.size w V9 := by rw [← hV9]; exact Sb.below_setRow _ SS4.1 (by omega)
  have hX9 : V9.heap[w.heap.size]? = some (.cells #[.int .i64 me, .int .i64 ep, .slice AN LN cN, .slice AH LH cH, .slice AM LP cM] 59 (0, 0)) := by rw [← hV9]; exact (setRow_other _ _ _ _ (by omega)).trans SS4.2
  have hl0 := HLT0.out
  have kN : Kn V9 V0.heap.size (.slice A2 LN c2) N := kn_butP ((ho2.below b3.out).below b4.out) hbut fun k hk => by omega
  have kH : Ow V9 W2.heap.size (.slice A3 LH c3) P3 := ((ho3.out).below b4.out).butP hbut fun k hk => by have := hb2.size; omega
  have kM : Se.Mw V9 w3.heap.size (.slice A4 LP c4) P4 := mw_butP ho4.out hbut fun k hk => by have := hb3.size; omega
  rw [hV9]
  clear hV9
  refine hK.out _ _ (⟨hB9, hX9⟩) (fun hHeld => ?_)
  clear hK K
  refine wpAnyH_done (by kernel_rfl) ?_ _
  have HFq : Hid (FqAt V9 ⟨me, qh, qb, qg, ep, N, H, P4⟩ A2 A3 A4 c4) := by
    have hm := kH.mq (by rw [hm3.out]; exact HLT.out)
    rw [hm3.out] at hm
    obtain ⟨l1, l2, l3⟩ := HLs.out
    have hl4 := hm4.out.1
    refine ⟨kN.nq, l1, hm, l2, ?_, kM.msn (by rw [hl4]; exact l3)⟩
    show Se.Mv V9 (.slice A4 P4.length c4) P4
    rw [hl4]
    exact kM.mv
  clear hHeld S0 SS1 SS2 SS3 SS4 hX9 ho1 ho2 ho3 ho4 hb1 hb2 hb3 hb4 b3 b4 hbut kN kH kM hg2 hk2
  go_wp2
  exact ret_box (g := w.heap.size + 1) rfl (by rfl) hD9 rfl Tryz.underlying59 (by kernel_rfl) rfl ⟨A2, A3, A4, c2, c3, c4, P4, rfl, hm4, HFq, hB9⟩
end Go.Proofs.YtfnlhfelpdkieaaGreat.So
/- The law of From: the store of any state, or why there is none. -/
namespace Go.Proofs.YtfnlhfelpdkieaaGreat.So
open Go.RowKit
open Go.Proofs.YtfnlhfelpdkieaaGreat.Me Go.Proofs.YtfnlhfelpdkieaaGreat.Sb
set_option linter.unusedVariables false
set_option linter.unusedSimpArgs false

theorem frm_with {q : Fq} {P : List Se.Pm} (h : P.map Se.Pm.m = q.ms) : frmN (q.with P) = frmN q := by
  have e : (q.with P).ms = q.ms := h
  unfold frmN
  rw [e]
  rfl
/-- The state of the store that From makes is the state. -/
theorem State_from {E : Nat → Prop} {w : World} {D hb sd sb : Nat} {v : Value} {q : Fq} (hz : frmN q = 0) (hlt : ∀ x ∈ q.H, ∀ z ∈ x.p, z < 256) (hS : Hid (Sq E w D hb sd sb q.ms.length v (fromS q))) :
    Calls Tryz.prog 17 #[.pointer (some ⟨D, 0, none⟩)] w fun e w' => ∃ A1 A2 A3 c1 c2 c3 PM, e = .returned (.agg #[.int .i64 q.me, .int .i64 q.ep, .slice A1 q.N.length c1, .slice A2 q.H.length c2, .slice A3 q.ms.length c3]) ∧ Hid (PM.length = q.ms.length ∧ PM.map Se.Pm.m = q.ms) ∧ Hid (Nq w' A1 q.N) ∧ Hid (Mq w' A2 q.H) ∧ Hid (Se.Mv w' (.slice A3 PM.length c3) PM) ∧ Hid (Below w.heap.size w w') := by
  obtain ⟨_, hrg, hmk, _⟩ := frm_zero hz
  refine (State_any (by have := Se.okMs_len hmk; omega) hS).mono ?_
  rintro e w' ⟨vU, vH, vM, PH, PM, L, rfl, k1, k2, k3, k4, k5, k6, k7⟩
  have hu : usedTo (fromS q).last 64 = q.N := usedTo_all (rg_parts hrg).2.2.1
  have hh : (fromS q).held = q.H := by show q.H.take q.H.length = q.H; exact List.take_of_length_le (Nat.le_refl _)
  have hm : PM.map Se.Pm.m = q.ms := k6.out.trans (Se.ord_from hmk k5.out)
  rw [hu] at k1
  rw [hh] at k3
  obtain ⟨A1, c1, rfl, _, _⟩ := k1.out.form
  obtain ⟨A2, c2, rfl, _, _⟩ := k2.out.form
  obtain ⟨A3, c3, rfl, _, _⟩ := k4.out.form
  have hl : PH.length = q.H.length := by rw [← k3.out, List.length_map]
  have hl2 : PM.length = q.ms.length := by rw [← hm, List.length_map]
  have hq := k2.out.mq (by rw [k3.out]; exact hlt)
  rw [k3.out] at hq
  refine ⟨A1, A2, A3, c1, c2, c3, PM, ?_, ⟨hl2, hm⟩, k1.out.nq, hq, k4.out.mv, k7⟩
  rw [hl, hl2]
  rfl
set_option maxRecDepth 100000 in
set_option maxHeartbeats 32000000 in
theorem storeFrom (q : Fq) (AN AH AM : Option Addr) (cN cH cM : Nat) (w : World) (hq : Hid (FqAt w q AN AH AM cM)) (hsz : Hid (FqSz q AN cN cH cM)) :
    Calls Tryz.prog 5 #[.agg #[.int .i64 q.qh, .int .i64 q.qb, .int .i64 q.qg], .agg #[.int .i64 q.me, .int .i64 q.ep, .slice AN q.N.length cN, .slice AH q.H.length cH, .slice AM q.P.length cM]] w fun e w' => e = .returned (.bool true) ∧ Below w.heap.size w w' := by
  obtain ⟨z, hzz⟩ : ∃ z, frmN q = z := ⟨_, rfl⟩
  have hb1 : Below w.heap.size w (w.alloc (.cells #[.int .i64 q.qh, .int .i64 q.qb, .int .i64 q.qg] 23)) := Me.below_alloc (Below.refl _ _)
  have hx1 := heap_alloc_new w (.cells #[.int .i64 q.qh, .int .i64 q.qb, .int .i64 q.qg] 23 (0, 0))
  obtain ⟨V1, hV1⟩ : ∃ V, w.alloc (.cells #[.int .i64 q.qh, .int .i64 q.qb, .int .i64 q.qg] 23) = V := ⟨_, rfl⟩
  have hs1 : V1.heap.size = w.heap.size + 1 := by rw [← hV1]; simp
  rw [hV1] at hb1 hx1
  have hb2 : Below V1.heap.size V1 (V1.alloc (.cells #[.int .i64 q.me, .int .i64 q.ep, .slice AN q.N.length cN, .slice AH q.H.length cH, .slice AM q.P.length cM] 59)) := Me.below_alloc (Below.refl _ _)
  have hx2 := heap_alloc_new V1 (.cells #[.int .i64 q.me, .int .i64 q.ep, .slice AN q.N.length cN, .slice AH q.H.length cH, .slice AM q.P.length cM] 59 (0, 0))
  obtain ⟨V, hV⟩ : ∃ V, V1.alloc (.cells #[.int .i64 q.me, .int .i64 q.ep, .slice AN q.N.length cN, .slice AH q.H.length cH, .slice AM q.P.length cM] 59) = V := ⟨_, rfl⟩
  rw [hV] at hb2 hx2
  have HLv : Hid (∀ W, Below V.heap.size V W → W.heap[w.heap.size]? = some (.cells #[.int .i64 q.qh, .int .i64 q.qb, .int .i64 q.qg] 23 (0, 0)) ∧ W.heap[w.heap.size + 1]? = some (.cells #[.int .i64 q.me, .int .i64 q.ep, .slice AN q.N.length cN, .slice AH q.H.length cH, .slice AM q.P.length cM] 59 (0, 0)) ∧ Below w.heap.size w W) := fun W hW => by
    have k := go_on hb1 hb2
    have hx1' := (hb2.block _ (Array.getElem?_eq_some_iff.1 hx1).1).trans hx1
    rw [hs1] at hx2
    exact ⟨(hW.block _ (Array.getElem?_eq_some_iff.1 hx1').1).trans hx1', (hW.block _ (Array.getElem?_eq_some_iff.1 hx2).1).trans hx2, go_on k hW⟩
  have HFq : Hid (∀ W, Below V.heap.size V W → FqAt W q AN AH AM cM) := fun W hW => hq.out.below (HLv.out W hW).2.2
  have HV : Hid ((w.alloc (.cells #[.int .i64 q.qh, .int .i64 q.qb, .int .i64 q.qg] 23)).alloc (.cells #[.int .i64 q.me, .int .i64 q.ep, .slice AN q.N.length cN, .slice AH q.H.length cH, .slice AM q.P.length cM] 59) = V) := by show _ = _; rw [hV1, hV]
  have HS1 : Hid ((w.alloc (.cells #[.int .i64 q.qh, .int .i64 q.qb, .int .i64 q.qg] 23)).heap.size = w.heap.size + 1) := by show _ = _; rw [hV1]; exact hs1
  clear hV1 hs1 hb1 hx1 hb2 hx2 hV hq
  have HAw := Lib.hid awake_any
  have HCs : Hid (∀ W, Below V.heap.size V W → Calls Tryz.prog 19 #[.agg #[.int .i64 q.me, .int .i64 q.ep, .slice AN q.N.length cN, .slice AH q.H.length cH, .slice AM q.P.length cM]] W fun e w' => ∃ AN' AH' AM' cN' cH' cM' P', e = .returned (.agg #[.int .i64 q.me, .int .i64 q.ep, .slice AN' q.N.length cN', .slice AH' q.H.length cH', .slice AM' q.P.length cM']) ∧ Hid (P'.length = q.P.length ∧ P'.map Se.Pm.m = q.P.map Se.Pm.m) ∧ Hid (FqAt w' (q.with P') AN' AH' AM' cM') ∧ Hid (Below W.heap.size W w')) := fun W hW => CopyState_any q AN AH AM cN cH cM W (Lib.hid (HFq.out W hW)) hsz
  have HCk : Hid (∀ W, Below V.heap.size V W → Calls Tryz.prog 21 #[.agg #[.int .i64 q.qh, .int .i64 q.qb, .int .i64 q.qg], .agg #[.int .i64 q.me, .int .i64 q.ep, .slice AN q.N.length cN, .slice AH q.H.length cH, .slice AM q.P.length cM]] W fun e w' => e = .returned (.int .i64 (z : Int)) ∧ Hid (Below W.heap.size W w')) := fun W hW => RCheckState_any q AN AH AM cN cH cM W (Lib.hid (HFq.out W hW)) (Lib.hid hsz.out.mz) hsz.out.hc z hzz
  have HSm : Hid (∀ W, Below V.heap.size V W → ∀ (A1 B1 C1 : Option Addr) (c1 d1 e1 n1 : Nat) (P1 : List Se.Pm), n1 = P1.length → Nq W A1 q.N → Mq W B1 q.H → Se.Mv W (.slice C1 P1.length e1) P1 → P1.map Se.Pm.m = q.P.map Se.Pm.m → Calls Tryz.prog 22 #[.agg #[.int .i64 q.me, .int .i64 q.ep, .slice A1 q.N.length c1, .slice B1 q.H.length d1, .slice C1 n1 e1], .agg #[.int .i64 q.me, .int .i64 q.ep, .slice AN q.N.length cN, .slice AH q.H.length cH, .slice AM q.P.length cM]] W fun e w' => e = .returned (.bool true) ∧ Hid (Below W.heap.size W w')) := fun W hW A1 B1 C1 c1 d1 e1 n1 P1 hn k1 k2 k3 k4 => by
    subst hn
    have h := HFq.out W hW
    have hl : P1.length = q.P.length := by have := congrArg List.length k4; simpa using this
    exact SameStateQ_eq q.me q.ep A1 AN B1 AH c1 cN d1 cH (.slice C1 P1.length e1) (.slice AM q.P.length cM) q.N q.H P1 q.P W (Lib.hid k1) (Lib.hid h.n) (Lib.hid k2) (Lib.hid h.h) (Lib.hid k3) (Lib.hid h.m) k4 h.nl h.hl (by rw [hl]; exact h.ml.len)
  have HQz : Hid (∀ P' : List Se.Pm, P'.map Se.Pm.m = q.P.map Se.Pm.m → frmN (q.with P') = z) := fun P' h => (frm_with h).trans hzz
  have HMl : Hid (q.ms.length = q.P.length) := by show _ = _; unfold Fq.ms; simp
  have HBy := Lib.hid hsz.out.lt
  obtain ⟨y0, y1, y2⟩ := quota_cells (HLv.out V (Below.refl _ _)).1
  obtain ⟨x0, x1, x2, x3, x4⟩ := state_cells (HLv.out V (Below.refl _ _)).2.1
  clear HFq hsz hzz
  go_enter Tryz.func5, Tryz.ntmps5
  go_wp2_with (first
    | (rw [HV.out])
    | (go_at_call 19; refine (HCs.out _ (Below.refl _ _)).mono ?_; rintro e w1 ⟨A2, A3, A4, c2, c3, c4, P', rfl, hP, hq', b1⟩)
    | (refine wpList_store_row rfl 59 (.tmp 5) (.tmp 10) rfl w1.heap.size #[.int .i64 q.me, .int .i64 q.ep, .slice A2 q.N.length c2, .slice A3 q.H.length c3, .slice A4 q.P.length c4] rfl rfl 59 _ (heap_alloc_new w1 _) (by kernel_rfl) rfl (st_one _ _ _ _ _ _ _ _ _ _ _) ?_
       obtain ⟨V2, hV2⟩ : ∃ V, (w1.alloc (.cells #[.int .i64 0, .int .i64 0, .slice none 0 0, .slice none 0 0, .slice none 0 0] 59)).setRow w1.heap.size #[.int .i64 q.me, .int .i64 q.ep, .slice A2 q.N.length c2, .slice A3 q.H.length c3, .slice A4 q.P.length c4] = V := ⟨_, rfl⟩
       have hb2 : Below w1.heap.size w1 V2 := by rw [← hV2]; exact Sb.below_setRow _ (Me.below_alloc (Below.refl _ _)) (Nat.le_refl _)
       have hx2 : V2.heap[w1.heap.size]? = some (.cells #[.int .i64 q.me, .int .i64 q.ep, .slice A2 q.N.length c2, .slice A3 q.H.length c3, .slice A4 q.P.length c4] 59 (0, 0)) := by rw [← hV2]; exact setRow_heap _ _ _ _ _ _ (heap_alloc_new w1 _)
       rw [hV2]
       have B2 := Lib.hid (go_on b1.out hb2)
       have HOw : Hid (∀ W, Below V2.heap.size V2 W → Below V.heap.size V W ∧ W.heap[w1.heap.size]? = some (.cells #[.int .i64 q.me, .int .i64 q.ep, .slice A2 q.N.length c2, .slice A3 q.H.length c3, .slice A4 q.P.length c4] 59 (0, 0)) ∧ FqAt W (q.with P') A2 A3 A4 c4) := fun W hW => ⟨go_on B2.out hW, (hW.block _ (Array.getElem?_eq_some_iff.1 hx2).1).trans hx2, hq'.out.below (go_on hb2 hW)⟩
       obtain ⟨k1, k2, _⟩ := HLv.out _ B2.out
       clear x0 x1 x2 x3 x4 y0 y1 y2
       obtain ⟨y0, y1, y2⟩ := quota_cells k1
       obtain ⟨x0, x1, x2, x3, x4⟩ := state_cells hx2
       clear hV2 hb2 hx2 k1 k2 hq'
       skip))
  clear b1 HCs
  by_cases hz0 : z = 0
  · subst hz0
    simp only [show ((0 : Nat) : Int) = 0 from rfl] at HCk
    have HFr : Hid (∀ W, Below V2.heap.size V2 W → Calls Tryz.prog 20 #[.agg #[.int .i64 q.qh, .int .i64 q.qb, .int .i64 q.qg], .agg #[.int .i64 q.me, .int .i64 q.ep, .slice A2 q.N.length c2, .slice A3 q.H.length c3, .slice A4 q.P.length c4]] W fun e w' => ∃ D hb sd sb v, e = .returned (.tuple #[.pointer (some ⟨D, 0, none⟩), .int .i64 0]) ∧ Hid (Sq (fun _ => True) w' D hb sd sb (q.with P').ms.length v (fromS (q.with P'))) ∧ Hid (Below W.heap.size W w')) := fun W hW => by
      have h := From_ok (fun _ => True) (q.with P') A2 A3 A4 c2 c3 c4 W (fun _ _ => trivial) (Lib.hid (HOw.out W hW).2.2) (HQz.out P' hP.out.2) (Lib.hid HBy.out)
      rw [show (q.with P').P.length = q.P.length from hP.out.1] at h
      refine h.mono ?_
      rintro e w' ⟨D, hb, sd, sb, v, rfl, k1, _, _, k2⟩
      exact ⟨D, hb, sd, sb, v, rfl, k1, k2⟩
    go_wp2_with (first
      | (go_at_call 20; refine (HFr.out _ (Below.refl _ _)).mono ?_; rintro e w3 ⟨D, hb, sd, sb, v, rfl, hS, b3⟩; have C3 := Lib.hid b3.out; obtain ⟨k0, k1, k2⟩ := HOw.out _ C3.out; obtain ⟨k3, k4, _⟩ := HLv.out _ k0; have B3 := Lib.hid k0; have F3 := Lib.hid k2; clear x0 x1 x2 x3 x4  y0 y1 y2; obtain ⟨x0, x1, x2, x3, x4⟩ := state_cells k1; obtain ⟨u0, u1, u2, u3, u4⟩ := state_cells k4; obtain ⟨y0, y1, y2⟩ := quota_cells k3; clear k0 k1 k2 k3 k4)
      | (go_at_call 21; refine (HCk.out _ B3.out).mono ?_; rintro e w4 ⟨rfl, b4⟩; have C4 := Lib.hid (go_on C3.out b4.out); obtain ⟨k0, k1, k2⟩ := HOw.out _ C4.out; obtain ⟨k3, k4, _⟩ := HLv.out _ k0; have B4 := Lib.hid k0; have F4 := Lib.hid k2; clear x0 x1 x2 x3 x4 u0 u1 u2 u3 u4 y0 y1 y2; obtain ⟨x0, x1, x2, x3, x4⟩ := state_cells k1; obtain ⟨u0, u1, u2, u3, u4⟩ := state_cells k4; obtain ⟨y0, y1, y2⟩ := quota_cells k3; clear k0 k1 k2 k3 k4)
      | (go_at_call 22; refine (HSm.out _ B4.out A2 A3 A4 c2 c3 c4 q.P.length P' hP.out.1.symm F4.out.n F4.out.h (by have h := F4.out.m; exact h) hP.out.2).mono ?_; rintro e w5 ⟨rfl, b5⟩; have B5 := Lib.hid (go_on B4.out b5.out); have C5 := Lib.hid (go_on C4.out b5.out)))
    have HS5 := Lib.hid (hS.out.below (go_on b4.out b5.out))
    have HSt := Lib.hid (State_from (HQz.out P' hP.out.2) HBy.out HS5)
    clear x0 x1 x2 x3 x4 u0 u1 u2 u3 u4 y0 y1 y2
    have S0 : Below V.heap.size V w5.drew := B5.out.drew
    have HSt5 : Hid (Sq (fun _ => True) w5.drew D hb sd sb (q.with P').ms.length v (fromS (q.with P'))) := HS5.out.below (Below.refl _ _).drew
    refine wp_region_held_drew (S := fun W => Below V.heap.size V W) (by kernel_rfl) S0 (fun hHeld => ?_)
    refine wpAnyH_take (i := 0) (v := .pointer (some ⟨D, 0, none⟩)) rfl (by kernel_rfl) (by kernel_rfl) (by kernel_rfl) (fun _ _ _ h => h) (Or.inl ⟨by rfl, ?_⟩) (by first | assumption | exact trivial) ?_
    · intro W hSW; go_simp; try (with_reducible rfl)
    simp only [Act.put, List.getElem_toArray, List.getElem_cons_succ, List.getElem_cons_zero, List.setIfInBounds_toArray, List.set_cons_zero, List.set_cons_succ]
    refine wpAnyH_take (i := 2) (v := .agg #[.int .i64 q.me, .int .i64 q.ep, .slice AN q.N.length cN, .slice AH q.H.length cH, .slice AM q.P.length cM]) rfl (by kernel_rfl) (by kernel_rfl) (by kernel_rfl) (fun _ _ _ h => h) (Or.inl ⟨by rfl, ?_⟩) (by first | assumption | exact trivial) ?_
    · intro W hSW; obtain ⟨u0, u1, u2, u3, u4⟩ := state_cells (HLv.out _ hSW).2.1; go_simp; try (with_reducible rfl)
    simp only [Act.put, List.getElem_toArray, List.getElem_cons_succ, List.getElem_cons_zero, List.setIfInBounds_toArray, List.set_cons_zero, List.set_cons_succ]
    refine wpAnyH_ready (rs := [1]) (by kernel_rfl) (by simp) ?_
    refine AllReadyH.cons rfl (fun K hK => ?_) AllReadyH.nil
    go_simp
    go_wp2_with (go_at_call 17; refine (State_from (HQz.out P' hP.out.2) HBy.out HSt5).mono ?_; rintro e w6 ⟨G1, G2, G3, e1, e2, e3, PM, rfl, hPM, n6, m6, v6, b6⟩)
    have S6 := go_on S0 b6.out
    refine hK.out _ _ (S6) (fun hHeld => ?_)
    clear hK K
    refine wpAnyH_ready (rs := [3]) (by kernel_rfl) (by simp) ?_
    refine AllReadyH.cons rfl (fun K hK => ?_) AllReadyH.nil
    go_simp
    go_wp2_with (go_at_call 22; refine (HSm.out _ S6 G1 G2 G3 e1 e2 e3 _ PM hPM.out.1.symm n6.out m6.out v6.out (hPM.out.2.trans hP.out.2)).mono ?_; rintro e w7 ⟨rfl, b7⟩)
    have S7 := go_on S6 b7.out
    refine hK.out _ _ (S7) (fun hHeld => ?_)
    clear hK K
    refine wpAnyH_take (i := 4) (v := .bool true) rfl (by kernel_rfl) (by kernel_rfl) (by kernel_rfl) (fun _ _ _ h => h) (Or.inl ⟨by rfl, ?_⟩) (by first | assumption | exact trivial) ?_
    · intro W hSW; go_simp; try (with_reducible rfl)
    simp only [Act.put, List.getElem_toArray, List.getElem_cons_succ, List.getElem_cons_zero, List.setIfInBounds_toArray, List.set_cons_zero, List.set_cons_succ]
    refine wpAnyH_ready (rs := [5]) (by kernel_rfl) (by simp) ?_
    refine AllReadyH.cons rfl (fun K hK => ?_) AllReadyH.nil
    go_simp
    go_wp2_with (go_at_call 9; refine (HAw.out _).mono ?_; rintro e w8 ⟨rfl, b8⟩)
    have S8 := go_on S7 b8.out
    refine hK.out _ _ (S8) (fun hHeld => ?_)
    clear hK K
    refine wpAnyH_take (i := 6) (v := .bool true) rfl (by kernel_rfl) (by kernel_rfl) (by kernel_rfl) (fun _ _ _ h => h) (Or.inl ⟨by rfl, ?_⟩) (by first | assumption | exact trivial) ?_
    · intro W hSW; go_simp; try (with_reducible rfl)
    simp only [Act.put, List.getElem_toArray, List.getElem_cons_succ, List.getElem_cons_zero, List.setIfInBounds_toArray, List.set_cons_zero, List.set_cons_succ]
    refine wpAnyH_take (i := 7) (v := .bool true) rfl (by kernel_rfl) (by kernel_rfl) (by kernel_rfl) (fun _ _ _ h => h) (Or.inl ⟨by rfl, ?_⟩) (by first | assumption | exact trivial) ?_
    · intro W hSW; go_simp; try (with_reducible rfl)
    simp only [Act.put, List.getElem_toArray, List.getElem_cons_succ, List.getElem_cons_zero, List.setIfInBounds_toArray, List.set_cons_zero, List.set_cons_succ]
    refine wpAnyH_done (by kernel_rfl) ?_ _
    go_wp2
    go_ret
    exact ⟨rfl, (HLv.out _ S8).2.2⟩
  · have hzb : ((z : Int) != 0) = true := by simpa using fun e : (z : Int) = 0 => hz0 (by omega)
    have hzc : ((z : Int) == 0) = false := by simpa using fun e : (z : Int) = 0 => hz0 (by omega)
    have HFr : Hid (∀ W, Below V2.heap.size V2 W → Calls Tryz.prog 20 #[.agg #[.int .i64 q.qh, .int .i64 q.qb, .int .i64 q.qg], .agg #[.int .i64 q.me, .int .i64 q.ep, .slice A2 q.N.length c2, .slice A3 q.H.length c3, .slice A4 q.P.length c4]] W fun e w' => e = .returned (.tuple #[.pointer none, .int .i64 (z : Int)]) ∧ Hid (Below W.heap.size W w')) := fun W hW => by
      have h := From_no (q.with P') A2 A3 A4 c2 c3 c4 W (Lib.hid (HOw.out W hW).2.2) z (HQz.out P' hP.out.2) hz0
      rw [show (q.with P').P.length = q.P.length from hP.out.1] at h
      exact h
    clear hz0
    go_wp2_with (first
      | (go_at_call 20; refine (HFr.out _ (Below.refl _ _)).mono ?_; rintro e w3 ⟨rfl, b3⟩; have C3 := Lib.hid b3.out; obtain ⟨k0, k1, k2⟩ := HOw.out _ C3.out; obtain ⟨k3, k4, _⟩ := HLv.out _ k0; have B3 := Lib.hid k0; have F3 := Lib.hid k2; clear x0 x1 x2 x3 x4  y0 y1 y2; obtain ⟨x0, x1, x2, x3, x4⟩ := state_cells k1; obtain ⟨u0, u1, u2, u3, u4⟩ := state_cells k4; obtain ⟨y0, y1, y2⟩ := quota_cells k3; clear k0 k1 k2 k3 k4)
      | (go_at_call 21; refine (HCk.out _ B3.out).mono ?_; rintro e w4 ⟨rfl, b4⟩; have C4 := Lib.hid (go_on C3.out b4.out); obtain ⟨k0, k1, k2⟩ := HOw.out _ C4.out; obtain ⟨k3, k4, _⟩ := HLv.out _ k0; have B4 := Lib.hid k0; have F4 := Lib.hid k2; clear x0 x1 x2 x3 x4 u0 u1 u2 u3 u4 y0 y1 y2; obtain ⟨x0, x1, x2, x3, x4⟩ := state_cells k1; obtain ⟨u0, u1, u2, u3, u4⟩ := state_cells k4; obtain ⟨y0, y1, y2⟩ := quota_cells k3; clear k0 k1 k2 k3 k4)
      | (go_at_call 22; refine (HSm.out _ B4.out A2 A3 A4 c2 c3 c4 q.P.length P' hP.out.1.symm F4.out.n F4.out.h (by have h := F4.out.m; exact h) hP.out.2).mono ?_; rintro e w5 ⟨rfl, b5⟩; have B5 := Lib.hid (go_on B4.out b5.out); have C5 := Lib.hid (go_on C4.out b5.out))
      | (go_at_call 9; refine (HAw.out _).mono ?_; rintro e w8 ⟨rfl, b8⟩))
    go_ret
    exact ⟨rfl, (HLv.out _ (go_on B5.out b8.out)).2.2⟩
end Go.Proofs.YtfnlhfelpdkieaaGreat.So
