/- The document's Apply: of a hold. -/
import Derived.Test.YtfnlhfelpdkieaaGreatZ27
namespace Go.Proofs.YtfnlhfelpdkieaaGreat.So
open Go.RowKit Go.Deep
open Go.ChangeShapes Go.WideShapes Go.Joins
open Go.Proofs.YtfnlhfelpdkieaaGreat.Me Go.Proofs.YtfnlhfelpdkieaaGreat.Sb
set_option linter.unusedVariables false
set_option linter.unusedSimpArgs false

set_option maxRecDepth 100000 in
set_option maxHeartbeats 32000000 in
theorem apply_hold_a (me qh qb qg ep o d ee cc : Int) (vU vL vK : Value) (A : Option Addr) (n c : Nat) (w : World) (Q : Nat → Prop) (P : List Pq) (U U2 : Nx) (lu : Int) (p : List Nat) (Bx : Nat)
    (g1 : (o == me) = false) (hn : n = p.length) (hn48 : n ≤ 48) (hP : P.length ≤ 1000)
    (hQ : ∀ k, Q k → k < w.heap.size) (hU : ∀ k, vU.ownBlock = some k → Q k) (hK : vK.oneCell' = true)
    (hKn : Kn w 0 vU U) (hRl : Rl Q w 0 vL P) (hRd : Rd w w.heap.size A p) (hA : A = none → p.length = 0 ∧ c = 0)
    (HM : Hid (∀ W, Below w.heap.size w W → Calls Tryz.prog 29 #[.agg #[.int .i64 me, .int .i64 qh, .int .i64 qb, .int .i64 qg, .int .i64 ep, vU, vL, .int .i64 qg, vK], .agg #[.int .i64 2, .int .i64 o, .int .i64 d, .int .i64 ee, .int .i64 cc, .slice A n c]] W fun e w' => e = .returned (.int .i64 0) ∧ Hid (Below W.heap.size W w')))
    (HLa : Hid (∀ W vl, Below w.heap.size w W → Calls Tryz.prog 30 #[.agg #[.int .i64 me, .int .i64 qh, .int .i64 qb, .int .i64 qg, .int .i64 ep, vU, vl, .int .i64 qg, vK], .int .i64 d] W fun e w' => e = .returned (.int .i64 lu) ∧ Hid (Below W.heap.size W w')))
    (HUs : Hid (∀ W, Below w.heap.size w W → Calls Tryz.prog 31 #[vU, .agg #[.int .i64 d, .int .i64 cc]] W fun e w' => ∃ v', e = .returned v' ∧ Hid (Kn w' W.heap.size v' U2) ∧ Hid (Below W.heap.size W w'))) : Calls Tryz.prog 12 #[.agg #[.int .i64 me, .int .i64 qh, .int .i64 qb, .int .i64 qg, .int .i64 ep, vU, vL, .int .i64 qg, vK], .agg #[.int .i64 2, .int .i64 o, .int .i64 d, .int .i64 ee, .int .i64 cc, .slice A n c]] w fun e w' => ∃ vU' vL' q, e = .returned (.tuple #[.agg #[.int .i64 me, .int .i64 qh, .int .i64 qb, .int .i64 qg, .int .i64 ep, vU', vL', .int .i64 qg, vK], .int .i64 0]) ∧ q.x = ⟨⟨o, d, ee, cc⟩, p⟩ ∧ Hid (Rl (fun k => Q k ∨ w.heap.size + 1 + 1 + 1 ≤ k) w' (w.heap.size + 1 + 1 + 1) vL' (P ++ [q])) ∧ Hid (Kn w' 0 vU' U) ∧ Hid (∀ k, vU'.ownBlock = some k → Q k ∨ w.heap.size + 1 + 1 + 1 ≤ k) ∧ Hid (Below w.heap.size w w') := by
  obtain ⟨W3, hW3, s3, r3⟩ := Ap.start w #[.int .i64 me, .int .i64 qh, .int .i64 qb, .int .i64 qg, .int .i64 ep, vU, vL, .int .i64 qg, vK] #[.int .i64 2, .int .i64 o, .int .i64 d, .int .i64 ee, .int .i64 cc, .slice A n c]
  have HW := Lib.hid hW3
  unfold rs0 at HW
  have HQ := Lib.hid hQ
  have HUQ := Lib.hid hU
  have HK := Lib.hid hK
  have HUo : Hid (vU.oneCell' = true) := (by obtain ⟨UA, uc, rfl, _⟩ := hKn.form; rfl)
  have HKn : Hid (∀ W, Below w.heap.size w W → Kn W 0 vU U) := fun W hW => hKn.below hW
  have HRl : Hid (∀ W, Below w.heap.size w W → Rl (fun k => Q k ∨ w.heap.size + 1 + 1 + 1 ≤ k) W 0 vL P) := fun W hW => (hRl.below hW).mono fun k _ h => .inl h
  have HRd : Hid (∀ W, Below w.heap.size w W → Rd W w.heap.size A p) := fun W hW => hRd.below hW
  have HA := Lib.hid hA
  have HPl := Lib.hid hP
  have HLT : Hid (∀ z ∈ p, z < 256) := hRd.1
  have HLN : Hid (([] : List Nat).length + p.length ≤ 140737488355328) := by
    show 0 + _ ≤ _
    omega
  have HN := Lib.hid hn
  clear hW3 hQ hU hK hKn hRl hRd hA hP hn hn48
  obtain ⟨x0, x1, x2, x3, x4, x5, x6, x7, x8⟩ := rs_cells s3.st
  obtain ⟨u0, u1, u2, u3, u4, u5⟩ := ev_cells s3.ev
  go_enter Tryz.func12, Tryz.ntmps12
  go_wp2_with (first
    | (go_at_call 29; (try rw [HW.out]); refine (HM.out _ s3.below).mono ?_; rintro e w3 ⟨rfl, b3⟩; have s4 := s3.go b3.out; have r4 := (b3.out.block _ (Array.getElem?_eq_some_iff.1 r3).1).trans r3; clear x0 x1 x2 x3 x4 x5 x6 x7 x8 u0 u1 u2 u3 u4 u5; obtain ⟨u0, u1, u2, u3, u4, u5⟩ := ev_cells s4.ev; have hn5 : Below w3.heap.size w3 (w3.alloc (.cells #[.int .i64 o, .int .i64 d, .int .i64 ee, .int .i64 cc] 43)) := Me.below_alloc (Below.refl _ _); have S5 := Lib.hid (s4.go hn5); have R5 := Lib.hid ((hn5.block _ (Array.getElem?_eq_some_iff.1 r4).1).trans r4); have I5 := Lib.hid (heap_alloc_new w3 (.cells #[.int .i64 o, .int .i64 d, .int .i64 ee, .int .i64 cc] 43)); obtain ⟨x0, x1, x2, x3, x4, x5, x6, x7, x8⟩ := rs_cells S5.out.st; obtain ⟨v0, v1, v2, v3, v4, v5⟩ := ev_cells S5.out.ev; obtain ⟨i0, i1, i2, i3⟩ := id_cells I5.out; have hn6 : Below (w3.alloc (.cells #[.int .i64 o, .int .i64 d, .int .i64 ee, .int .i64 cc] 43)).heap.size (w3.alloc (.cells #[.int .i64 o, .int .i64 d, .int .i64 ee, .int .i64 cc] 43)) ((w3.alloc (.cells #[.int .i64 o, .int .i64 d, .int .i64 ee, .int .i64 cc] 43)).alloc (.cells #[] 46)) := Me.below_alloc (Below.refl _ _); have hd3 : w.heap.size + 1 + 1 < w3.heap.size := (Array.getElem?_eq_some_iff.1 r4).1; have HD3 := Lib.hid hd3; have hl6 : Rl (fun k => Q k ∨ w.heap.size + 1 + 1 + 1 ≤ k) ((w3.alloc (.cells #[.int .i64 o, .int .i64 d, .int .i64 ee, .int .i64 cc] 43)).alloc (.cells #[] 46)) (w.heap.size + 1 + 1 + 1) (.slice (some ⟨(w3.alloc (.cells #[.int .i64 o, .int .i64 d, .int .i64 ee, .int .i64 cc] 43)).heap.size, 0, none⟩) 0 0) [] := Rl.lit (by rw [World.size_alloc]; omega); rw [World.size_alloc] at hl6; have S6 := Lib.hid (S5.out.go hn6); have R6 := Lib.hid ((hn6.block _ (Array.getElem?_eq_some_iff.1 R5.out).1).trans R5.out); have I6 := Lib.hid ((hn6.block _ (Array.getElem?_eq_some_iff.1 I5.out).1).trans I5.out); have y6 := (rs_cells S6.out.st).2.2.2.2.2.2.1; have hz6 : ((w3.alloc (.cells #[.int .i64 o, .int .i64 d, .int .i64 ee, .int .i64 cc] 43)).alloc (.cells #[] 46)).heap.size = w3.heap.size + 1 + 1 := (by rw [World.size_alloc, World.size_alloc]); obtain ⟨V6, hV6⟩ : ∃ V, (w3.alloc (.cells #[.int .i64 o, .int .i64 d, .int .i64 ee, .int .i64 cc] 43)).alloc (.cells #[] 46) = V := ⟨_, rfl⟩; rw [hV6] at S6 R6 I6 hl6 hz6; have L6 := Lib.hid hl6; have HZ6 := Lib.hid hz6; have HV6 := Lib.hid hV6; clear hV6 hn6 hd3 hl6 hz6 S5 R5 I5)
    | (rw [HV6.out]
       refine appRlAll rfl (.tmp 30) (.tmp 32) rfl (w.heap.size + 1 + 1 + 1) (.slice (some ⟨w3.heap.size + 1, 0, none⟩) 0 0) P rfl L6.out (by have := HD3.out; have := HZ6.out; omega) vL rfl (HRl.out _ S6.out.below) HPl.out ?_
       intro v7 w7 l7 g7 _
       have hb7 : But (fun k => k = w3.heap.size + 1) V6 w7 := (But.refl (fun k => k = w3.heap.size + 1) V6).grown g7 fun k e => .inl (by simpa [Value.ownBlock] using e.symm)
       have S7 := Lib.hid ((⟨S6.out.below, S6.out.ev, I6.out⟩ : Ah w #[.int .i64 2, .int .i64 o, .int .i64 d, .int .i64 ee, .int .i64 cc, .slice A n c] #[.int .i64 o, .int .i64 d, .int .i64 ee, .int .i64 cc] w3.heap.size V6).but hb7 (fun k e => by have := HD3.out; omega))
       have T7 : Hid (w7.heap[w.heap.size]? = some (.cells #[.int .i64 me, .int .i64 qh, .int .i64 qb, .int .i64 qg, .int .i64 ep, vU, vL, .int .i64 qg, vK] 37 (0, 0))) := (hb7.same _ (Array.getElem?_eq_some_iff.1 S6.out.st).1 (by have := HD3.out; omega)).trans S6.out.st
       have R7 := Lib.hid ((hb7.same _ (Array.getElem?_eq_some_iff.1 R6.out).1 (by have := HD3.out; omega)).trans R6.out)
       obtain ⟨A7, c7, rfl, _⟩ := l7.form
       have L7 := Lib.hid l7
       clear l7 g7 hb7 S6 R6 I6 L6 HV6 HZ6 y6))
  have S0 := S7.out.drew
  refine wp_region_held_drew (S := fun W => Ah w #[.int .i64 2, .int .i64 o, .int .i64 d, .int .i64 ee, .int .i64 cc, .slice A n c] #[.int .i64 o, .int .i64 d, .int .i64 ee, .int .i64 cc] w3.heap.size W) (by kernel_rfl) S0 (fun hHeld => ?_)
  refine wpAnyH_take (i := 0) (v := .slice A7 P.length c7) rfl (by kernel_rfl) (by kernel_rfl) (by kernel_rfl) (fun _ _ _ h => h) (Or.inl ⟨by rfl, ?_⟩) (by first | assumption | exact trivial) ?_
  · intro W hSW; go_simp; try (with_reducible rfl)
  simp only [Act.put, List.getElem_toArray, List.getElem_cons_succ, List.getElem_cons_zero, List.setIfInBounds_toArray, List.set_cons_zero, List.set_cons_succ]
  refine wpAnyH_take (i := 1) (v := .agg #[.int .i64 o, .int .i64 d, .int .i64 ee, .int .i64 cc]) rfl (by kernel_rfl) (by kernel_rfl) (by kernel_rfl) (fun _ _ _ h => h) (Or.inl ⟨by rfl, ?_⟩) (by first | assumption | exact trivial) ?_
  · intro W hSW; obtain ⟨i0, i1, i2, i3⟩ := id_cells hSW.id; go_simp; try (with_reducible rfl)
  simp only [Act.put, List.getElem_toArray, List.getElem_cons_succ, List.getElem_cons_zero, List.setIfInBounds_toArray, List.set_cons_zero, List.set_cons_succ]
  refine wpAnyH_take (i := 3) (v := .pointer (some ⟨w.heap.size + 1, 1, none⟩)) rfl (by kernel_rfl) (by kernel_rfl) (by kernel_rfl) (fun _ _ _ h => h) (Or.inl ⟨by rfl, ?_⟩) (by first | assumption | exact trivial) ?_
  · intro W hSW; go_simp; try (with_reducible rfl)
  simp only [Act.put, List.getElem_toArray, List.getElem_cons_succ, List.getElem_cons_zero, List.setIfInBounds_toArray, List.set_cons_zero, List.set_cons_succ]
  refine wpAnyH_take (i := 4) (v := .pointer (some ⟨w.heap.size + 1, 5, none⟩)) rfl (by kernel_rfl) (by kernel_rfl) (by kernel_rfl) (fun _ _ _ h => h) (Or.inl ⟨by rfl, ?_⟩) (by first | assumption | exact trivial) ?_
  · intro W hSW; go_simp; try (with_reducible rfl)
  simp only [Act.put, List.getElem_toArray, List.getElem_cons_succ, List.getElem_cons_zero, List.setIfInBounds_toArray, List.set_cons_zero, List.set_cons_succ]
  refine wpAnyH_take (i := 5) (v := .slice A n c) rfl (by kernel_rfl) (by kernel_rfl) (by kernel_rfl) (fun _ _ _ h => h) (Or.inl ⟨by rfl, ?_⟩) (by first | assumption | exact trivial) ?_
  · intro W hSW; obtain ⟨u0, u1, u2, u3, u4, u5⟩ := ev_cells hSW.ev; go_simp; try (with_reducible rfl)
  simp only [Act.put, List.getElem_toArray, List.getElem_cons_succ, List.getElem_cons_zero, List.setIfInBounds_toArray, List.set_cons_zero, List.set_cons_succ]
  refine wpAnyH_ready (rs := [2]) (by kernel_rfl) (by simp) ?_
  refine AllReadyH.cons rfl (fun K hK => ?_) AllReadyH.nil
  go_simp
  have hb1 : Below w7.heap.size w7 (w7.alloc (.cells #[] 5)).drew := (Me.below_alloc (Below.refl _ _)).drew
  have ho1 : Me.Own (w7.alloc (.cells #[] 5)).drew w7.heap.size (.slice (some ⟨w7.heap.size, 0, none⟩) 0 0) [] := Own.lit (Below.refl _ _)
  obtain ⟨V1, hV1⟩ : ∃ V, (w7.alloc (.cells #[] 5)).drew = V := ⟨_, rfl⟩
  rw [hV1] at hb1 ho1 ⊢
  clear hV1
  have S1 := S7.out.go hb1
  refine hK.out _ _ (S1) (fun hHeld => ?_)
  clear hK K
  refine wpAnyH_ready (rs := [6]) (by kernel_rfl) (by simp) ?_
  refine AllReadyH.cons rfl (fun K hK => ?_) AllReadyH.nil
  rw [if_pos (by kernel_rfl)]
  refine Mg.app8b (.tmp 36) (.tmp 39) rfl w7.heap.size _ _ [] p rfl ho1 hb1 hb1.size A c (by rw [← HN.out]; rfl) (HRd.out _ S1.below) HA.out HLN.out ?_
  intro v5 w8 ho8 hb8 _
  rw [List.nil_append] at ho8
  obtain ⟨A1, c1, rfl, p1, p2, _⟩ := ho8.held HLT.out
  simp only [Act.put, List.getElem_toArray, List.getElem_cons_succ, List.getElem_cons_zero, List.setIfInBounds_toArray, List.set_cons_zero, List.set_cons_succ]
  have S8 := S7.out.go hb8
  refine hK.out _ _ (S8) (fun hHeld => ?_)
  clear hK K
  refine wpAnyH_take (i := 7) (v := .agg #[.int .i64 o, .int .i64 d, .int .i64 ee, .int .i64 cc, .slice A1 p.length c1]) rfl (by kernel_rfl) (by kernel_rfl) (by kernel_rfl) (fun _ _ _ h => h) (Or.inl ⟨by rfl, ?_⟩) (by first | assumption | exact trivial) ?_
  · intro W hSW; go_simp; try (with_reducible rfl)
  simp only [Act.put, List.getElem_toArray, List.getElem_cons_succ, List.getElem_cons_zero, List.setIfInBounds_toArray, List.set_cons_zero, List.set_cons_succ]
  refine wpAnyH_ready (rs := [8]) (by kernel_rfl) (by simp) ?_
  refine AllReadyH.cons rfl (fun K hK => ?_) AllReadyH.nil
  go_simp
  obtain ⟨V9, hV9⟩ : ∃ V, w8.alloc (.cells #[.int .i64 o, .int .i64 d, .int .i64 ee, .int .i64 cc, .slice A1 p.length c1] 46) = V := ⟨_, rfl⟩
  obtain ⟨hb9, hx9⟩ := msg_new hV9
  rw [hV9]
  clear hV9
  have S9 := S8.go hb9
  have b79 : Below w7.heap.size w7 V9 := go_on hb8 hb9
  have l9 := L7.out.below b79
  have ho9 : Me.Own V9 w7.heap.size (.slice A1 p.length c1) p := own_same ho8 fun k _ hk => hb9.block k hk
  refine hK.out _ _ (S9) (fun hHeld => ?_)
  clear hK K
  refine wpAnyH_ready (rs := [9]) (by kernel_rfl) (by simp) ?_
  refine AllReadyH.cons rfl (fun K hK => ?_) AllReadyH.nil
  rw [if_pos (by kernel_rfl)]
  refine appRl (.tmp 34) (.tmp 42) rfl (w.heap.size + 1 + 1 + 1) _ P ⟨⟨⟨o, d, ee, cc⟩, p⟩, A1, c1⟩ w8.heap.size rfl l9 ⟨own_base ho9 fun _ _ => Nat.zero_le _, fun k e => .inr (by have := (World.ownsRow.lt ho9 k e).1; have := S7.out.below.size; have := (Array.getElem?_eq_some_iff.1 R7.out).1; omega)⟩ rfl ?hz (by have := HPl.out; omega) (by have := (Array.getElem?_eq_some_iff.1 R7.out).1; have := b79.size; omega) ?_
  case hz =>
    intro j u hj
    rw [cell_of_row V9 w8.heap.size j _ _ (0, 0) hx9, ← hj]
    show (#[Value.int .i64 o, .int .i64 d, .int .i64 ee, .int .i64 cc, .slice A1 p.length c1] : Array Value)[j]? = _
    rw [← Array.getElem?_toList]
    rfl
  intro v10 w10 l10 g10 hB10
  obtain ⟨A10, c10, rfl, _⟩ := l10.form
  rw [show (P ++ [(⟨⟨⟨o, d, ee, cc⟩, p⟩, A1, c1⟩ : Pq)]).length = P.length + 1 from by simp] at l10 ⊢
  simp only [Act.put, List.getElem_toArray, List.getElem_cons_succ, List.getElem_cons_zero, List.setIfInBounds_toArray, List.set_cons_zero, List.set_cons_succ]
  have hb10 := (But.refl (fun k => (Value.slice A7 P.length c7).ownBlock = some k) V9).grown g10 fun k e => .inl e
  have S10 := S9.but hb10 (fun k e => ⟨by have := hB10 k e; omega, by have := hB10 k e; omega, fun e2 => row_ty l9.own S9.id (by decide) (by rw [e, e2])⟩)
  have T9 := (b79.block _ (Array.getElem?_eq_some_iff.1 T7.out).1).trans T7.out
  have R9 := (b79.block _ (Array.getElem?_eq_some_iff.1 R7.out).1).trans R7.out
  have T10 := (hb10.same _ (Array.getElem?_eq_some_iff.1 T9).1 (fun e => by have := hB10 _ e; omega)).trans T9
  have R10 := (hb10.same _ (Array.getElem?_eq_some_iff.1 R9).1 (fun e => by have := hB10 _ e; omega)).trans R9
  clear hb10 g10 hB10 l9 ho9 T9 R9 hx9 S9 b79 hb9 ho8 hb8 S8
  refine hK.out _ _ (S10) (fun hHeld => ?_)
  clear hK K
  refine wpAnyH_take (i := 10) (v := .pointer (some ⟨w.heap.size, 6, none⟩)) rfl (by kernel_rfl) (by kernel_rfl) (by kernel_rfl) (fun _ _ _ h => h) (Or.inl ⟨by rfl, ?_⟩) (by first | assumption | exact trivial) ?_
  · intro W hSW; go_simp; try (with_reducible rfl)
  simp only [Act.put, List.getElem_toArray, List.getElem_cons_succ, List.getElem_cons_zero, List.setIfInBounds_toArray, List.set_cons_zero, List.set_cons_succ]
  refine wpAnyH_ready (rs := [11]) (by kernel_rfl) (by simp) ?_
  refine AllReadyH.cons rfl (fun K hK => ?_) AllReadyH.nil
  have y6 := (rs_cells T10).2.2.2.2.2.2.1
  have f6 := frozen_of_row w10 w.heap.size 6 _ _ T10
  go_simp
  clear y6 f6
  have hst := heap_setCell_same w10 w.heap.size 6 _ _ (.slice A10 (P.length + 1) c10) T10
  have hbt := (But.refl (fun k => k = w.heap.size) w10).set (p := ⟨w.heap.size, 6, none⟩) (.inl rfl) (.slice A10 (P.length + 1) c10)
  obtain ⟨V11, hV11⟩ : ∃ V, w10.setCell ⟨w.heap.size, 6, none⟩ (.slice A10 (P.length + 1) c10) = V := ⟨_, rfl⟩
  rw [hV11] at hst hbt ⊢
  clear hV11
  have S11 := S10.but hbt (fun k e => ⟨by omega, by omega, by have := HD3.out; omega⟩)
  refine hK.out _ _ (S11) (fun hHeld => ?_)
  clear hK K
  refine wpAnyH_done (by kernel_rfl) ?_ _
  have A11 : Hid (Ap w #[.int .i64 me, .int .i64 qh, .int .i64 qb, .int .i64 qg, .int .i64 ep, vU, .slice A10 (P.length + 1) c10, .int .i64 qg, vK] #[.int .i64 2, .int .i64 o, .int .i64 d, .int .i64 ee, .int .i64 cc, .slice A n c] V11) := ⟨S11.below, hst, S11.ev⟩
  have I11 := Lib.hid S11.id
  have R11 := Lib.hid ((hbt.same _ (Array.getElem?_eq_some_iff.1 R10).1 (by omega)).trans R10)
  have L11 := Lib.hid (l10.but hbt (fun k e => by omega) (fun k e hq => hq.elim (fun hq => by have := HQ.out k hq; omega) (fun hq => by omega)))
  clear hst hbt S11 S10 T10 R10 l10 S0 S1 hb1 ho1 S7 T7 R7 L7 hHeld p1 p2
  have l48 := HK.out
  rename_i Q9 K2 hK2 K1 hK1 K0 hK0
  obtain ⟨x0, x1, x2, x3, x4, x5, x6, x7, x8⟩ := rs_cells A11.out.st
  obtain ⟨u0, u1, u2, u3, u4, u5⟩ := ev_cells A11.out.ev
  obtain ⟨i0, i1, i2, i3⟩ := id_cells I11.out
  go_wp2
  go_quiet (fail)
  have hb12 : Below V11.heap.size V11 (V11.drewN nq) := Me.below_drewN (Below.refl _ _) nq
  obtain ⟨V12, hV12⟩ : ∃ V, V11.drewN nq = V := ⟨_, rfl⟩
  rw [hV12] at hb12 ⊢
  clear hV12
  have S12 := Lib.hid (A11.out.go hb12)
  have R12 := Lib.hid ((hb12.block _ (Array.getElem?_eq_some_iff.1 R11.out).1).trans R11.out)
  have L12 := Lib.hid (L11.out.below hb12)
  clear hb12 x0 x1 x2 x3 x4 x5 x6 x7 x8 u0 u1 u2 u3 u4 u5 i0 i1 i2 i3
  obtain ⟨x0, x1, x2, x3, x4, x5, x6, x7, x8⟩ := rs_cells S12.out.st
  go_wp2_with (refine wpList_store_row rfl 37 (.tmp 4) (.tmp 92) rfl (w.heap.size + 1 + 1) #[.int .i64 me, .int .i64 qh, .int .i64 qb, .int .i64 qg, .int .i64 ep, vU, .slice A10 (P.length + 1) c10, .int .i64 qg, vK] rfl rfl 37 _ R12.out (by kernel_rfl) rfl (rs_onev _ _ _ _ _ _ HUo.out rfl HK.out) ?_)
  refine Sb.ret_box2 (g := w.heap.size + 1 + 1) rfl (by rfl) (setRow_heap _ _ _ _ _ _ R12.out) rfl Tryz.underlying37 (by kernel_rfl) rfl ⟨_, _, ⟨⟨⟨o, d, ee, cc⟩, p⟩, A1, c1⟩, rfl, rfl, ?_, ?_, ?_, (S12.out.row _).below⟩
  · exact L12.out.but ((But.refl (fun k => k = w.heap.size + 1 + 1) _).setRow (.inl rfl) _) (fun k e => by omega) (fun k e hq => hq.elim (fun hq => by have := HQ.out k hq; omega) (fun hq => by omega))
  · exact HKn.out _ (S12.out.row _).below
  · exact fun k e => .inl (HUQ.out k e)
end Go.Proofs.YtfnlhfelpdkieaaGreat.So
