/- The document's Apply: of a hold. -/
import Derived.Test.YtfnlhfelpdkieaaGreatZ27
import Derived.Test.YtfnlhfelpdkieaaGreatSoRAppHa
import Derived.Test.YtfnlhfelpdkieaaGreatSoRAppHc
import Derived.Test.YtfnlhfelpdkieaaGreatZ24
import Derived.Test.YtfnlhfelpdkieaaGreatZ20
namespace Go.Proofs.YtfnlhfelpdkieaaGreat.So
open Go.RowKit Go.Deep
open Go.ChangeShapes Go.WideShapes Go.Joins
open Go.Proofs.YtfnlhfelpdkieaaGreat.Me Go.Proofs.YtfnlhfelpdkieaaGreat.Sb
set_option linter.unusedVariables false
set_option linter.unusedSimpArgs false

set_option maxRecDepth 100000 in
set_option maxHeartbeats 32000000 in
theorem apply_hold_b (me qh qb qg ep d ee cc : Int) (vU vL vK : Value) (A : Option Addr) (n c : Nat) (w : World) (Q : Nat → Prop) (P : List Pq) (U U2 : Nx) (lu : Int) (p : List Nat) (Bx : Nat)
    (g2 : (ee == ep) = false) (hn : n = p.length) (hn48 : n ≤ 48) (hP : P.length ≤ 1000)
    (hQ : ∀ k, Q k → k < w.heap.size) (hU : ∀ k, vU.ownBlock = some k → Q k) (hK : vK.oneCell' = true)
    (hKn : Kn w 0 vU U) (hRl : Rl Q w 0 vL P) (hRd : Rd w w.heap.size A p) (hA : A = none → p.length = 0 ∧ c = 0)
    (HM : Hid (∀ W, Below w.heap.size w W → Calls Tryz.prog 29 #[.agg #[.int .i64 me, .int .i64 qh, .int .i64 qb, .int .i64 qg, .int .i64 ep, vU, vL, .int .i64 qg, vK], .agg #[.int .i64 2, .int .i64 me, .int .i64 d, .int .i64 ee, .int .i64 cc, .slice A n c]] W fun e w' => e = .returned (.int .i64 0) ∧ Hid (Below W.heap.size W w')))
    (HLa : Hid (∀ W vl, Below w.heap.size w W → Calls Tryz.prog 30 #[.agg #[.int .i64 me, .int .i64 qh, .int .i64 qb, .int .i64 qg, .int .i64 ep, vU, vl, .int .i64 qg, vK], .int .i64 d] W fun e w' => e = .returned (.int .i64 lu) ∧ Hid (Below W.heap.size W w')))
    (HUs : Hid (∀ W, Below w.heap.size w W → Calls Tryz.prog 31 #[vU, .agg #[.int .i64 d, .int .i64 cc]] W fun e w' => ∃ v', e = .returned v' ∧ Hid (Kn w' W.heap.size v' U2) ∧ Hid (Below W.heap.size W w'))) : Calls Tryz.prog 12 #[.agg #[.int .i64 me, .int .i64 qh, .int .i64 qb, .int .i64 qg, .int .i64 ep, vU, vL, .int .i64 qg, vK], .agg #[.int .i64 2, .int .i64 me, .int .i64 d, .int .i64 ee, .int .i64 cc, .slice A n c]] w fun e w' => ∃ vU' vL' q, e = .returned (.tuple #[.agg #[.int .i64 me, .int .i64 qh, .int .i64 qb, .int .i64 qg, .int .i64 ep, vU', vL', .int .i64 qg, vK], .int .i64 0]) ∧ q.x = ⟨⟨me, d, ee, cc⟩, p⟩ ∧ Hid (Rl (fun k => Q k ∨ w.heap.size + 1 + 1 + 1 ≤ k) w' (w.heap.size + 1 + 1 + 1) vL' (P ++ [q])) ∧ Hid (Kn w' 0 vU' U) ∧ Hid (∀ k, vU'.ownBlock = some k → Q k ∨ w.heap.size + 1 + 1 + 1 ≤ k) ∧ Hid (Below w.heap.size w w') := by
  obtain ⟨W3, hW3, s3, r3⟩ := Ap.start w #[.int .i64 me, .int .i64 qh, .int .i64 qb, .int .i64 qg, .int .i64 ep, vU, vL, .int .i64 qg, vK] #[.int .i64 2, .int .i64 me, .int .i64 d, .int .i64 ee, .int .i64 cc, .slice A n c]
  have HW := Lib.hid hW3
  unfold rs0 at HW
  have HQ := Lib.hid hQ
  have HUQ := Lib.hid hU
  have HK := Lib.hid hK
  have HUo : Hid (vU.oneCell' = true) := (by obtain ⟨UA, uc, rfl, _⟩ := hKn.form; rfl)
  have HKn : Hid (∀ W, Below w.heap.size w W → Kn W 0 vU U) := fun W hW => hKn.below hW
  have HRl : Hid (∀ W, Below w.heap.size w W → Rl (fun k => Q k ∨ w.heap.size + 1 + 1 + 1 ≤ k) W 0 vL P) := fun W hW => (hRl.below hW).mono fun k _ h => .inl h
  have HRd : Hid (∀ W, Below w.heap.size w W → Rd W w.heap.size A p) := fun W hW => hRd.below hW
  have HA := Lib.hid hA
  have HPl := Lib.hid hP
  have HLT : Hid (∀ z ∈ p, z < 256) := hRd.1
  have HLN : Hid (([] : List Nat).length + p.length ≤ 140737488355328) := by
    show 0 + _ ≤ _
    omega
  have HN := Lib.hid hn
  clear hW3 hQ hU hK hKn hRl hRd hA hP hn hn48
  obtain ⟨x0, x1, x2, x3, x4, x5, x6, x7, x8⟩ := rs_cells s3.st
  obtain ⟨u0, u1, u2, u3, u4, u5⟩ := ev_cells s3.ev
  go_enter Tryz.func12, Tryz.ntmps12
  go_wp2_with (first
    | (go_at_call 29; (try rw [HW.out]); refine (HM.out _ s3.below).mono ?_; rintro e w3 ⟨rfl, b3⟩; have s4 := s3.go b3.out; have r4 := (b3.out.block _ (Array.getElem?_eq_some_iff.1 r3).1).trans r3; clear x0 x1 x2 x3 x4 x5 x6 x7 x8 u0 u1 u2 u3 u4 u5; obtain ⟨u0, u1, u2, u3, u4, u5⟩ := ev_cells s4.ev; have hn5 : Below w3.heap.size w3 (w3.alloc (.cells #[.int .i64 me, .int .i64 d, .int .i64 ee, .int .i64 cc] 43)) := Me.below_alloc (Below.refl _ _); have S5 := Lib.hid (s4.go hn5); have R5 := Lib.hid ((hn5.block _ (Array.getElem?_eq_some_iff.1 r4).1).trans r4); have I5 := Lib.hid (heap_alloc_new w3 (.cells #[.int .i64 me, .int .i64 d, .int .i64 ee, .int .i64 cc] 43)); obtain ⟨x0, x1, x2, x3, x4, x5, x6, x7, x8⟩ := rs_cells S5.out.st; obtain ⟨v0, v1, v2, v3, v4, v5⟩ := ev_cells S5.out.ev; obtain ⟨i0, i1, i2, i3⟩ := id_cells I5.out; have hn6 : Below (w3.alloc (.cells #[.int .i64 me, .int .i64 d, .int .i64 ee, .int .i64 cc] 43)).heap.size (w3.alloc (.cells #[.int .i64 me, .int .i64 d, .int .i64 ee, .int .i64 cc] 43)) ((w3.alloc (.cells #[.int .i64 me, .int .i64 d, .int .i64 ee, .int .i64 cc] 43)).alloc (.cells #[] 46)) := Me.below_alloc (Below.refl _ _); have hd3 : w.heap.size + 1 + 1 < w3.heap.size := (Array.getElem?_eq_some_iff.1 r4).1; have HD3 := Lib.hid hd3; have hl6 : Rl (fun k => Q k ∨ w.heap.size + 1 + 1 + 1 ≤ k) ((w3.alloc (.cells #[.int .i64 me, .int .i64 d, .int .i64 ee, .int .i64 cc] 43)).alloc (.cells #[] 46)) (w.heap.size + 1 + 1 + 1) (.slice (some ⟨(w3.alloc (.cells #[.int .i64 me, .int .i64 d, .int .i64 ee, .int .i64 cc] 43)).heap.size, 0, none⟩) 0 0) [] := Rl.lit (by rw [World.size_alloc]; omega); rw [World.size_alloc] at hl6; have S6 := Lib.hid (S5.out.go hn6); have R6 := Lib.hid ((hn6.block _ (Array.getElem?_eq_some_iff.1 R5.out).1).trans R5.out); have I6 := Lib.hid ((hn6.block _ (Array.getElem?_eq_some_iff.1 I5.out).1).trans I5.out); have y6 := (rs_cells S6.out.st).2.2.2.2.2.2.1; have hz6 : ((w3.alloc (.cells #[.int .i64 me, .int .i64 d, .int .i64 ee, .int .i64 cc] 43)).alloc (.cells #[] 46)).heap.size = w3.heap.size + 1 + 1 := (by rw [World.size_alloc, World.size_alloc]); obtain ⟨V6, hV6⟩ : ∃ V, (w3.alloc (.cells #[.int .i64 me, .int .i64 d, .int .i64 ee, .int .i64 cc] 43)).alloc (.cells #[] 46) = V := ⟨_, rfl⟩; rw [hV6] at S6 R6 I6 hl6 hz6; have L6 := Lib.hid hl6; have HZ6 := Lib.hid hz6; have HV6 := Lib.hid hV6; clear hV6 hn6 hd3 hl6 hz6 S5 R5 I5)
    | (rw [HV6.out]
       refine appRlAll rfl (.tmp 30) (.tmp 32) rfl (w.heap.size + 1 + 1 + 1) (.slice (some ⟨w3.heap.size + 1, 0, none⟩) 0 0) P rfl L6.out (by have := HD3.out; have := HZ6.out; omega) vL rfl (HRl.out _ S6.out.below) HPl.out ?_
       intro v7 w7 l7 g7 _
       have hb7 : But (fun k => k = w3.heap.size + 1) V6 w7 := (But.refl (fun k => k = w3.heap.size + 1) V6).grown g7 fun k e => .inl (by simpa [Value.ownBlock] using e.symm)
       have S7 := Lib.hid ((⟨S6.out.below, S6.out.ev, I6.out⟩ : Ah w #[.int .i64 2, .int .i64 me, .int .i64 d, .int .i64 ee, .int .i64 cc, .slice A n c] #[.int .i64 me, .int .i64 d, .int .i64 ee, .int .i64 cc] w3.heap.size V6).but hb7 (fun k e => by have := HD3.out; omega))
       have T7 : Hid (w7.heap[w.heap.size]? = some (.cells #[.int .i64 me, .int .i64 qh, .int .i64 qb, .int .i64 qg, .int .i64 ep, vU, vL, .int .i64 qg, vK] 37 (0, 0))) := (hb7.same _ (Array.getElem?_eq_some_iff.1 S6.out.st).1 (by have := HD3.out; omega)).trans S6.out.st
       have R7 := Lib.hid ((hb7.same _ (Array.getElem?_eq_some_iff.1 R6.out).1 (by have := HD3.out; omega)).trans R6.out)
       obtain ⟨A7, c7, rfl, _⟩ := l7.form
       have L7 := Lib.hid l7
       clear l7 g7 hb7 S6 R6 I6 L6 HV6 HZ6 y6))
  have S0 := S7.out.drew
  refine wp_region_held_drew (S := fun W => Ah w #[.int .i64 2, .int .i64 me, .int .i64 d, .int .i64 ee, .int .i64 cc, .slice A n c] #[.int .i64 me, .int .i64 d, .int .i64 ee, .int .i64 cc] w3.heap.size W) (by kernel_rfl) S0 (fun hHeld => ?_)
  refine wpAnyH_take (i := 0) (v := .slice A7 P.length c7) rfl (by kernel_rfl) (by kernel_rfl) (by kernel_rfl) (fun _ _ _ h => h) (Or.inl ⟨by rfl, ?_⟩) (by first | assumption | exact trivial) ?_
  · intro W hSW; go_simp; try (with_reducible rfl)
  simp only [Act.put, List.getElem_toArray, List.getElem_cons_succ, List.getElem_cons_zero, List.setIfInBounds_toArray, List.set_cons_zero, List.set_cons_succ]
  refine wpAnyH_take (i := 1) (v := .agg #[.int .i64 me, .int .i64 d, .int .i64 ee, .int .i64 cc]) rfl (by kernel_rfl) (by kernel_rfl) (by kernel_rfl) (fun _ _ _ h => h) (Or.inl ⟨by rfl, ?_⟩) (by first | assumption | exact trivial) ?_
  · intro W hSW; obtain ⟨i0, i1, i2, i3⟩ := id_cells hSW.id; go_simp; try (with_reducible rfl)
  simp only [Act.put, List.getElem_toArray, List.getElem_cons_succ, List.getElem_cons_zero, List.setIfInBounds_toArray, List.set_cons_zero, List.set_cons_succ]
  refine wpAnyH_take (i := 3) (v := .pointer (some ⟨w.heap.size + 1, 1, none⟩)) rfl (by kernel_rfl) (by kernel_rfl) (by kernel_rfl) (fun _ _ _ h => h) (Or.inl ⟨by rfl, ?_⟩) (by first | assumption | exact trivial) ?_
  · intro W hSW; go_simp; try (with_reducible rfl)
  simp only [Act.put, List.getElem_toArray, List.getElem_cons_succ, List.getElem_cons_zero, List.setIfInBounds_toArray, List.set_cons_zero, List.set_cons_succ]
  refine wpAnyH_take (i := 4) (v := .pointer (some ⟨w.heap.size + 1, 5, none⟩)) rfl (by kernel_rfl) (by kernel_rfl) (by kernel_rfl) (fun _ _ _ h => h) (Or.inl ⟨by rfl, ?_⟩) (by first | assumption | exact trivial) ?_
  · intro W hSW; go_simp; try (with_reducible rfl)
  simp only [Act.put, List.getElem_toArray, List.getElem_cons_succ, List.getElem_cons_zero, List.setIfInBounds_toArray, List.set_cons_zero, List.set_cons_succ]
  refine wpAnyH_take (i := 5) (v := .slice A n c) rfl (by kernel_rfl) (by kernel_rfl) (by kernel_rfl) (fun _ _ _ h => h) (Or.inl ⟨by rfl, ?_⟩) (by first | assumption | exact trivial) ?_
  · intro W hSW; obtain ⟨u0, u1, u2, u3, u4, u5⟩ := ev_cells hSW.ev; go_simp; try (with_reducible rfl)
  simp only [Act.put, List.getElem_toArray, List.getElem_cons_succ, List.getElem_cons_zero, List.setIfInBounds_toArray, List.set_cons_zero, List.set_cons_succ]
  refine wpAnyH_ready (rs := [2]) (by kernel_rfl) (by simp) ?_
  refine AllReadyH.cons rfl (fun K hK => ?_) AllReadyH.nil
  go_simp
  have hb1 : Below w7.heap.size w7 (w7.alloc (.cells #[] 5)).drew := (Me.below_alloc (Below.refl _ _)).drew
  have ho1 : Me.Own (w7.alloc (.cells #[] 5)).drew w7.heap.size (.slice (some ⟨w7.heap.size, 0, none⟩) 0 0) [] := Own.lit (Below.refl _ _)
  obtain ⟨V1, hV1⟩ : ∃ V, (w7.alloc (.cells #[] 5)).drew = V := ⟨_, rfl⟩
  rw [hV1] at hb1 ho1 ⊢
  clear hV1
  have S1 := S7.out.go hb1
  refine hK.out _ _ (S1) (fun hHeld => ?_)
  clear hK K
  refine wpAnyH_ready (rs := [6]) (by kernel_rfl) (by simp) ?_
  refine AllReadyH.cons rfl (fun K hK => ?_) AllReadyH.nil
  rw [if_pos (by kernel_rfl)]
  refine Mg.app8b (.tmp 36) (.tmp 39) rfl w7.heap.size _ _ [] p rfl ho1 hb1 hb1.size A c (by rw [← HN.out]; rfl) (HRd.out _ S1.below) HA.out HLN.out ?_
  intro v5 w8 ho8 hb8 _
  rw [List.nil_append] at ho8
  obtain ⟨A1, c1, rfl, p1, p2, _⟩ := ho8.held HLT.out
  simp only [Act.put, List.getElem_toArray, List.getElem_cons_succ, List.getElem_cons_zero, List.setIfInBounds_toArray, List.set_cons_zero, List.set_cons_succ]
  have S8 := S7.out.go hb8
  refine hK.out _ _ (S8) (fun hHeld => ?_)
  clear hK K
  refine wpAnyH_take (i := 7) (v := .agg #[.int .i64 me, .int .i64 d, .int .i64 ee, .int .i64 cc, .slice A1 p.length c1]) rfl (by kernel_rfl) (by kernel_rfl) (by kernel_rfl) (fun _ _ _ h => h) (Or.inl ⟨by rfl, ?_⟩) (by first | assumption | exact trivial) ?_
  · intro W hSW; go_simp; try (with_reducible rfl)
  simp only [Act.put, List.getElem_toArray, List.getElem_cons_succ, List.getElem_cons_zero, List.setIfInBounds_toArray, List.set_cons_zero, List.set_cons_succ]
  refine wpAnyH_ready (rs := [8]) (by kernel_rfl) (by simp) ?_
  refine AllReadyH.cons rfl (fun K hK => ?_) AllReadyH.nil
  go_simp
  obtain ⟨V9, hV9⟩ : ∃ V, w8.alloc (.cells #[.int .i64 me, .int .i64 d, .int .i64 ee, .int .i64 cc, .slice A1 p.length c1] 46) = V := ⟨_, rfl⟩
  obtain ⟨hb9, hx9⟩ := msg_new hV9
  rw [hV9]
  clear hV9
  have S9 := S8.go hb9
  have b79 : Below w7.heap.size w7 V9 := go_on hb8 hb9
  have l9 := L7.out.below b79
  have ho9 : Me.Own V9 w7.heap.size (.slice A1 p.length c1) p := own_same ho8 fun k _ hk => hb9.block k hk
  refine hK.out _ _ (S9) (fun hHeld => ?_)
  clear hK K
  refine wpAnyH_ready (rs := [9]) (by kernel_rfl) (by simp) ?_
  refine AllReadyH.cons rfl (fun K hK => ?_) AllReadyH.nil
  rw [if_pos (by kernel_rfl)]
  refine appRl (.tmp 34) (.tmp 42) rfl (w.heap.size + 1 + 1 + 1) _ P ⟨⟨⟨me, d, ee, cc⟩, p⟩, A1, c1⟩ w8.heap.size rfl l9 ⟨own_base ho9 fun _ _ => Nat.zero_le _, fun k e => .inr (by have := (World.ownsRow.lt ho9 k e).1; have := S7.out.below.size; have := (Array.getElem?_eq_some_iff.1 R7.out).1; omega)⟩ rfl ?hz (by have := HPl.out; omega) (by have := (Array.getElem?_eq_some_iff.1 R7.out).1; have := b79.size; omega) ?_
  case hz =>
    intro j u hj
    rw [cell_of_row V9 w8.heap.size j _ _ (0, 0) hx9, ← hj]
    show (#[Value.int .i64 me, .int .i64 d, .int .i64 ee, .int .i64 cc, .slice A1 p.length c1] : Array Value)[j]? = _
    rw [← Array.getElem?_toList]
    rfl
  intro v10 w10 l10 g10 hB10
  obtain ⟨A10, c10, rfl, _⟩ := l10.form
  rw [show (P ++ [(⟨⟨⟨me, d, ee, cc⟩, p⟩, A1, c1⟩ : Pq)]).length = P.length + 1 from by simp] at l10 ⊢
  simp only [Act.put, List.getElem_toArray, List.getElem_cons_succ, List.getElem_cons_zero, List.setIfInBounds_toArray, List.set_cons_zero, List.set_cons_succ]
  have hb10 := (But.refl (fun k => (Value.slice A7 P.length c7).ownBlock = some k) V9).grown g10 fun k e => .inl e
  have S10 := S9.but hb10 (fun k e => ⟨by have := hB10 k e; omega, by have := hB10 k e; omega, fun e2 => row_ty l9.own S9.id (by decide) (by rw [e, e2])⟩)
  have T9 := (b79.block _ (Array.getElem?_eq_some_iff.1 T7.out).1).trans T7.out
  have R9 := (b79.block _ (Array.getElem?_eq_some_iff.1 R7.out).1).trans R7.out
  have T10 := (hb10.same _ (Array.getElem?_eq_some_iff.1 T9).1 (fun e => by have := hB10 _ e; omega)).trans T9
  have R10 := (hb10.same _ (Array.getElem?_eq_some_iff.1 R9).1 (fun e => by have := hB10 _ e; omega)).trans R9
  clear hb10 g10 hB10 l9 ho9 T9 R9 hx9 S9 b79 hb9 ho8 hb8 S8
  refine hK.out _ _ (S10) (fun hHeld => ?_)
  clear hK K
  refine wpAnyH_take (i := 10) (v := .pointer (some ⟨w.heap.size, 6, none⟩)) rfl (by kernel_rfl) (by kernel_rfl) (by kernel_rfl) (fun _ _ _ h => h) (Or.inl ⟨by rfl, ?_⟩) (by first | assumption | exact trivial) ?_
  · intro W hSW; go_simp; try (with_reducible rfl)
  simp only [Act.put, List.getElem_toArray, List.getElem_cons_succ, List.getElem_cons_zero, List.setIfInBounds_toArray, List.set_cons_zero, List.set_cons_succ]
  refine wpAnyH_ready (rs := [11]) (by kernel_rfl) (by simp) ?_
  refine AllReadyH.cons rfl (fun K hK => ?_) AllReadyH.nil
  have y6 := (rs_cells T10).2.2.2.2.2.2.1
  have f6 := frozen_of_row w10 w.heap.size 6 _ _ T10
  go_simp
  clear y6 f6
  have hst := heap_setCell_same w10 w.heap.size 6 _ _ (.slice A10 (P.length + 1) c10) T10
  have hbt := (But.refl (fun k => k = w.heap.size) w10).set (p := ⟨w.heap.size, 6, none⟩) (.inl rfl) (.slice A10 (P.length + 1) c10)
  obtain ⟨V11, hV11⟩ : ∃ V, w10.setCell ⟨w.heap.size, 6, none⟩ (.slice A10 (P.length + 1) c10) = V := ⟨_, rfl⟩
  rw [hV11] at hst hbt ⊢
  clear hV11
  have S11 := S10.but hbt (fun k e => ⟨by omega, by omega, by have := HD3.out; omega⟩)
  refine hK.out _ _ (S11) (fun hHeld => ?_)
  clear hK K
  refine wpAnyH_done (by kernel_rfl) ?_ _
  have A11 : Hid (Ap w #[.int .i64 me, .int .i64 qh, .int .i64 qb, .int .i64 qg, .int .i64 ep, vU, .slice A10 (P.length + 1) c10, .int .i64 qg, vK] #[.int .i64 2, .int .i64 me, .int .i64 d, .int .i64 ee, .int .i64 cc, .slice A n c] V11) := ⟨S11.below, hst, S11.ev⟩
  have I11 := Lib.hid S11.id
  have R11 := Lib.hid ((hbt.same _ (Array.getElem?_eq_some_iff.1 R10).1 (by omega)).trans R10)
  have L11 := Lib.hid (l10.but hbt (fun k e => by omega) (fun k e hq => hq.elim (fun hq => by have := HQ.out k hq; omega) (fun hq => by omega)))
  clear hst hbt S11 S10 T10 R10 l10 S0 S1 hb1 ho1 S7 T7 R7 L7 hHeld p1 p2
  have l48 := HK.out
  rename_i Q9 K2 hK2 K1 hK1 K0 hK0
  obtain ⟨x0, x1, x2, x3, x4, x5, x6, x7, x8⟩ := rs_cells A11.out.st
  obtain ⟨u0, u1, u2, u3, u4, u5⟩ := ev_cells A11.out.ev
  obtain ⟨i0, i1, i2, i3⟩ := id_cells I11.out
  go_wp2
  go_quiet (fail)
  have hb12 : Below V11.heap.size V11 (V11.drewN nq) := Me.below_drewN (Below.refl _ _) nq
  obtain ⟨V12, hV12⟩ : ∃ V, V11.drewN nq = V := ⟨_, rfl⟩
  rw [hV12] at hb12 ⊢
  clear hV12
  have S12 := Lib.hid (A11.out.go hb12)
  have R12 := Lib.hid ((hb12.block _ (Array.getElem?_eq_some_iff.1 R11.out).1).trans R11.out)
  have L12 := Lib.hid (L11.out.below hb12)
  clear hb12 x0 x1 x2 x3 x4 x5 x6 x7 x8 u0 u1 u2 u3 u4 u5 i0 i1 i2 i3
  obtain ⟨x0, x1, x2, x3, x4, x5, x6, x7, x8⟩ := rs_cells S12.out.st
  go_wp2_with (refine wpList_store_row rfl 37 (.tmp 4) (.tmp 92) rfl (w.heap.size + 1 + 1) #[.int .i64 me, .int .i64 qh, .int .i64 qb, .int .i64 qg, .int .i64 ep, vU, .slice A10 (P.length + 1) c10, .int .i64 qg, vK] rfl rfl 37 _ R12.out (by kernel_rfl) rfl (rs_onev _ _ _ _ _ _ HUo.out rfl HK.out) ?_)
  refine Sb.ret_box2 (g := w.heap.size + 1 + 1) rfl (by rfl) (setRow_heap _ _ _ _ _ _ R12.out) rfl Tryz.underlying37 (by kernel_rfl) rfl ⟨_, _, ⟨⟨⟨me, d, ee, cc⟩, p⟩, A1, c1⟩, rfl, rfl, ?_, ?_, ?_, (S12.out.row _).below⟩
  · exact L12.out.but ((But.refl (fun k => k = w.heap.size + 1 + 1) _).setRow (.inl rfl) _) (fun k e => by omega) (fun k e hq => hq.elim (fun hq => by have := HQ.out k hq; omega) (fun hq => by omega))
  · exact HKn.out _ (S12.out.row _).below
  · exact fun k e => .inl (HUQ.out k e)
end Go.Proofs.YtfnlhfelpdkieaaGreat.So
/- The document's Apply, of a store. -/
namespace Go.Proofs.YtfnlhfelpdkieaaGreat.So
open Go.RowKit Go.Deep
open Go.Proofs.YtfnlhfelpdkieaaGreat.Me Go.Proofs.YtfnlhfelpdkieaaGreat.Sb
set_option linter.unusedVariables false
set_option linter.unusedSimpArgs false

theorem Rf.mono {Q Q' : Nat → Prop} {w : World} {s : Sto} {K : Se.Ks} {vU vL vK : Value} {P : List Pq} (h : Rf Q w s K vU vL vK P) (hQ : ∀ k, k < w.heap.size → Q k → Q' k) : Rf Q' w s K vU vL vK P :=
  ⟨h.un, fun k e => hQ k (World.ownsRow.lt h.un k e).2 (h.unQ k e), h.ml.mono hQ, fun k e => hQ k (World.ownsRow.lt h.ml.own k e).2 (h.mlQ k e), h.mp, h.kv.mono hQ, h.rel, h.ok⟩
theorem Rf.oneU {Q : Nat → Prop} {w : World} {s : Sto} {K : Se.Ks} {vU vL vK : Value} {P : List Pq} (h : Rf Q w s K vU vL vK P) : vU.oneCell' = true ∧ vL.oneCell' = true ∧ vK.oneCell' = true := by
  obtain ⟨A1, c1, e1, _⟩ := h.un.form
  obtain ⟨A2, c2, e2, _⟩ := h.ml.form
  exact ⟨by rw [e1]; rfl, by rw [e2]; rfl, h.kv.one⟩
theorem usedTo_none (k : Nat) : usedTo (fun _ => 0) k = [] := by
  unfold usedTo
  simp
/-- The document's Add of keys: both answers. -/
theorem radd_any (Q : Nat → Prop) (room : Int) (v : Value) (L : Se.Ks) (i : Mg.Id4) (w : World) (hv : Hid (Se.Kv Q w v L)) (hQ : ∀ k, w.heap.size ≤ k → Q k) (hL : L.length ≤ 900) : Calls Tryz.prog 33 #[.agg #[.int .i64 room, v], .agg (Mg.idC i)] w fun e w' => ∃ v' z, e = .returned (.tuple #[.agg #[.int .i64 room, v'], .int .i64 z]) ∧ Hid (Se.Kv Q w' v' (Se.raddL room L i)) ∧ Hid (Below w.heap.size w w') := by
  by_cases hm : Se.rmayN room L i = 0
  · refine (Se.RAdd_ok Q room v L i w hv hL hm).mono ?_
    rintro e w' ⟨v', rfl, h1, h2⟩
    refine ⟨v', 0, rfl, ?_, h2⟩
    have e : Se.raddL room L i = Se.putL L ⟨i.o, i.e, i.c⟩ := by unfold Se.raddL; rw [if_pos hm]
    rw [e]
    exact h1.out.mono fun k _ hk => hQ k hk
  · refine (Se.RAdd_no Q room v L i w hv hL hm).mono ?_
    rintro e w' ⟨rfl, h2⟩
    refine ⟨v, _, rfl, ?_, h2⟩
    have e : Se.raddL room L i = L := by unfold Se.raddL; rw [if_neg hm]
    rw [e]
    exact hv.out.below h2.out
theorem use_eq {s : Sto} (h : Ok s) {i : Mg.Id4} (hr : Mg.Right i) : (if i.o = s.self ∧ i.e = s.epoch ∧ lastU (usedTo s.last 64) i.d < i.c then useU i.d i.c (usedTo s.last 64) else usedTo s.last 64) = usedTo (useL s i) 64 := by
  obtain ⟨d, hd⟩ : ∃ d : Nat, i.d = (d : Int) := ⟨i.d.toNat, by have := hr.d0; omega⟩
  have hd64 : d < 64 := by have := hr.d1; omega
  have hl := h.l0 d hd64
  have hlu : lastU (usedTo s.last 64) (d : Int) = s.last d := by
    rw [lastU_used s.last d 64 hd64]
    split
    · rfl
    · omega
  have hc := hr.c0
  unfold useL
  rw [hd, hlu]
  by_cases h1 : i.o = s.self
  · by_cases h2 : i.e = s.epoch
    · by_cases h3 : s.last d < i.c
      · rw [if_pos ⟨h1, h2, h3⟩, if_pos ⟨h1, h2⟩, useU_used s.last d i.c (by omega) hd64]
        refine usedTo_congr fun x hx => ?_
        unfold putF
        by_cases hxd : x = d
        · subst hxd
          rw [if_pos rfl, if_pos rfl]
          omega
        · rw [if_neg hxd, if_neg (by omega)]
      · rw [if_neg (fun q => h3 q.2.2), if_pos ⟨h1, h2⟩]
        refine usedTo_congr fun x hx => ?_
        by_cases hxd : x = d
        · subst hxd
          rw [if_pos rfl]
          omega
        · rw [if_neg (by omega)]
    · rw [if_neg (fun q => h2 q.2.1), if_neg (fun q => h2 q.2)]
  · rw [if_neg (fun q => h1 q.1), if_neg (fun q => h1 q.1)]
/-- A hold: its three ways together. -/
theorem apply_hold (me qh qb qg ep o d ee cc : Int) (vU vL vK : Value) (A : Option Addr) (n c : Nat) (w : World) (Q : Nat → Prop) (P : List Pq) (U U2 U3 : Nx) (lu : Int) (p : List Nat)
    (hU3 : U3 = if o = me ∧ ee = ep ∧ lu < cc then U2 else U) (hn : n = p.length) (hn48 : n ≤ 48) (hP : P.length ≤ 1000)
    (hQ : ∀ k, Q k → k < w.heap.size) (hU : ∀ k, vU.ownBlock = some k → Q k) (hK : vK.oneCell' = true)
    (hKn : Kn w 0 vU U) (hRl : Rl Q w 0 vL P) (hRd : Rd w w.heap.size A p) (hA : A = none → p.length = 0 ∧ c = 0)
    (HM : Hid (∀ W, Below w.heap.size w W → Calls Tryz.prog 29 #[.agg #[.int .i64 me, .int .i64 qh, .int .i64 qb, .int .i64 qg, .int .i64 ep, vU, vL, .int .i64 qg, vK], .agg #[.int .i64 2, .int .i64 o, .int .i64 d, .int .i64 ee, .int .i64 cc, .slice A n c]] W fun e w' => e = .returned (.int .i64 0) ∧ Hid (Below W.heap.size W w')))
    (HLa : Hid (∀ W vl, Below w.heap.size w W → Calls Tryz.prog 30 #[.agg #[.int .i64 me, .int .i64 qh, .int .i64 qb, .int .i64 qg, .int .i64 ep, vU, vl, .int .i64 qg, vK], .int .i64 d] W fun e w' => e = .returned (.int .i64 lu) ∧ Hid (Below W.heap.size W w')))
    (HUs : Hid (∀ W, Below w.heap.size w W → Calls Tryz.prog 31 #[vU, .agg #[.int .i64 d, .int .i64 cc]] W fun e w' => ∃ v', e = .returned v' ∧ Hid (Kn w' W.heap.size v' U2) ∧ Hid (Below W.heap.size W w'))) : Calls Tryz.prog 12 #[.agg #[.int .i64 me, .int .i64 qh, .int .i64 qb, .int .i64 qg, .int .i64 ep, vU, vL, .int .i64 qg, vK], .agg #[.int .i64 2, .int .i64 o, .int .i64 d, .int .i64 ee, .int .i64 cc, .slice A n c]] w fun e w' => ∃ vU' vL' q, e = .returned (.tuple #[.agg #[.int .i64 me, .int .i64 qh, .int .i64 qb, .int .i64 qg, .int .i64 ep, vU', vL', .int .i64 qg, vK], .int .i64 0]) ∧ q.x = ⟨⟨o, d, ee, cc⟩, p⟩ ∧ Hid (Rl (fun k => Q k ∨ w.heap.size + 1 + 1 + 1 ≤ k) w' (w.heap.size + 1 + 1 + 1) vL' (P ++ [q])) ∧ Hid (Kn w' 0 vU' U3) ∧ Hid (∀ k, vU'.ownBlock = some k → Q k ∨ w.heap.size + 1 + 1 + 1 ≤ k) ∧ Hid (Below w.heap.size w w') := by
  by_cases h1 : o = me
  · by_cases h2 : ee = ep
    · subst h1
      subst h2
      refine apply_hold_c o qh qb qg ee d cc vU vL vK A n c w Q P U U2 lu p 0 U3 (decide (lu < cc)) rfl ?_ hn hn48 hP hQ hU hK hKn hRl hRd hA HM HLa HUs
      show _ = _
      rw [hU3]
      simp
    · subst h1
      rw [if_neg fun h => h2 h.2.1] at hU3
      subst hU3
      exact apply_hold_b o qh qb qg ep d ee cc vU vL vK A n c w Q P _ U2 lu p 0 (by simpa using h2) hn hn48 hP hQ hU hK hKn hRl hRd hA HM HLa HUs
  · rw [if_neg fun h => h1 h.1] at hU3
    subst hU3
    exact apply_hold_a me qh qb qg ep o d ee cc vU vL vK A n c w Q P _ U2 lu p 0 (by simpa using h1) hn hn48 hP hQ hU hK hKn hRl hRd hA HM HLa HUs
set_option maxRecDepth 100000 in
set_option maxHeartbeats 4000000 in
theorem RApply_s (Q : Nat → Prop) (w : World) (s : Sto) (K : Se.Ks) (vU vL vK : Value) (P : List Pq) (k : Int) (i : Mg.Id4) (A : Option Addr) (c : Nat) (p : List Nat) (h : Hid (Rf Q w s K vU vL vK P)) (hK : K.length ≤ 900) (hp : Rd w w.heap.size A p) (hA : A = none → p.length = 0 ∧ c = 0) : Calls Tryz.prog 12 #[.agg (rsv s vU vL vK), .agg (evC k i A p.length c)] w fun e w' => ∃ vU' vL' vK' P' K', e = .returned (.tuple #[.agg (rsv (appE s k i p) vU' vL' vK'), .int .i64 (mayE s k i p.length : Int)]) ∧ Hid (Rf (fun g => Q g ∨ w.heap.size ≤ g) w' (appE s k i p) K' vU' vL' vK' P') ∧ Hid (K'.length ≤ K.length + 1) ∧ Hid (Below w.heap.size w w') := by
  obtain ⟨l1, l2, l3⟩ := h.out.len
  obtain ⟨o1, o2, o3⟩ := h.out.oneU
  have HM : ∀ W, Below w.heap.size w W → Calls Tryz.prog 29 #[.agg (rsv s vU vL vK), .agg (evC k i A p.length c)] W fun e w' => e = .returned (.int .i64 (mayE s k i p.length : Int)) ∧ Hid (Below W.heap.size W w') := fun W hW => RMay_s Q W s K vU vL vK P k i A p.length c (h.out.below hW) hK
  have hm : Rf (fun g => Q g ∨ w.heap.size ≤ g) w s K vU vL vK P := h.out.mono fun _ _ q => .inl q
  have hok : Ok (appE s k i p) := h.out.ok.app k i hp.1
  by_cases h0 : mayE s k i p.length = 0
  · rw [h0] at HM ⊢
    by_cases k1 : k = 1
    · subst k1
      have hap : appE s 1 i p = bootS s := by unfold appE; rw [if_neg (by simp [h0]), if_pos rfl]
      rw [hap] at hok ⊢
      have he : s.epoch + 1 ≤ 65535 := hok.e1
      obtain ⟨o, d, ee, cc⟩ := i
      simp only [rsv, rsc, evC, Mg.idC] at HM ⊢
      refine (apply_boot s.self s.qh s.qb s.qg s.epoch o d ee cc vU vL vK A p.length c w (by omega) h.out.ok.e0 (rs_onev _ _ _ _ _ _ rfl o2 o3) HM).mono ?_
      rintro e w' ⟨rfl, hb⟩
      refine ⟨.slice none 0 0, vL, vK, P, K, rfl, ⟨?_, fun k e => (by cases e), (hm.below hb.out).ml, hm.mlQ, hm.mp, (hm.below hb.out).kv, hm.rel, hok⟩, Nat.le_succ _, hb⟩
      show Kn _ _ _ (usedTo (fun _ => 0) 64)
      rw [usedTo_none]
      exact Kn.nil _ _
    · by_cases k2 : k = 2
      · subst k2
        have hap : appE s 2 i p = useS (holdS s i p) i := by unfold appE; rw [if_neg (by simp [h0]), if_neg (by decide), if_pos rfl]
        rw [hap] at hok ⊢
        have hch : chkE 2 i p.length = 0 := by
          unfold mayE at h0
          by_cases hc : chkE 2 i p.length = 0
          · exact hc
          · rw [if_pos hc] at h0; exact h0
        have hmsg : Mg.msgN i p.length = 0 := by
          unfold chkE at hch
          rw [if_neg (by decide), if_pos rfl] at hch
          exact hch
        obtain ⟨hr, hn1, hn2⟩ := msgN_zero hmsg
        have hue := use_eq h.out.ok hr
        have hul : (usedTo s.last 64).length ≤ 1000 := by have := usedTo_len s.last 64; omega
        have HLa : ∀ W vl, Below w.heap.size w W → Calls Tryz.prog 30 #[.agg (rsc s.self s.qh s.qb s.qg s.epoch vU vl s.qg vK), .int .i64 i.d] W fun e w' => e = .returned (.int .i64 (lastU (usedTo s.last 64) i.d)) ∧ Hid (Below W.heap.size W w') := fun W vl hW => RLast_any s.self s.qh s.qb s.qg s.epoch s.qg vU vl vK _ i.d W (h.out.un.below hW) hul
        have HUs : ∀ W, Below w.heap.size w W → Calls Tryz.prog 31 #[vU, .agg #[.int .i64 i.d, .int .i64 i.c]] W fun e w' => ∃ v', e = .returned v' ∧ Hid (Kn w' W.heap.size v' (useU i.d i.c (usedTo s.last 64))) ∧ Hid (Below W.heap.size W w') := fun W hW => Ruse_any vU _ i.d i.c W (h.out.un.below hW) hul
        obtain ⟨lu, hlu⟩ : ∃ x, lastU (usedTo s.last 64) i.d = x := ⟨_, rfl⟩
        obtain ⟨U2, hU2⟩ : ∃ x, useU i.d i.c (usedTo s.last 64) = x := ⟨_, rfl⟩
        rw [hlu] at HLa hue
        rw [hU2] at HUs hue
        have hml : Rl (fun g => Q g ∧ g < w.heap.size) w 0 vL P := h.out.ml.mono fun _ hk q => ⟨q, hk⟩
        have huq : ∀ k, vU.ownBlock = some k → Q k ∧ k < w.heap.size := fun k e => ⟨h.out.unQ k e, (World.ownsRow.lt h.out.un k e).2⟩
        have hui : useL (holdS s i p) i = useL s i := rfl
        obtain ⟨o, d, ee, cc⟩ := i
        simp only [rsv, rsc, evC, Mg.idC] at HM HLa HUs hue ⊢
        refine (apply_hold s.self s.qh s.qb s.qg s.epoch o d ee cc vU vL vK A p.length c w (fun g => Q g ∧ g < w.heap.size) P (usedTo s.last 64) U2 (usedTo (useL s ⟨o, d, ee, cc⟩) 64) lu p hue.symm rfl hn2 (by omega) (fun _ q => q.2) huq o3 h.out.un hml hp hA HM HLa HUs).mono ?_
        rintro e w' ⟨vU', vL', q, rfl, hq, hl, hk, hkq, hb⟩
        have hQQ : ∀ g, (Q g ∧ g < w.heap.size) ∨ w.heap.size + 1 + 1 + 1 ≤ g → Q g ∨ w.heap.size ≤ g := fun g hg => hg.elim (fun q => .inl q.1) (fun q => .inr (by omega))
        refine ⟨vU', vL', vK, P ++ [q], K, rfl, ⟨?_, fun k e => hQQ k (hkq.out k e), (hl.out.base (Nat.zero_le _)).mono fun g _ hg => hQQ g hg, fun k e => .inr (by have := (World.ownsRow.lt hl.out.own k e).1; omega), ?_, (hm.below hb.out).kv, hm.rel, hok⟩, Nat.le_succ _, hb⟩
        · show Kn _ _ _ (usedTo (useL s ⟨o, d, ee, cc⟩) 64)
          exact hk.out
        · rw [List.map_append, hm.mp]
          show _ = s.held ++ _
          rw [List.map_cons, hq, List.map_nil]
      · by_cases k3 : k = 3
        · subst k3
          have hap : appE s 3 i p = relS s i := by unfold appE; rw [if_neg (by simp [h0]), if_neg (by decide), if_neg (by decide), if_pos rfl]
          rw [hap] at hok ⊢
          have hml : Rl (fun g => Q g ∧ g < w.heap.size) w 0 vL P := h.out.ml.mono fun _ hk q => ⟨q, hk⟩
          have HWo : ∀ W, Below w.heap.size w W → Calls Tryz.prog 32 #[vL, .agg (Mg.idC i)] W fun e w' => ∃ v', e = .returned v' ∧ Hid (Rl (fun g => Q g ∧ g < w.heap.size) w' W.heap.size v' (P.filter fun z => decide (z.x.i ≠ i))) ∧ Hid (Below W.heap.size W w') := fun W hW => Rwithout_any _ vL P i W (hml.below hW) (by omega)
          have hwm := without_map P i
          obtain ⟨P2, hP2⟩ : ∃ x, (P.filter fun z => decide (z.x.i ≠ i)) = x := ⟨_, rfl⟩
          rw [hP2] at HWo hwm
          have hheld : (relS s i).held = without s.held i := rfl
          rw [hm.mp, ← hheld] at hwm
          obtain ⟨o, d, ee, cc⟩ := i
          simp only [rsv, rsc, evC, Mg.idC] at HM HWo ⊢
          refine (apply_rel s.self s.qh s.qb s.qg s.epoch o d ee cc vU vL vK A p.length c w (fun g => Q g ∧ g < w.heap.size) P2 (fun _ q => q.2) o1 o3 HM HWo).mono ?_
          rintro e w' ⟨vL', rfl, hl, hb⟩
          exact ⟨vU, vL', vK, P2, K, rfl, ⟨(hm.below hb.out).un, hm.unQ, (hl.out.base (Nat.zero_le _)).mono fun g _ hg => .inl hg.1, fun k e => .inr (by have := (World.ownsRow.lt hl.out.own k e).1; omega), hwm, (hm.below hb.out).kv, hm.rel, hok⟩, Nat.le_succ _, hb⟩
        · have hap : appE s k i p = delS s i := by unfold appE; rw [if_neg (by simp [h0]), if_neg k1, if_neg k2, if_neg k3]
          have k4 : k = 4 := by
            unfold mayE at h0
            by_cases hc : chkE k i p.length = 0
            · unfold chkE at hc
              rw [if_neg k1, if_neg k2] at hc
              by_cases hk : k = 3 ∨ k = 4
              · exact hk.elim (fun e => absurd e k3) id
              · rw [if_neg hk] at hc; cases hc
            · rw [if_pos hc] at h0; exact absurd h0 hc
          subst k4
          rw [hap] at hok ⊢
          have hkv : Se.Kv (fun g => (Q g ∧ g < w.heap.size) ∨ w.heap.size + 1 + 1 + 1 ≤ g) w vK K := h.out.kv.mono fun _ hk q => .inl ⟨q, hk⟩
          have HAd : ∀ W, Below w.heap.size w W → w.heap.size + 1 + 1 + 1 ≤ W.heap.size → Calls Tryz.prog 33 #[.agg #[.int .i64 s.qg, vK], .agg (Mg.idC i)] W fun e w' => ∃ v' z, e = .returned (.tuple #[.agg #[.int .i64 s.qg, v'], .int .i64 z]) ∧ Hid (Se.Kv (fun g => (Q g ∧ g < w.heap.size) ∨ w.heap.size + 1 + 1 + 1 ≤ g) w' v' (Se.raddL s.qg K i)) ∧ Hid (Below W.heap.size W w') := fun W hW hz => radd_any _ s.qg vK K i W (hkv.below hW) (fun g hg => .inr (Nat.le_trans hz hg)) hK
          have hrel : Se.Rel (delS s i).seen (Se.raddL s.qg K i) := by
            have := h.out.rel.add i
            rw [h.out.ok.room] at this
            exact this
          have hkl := Se.radd_len s.qg K i
          obtain ⟨K2, hK2⟩ : ∃ x, Se.raddL s.qg K i = x := ⟨_, rfl⟩
          rw [hK2] at HAd hrel hkl
          obtain ⟨o, d, ee, cc⟩ := i
          simp only [rsv, rsc, evC, Mg.idC] at HM HAd ⊢
          refine (apply_del s.self s.qh s.qb s.qg s.epoch o d ee cc vU vL vK A p.length c w (fun g => (Q g ∧ g < w.heap.size) ∨ w.heap.size + 1 + 1 + 1 ≤ g) K2 (fun g q => by rcases q with q | q <;> constructor <;> omega) o1 o2 HM HAd).mono ?_
          rintro e w' ⟨vK', rfl, hl, hb⟩
          exact ⟨vU, vL, vK', P, K2, rfl, ⟨(hm.below hb.out).un, hm.unQ, (hm.below hb.out).ml, hm.mlQ, hm.mp, hl.out.mono fun g _ hg => hg.elim (fun q => .inl q.1) (fun q => .inr (by omega)), hrel, hok⟩, hkl, hb⟩
  · have hap : appE s k i p = s := by unfold appE; rw [if_pos h0]
    rw [hap]
    obtain ⟨z, hz⟩ : ∃ z, mayE s k i p.length = z := ⟨_, rfl⟩
    rw [hz] at HM h0 ⊢
    obtain ⟨o, d, ee, cc⟩ := i
    simp only [rsv, rsc, evC, Mg.idC] at HM ⊢
    refine (apply_no s.self s.qh s.qb s.qg s.epoch k o d ee cc vU vL vK A p.length c w z (by simpa using h0) (rs_onev _ _ _ _ _ _ o1 o2 o3) HM).mono ?_
    rintro e w' ⟨rfl, hb⟩
    exact ⟨vU, vL, vK, P, K, rfl, hm.below hb.out, Nat.le_succ _, hb⟩
end Go.Proofs.YtfnlhfelpdkieaaGreat.So
/- What holds between the rounds of a law's done: both sides' stores. -/
namespace Go.Proofs.YtfnlhfelpdkieaaGreat.So
open Go.RowKit Go.Deep
open Go.Proofs.YtfnlhfelpdkieaaGreat.Me Go.Proofs.YtfnlhfelpdkieaaGreat.Sb
set_option linter.unusedVariables false
set_option linter.unusedSimpArgs false

theorem Rf.but {Q S : Nat → Prop} {w w' : World} {s : Sto} {K : Se.Ks} {vU vL vK : Value} {P : List Pq} (h : Rf Q w s K vU vL vK P) (hb : But S w w') (hS : ∀ k, Q k → ¬ S k) : Rf Q w' s K vU vL vK P :=
  ⟨own_same h.un fun k e hk => hb.same k hk (hS k (h.unQ k e)), h.unQ,
   ⟨own_same h.ml.own fun k e hk => hb.same k hk (hS k (h.mlQ k e)), fun p hp => ⟨own_same (h.ml.each p hp).1 fun k e hk => hb.same k hk (hS k ((h.ml.each p hp).2 k e)), (h.ml.each p hp).2⟩⟩,
   h.mlQ, h.mp, h.kv.but hb hS, h.rel, h.ok⟩
/-- Both stores, between rounds. -/
structure Bd (w : World) (D X j : Nat) (wr : World) (O : Nat → Prop) (s : Sto) (m : Nat) (K : Se.Ks) (vU vL vK : Value) (P : List Pq) : Prop where
  lv : Lv w.heap.size O wr m D s
  rf : Rf (fun g => O g ∧ g ≠ X ∧ g ≠ w.heap.size + 1) wr s K vU vL vK P
  box : wr.heap[X]? = some (.cells (rsv s vU vL vK) 37 (0, 0))
  res : wr.heap[w.heap.size + 1]? = some (.cells rs0 37 (0, 0))
  gt : w.heap.size + 1 < X
  oX : O X
  oR : O (w.heap.size + 1)
  oge : ∀ k, O k → w.heap.size ≤ k ∧ k < wr.heap.size
  mj : m ≤ j
  kj : K.length ≤ j
  below : Below w.heap.size w wr
theorem Bd.mid {w : World} {D X j : Nat} {wr w3 : World} {O : Nat → Prop} {s : Sto} {m : Nat} {K : Se.Ks} {vU vL vK : Value} {P : List Pq} (h : Bd w D X j wr O s m K vU vL vK P) (hb : But (Out w.heap.size O) wr w3) :
    Rf (fun g => O g ∧ g ≠ X ∧ g ≠ w.heap.size + 1) w3 s K vU vL vK P ∧ w3.heap[X]? = some (.cells (rsv s vU vL vK) 37 (0, 0)) ∧ w3.heap[w.heap.size + 1]? = some (.cells rs0 37 (0, 0)) ∧ Below w.heap.size w w3 :=
  ⟨h.rf.but hb fun k hk hs => hs.2 hk.1, (hb.same _ (Array.getElem?_eq_some_iff.1 h.box).1 fun hs => hs.2 h.oX).trans h.box, (hb.same _ (Array.getElem?_eq_some_iff.1 h.res).1 fun hs => hs.2 h.oR).trans h.res, h.below.trans (but_out hb h.below.size)⟩
theorem Bd.next {w : World} {D X j : Nat} {wr w3 w6 : World} {O : Nat → Prop} {s s' : Sto} {m : Nat} {K K' : Se.Ks} {vU vL vK vU' vL' vK' : Value} {P P' : List Pq} (h : Bd w D X j wr O s m K vU vL vK P) (hb : But (Out w.heap.size O) wr w3) (hl : Lv w.heap.size O w3 (m + 1) D s')
    (h6 : Rf (fun g => (O g ∧ g ≠ X ∧ g ≠ w.heap.size + 1) ∨ w3.heap.size ≤ g) w6 s' K' vU' vL' vK' P') (hk : K'.length ≤ K.length + 1) (b6 : Below w3.heap.size w3 w6) :
    Bd w D X (j + 1) (w6.setRow X (rsv s' vU' vL' vK')) (fun k => O k ∨ (w3.heap.size ≤ k ∧ k < w6.heap.size)) s' (m + 1) K' vU' vL' vK' P' := by
  obtain ⟨_, hX, hR, hB⟩ := h.mid hb
  have hgt := h.gt
  have hXl : X < w3.heap.size := (Array.getElem?_eq_some_iff.1 hX).1
  have hX6 := (b6.block _ hXl).trans hX
  have hR6 := (b6.block _ (Array.getElem?_eq_some_iff.1 hR).1).trans hR
  have hbs : But (fun k => k = X) w6 (w6.setRow X (rsv s' vU' vL' vK')) := (But.refl (fun k => k = X) w6).setRow (.inl rfl) _
  have hz : (w6.setRow X (rsv s' vU' vL' vK')).heap.size = w6.heap.size := by simp
  have hb6 : Below w.heap.size w w6 := go_on hB b6
  refine ⟨?_, ?_, setRow_heap _ _ _ _ _ _ hX6, (setRow_other _ _ _ _ (by omega)).trans hR6, h.gt, .inl h.oX, .inl h.oR, fun k hk => ?_, by have := h.mj; omega, by have := h.kj; omega, Sb.below_setRow _ hb6 (by omega)⟩
  · refine ((hl.other (O' := fun k => O k ∨ (w3.heap.size ≤ k ∧ k < w6.heap.size)) fun k hk ho => ho.elim id fun q => by omega).below b6).but hbs (fun k e => .inl (.inl (by rw [e]; exact h.oX))) fun k cs e hc => ?_
    subst e
    rw [hX6] at hc
    cases hc
  · refine (h6.but hbs fun k hk e => ?_).mono fun k hk hq => ?_
    · rcases hk with hk | hk
      · exact hk.2.1 e
      · omega
    · rw [hz] at hk
      rcases hq with hq | hq
      · exact ⟨.inl hq.1, hq.2⟩
      · exact ⟨.inr ⟨hq, hk⟩, by omega, by have := (Array.getElem?_eq_some_iff.1 hR).1; omega⟩
  · rw [hz]
    rcases hk with hk | hk
    · have := h.oge k hk
      exact ⟨this.1, by have h1 := b6.size; have h2 := hb.size; omega⟩
    · have := hB.size
      exact ⟨by omega, hk.2⟩
theorem Bd.go {w : World} {D X j : Nat} {wr w' : World} {O : Nat → Prop} {s : Sto} {m : Nat} {K : Se.Ks} {vU vL vK : Value} {P : List Pq} (h : Bd w D X j wr O s m K vU vL vK P) (hb : Below wr.heap.size wr w') : Bd w D X j w' O s m K vU vL vK P :=
  ⟨h.lv.below hb, h.rf.below hb, (hb.block _ (Array.getElem?_eq_some_iff.1 h.box).1).trans h.box, (hb.block _ (Array.getElem?_eq_some_iff.1 h.res).1).trans h.res, h.gt, h.oX, h.oR, fun k hk => ⟨(h.oge k hk).1, Nat.lt_of_lt_of_le (h.oge k hk).2 hb.size⟩, h.mj, h.kj, go_on h.below hb⟩
/-- Both stores, behind done. -/
structure Dn (w : World) (D : Nat) (w' : World) (O : Nat → Prop) (s : Sto) (m : Nat) (K : Se.Ks) (vU vL vK : Value) (P : List Pq) : Prop where
  lv : Lv w.heap.size O w' m D s
  rf : Rf O w' s K vU vL vK P
  oge : ∀ k, O k → w.heap.size ≤ k ∧ k < w'.heap.size
  m50 : m ≤ 50
  k50 : K.length ≤ 50
  below : Below w.heap.size w w'
theorem Bd.fin {w : World} {D X j : Nat} {wr : World} {O : Nat → Prop} {s : Sto} {m : Nat} {K : Se.Ks} {vU vL vK : Value} {P : List Pq} (h : Bd w D X j wr O s m K vU vL vK P) (hj : j ≤ 50) (cs : Array Value) : Dn w D (wr.setRow (w.heap.size + 1) cs) O s m K vU vL vK P := by
  have hbs : But (fun k => k = w.heap.size + 1) wr (wr.setRow (w.heap.size + 1) cs) := (But.refl (fun k => k = w.heap.size + 1) wr).setRow (.inl rfl) _
  refine ⟨h.lv.but hbs (fun k e => .inl (by rw [e]; exact h.oR)) fun k cs' e hc => ?_, (h.rf.but hbs fun k hk e => hk.2.2 e).mono fun k _ hk => hk.1, fun k hk => ?_, Nat.le_trans h.mj hj, Nat.le_trans h.kj hj, Sb.below_setRow _ h.below (by omega)⟩
  · subst e
    rw [h.res] at hc
    cases hc
  · have := h.oge k hk
    simpa using this
theorem Dn.go {w : World} {D : Nat} {w' w'' : World} {O : Nat → Prop} {s : Sto} {m : Nat} {K : Se.Ks} {vU vL vK : Value} {P : List Pq} (h : Dn w D w' O s m K vU vL vK P) (hb : Below w'.heap.size w' w'') : Dn w D w'' O s m K vU vL vK P :=
  ⟨h.lv.below hb, h.rf.below hb, fun k hk => ⟨(h.oge k hk).1, Nat.lt_of_lt_of_le (h.oge k hk).2 hb.size⟩, h.m50, h.k50, go_on h.below hb⟩
theorem Kv.nilq (Q : Nat → Prop) (w : World) : Se.Kv Q w (.slice none 0 0) [] := Se.Kv.nil _ _
/-- Both stores ahead of any event. -/
theorem Bd.new {w : World} {D X : Nat} {wr : World} {me qh qb qg : Int} (hl : Lv w.heap.size (fun k => k = X ∨ k = w.heap.size + 1) wr 0 D (new0 me qh qb qg)) (hx : wr.heap[X]? = some (.cells #[.int .i64 me, .int .i64 qh, .int .i64 qb, .int .i64 qg, .int .i64 0, .slice none 0 0, .slice none 0 0, .int .i64 qg, .slice none 0 0] 37 (0, 0)))
    (hr : wr.heap[w.heap.size + 1]? = some (.cells rs0 37 (0, 0))) (hgt : w.heap.size + 1 < X) (hb : Below w.heap.size w wr) :
    Bd w D X 0 wr (fun k => k = X ∨ k = w.heap.size + 1) (new0 me qh qb qg) 0 [] (.slice none 0 0) (.slice none 0 0) (.slice none 0 0) [] := by
  have hX := (Array.getElem?_eq_some_iff.1 hx).1
  refine ⟨hl, ⟨?_, fun k e => (by cases e), Rl.nil _ _ _, fun k e => (by cases e), rfl, Kv.nilq _ _, ?_, hl.ok⟩, hx, hr, hgt, .inl rfl, .inr rfl, fun k hk => ?_, Nat.le_refl _, Nat.le_refl _, hb⟩
  · show Kn _ _ _ (usedTo (fun _ => 0) 64)
    rw [usedTo_none]
    exact Kn.nil _ _
  · exact Se.Rel.nil hl.ok.sok (fun _ _ => rfl)
  · rcases hk with rfl | rfl <;> omega
end Go.Proofs.YtfnlhfelpdkieaaGreat.So
