/- The law of what both stores are asked: Fresh, Find, Seen. -/
import Derived.Test.YtpofdimagfldnaaSoDone
import Derived.Test.YtpofdimagfldnaaZ20
import Derived.Test.YtpofdimagfldnaaZ31
import Derived.Test.YtpofdimagfldnaaZ32
namespace Go.Proofs.Ytpofdimagfldnaa.So
open Go.RowKit
open Go.Proofs.Ytpofdimagfldnaa.Me Go.Proofs.Ytpofdimagfldnaa.Sb
set_option linter.unusedVariables false
set_option linter.unusedSimpArgs false

set_option maxRecDepth 100000 in
set_option maxHeartbeats 16000000 in
theorem storeAsks_no (me qh qb qg o d ee cc : Int) (v1 : Value) (w : World) (h : ¬ NewOk me qh qb qg) : Calls Try.prog 3 #[.agg #[.int .i64 me, .int .i64 qh, .int .i64 qb, .int .i64 qg], v1, .agg #[.int .i64 o, .int .i64 d, .int .i64 ee, .int .i64 cc]] w fun e w' => e = .returned (.bool true) ∧ Below w.heap.size w w' := by
  obtain ⟨hB, hY, hX⟩ := two_new w #[.int .i64 me, .int .i64 qh, .int .i64 qb, .int .i64 qg] #[.int .i64 o, .int .i64 d, .int .i64 ee, .int .i64 cc] 25 28
  obtain ⟨x0, x1, x2, x3⟩ := set_cells hX
  have HD := Lib.hid (fun W => done_no me qh qb qg W v1 h)
  have HAw := Lib.hid (fun W => awake_any W)
  have HB := Lib.hid hB
  unfold rs0 at HD
  clear h hB hY hX
  go_enter Try.func3, Try.ntmps3
  go_wp2_with (first
    | (go_at_call 8; refine (HD.out _).mono ?_; rintro e w2 ⟨rfl, b2⟩)
    | (go_at_call 9; refine (HAw.out _).mono ?_; rintro e w3 ⟨rfl, b3⟩))
  go_ret
  exact ⟨rfl, go_on (go_on (go_on HB.out b2.out) (Me.below_alloc (Below.refl _ _))) b3.out⟩
/-- What holds while both stores are asked. -/
structure Lq (w1 : World) (D : Nat) (O : Nat → Prop) (s : Sto) (m : Nat) (K : Se.Ks) (vU vL vK : Value) (P : List Pq) (ib X : Nat) (i : Mg.Id4) (W : World) : Prop where
  dn : Dn w1 D W O s m K vU vL vK P
  id : W.heap[ib]? = some (.cells (Mg.idC i) 28 (0, 0))
  st : W.heap[X]? = some (.cells (rsv s vU vL vK) 36 (0, 0))
section
variable {w1 : World} {D : Nat} {O : Nat → Prop} {s : Sto} {m : Nat} {K : Se.Ks} {vU vL vK : Value} {P : List Pq} {ib X : Nat} {i : Mg.Id4} {W W' : World}
theorem Lq.go (h : Lq w1 D O s m K vU vL vK P ib X i W) (hb : Below W.heap.size W W') : Lq w1 D O s m K vU vL vK P ib X i W' :=
  ⟨h.dn.go hb, (hb.block _ (Array.getElem?_eq_some_iff.1 h.id).1).trans h.id, (hb.block _ (Array.getElem?_eq_some_iff.1 h.st).1).trans h.st⟩
end
set_option maxRecDepth 100000 in
set_option maxHeartbeats 32000000 in
theorem storeAsks_ok (me qh qb qg o d ee cc : Int) (A : Option Addr) (len cap : Nat) (ls : List Evt) (w : World) (h : NewOk me qh qb qg) (hf : Fit ⟨o, d, ee, cc⟩) (hl : len = ls.length ∧ len ≤ cap ∧ cap ≤ 9223372036854775807 ∧ Evs w A ls) : Calls Try.prog 3 #[.agg #[.int .i64 me, .int .i64 qh, .int .i64 qb, .int .i64 qg], .slice A len cap, .agg #[.int .i64 o, .int .i64 d, .int .i64 ee, .int .i64 cc]] w fun e w' => e = .returned (.bool true) ∧ Below w.heap.size w w' := by
  obtain ⟨hB, hY, hX⟩ := two_new w #[.int .i64 me, .int .i64 qh, .int .i64 qb, .int .i64 qg] #[.int .i64 o, .int .i64 d, .int .i64 ee, .int .i64 cc] 25 28
  obtain ⟨s0, s1, s2, s3⟩ := set_cells hX
  have HD := Lib.hid (fun W (hW : Below w.heap.size w W) => done_ok me qh qb qg A len cap ls W h ⟨hl.1, hl.2.1, hl.2.2.1, hl.2.2.2.below hW⟩)
  simp only [rsv, rsc] at HD
  have HAw := Lib.hid (fun W => awake_any W)
  have HF := Lib.hid hf
  have HB := Lib.hid hB
  have HY := Lib.hid hY
  clear h hB hY hX hl hf
  go_enter Try.func3, Try.ntmps3
  go_wp2_with (first
    | (go_at_call 8
       refine (HD.out _ HB.out).mono ?_
       rintro e w2 ⟨D, s, vU, vL, vK, rfl, O, m, K, P, dn⟩
       obtain ⟨Au, cu, rfl, _⟩ := dn.out.rf.un.form
       obtain ⟨Al, cl, rfl, _⟩ := dn.out.rf.ml.form
       obtain ⟨Ak, ck, rfl, _⟩ := dn.out.rf.kv.form
       obtain ⟨nu, hnu⟩ : ∃ n, (usedTo s.last 64).length = n := ⟨_, rfl⟩
       obtain ⟨nl, hnl⟩ : ∃ n, P.length = n := ⟨_, rfl⟩
       obtain ⟨nk, hnk⟩ : ∃ n, K.length = n := ⟨_, rfl⟩
       rw [hnu, hnl, hnk] at dn ⊢
       clear hnu hnl hnk
       have hbn := dn.out.below
       have hy2 := (hbn.block _ (Array.getElem?_eq_some_iff.1 HY.out).1).trans HY.out
       have hba : Below w2.heap.size w2 (w2.alloc (.cells #[.int .i64 s.self, .int .i64 s.qh, .int .i64 s.qb, .int .i64 s.qg, .int .i64 s.epoch, .slice Au nu cu, .slice Al nl cl, .int .i64 s.qg, .slice Ak nk ck] 36)) := Me.below_alloc (Below.refl _ _)
       have S2 : Hid (Lq _ D O s m K (.slice Au nu cu) (.slice Al nl cl) (.slice Ak nk ck) P (w.heap.size + 1) w2.heap.size ⟨o, d, ee, cc⟩ (w2.alloc (.cells #[.int .i64 s.self, .int .i64 s.qh, .int .i64 s.qb, .int .i64 s.qg, .int .i64 s.epoch, .slice Au nu cu, .slice Al nl cl, .int .i64 s.qg, .slice Ak nk ck] 36))) := ⟨dn.out.go hba, (hba.block _ (Array.getElem?_eq_some_iff.1 hy2).1).trans hy2, heap_alloc_new w2 _⟩
       have hw2 : Hid (Below w.heap.size w (w2.alloc (.cells #[.int .i64 s.self, .int .i64 s.qh, .int .i64 s.qb, .int .i64 s.qg, .int .i64 s.epoch, .slice Au nu cu, .slice Al nl cl, .int .i64 s.qg, .slice Ak nk ck] 36))) := go_on (go_on HB.out hbn) hba
       obtain ⟨x0, x1, x2, x3, x4, x5, x6, x7, x8⟩ := rs_cells S2.out.st
       obtain ⟨i0, i1, i2, i3⟩ := id_cells S2.out.id
       clear hbn hy2 hba)
    | (go_at_call 10
       refine (Fresh_l _ O _ m D s d (Lib.hid S2.out.dn.lv)).mono ?_
       obtain ⟨f, hf⟩ : ∃ f, frI s d = f := ⟨_, rfl⟩
       obtain ⟨z, hz⟩ : ∃ z, frN s d = z := ⟨_, rfl⟩
       rw [hf, hz]
       have HFf := Lib.hid hf
       have HFz := Lib.hid hz
       clear hf hz
       simp only [Mg.idC]
       rintro e w4 ⟨rfl, b4⟩
       have hba : Below w4.heap.size w4 (w4.alloc (.cells #[.int .i64 f.o, .int .i64 f.d, .int .i64 f.e, .int .i64 f.c] 28)) := Me.below_alloc (Below.refl _ _)
       have b24 := go_on b4.out hba
       have S4 := Lib.hid (S2.out.go b24)
       have hw4 := Lib.hid (go_on hw2.out b24)
       have F4 := Lib.hid (heap_alloc_new w4 (.cells #[.int .i64 f.o, .int .i64 f.d, .int .i64 f.e, .int .i64 f.c] 28))
       clear x0 x1 x2 x3 x4 x5 x6 x7 x8 i0 i1 i2 i3
       obtain ⟨x0, x1, x2, x3, x4, x5, x6, x7, x8⟩ := rs_cells S4.out.st
       obtain ⟨i0, i1, i2, i3⟩ := id_cells S4.out.id
       clear hba b24)
    | (go_at_call 11
       have HRF := RFresh_s O _ s K (.slice Au nu cu) (.slice Al nl cl) (.slice Ak nk ck) P d (Lib.hid S4.out.dn.rf)
       rw [HFf.out, HFz.out] at HRF
       simp only [rsv, rsc, Mg.idC] at HRF
       refine HRF.mono ?_
       clear HRF
       rintro e w5 ⟨rfl, b5⟩
       have hba : Below w5.heap.size w5 (w5.alloc (.cells #[.int .i64 f.o, .int .i64 f.d, .int .i64 f.e, .int .i64 f.c] 28)) := Me.below_alloc (Below.refl _ _)
       have b45 := go_on b5.out hba
       have S5 := Lib.hid (S4.out.go b45)
       have hw5 := Lib.hid (go_on hw4.out b45)
       have F5 := Lib.hid ((b45.block _ (Array.getElem?_eq_some_iff.1 F4.out).1).trans F4.out)
       have G5 := Lib.hid (heap_alloc_new w5 (.cells #[.int .i64 f.o, .int .i64 f.d, .int .i64 f.e, .int .i64 f.c] 28))
       clear x0 x1 x2 x3 x4 x5 x6 x7 x8 i0 i1 i2 i3
       obtain ⟨x0, x1, x2, x3, x4, x5, x6, x7, x8⟩ := rs_cells S5.out.st
       obtain ⟨i0, i1, i2, i3⟩ := id_cells S5.out.id
       clear hba b45)
    | (go_at_call 12
       have HFI := Find_f _ O _ m D s ⟨o, d, ee, cc⟩ HF.out (Lib.hid S5.out.dn.lv)
       obtain ⟨h, hh⟩ : ∃ h, fnI s ⟨o, d, ee, cc⟩ = h := ⟨_, rfl⟩
       obtain ⟨fb, hfb⟩ : ∃ h, fnB s ⟨o, d, ee, cc⟩ = h := ⟨_, rfl⟩
       obtain ⟨st, hst⟩ : ∃ h, strOf (fnL s ⟨o, d, ee, cc⟩) = h := ⟨_, rfl⟩
       obtain ⟨ln, hln⟩ : ∃ h, (fnL s ⟨o, d, ee, cc⟩).length = h := ⟨_, rfl⟩
       rw [hh, hfb, hst, hln] at HFI
       have HHq := Lib.hid hh
       have HHb := Lib.hid hfb
       have HHs := Lib.hid hst
       have HHn := Lib.hid hln
       clear hh hfb hst hln
       simp only [Mg.idC, Mg.msgC] at HFI
       refine HFI.mono ?_
       clear HFI
       rintro e w6 ⟨A6, c6, rfl, v6, b6⟩
       have hba : Below w6.heap.size w6 (w6.alloc (.cells #[.int .i64 h.o, .int .i64 h.d, .int .i64 h.e, .int .i64 h.c, .slice A6 ln c6] 46)) := Me.below_alloc (Below.refl _ _)
       have b56 := go_on b6.out hba
       have S6 := Lib.hid (S5.out.go b56)
       have hw6 := Lib.hid (go_on hw5.out b56)
       have F6 := Lib.hid ((b56.block _ (Array.getElem?_eq_some_iff.1 F5.out).1).trans F5.out)
       have G6 := Lib.hid ((b56.block _ (Array.getElem?_eq_some_iff.1 G5.out).1).trans G5.out)
       have M6 := Lib.hid (heap_alloc_new w6 (.cells #[.int .i64 h.o, .int .i64 h.d, .int .i64 h.e, .int .i64 h.c, .slice A6 ln c6] 46))
       have C6 : Hid (∀ W, Below (w6.alloc (.cells #[.int .i64 h.o, .int .i64 h.d, .int .i64 h.e, .int .i64 h.c, .slice A6 ln c6] 46)).heap.size (w6.alloc (.cells #[.int .i64 h.o, .int .i64 h.d, .int .i64 h.e, .int .i64 h.c, .slice A6 ln c6] 46)) W → Cv W A6 ln c6 st) := fun W hW => v6.out W (go_on hba hW)
       clear x0 x1 x2 x3 x4 x5 x6 x7 x8 i0 i1 i2 i3
       obtain ⟨x0, x1, x2, x3, x4, x5, x6, x7, x8⟩ := rs_cells S6.out.st
       obtain ⟨i0, i1, i2, i3⟩ := id_cells S6.out.id
       clear hba b56)
    | (go_at_call 13
       have HFI := RFind_f O _ s K (.slice Au nu cu) (.slice Al nl cl) (.slice Ak nk ck) P ⟨o, d, ee, cc⟩ (Lib.hid S6.out.dn.rf)
       rw [HHq.out, HHb.out, HHs.out, HHn.out] at HFI
       simp only [rsv, rsc, Mg.idC, Mg.msgC] at HFI
       refine HFI.mono ?_
       clear HFI
       rintro e w7 ⟨A7, c7, rfl, v7, b7⟩
       have hba : Below w7.heap.size w7 (w7.alloc (.cells #[.int .i64 h.o, .int .i64 h.d, .int .i64 h.e, .int .i64 h.c, .slice A7 ln c7] 46)) := Me.below_alloc (Below.refl _ _)
       have b67 := go_on b7.out hba
       have S7 := Lib.hid (S6.out.go b67)
       have hw7 := Lib.hid (go_on hw6.out b67)
       have F7 := Lib.hid ((b67.block _ (Array.getElem?_eq_some_iff.1 F6.out).1).trans F6.out)
       have G7 := Lib.hid ((b67.block _ (Array.getElem?_eq_some_iff.1 G6.out).1).trans G6.out)
       have M7 := Lib.hid ((b67.block _ (Array.getElem?_eq_some_iff.1 M6.out).1).trans M6.out)
       have N7 := Lib.hid (heap_alloc_new w7 (.cells #[.int .i64 h.o, .int .i64 h.d, .int .i64 h.e, .int .i64 h.c, .slice A7 ln c7] 46))
       have C7 : Hid (∀ W, Below (w7.alloc (.cells #[.int .i64 h.o, .int .i64 h.d, .int .i64 h.e, .int .i64 h.c, .slice A7 ln c7] 46)).heap.size (w7.alloc (.cells #[.int .i64 h.o, .int .i64 h.d, .int .i64 h.e, .int .i64 h.c, .slice A7 ln c7] 46)) W → Cv W A7 ln c7 st ∧ Cv W A6 ln c6 st) := fun W hW => ⟨v7.out W (go_on hba hW), C6.out W (go_on b67 hW)⟩
       clear x0 x1 x2 x3 x4 x5 x6 x7 x8 i0 i1 i2 i3
       clear hba b67))
  obtain ⟨V, hV⟩ : ∃ V, w7.alloc (.cells #[.int .i64 h.o, .int .i64 h.d, .int .i64 h.e, .int .i64 h.c, .slice A7 ln c7] 46) = V := ⟨_, rfl⟩
  rw [hV] at S7 hw7 F7 G7 M7 N7 C7 ⊢
  clear hV C6 S2 S4 S5 S6 F4 F5 F6 G5 G6 M6 hw2 hw4 hw5 hw6
  have HSe : Hid (∀ W, Below V.heap.size V W → Calls Try.prog 15 #[.pointer (some ⟨D, 0, none⟩), .agg #[.int .i64 o, .int .i64 d, .int .i64 ee, .int .i64 cc]] W fun e w' => e = .returned (.bool (seenS s ⟨o, d, ee, cc⟩)) ∧ Hid (Below W.heap.size W w')) := fun W hW => Seen_l _ O W m D s ⟨o, d, ee, cc⟩ (Lib.hid (S7.out.go hW).dn.lv)
  have HRs : Hid (∀ W, Below V.heap.size V W → Calls Try.prog 16 #[.agg (rsv s (.slice Au nu cu) (.slice Al nl cl) (.slice Ak nk ck)), .agg #[.int .i64 o, .int .i64 d, .int .i64 ee, .int .i64 cc]] W fun e w' => e = .returned (.bool (seenS s ⟨o, d, ee, cc⟩)) ∧ Hid (Below W.heap.size W w')) := fun W hW => RSeen_s O W s K (.slice Au nu cu) (.slice Al nl cl) (.slice Ak nk ck) P ⟨o, d, ee, cc⟩ (Lib.hid (S7.out.go hW).dn.rf) (by have := S7.out.dn.k50; omega)
  have HSm : Hid (∀ W, Below V.heap.size V W → Calls Try.prog 14 #[.agg #[.int .i64 h.o, .int .i64 h.d, .int .i64 h.e, .int .i64 h.c, .slice A6 ln c6], .agg #[.int .i64 h.o, .int .i64 h.d, .int .i64 h.e, .int .i64 h.c, .slice A7 ln c7]] W fun e w' => e = .returned (.bool true) ∧ Hid (Below W.heap.size W w')) := fun W hW => RSame_eq h.o h.d h.e h.c A6 A7 ln c6 c7 st W (fun W' hW' => (C7.out W' (go_on hW hW')).2) (fun W' hW' => (C7.out W' (go_on hW hW')).1)
  obtain ⟨sb, hsb⟩ : ∃ x, seenS s ⟨o, d, ee, cc⟩ = x := ⟨_, rfl⟩
  rw [hsb] at HSe HRs
  simp only [rsv, rsc] at HRs
  have HBX : Hid (∀ W, Below V.heap.size V W → Lq _ D O s m K (.slice Au nu cu) (.slice Al nl cl) (.slice Ak nk ck) P (w.heap.size + 1) w2.heap.size ⟨o, d, ee, cc⟩ W ∧ W.heap[w4.heap.size]? = some (.cells #[.int .i64 f.o, .int .i64 f.d, .int .i64 f.e, .int .i64 f.c] 28 (0, 0)) ∧ W.heap[w5.heap.size]? = some (.cells #[.int .i64 f.o, .int .i64 f.d, .int .i64 f.e, .int .i64 f.c] 28 (0, 0)) ∧ W.heap[w6.heap.size]? = some (.cells #[.int .i64 h.o, .int .i64 h.d, .int .i64 h.e, .int .i64 h.c, .slice A6 ln c6] 46 (0, 0)) ∧ W.heap[w7.heap.size]? = some (.cells #[.int .i64 h.o, .int .i64 h.d, .int .i64 h.e, .int .i64 h.c, .slice A7 ln c7] 46 (0, 0))) := fun W hW =>
    ⟨S7.out.go hW, (hW.block _ (Array.getElem?_eq_some_iff.1 F7.out).1).trans F7.out, (hW.block _ (Array.getElem?_eq_some_iff.1 G7.out).1).trans G7.out, (hW.block _ (Array.getElem?_eq_some_iff.1 M7.out).1).trans M7.out, (hW.block _ (Array.getElem?_eq_some_iff.1 N7.out).1).trans N7.out⟩
  clear hsb
  have S0 := (Below.refl V.heap.size V).drew
  refine wp_region_held_drew (S := fun W => Below V.heap.size V W) (by kernel_rfl) S0 (fun hHeld => ?_)
  refine wpAnyH_take (i := 0) (v := .agg #[.int .i64 f.o, .int .i64 f.d, .int .i64 f.e, .int .i64 f.c]) rfl (by kernel_rfl) (by kernel_rfl) (by kernel_rfl) (fun _ _ _ h => h) (Or.inl ⟨by rfl, ?_⟩) (by first | assumption | exact trivial) ?_
  · intro W hSW; obtain ⟨i0, i1, i2, i3⟩ := id_cells (HBX.out W hSW).2.1; go_simp; try (with_reducible rfl)
  simp only [Act.put, List.getElem_toArray, List.getElem_cons_succ, List.getElem_cons_zero, List.setIfInBounds_toArray, List.set_cons_zero, List.set_cons_succ]
  refine wpAnyH_take (i := 1) (v := .agg #[.int .i64 f.o, .int .i64 f.d, .int .i64 f.e, .int .i64 f.c]) rfl (by kernel_rfl) (by kernel_rfl) (by kernel_rfl) (fun _ _ _ h => h) (Or.inl ⟨by rfl, ?_⟩) (by first | assumption | exact trivial) ?_
  · intro W hSW; obtain ⟨i0, i1, i2, i3⟩ := id_cells (HBX.out W hSW).2.2.1; go_simp; try (with_reducible rfl)
  simp only [Act.put, List.getElem_toArray, List.getElem_cons_succ, List.getElem_cons_zero, List.setIfInBounds_toArray, List.set_cons_zero, List.set_cons_succ]
  refine wpAnyH_take (i := 2) (v := .bool true) rfl (by kernel_rfl) (by kernel_rfl) (by kernel_rfl) (fun _ _ _ h => h) (Or.inl ⟨by rfl, ?_⟩) (by first | assumption | exact trivial) ?_
  · intro W hSW; go_simp; try (with_reducible rfl)
  simp only [Act.put, List.getElem_toArray, List.getElem_cons_succ, List.getElem_cons_zero, List.setIfInBounds_toArray, List.set_cons_zero, List.set_cons_succ]
  refine wpAnyH_take (i := 3) (v := .bool true) rfl (by kernel_rfl) (by kernel_rfl) (by kernel_rfl) (fun _ _ _ h => h) (Or.inl ⟨by rfl, ?_⟩) (by first | assumption | exact trivial) ?_
  · intro W hSW; go_simp; try (with_reducible rfl)
  simp only [Act.put, List.getElem_toArray, List.getElem_cons_succ, List.getElem_cons_zero, List.setIfInBounds_toArray, List.set_cons_zero, List.set_cons_succ]
  refine wpAnyH_take (i := 4) (v := .int .i64 (z : Int)) rfl (by kernel_rfl) (by kernel_rfl) (by kernel_rfl) (fun _ _ _ h => h) (Or.inl ⟨by rfl, ?_⟩) (by first | assumption | exact trivial) ?_
  · intro W hSW; go_simp; try (with_reducible rfl)
  simp only [Act.put, List.getElem_toArray, List.getElem_cons_succ, List.getElem_cons_zero, List.setIfInBounds_toArray, List.set_cons_zero, List.set_cons_succ]
  refine wpAnyH_take (i := 5) (v := .int .i64 (z : Int)) rfl (by kernel_rfl) (by kernel_rfl) (by kernel_rfl) (fun _ _ _ h => h) (Or.inl ⟨by rfl, ?_⟩) (by first | assumption | exact trivial) ?_
  · intro W hSW; go_simp; try (with_reducible rfl)
  simp only [Act.put, List.getElem_toArray, List.getElem_cons_succ, List.getElem_cons_zero, List.setIfInBounds_toArray, List.set_cons_zero, List.set_cons_succ]
  refine wpAnyH_take (i := 6) (v := .bool true) rfl (by kernel_rfl) (by kernel_rfl) (by kernel_rfl) (fun _ _ _ h => h) (Or.inl ⟨by rfl, ?_⟩) (by first | assumption | exact trivial) ?_
  · intro W hSW; go_simp; try (with_reducible rfl)
  simp only [Act.put, List.getElem_toArray, List.getElem_cons_succ, List.getElem_cons_zero, List.setIfInBounds_toArray, List.set_cons_zero, List.set_cons_succ]
  refine wpAnyH_take (i := 7) (v := .bool true) rfl (by kernel_rfl) (by kernel_rfl) (by kernel_rfl) (fun _ _ _ h => h) (Or.inl ⟨by rfl, ?_⟩) (by first | assumption | exact trivial) ?_
  · intro W hSW; go_simp; try (with_reducible rfl)
  simp only [Act.put, List.getElem_toArray, List.getElem_cons_succ, List.getElem_cons_zero, List.setIfInBounds_toArray, List.set_cons_zero, List.set_cons_succ]
  refine wpAnyH_take (i := 8) (v := .bool true) rfl (by kernel_rfl) (by kernel_rfl) (by kernel_rfl) (fun _ _ _ h => h) (Or.inl ⟨by rfl, ?_⟩) (by first | assumption | exact trivial) ?_
  · intro W hSW; go_simp; try (with_reducible rfl)
  simp only [Act.put, List.getElem_toArray, List.getElem_cons_succ, List.getElem_cons_zero, List.setIfInBounds_toArray, List.set_cons_zero, List.set_cons_succ]
  refine wpAnyH_take (i := 9) (v := .agg #[.int .i64 h.o, .int .i64 h.d, .int .i64 h.e, .int .i64 h.c, .slice A6 ln c6]) rfl (by kernel_rfl) (by kernel_rfl) (by kernel_rfl) (fun _ _ _ h => h) (Or.inl ⟨by rfl, ?_⟩) (by first | assumption | exact trivial) ?_
  · intro W hSW; obtain ⟨m0, m1, m2, m3, m4⟩ := msg_cells (HBX.out W hSW).2.2.2.1; go_simp; try (with_reducible rfl)
  simp only [Act.put, List.getElem_toArray, List.getElem_cons_succ, List.getElem_cons_zero, List.setIfInBounds_toArray, List.set_cons_zero, List.set_cons_succ]
  refine wpAnyH_take (i := 10) (v := .agg #[.int .i64 h.o, .int .i64 h.d, .int .i64 h.e, .int .i64 h.c, .slice A7 ln c7]) rfl (by kernel_rfl) (by kernel_rfl) (by kernel_rfl) (fun _ _ _ h => h) (Or.inl ⟨by rfl, ?_⟩) (by first | assumption | exact trivial) ?_
  · intro W hSW; obtain ⟨m0, m1, m2, m3, m4⟩ := msg_cells (HBX.out W hSW).2.2.2.2; go_simp; try (with_reducible rfl)
  simp only [Act.put, List.getElem_toArray, List.getElem_cons_succ, List.getElem_cons_zero, List.setIfInBounds_toArray, List.set_cons_zero, List.set_cons_succ]
  refine wpAnyH_ready (rs := [11]) (by kernel_rfl) (by simp) ?_
  refine AllReadyH.cons rfl (fun K hK => ?_) AllReadyH.nil
  go_simp
  go_wp2_with (go_at_call 14; refine (HSm.out _ S0).mono ?_; rintro e w8 ⟨rfl, b8⟩)
  have S8 : Below V.heap.size V w8 := go_on S0 b8.out
  refine hK.out _ _ (S8) (fun hHeld => ?_)
  clear hK K
  refine wpAnyH_take (i := 12) (v := .bool true) rfl (by kernel_rfl) (by kernel_rfl) (by kernel_rfl) (fun _ _ _ h => h) (Or.inl ⟨by rfl, ?_⟩) (by first | assumption | exact trivial) ?_
  · intro W hSW; go_simp; try (with_reducible rfl)
  simp only [Act.put, List.getElem_toArray, List.getElem_cons_succ, List.getElem_cons_zero, List.setIfInBounds_toArray, List.set_cons_zero, List.set_cons_succ]
  refine wpAnyH_take (i := 13) (v := .bool true) rfl (by kernel_rfl) (by kernel_rfl) (by kernel_rfl) (fun _ _ _ h => h) (Or.inl ⟨by rfl, ?_⟩) (by first | assumption | exact trivial) ?_
  · intro W hSW; go_simp; try (with_reducible rfl)
  simp only [Act.put, List.getElem_toArray, List.getElem_cons_succ, List.getElem_cons_zero, List.setIfInBounds_toArray, List.set_cons_zero, List.set_cons_succ]
  refine wpAnyH_take (i := 14) (v := .bool fb) rfl (by kernel_rfl) (by kernel_rfl) (by kernel_rfl) (fun _ _ _ h => h) (Or.inl ⟨by rfl, ?_⟩) (by first | assumption | exact trivial) ?_
  · intro W hSW; go_simp; try (with_reducible rfl)
  simp only [Act.put, List.getElem_toArray, List.getElem_cons_succ, List.getElem_cons_zero, List.setIfInBounds_toArray, List.set_cons_zero, List.set_cons_succ]
  refine wpAnyH_take (i := 15) (v := .bool fb) rfl (by kernel_rfl) (by kernel_rfl) (by kernel_rfl) (fun _ _ _ h => h) (Or.inl ⟨by rfl, ?_⟩) (by first | assumption | exact trivial) ?_
  · intro W hSW; go_simp; try (with_reducible rfl)
  simp only [Act.put, List.getElem_toArray, List.getElem_cons_succ, List.getElem_cons_zero, List.setIfInBounds_toArray, List.set_cons_zero, List.set_cons_succ]
  refine wpAnyH_take (i := 16) (v := .bool true) rfl (by kernel_rfl) (by kernel_rfl) (by kernel_rfl) (fun _ _ _ h => h) (Or.inl ⟨by rfl, ?_⟩) (by first | assumption | exact trivial) ?_
  · intro W hSW; go_simp; try (with_reducible rfl)
  simp only [Act.put, List.getElem_toArray, List.getElem_cons_succ, List.getElem_cons_zero, List.setIfInBounds_toArray, List.set_cons_zero, List.set_cons_succ]
  refine wpAnyH_take (i := 17) (v := .bool true) rfl (by kernel_rfl) (by kernel_rfl) (by kernel_rfl) (fun _ _ _ h => h) (Or.inl ⟨by rfl, ?_⟩) (by first | assumption | exact trivial) ?_
  · intro W hSW; go_simp; try (with_reducible rfl)
  simp only [Act.put, List.getElem_toArray, List.getElem_cons_succ, List.getElem_cons_zero, List.setIfInBounds_toArray, List.set_cons_zero, List.set_cons_succ]
  refine wpAnyH_take (i := 18) (v := .bool true) rfl (by kernel_rfl) (by kernel_rfl) (by kernel_rfl) (fun _ _ _ h => h) (Or.inl ⟨by rfl, ?_⟩) (by first | assumption | exact trivial) ?_
  · intro W hSW; go_simp; try (with_reducible rfl)
  simp only [Act.put, List.getElem_toArray, List.getElem_cons_succ, List.getElem_cons_zero, List.setIfInBounds_toArray, List.set_cons_zero, List.set_cons_succ]
  refine wpAnyH_take (i := 19) (v := .pointer (some ⟨D, 0, none⟩)) rfl (by kernel_rfl) (by kernel_rfl) (by kernel_rfl) (fun _ _ _ h => h) (Or.inl ⟨by rfl, ?_⟩) (by first | assumption | exact trivial) ?_
  · intro W hSW; go_simp; try (with_reducible rfl)
  simp only [Act.put, List.getElem_toArray, List.getElem_cons_succ, List.getElem_cons_zero, List.setIfInBounds_toArray, List.set_cons_zero, List.set_cons_succ]
  refine wpAnyH_take (i := 20) (v := .agg #[.int .i64 o, .int .i64 d, .int .i64 ee, .int .i64 cc]) rfl (by kernel_rfl) (by kernel_rfl) (by kernel_rfl) (fun _ _ _ h => h) (Or.inl ⟨by rfl, ?_⟩) (by first | assumption | exact trivial) ?_
  · intro W hSW; obtain ⟨i0, i1, i2, i3⟩ := id_cells (HBX.out W hSW).1.id; go_simp; try (with_reducible rfl)
  simp only [Act.put, List.getElem_toArray, List.getElem_cons_succ, List.getElem_cons_zero, List.setIfInBounds_toArray, List.set_cons_zero, List.set_cons_succ]
  refine wpAnyH_take (i := 22) (v := .agg #[.int .i64 s.self, .int .i64 s.qh, .int .i64 s.qb, .int .i64 s.qg, .int .i64 s.epoch, .slice Au nu cu, .slice Al nl cl, .int .i64 s.qg, .slice Ak nk ck]) rfl (by kernel_rfl) (by kernel_rfl) (by kernel_rfl) (fun _ _ _ h => h) (Or.inl ⟨by rfl, ?_⟩) (by first | assumption | exact trivial) ?_
  · intro W hSW; obtain ⟨x0, x1, x2, x3, x4, x5, x6, x7, x8⟩ := rs_cells (HBX.out W hSW).1.st; go_simp; try (with_reducible rfl)
  simp only [Act.put, List.getElem_toArray, List.getElem_cons_succ, List.getElem_cons_zero, List.setIfInBounds_toArray, List.set_cons_zero, List.set_cons_succ]
  refine wpAnyH_take (i := 23) (v := .agg #[.int .i64 o, .int .i64 d, .int .i64 ee, .int .i64 cc]) rfl (by kernel_rfl) (by kernel_rfl) (by kernel_rfl) (fun _ _ _ h => h) (Or.inl ⟨by rfl, ?_⟩) (by first | assumption | exact trivial) ?_
  · intro W hSW; obtain ⟨i0, i1, i2, i3⟩ := id_cells (HBX.out W hSW).1.id; go_simp; try (with_reducible rfl)
  simp only [Act.put, List.getElem_toArray, List.getElem_cons_succ, List.getElem_cons_zero, List.setIfInBounds_toArray, List.set_cons_zero, List.set_cons_succ]
  refine wpAnyH_ready (rs := [21]) (by kernel_rfl) (by simp) ?_
  refine AllReadyH.cons rfl (fun K hK => ?_) AllReadyH.nil
  go_simp
  go_wp2_with (go_at_call 15; refine (HSe.out _ S8).mono ?_; rintro e w9 ⟨rfl, b9⟩)
  have S9 : Below V.heap.size V w9 := go_on S8 b9.out
  refine hK.out _ _ (S9) (fun hHeld => ?_)
  clear hK K
  refine wpAnyH_ready (rs := [24]) (by kernel_rfl) (by simp) ?_
  refine AllReadyH.cons rfl (fun K hK => ?_) AllReadyH.nil
  go_simp
  go_wp2_with (go_at_call 16; refine (HRs.out _ S9).mono ?_; rintro e w10 ⟨rfl, b10⟩)
  have S10 : Below V.heap.size V w10 := go_on S9 b10.out
  refine hK.out _ _ (S10) (fun hHeld => ?_)
  clear hK K
  refine wpAnyH_take (i := 25) (v := .bool true) rfl (by kernel_rfl) (by kernel_rfl) (by kernel_rfl) (fun _ _ _ h => h) (Or.inl ⟨by rfl, ?_⟩) (by first | assumption | exact trivial) ?_
  · intro W hSW; go_simp; try (with_reducible rfl)
  simp only [Act.put, List.getElem_toArray, List.getElem_cons_succ, List.getElem_cons_zero, List.setIfInBounds_toArray, List.set_cons_zero, List.set_cons_succ]
  refine wpAnyH_take (i := 26) (v := .bool true) rfl (by kernel_rfl) (by kernel_rfl) (by kernel_rfl) (fun _ _ _ h => h) (Or.inl ⟨by rfl, ?_⟩) (by first | assumption | exact trivial) ?_
  · intro W hSW; go_simp; try (with_reducible rfl)
  simp only [Act.put, List.getElem_toArray, List.getElem_cons_succ, List.getElem_cons_zero, List.setIfInBounds_toArray, List.set_cons_zero, List.set_cons_succ]
  refine wpAnyH_take (i := 27) (v := .bool true) rfl (by kernel_rfl) (by kernel_rfl) (by kernel_rfl) (fun _ _ _ h => h) (Or.inl ⟨by rfl, ?_⟩) (by first | assumption | exact trivial) ?_
  · intro W hSW; go_simp; try (with_reducible rfl)
  simp only [Act.put, List.getElem_toArray, List.getElem_cons_succ, List.getElem_cons_zero, List.setIfInBounds_toArray, List.set_cons_zero, List.set_cons_succ]
  refine wpAnyH_ready (rs := [28]) (by kernel_rfl) (by simp) ?_
  refine AllReadyH.cons rfl (fun K hK => ?_) AllReadyH.nil
  go_simp
  go_wp2_with (go_at_call 9; refine (HAw.out _).mono ?_; rintro e w11 ⟨rfl, b11⟩)
  have S11 : Below V.heap.size V w11 := go_on S10 b11.out
  refine hK.out _ _ (S11) (fun hHeld => ?_)
  clear hK K
  refine wpAnyH_take (i := 29) (v := .bool true) rfl (by kernel_rfl) (by kernel_rfl) (by kernel_rfl) (fun _ _ _ h => h) (Or.inl ⟨by rfl, ?_⟩) (by first | assumption | exact trivial) ?_
  · intro W hSW; go_simp; try (with_reducible rfl)
  simp only [Act.put, List.getElem_toArray, List.getElem_cons_succ, List.getElem_cons_zero, List.setIfInBounds_toArray, List.set_cons_zero, List.set_cons_succ]
  refine wpAnyH_take (i := 30) (v := .bool true) rfl (by kernel_rfl) (by kernel_rfl) (by kernel_rfl) (fun _ _ _ h => h) (Or.inl ⟨by rfl, ?_⟩) (by first | assumption | exact trivial) ?_
  · intro W hSW; go_simp; try (with_reducible rfl)
  simp only [Act.put, List.getElem_toArray, List.getElem_cons_succ, List.getElem_cons_zero, List.setIfInBounds_toArray, List.set_cons_zero, List.set_cons_succ]
  refine wpAnyH_done (by kernel_rfl) ?_ _
  go_wp2
  go_ret
  exact ⟨rfl, go_on hw7.out S11⟩
theorem storeAsks (me qh qb qg : Int) (A : Option Addr) (len cap : Nat) (ls : List Evt) (o d ee cc : Int) (w : World) (hl : len = ls.length ∧ len ≤ cap ∧ cap ≤ 9223372036854775807 ∧ Evs w A ls) (h0 : (Lit.int .i64 o).wf = true) (h1 : (Lit.int .i64 d).wf = true) (h2 : (Lit.int .i64 ee).wf = true) (h3 : (Lit.int .i64 cc).wf = true) : Calls Try.prog 3 #[.agg #[.int .i64 me, .int .i64 qh, .int .i64 qb, .int .i64 qg], .slice A len cap, .agg #[.int .i64 o, .int .i64 d, .int .i64 ee, .int .i64 cc]] w fun e w' => e = .returned (.bool true) ∧ Below w.heap.size w w' := by
  by_cases h : NewOk me qh qb qg
  · exact storeAsks_ok me qh qb qg o d ee cc A len cap ls w h ⟨h0, h1, h2, h3⟩ hl
  · exact storeAsks_no me qh qb qg o d ee cc _ w h
end Go.Proofs.Ytpofdimagfldnaa.So
