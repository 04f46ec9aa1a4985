/- A payload comes to the receiver: the contract of the law's comes. -/
import Derived.Test.YtnfjfcoonabmmaaRvPairB
namespace Go.Proofs.Ytnfjfcoonabmmaa.Rv
open Go.RowKit
open Go.Proofs.Ytnfjfcoonabmmaa.Me Go.Proofs.Ytnfjfcoonabmmaa.Hd Go.Proofs.Ytnfjfcoonabmmaa.Sn
set_option linter.unusedVariables false
set_option linter.unusedSimpArgs false

/-- The pair in memory: what it is. -/
def PM (M : Nat) (w : World) (P Ds D mb n : Nat) (x : Pr) : Prop := Pst n x ∧ ∃ G A1 c1 v2 A3 c3, Pm M G w P Ds D mb x.s x.r x.ps x.S (x.ps.take x.W) A1 c1 v2 A3 c3
theorem PM.below {M : Nat} {w w' : World} {P Ds D mb n : Nat} {x : Pr} (h : PM M w P Ds D mb n x) (hb : Below w.heap.size w w') : PM M w' P Ds D mb n x := by
  obtain ⟨h1, G, A1, c1, v2, A3, c3, h2⟩ := h
  exact ⟨h1, G, A1, c1, v2, A3, c3, h2.below hb⟩
/-- What a Take among it all answers. -/
def TakeP (M : Nat) (w : World) (P Ds D mb n m : Nat) (x : Pr) (A1 : Option Addr) (c1 : Nat) (v2 : Value) (A3 : Option Addr) (c3 : Nat) (e : Ending) (w' : World) : Prop :=
  ∃ rs A c va ev G' r', e = .returned (.tuple #[.slice A rs.length c, va, .int .i64 ev]) ∧ Hid (Pm M G' w' P Ds D mb x.s r' x.ps x.S (x.ps.take x.W) A1 c1 v2 A3 c3) ∧ Hid (Ls G' w' A c rs) ∧
    Hid (Pst n ⟨x.s, r', x.ps, x.g, x.W + rs.length⟩ ∧ x.ps.take (x.W + rs.length) = x.ps.take x.W ++ rs ∧ (m = x.W → 1 ≤ rs.length)) ∧ Hid (But (fun k => k = D ∨ k = mb) w w')
theorem Take_p {M : Nat} {G : Nat → Prop} (w : World) {P Ds D mb n m : Nat} {x : Pr} {A1 : Option Addr} {c1 : Nat} {v2 : Value} {A3 : Option Addr} {c3 : Nat} (hst : Hid (Pst n x)) (h : Hid (Pm M G w P Ds D mb x.s x.r x.ps x.S (x.ps.take x.W) A1 c1 v2 A3 c3)) (hm : m < x.S) (hm63 : x.S ≤ m + 63)
    (R : Option Addr) (cr : Nat) (hp : Hid (Me.Rd w w.heap.size R (lsAt x.ps m))) (hA : Hid (R = none → (lsAt x.ps m).length = 0 ∧ cr = 0)) :
    Calls Try.prog 9 #[.pointer (some ⟨D, 0, none⟩), .int .i64 ((m % 128 : Nat) : Int), .slice R 2 cr] w (TakeP M w P Ds D mb n m x A1 c1 v2 A3 c3) := by
  obtain ⟨a1, a2⟩ := hst.out.at_ (m := m) (by have := hst.out.Sle; omega)
  have hl : Hid ((lsAt x.ps m).length ≤ 140737488355328) := by show _ ≤ _; omega
  by_cases he : mayE x.r ((m % 128 : Nat) : Int) (lsAt x.ps m) = 0
  · have hT := Take_g w D mb x.r (Lib.hid h.out.rv) (Lib.hid hst.out.rok) (m % 128) R cr (lsAt x.ps m) hp hA hl (show m % 128 < 128 by omega) he
    rw [a1] at hT
    refine hT.mono ?_
    rintro e w' ⟨i, A, c, v, rfl, h1, h2, h3, h4, h5, h6⟩
    obtain ⟨t1, t2, t3⟩ := hst.out.take hm hm63 he h1.out
    have hi := toldR_length (keepR x.r (m % 128) (lsAt x.ps m)) i
    refine ⟨toldR (keepR x.r (m % 128) (lsAt x.ps m)) i, A, c, v, 0, _, _, by rw [hi], h.out.receiver h4.out h5.out, h2.out.mono fun k hk hk' => ⟨hk'.1, hk⟩, ?_, h5⟩
    rw [hi]
    exact ⟨t1, t2, t3⟩
  · have hT := Take_no w D mb x.r (Lib.hid h.out.rv.rq) (Lib.hid hst.out.rok) ((m % 128 : Nat) : Int) R cr (lsAt x.ps m) hp hA hl he
    rw [a1] at hT
    refine hT.mono ?_
    rintro e w' ⟨rfl, hb⟩
    refine ⟨[], none, 0, _, _, G, x.r, rfl, h.out.below hb.out, Ls.nil _ _, ⟨?_, by simp, fun e => absurd (hst.out.may_at hm e) he⟩, But.of_below hb.out⟩
    exact hst.out
theorem Pst.short {n : Nat} {x : Pr} (h : Pst n x) {rs : List (List Nat)} {r' : Rcv} (h2 : Pst n ⟨x.s, r', x.ps, x.g, x.W + rs.length⟩) : (x.ps.take x.W).length + rs.length ≤ x.ps.length := by
  have := h2.wS
  have := h.Sle
  simp only [Pr.S] at *
  simp
  omega
/-- Calls and ways lie as they lay, and the pair's list of calls is the same. -/
def Quiet (P : Nat) (w w' : World) : Prop := w'.cell? ⟨P, 3, none⟩ = w.cell? ⟨P, 3, none⟩ ∧ ∀ (k : Nat) (cs : Array Value) (t : TypeId), (t = 34 ∨ t = 43 ∨ t = 3) → w.heap[k]? = some (.cells cs t (0, 0)) → w'.heap[k]? = w.heap[k]?
/-- Blocks that are no calls and no ways. -/
theorem quiet_blk {T : Nat → Prop} {w w' : World} (hb : But T w w') (hT : ∀ k, T k → ∃ o : Obj, w.heap[k]? = some o ∧ ∀ (cs : Array Value) (t : TypeId), (t = 34 ∨ t = 43 ∨ t = 3) → o ≠ Obj.cells cs t (0, 0)) :
    ∀ (k : Nat) (cs : Array Value) (t : TypeId), (t = 34 ∨ t = 43 ∨ t = 3) → w.heap[k]? = some (.cells cs t (0, 0)) → w'.heap[k]? = w.heap[k]? := fun k cs t ht hk => hb.same k (Array.getElem?_eq_some_iff.1 hk).1 fun hk2 => by
  obtain ⟨o, q1, q2⟩ := hT k hk2
  rw [hk] at q1
  exact q2 cs t ht (Option.some.inj q1).symm
set_option maxHeartbeats 2000000 in
theorem comes_any (M : Nat) (w : World) (P Ds D mb n m : Nat) (x : Pr) (h : Hid (PM M w P Ds D mb n x)) (h300 : Hid (x.ps.length ≤ 300)) (hm : Hid (m < x.S)) (hm63 : Hid (x.S ≤ m + 63)) (k0 : Int)
    (R : Option Addr) (cr : Nat) (hp : Hid (Me.Rd w w.heap.size R (lsAt x.ps m))) (hA : Hid (R = none → (lsAt x.ps m).length = 0 ∧ cr = 0)) :
    Calls Try.prog 18 #[.pointer (some ⟨P, 0, none⟩), .agg #[.int .i64 k0, .int .i64 ((m % 128 : Nat) : Int), .slice R 2 cr]] w fun e w' =>
      (∃ v, e = .returned v) ∧ Hid (∃ r' W', PM M w' P Ds D mb n ⟨x.s, r', x.ps, x.g, W'⟩ ∧ x.W ≤ W' ∧ (m = x.W → x.W + 1 ≤ W')) ∧ Hid (Below M w w') ∧ Hid (Quiet P w w') := by
  obtain ⟨hst, G, A1, c1, v2, A3, c3, hpm⟩ := h.out
  have d1 := hpm.cell 1
  have hPlt := hpm.lt
  obtain ⟨WA, hWA⟩ : ∃ WA, w.alloc (.cells #[.int .i64 k0, .int .i64 ((m % 128 : Nat) : Int), .slice R 2 cr] 34) = WA := ⟨_, rfl⟩
  have hbA : Below w.heap.size w WA := by rw [← hWA]; exact Me.below_alloc (Below.refl _ _)
  have hrow : WA.heap[w.heap.size]? = some (.cells #[.int .i64 k0, .int .i64 ((m % 128 : Nat) : Int), .slice R 2 cr] 34 (0, 0)) := by rw [← hWA]; exact heap_alloc_new w _
  have e1 : WA.cell? ⟨P, 1, none⟩ = some (.pointer (some ⟨D, 0, none⟩)) := (hbA.cell (p := ⟨P, 1, none⟩) hPlt).trans d1
  have e2 : WA.cell? ⟨w.heap.size, 1, none⟩ = some (.int .i64 ((m % 128 : Nat) : Int)) := cell_of_row WA _ 1 _ _ (0, 0) hrow
  have e3 : WA.cell? ⟨w.heap.size, 2, none⟩ = some (.slice R 2 cr) := cell_of_row WA _ 2 _ _ (0, 0) hrow
  have hD0 : Below w.heap.size w WA.drew := hbA.drew
  have hsA : w.heap.size ≤ WA.drew.heap.size := hD0.size
  have HWA : Hid (w.heap.size < WA.drew.heap.size) := (Array.getElem?_eq_some_iff.1 hrow).1
  have HT := Lib.hid (Take_p (M := M) WA.drew (Lib.hid hst) (Lib.hid (hpm.below hD0)) hm.out hm63.out R cr (Lib.hid ((hp.out.below hD0).more hsA)) hA)
  have HPM := Lib.hid hpm
  have HST := Lib.hid hst
  have HD0 := Lib.hid hD0
  obtain ⟨mm, hmm⟩ : ∃ mm, m % 128 = mm := ⟨_, rfl⟩
  rw [hmm] at e2 HT hWA ⊢
  clear hst hpm hPlt hbA hrow hD0 d1 hmm
  go_enter Try.func18, Try.ntmps18
  go_wp2
  clear hWA
  refine wp_region_held_drew (S := fun W => W.cell? ⟨P, 1, none⟩ = some (.pointer (some ⟨D, 0, none⟩)) ∧ W.cell? ⟨w.heap.size, 1, none⟩ = some (.int .i64 (mm : Int)) ∧ W.cell? ⟨w.heap.size, 2, none⟩ = some (.slice R 2 cr)) (by kernel_rfl) ⟨e1, e2, e3⟩ (fun hHeld => ?_)
  refine wpAnyH_take (i := 0) (v := ?vz1) rfl (by kernel_rfl) (by kernel_rfl) (by kernel_rfl) (fun _ _ _ h => h) (Or.inl ⟨by rfl, ?hyz1⟩) (by first | assumption | exact trivial) ?restz1
  case hyz1 => intro W hSW; go_simp; try (with_reducible rfl)
  simp only [Act.put, List.getElem_toArray, List.getElem_cons_succ, List.getElem_cons_zero, List.setIfInBounds_toArray, List.set_cons_zero, List.set_cons_succ]
  refine wpAnyH_take (i := 1) (v := ?vz2) rfl (by kernel_rfl) (by kernel_rfl) (by kernel_rfl) (fun _ _ _ h => h) (Or.inl ⟨by rfl, ?hyz2⟩) (by first | assumption | exact trivial) ?restz2
  case hyz2 => intro W hSW; go_simp; try (with_reducible rfl)
  simp only [Act.put, List.getElem_toArray, List.getElem_cons_succ, List.getElem_cons_zero, List.setIfInBounds_toArray, List.set_cons_zero, List.set_cons_succ]
  refine wpAnyH_take (i := 2) (v := ?vz3) rfl (by kernel_rfl) (by kernel_rfl) (by kernel_rfl) (fun _ _ _ h => h) (Or.inl ⟨by rfl, ?hyz3⟩) (by first | assumption | exact trivial) ?restz3
  case hyz3 => intro W hSW; go_simp; try (with_reducible rfl)
  simp only [Act.put, List.getElem_toArray, List.getElem_cons_succ, List.getElem_cons_zero, List.setIfInBounds_toArray, List.set_cons_zero, List.set_cons_succ]
  refine wpAnyH_take (i := 3) (v := ?vz4) rfl (by kernel_rfl) (by kernel_rfl) (by kernel_rfl) (fun _ _ _ h => h) (Or.inl ⟨by rfl, ?hyz4⟩) (by first | assumption | exact trivial) ?restz4
  case hyz4 => intro W hSW; have q3 := hSW.1; go_simp; try (with_reducible rfl)
  simp only [Act.put, List.getElem_toArray, List.getElem_cons_succ, List.getElem_cons_zero, List.setIfInBounds_toArray, List.set_cons_zero, List.set_cons_succ]
  refine wpAnyH_take (i := 4) (v := ?vz5) rfl (by kernel_rfl) (by kernel_rfl) (by kernel_rfl) (fun _ _ _ h => h) (Or.inl ⟨by rfl, ?hyz5⟩) (by first | assumption | exact trivial) ?restz5
  case hyz5 => intro W hSW; go_simp; try (with_reducible rfl)
  simp only [Act.put, List.getElem_toArray, List.getElem_cons_succ, List.getElem_cons_zero, List.setIfInBounds_toArray, List.set_cons_zero, List.set_cons_succ]
  refine wpAnyH_take (i := 5) (v := ?vz6) rfl (by kernel_rfl) (by kernel_rfl) (by kernel_rfl) (fun _ _ _ h => h) (Or.inl ⟨by rfl, ?hyz6⟩) (by first | assumption | exact trivial) ?restz6
  case hyz6 => intro W hSW; have q5 := hSW.2.1; go_simp; try (with_reducible rfl)
  simp only [Act.put, List.getElem_toArray, List.getElem_cons_succ, List.getElem_cons_zero, List.setIfInBounds_toArray, List.set_cons_zero, List.set_cons_succ]
  refine wpAnyH_take (i := 6) (v := ?vz7) rfl (by kernel_rfl) (by kernel_rfl) (by kernel_rfl) (fun _ _ _ h => h) (Or.inl ⟨by rfl, ?hyz7⟩) (by first | assumption | exact trivial) ?restz7
  case hyz7 => intro W hSW; go_simp; try (with_reducible rfl)
  simp only [Act.put, List.getElem_toArray, List.getElem_cons_succ, List.getElem_cons_zero, List.setIfInBounds_toArray, List.set_cons_zero, List.set_cons_succ]
  refine wpAnyH_take (i := 7) (v := ?vz8) rfl (by kernel_rfl) (by kernel_rfl) (by kernel_rfl) (fun _ _ _ h => h) (Or.inl ⟨by rfl, ?hyz8⟩) (by first | assumption | exact trivial) ?restz8
  case hyz8 => intro W hSW; have q7 := hSW.2.2; go_simp; try (with_reducible rfl)
  simp only [Act.put, List.getElem_toArray, List.getElem_cons_succ, List.getElem_cons_zero, List.setIfInBounds_toArray, List.set_cons_zero, List.set_cons_succ]
  refine wpAnyH_ready (rs := [8]) (by kernel_rfl) (by simp) ?_
  refine AllReadyH.cons rfl (fun K hK => ?_) AllReadyH.nil
  go_simp
  go_wp2_with (go_at_call 9; refine HT.out.mono ?_; rintro e w2 ⟨rs, A, c, va, ev, G', r', rfl, h2, hl2, hpst, hb2⟩)
  have hDlt : D < w.heap.size := HPM.out.rv.rq.lt
  have hmlt : mb < w.heap.size := HPM.out.rv.rq.ltm
  have hsd : w.heap.size < WA.drew.heap.size := HWA.out
  have S2 : w2.cell? ⟨P, 1, none⟩ = some (.pointer (some ⟨D, 0, none⟩)) ∧ w2.cell? ⟨w.heap.size, 1, none⟩ = some (.int .i64 (mm : Int)) ∧ w2.cell? ⟨w.heap.size, 2, none⟩ = some (.slice R 2 cr) := by
    have hk : SameD w.heap.size WA.drew w2 := hb2.out.same _ hsd fun e => by omega
    exact ⟨h2.out.cell 1, (hk.cell 1).trans e2, (hk.cell 2).trans e3⟩
  refine hK.out _ _ (S2) (fun hHeld => ?_)
  clear hK K
  refine wpAnyH_take (i := 9) (v := ?vz9) rfl (by kernel_rfl) (by kernel_rfl) (by kernel_rfl) (fun _ _ _ h => h) (Or.inl ⟨by rfl, ?hyz9⟩) (by first | assumption | exact trivial) ?restz9
  case hyz9 => intro W hSW; go_simp; try (with_reducible rfl)
  simp only [Act.put, List.getElem_toArray, List.getElem_cons_succ, List.getElem_cons_zero, List.setIfInBounds_toArray, List.set_cons_zero, List.set_cons_succ]
  refine wpAnyH_take (i := 10) (v := ?vz10) rfl (by kernel_rfl) (by kernel_rfl) (by kernel_rfl) (fun _ _ _ h => h) (Or.inl ⟨by rfl, ?hyz10⟩) (by first | assumption | exact trivial) ?restz10
  case hyz10 => intro W hSW; go_simp; try (with_reducible rfl)
  simp only [Act.put, List.getElem_toArray, List.getElem_cons_succ, List.getElem_cons_zero, List.setIfInBounds_toArray, List.set_cons_zero, List.set_cons_succ]
  refine wpAnyH_take (i := 11) (v := ?vz11) rfl (by kernel_rfl) (by kernel_rfl) (by kernel_rfl) (fun _ _ _ h => h) (Or.inl ⟨by rfl, ?hyz11⟩) (by first | assumption | exact trivial) ?restz11
  case hyz11 => intro W hSW; go_simp; try (with_reducible rfl)
  simp only [Act.put, List.getElem_toArray, List.getElem_cons_succ, List.getElem_cons_zero, List.setIfInBounds_toArray, List.set_cons_zero, List.set_cons_succ]
  refine wpAnyH_take (i := 12) (v := ?vz12) rfl (by kernel_rfl) (by kernel_rfl) (by kernel_rfl) (fun _ _ _ h => h) (Or.inl ⟨by rfl, ?hyz12⟩) (by first | assumption | exact trivial) ?restz12
  case hyz12 => intro W hSW; go_simp; try (with_reducible rfl)
  simp only [Act.put, List.getElem_toArray, List.getElem_cons_succ, List.getElem_cons_zero, List.setIfInBounds_toArray, List.set_cons_zero, List.set_cons_succ]
  refine wpAnyH_take (i := 13) (v := ?vz13) rfl (by kernel_rfl) (by kernel_rfl) (by kernel_rfl) (fun _ _ _ h => h) (Or.inl ⟨by rfl, ?hyz13⟩) (by first | assumption | exact trivial) ?restz13
  case hyz13 => intro W hSW; go_simp; try (with_reducible rfl)
  simp only [Act.put, List.getElem_toArray, List.getElem_cons_succ, List.getElem_cons_zero, List.setIfInBounds_toArray, List.set_cons_zero, List.set_cons_succ]
  refine wpAnyH_take (i := 14) (v := ?vz14) rfl (by kernel_rfl) (by kernel_rfl) (by kernel_rfl) (fun _ _ _ h => h) (Or.inl ⟨by rfl, ?hyz14⟩) (by first | assumption | exact trivial) ?restz14
  case hyz14 => intro W hSW; go_simp; try (with_reducible rfl)
  simp only [Act.put, List.getElem_toArray, List.getElem_cons_succ, List.getElem_cons_zero, List.setIfInBounds_toArray, List.set_cons_zero, List.set_cons_succ]
  refine wpAnyH_take (i := 15) (v := ?vz15) rfl (by kernel_rfl) (by kernel_rfl) (by kernel_rfl) (fun _ _ _ h => h) (Or.inl ⟨by rfl, ?hyz15⟩) (by first | assumption | exact trivial) ?restz15
  case hyz15 => intro W hSW; go_simp; try (with_reducible rfl)
  simp only [Act.put, List.getElem_toArray, List.getElem_cons_succ, List.getElem_cons_zero, List.setIfInBounds_toArray, List.set_cons_zero, List.set_cons_succ]
  refine wpAnyH_done (by kernel_rfl) ?_ _
  have f4 := h2.out.cell 4
  have HSRC := hl2.out.src
  obtain ⟨us, hs1, hs2⟩ := HSRC
  have HS1 := Lib.hid hs1
  have HS2 := Lib.hid hs2
  have hsh := HST.out.short hpst.out.1
  have HSH : Hid (((x.ps.take x.W).length + rs.length) * 24 ≤ 140737488355328) := by have := h300.out; show _ ≤ _; omega
  have HTO := Lib.hid h2.out.to
  have HTL := Lib.hid (fun (A4 : Option Addr) (c4 : Nat) (w4 : World) (n4 : Nat) (hn4 : n4 = (x.ps.take x.W ++ rs).length) => h2.out.tell (w4 := w4) (A4 := A4) (c4 := c4) hn4)
  obtain ⟨tl, htl⟩ : ∃ tl, x.ps.take x.W = tl := ⟨_, rfl⟩
  have HTLE := Lib.hid htl
  rw [htl] at HTL HTO HSH f4
  obtain ⟨nt, hnt⟩ : ∃ nt, tl.length = nt := ⟨_, rfl⟩
  have HNT := Lib.hid hnt
  have f4' : w2.cell? ⟨P, 4, none⟩ = some (.slice A3 nt c3) := by rw [← hnt]; exact f4
  obtain ⟨nr, hnr⟩ : ∃ nr, rs.length = nr := ⟨_, rfl⟩
  have HNR := Lib.hid hnr
  have HB2 : Hid (Below M w w2) := ((HD0.out.mono (HPM.out.hM)).trans (hb2.out.below (Nat.le_trans HPM.out.hM (Nat.le_of_lt hsd)) fun k hk => by rcases hk with rfl | rfl; exact (HPM.out.gM _ HPM.out.rv.gD).1; exact (HPM.out.gM _ HPM.out.rv.gm).1))
  rw [hnr]
  -- calls and ways
  have HQ2 : Hid (∀ (k : Nat) (cs : Array Value) (t : TypeId), (t = 34 ∨ t = 43 ∨ t = 3) → w.heap[k]? = some (.cells cs t (0, 0)) → w2.heap[k]? = w.heap[k]?) := fun k cs t ht hk => by
    have h1 := HD0.out.block k (Array.getElem?_eq_some_iff.1 hk).1
    refine (quiet_blk hb2.out (fun k hk => ?_) k cs t ht (h1.trans hk)).trans h1
    have hd := (HPM.out.below HD0.out)
    rcases hk with rfl | rfl
    · exact ⟨_, hd.rv.rq.blk, fun cs t ht => cells_ne (by rcases ht with rfl | rfl | rfl <;> decide)⟩
    · obtain ⟨es, cm, hm⟩ := hd.rv.rq.mp.isMap
      exact ⟨_, hm, fun cs t _ e => by cases e⟩
  clear S2 hDlt hmlt hsd hs1 hs2 hsh htl hnt hnr f4 e1 e2 e3
  go_wp2_with (at_builtin; refine appL rfl (.tmp 24) (.tmp 25) rfl G' A3 c3 tl rs (by rw [HNT.out]; rfl) HTO.out (.slice A rs.length c) us (by rw [HNR.out]; rfl) HS1.out HS2.out HSH.out ?_; intro A4 c4 w4 hl4 hb4 hn4; obtain ⟨t1, t2, t3⟩ := HTL.out A4 c4 w4 (nt + nr) (by rw [List.length_append, HNT.out, HNR.out]) hl4 hb4 hn4; rw [HNT.out] at t1; rw [HNT.out, HNR.out]; have T3 := Lib.hid t3; have HB4 : Hid (Below M w w4) := HB2.out.trans (hb4.below (Nat.le_trans HPM.out.hM HB2.out.size) fun k hk => (h2.out.gM k (HTO.out.blk k hk).1).1); have HQ4 : Hid (∀ (k : Nat) (cs : Array Value) (t : TypeId), (t = 34 ∨ t = 43 ∨ t = 3) → w2.heap[k]? = some (.cells cs t (0, 0)) → w4.heap[k]? = w2.heap[k]?) := quiet_blk hb4 (fun k hk => (by obtain ⟨cur, hc⟩ := (HTO.out.blk k hk).2.2; exact ⟨_, hc, fun cs t ht => cells_ne (by rcases ht with rfl | rfl | rfl <;> decide)⟩)); have HP4 : Hid (∃ cs, w4.heap[P]? = some (.cells cs 47 (0, 0))) := ⟨_, (hb4.same P h2.out.lt (HTO.out.ne h2.out.blk fun cs => cells_ne (by decide))).trans h2.out.blk⟩; clear t3 hl4 hb4 hn4)
  go_end0
  obtain ⟨p1, p2, p3⟩ := hpst.out
  obtain ⟨G5, hg5⟩ := T3.out
  refine ⟨⟨_, rfl⟩, ?_, HB4.out.setCell (p := ⟨P, 4, none⟩) (HPM.out.gM _ HPM.out.gP).1 _, (hg5.cell 3).trans (HPM.out.cell 3).symm, fun k cs t ht hk => ?_⟩
  rotate_left
  · have q2 := HQ2.out k cs t ht hk
    have q4 := HQ4.out k cs t ht (q2.trans hk)
    refine (Below.heap_setCell w4 ⟨P, 4, none⟩ _ k fun e => ?_).trans (q4.trans q2)
    obtain ⟨cs', hP⟩ := HP4.out
    have e' : k = P := e
    rw [e'] at q4 q2 hk
    rw [q4, q2, hk] at hP
    exact cells_ne (by rcases ht with rfl | rfl | rfl <;> decide) (Option.some.inj hP)
  refine ⟨r', x.W + rs.length, ⟨p1, G5, A1, c1, v2, A4, c4, ?_⟩, Nat.le_add_right _ _, fun e => Nat.add_le_add_left (p3 e) _⟩
  show Pm M G5 _ P Ds D mb x.s r' x.ps x.S (x.ps.take (x.W + rs.length)) A1 c1 v2 A4 c4
  rw [p2, HTLE.out]
  exact hg5
end Go.Proofs.Ytnfjfcoonabmmaa.Rv
