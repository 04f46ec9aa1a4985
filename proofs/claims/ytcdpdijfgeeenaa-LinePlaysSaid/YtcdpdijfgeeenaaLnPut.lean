/- Bytes put on their way. -/
import Derived.Test.YtcdpdijfgeeenaaLnFun
import Derived.Deep.RegionHeld
namespace Go.Proofs.Ytcdpdijfgeeenaa.Li
open Go.RowKit
open Go.Proofs.Ytcdpdijfgeeenaa.Sb
set_option linter.unusedVariables false
set_option linter.unusedSimpArgs false

/-- A number appended to numbers of one's own, as one operation. -/
theorem app1w {w : World} {o : Oper} {a : Act} {K : Act → World → Prop} {Q : Exit → Act → World → Prop} (s x : Operand)
    (ho : o.op = .call { callee := .builtin .append, args := #[s, x], argTypes := #[43, 43] })
    (v : Value) (l : List Int) (z : Int) (hs : a.eval s = v) (hown : Mi.Own w 0 v l) (g : Nat) (hz : w.cell? ⟨g, 0, none⟩ = some (.int .i64 z)) (hx : a.eval x = .slice (some ⟨g, 0, none⟩) 1 1) (hlen : (l.length + 1) * 8 ≤ 140737488355328)
    (h : ∀ v' w', Mi.Own w' 0 v' (l ++ [z]) → w.grownBy w' v.ownBlock → (∀ k, v'.ownBlock = some k → v.ownBlock = some k ∨ w.heap.size ≤ k) → K (a.put o.dst v') w') : o.wp Try.prog a w K Q := by
  obtain ⟨i0, hi, hz0, hz1, hz2⟩ := info_parts Mi.infoI
  have hnews : ∀ j u, ([Value.int .i64 z] : List Value)[j]? = some u → w.cell? ((⟨g, 0, none⟩ : Addr).add j) = some u := by
    intro j u hj
    cases j with
    | zero =>
      have e : (⟨g, 0, none⟩ : Addr).add 0 = ⟨g, 0, none⟩ := by unfold Addr.add; split <;> simp_all
      rw [e, hz]; simpa using hj
    | succ j => simp at hj
  obtain ⟨v', w', hr, h1, h2, h3⟩ := Mi.run_append_own2 (P := Try.prog) (w := w) 43 o.type 3 i0 (.int .i64 0) 8 Try.underlying43 hi hz0 hz1 hz2 rfl v l.length (l.map Mi.iV) hown ⟨g, 0, none⟩ 1 1 [.int .i64 z] rfl hnews (by simp [Value.oneCell']) (by unfold maxLen; omega) hlen
  unfold Oper.wp execOp
  simp only [ho, resolve, invoke, builtin, Sem.run_bind, Sem.run_pure, Result.andThen_ok, List.map_toArray, List.map_cons, List.map_nil, hs, hx, hr]
  refine h v' w' ?_ h2 h3
  unfold Mi.Own
  rw [List.length_append, List.map_append]; exact h1
/-- A slice of one's own has its form. -/
theorem own_form {w : World} {B T n : Nat} {v : Value} {xs : List Value} (h : w.ownsRow B T 1 v n xs) : ∃ A n c, v = .slice A n c := by
  rcases h.2 with ⟨h1, _⟩ | ⟨g, cap, cur, h1, _⟩
  · exact ⟨_, _, _, h1⟩
  · exact ⟨_, _, _, h1⟩
/-- Behind an append to the bytes. -/
theorem Lq.appB {w W W' : World} {D : Nat} {s : Ln} {vb vd v' : Value} {l : List Nat} (h : Lq w D s vb vd) (hW : Below w.heap.size w W) (ho : Me.Own W' 0 v' l) (hg : W.grownBy W' vb.ownBlock) (hn : ∀ k, v'.ownBlock = some k → vb.ownBlock = some k ∨ W.heap.size ≤ k) :
    Aft w D vb vd ⟨s.delay, s.passed, l, s.due⟩ (W'.setCell ⟨D, 2, none⟩ v') ∧ W'.cell? ⟨D, 2, none⟩ = some vb ∧ W'.frozen? ⟨D, 2, none⟩ = false := by
  have hbW : But (LF D vb vd) w W' := (But.of_below hW).grown hg fun r e => .inl (.inr (.inl e))
  have hD : W'.heap[D]? = _ := (hg.block D (Nat.lt_of_lt_of_le h.lt hW.size) fun e => h.neB e.symm).trans ((hW.block D h.lt).trans h.box)
  have od : Mi.Own W' 0 vd s.due := Mi.Own.same h.od fun k e hk => (hg.block k (Nat.lt_of_lt_of_le hk hW.size) fun e2 => h.neBD (k := k) e2.symm e).trans (hW.block k hk)
  refine ⟨?_, ?_, frozen_of_row W' D 2 _ _ hD⟩
  · rw [setCell_eq_setRow W' D 2 _ _ (0, 0) _ hD]
    exact Aft.set (s := s) (s' := ⟨s.delay, s.passed, l, s.due⟩) hD hbW ho od (fun k e => (hn k e).imp (fun e => .inr (.inl e)) fun e => Nat.le_trans hW.size e) (fun k e => .inl (.inr (.inr e)))
  · rw [cell_of_row _ D _ _ _ (0, 0) hD]; rfl
/-- Behind an append to the ticks. -/
theorem Lq.appD {w W W' : World} {D : Nat} {s : Ln} {vb vd v' : Value} {l : List Int} (h : Lq w D s vb vd) (hW : Below w.heap.size w W) (ho : Mi.Own W' 0 v' l) (hg : W.grownBy W' vd.ownBlock) (hn : ∀ k, v'.ownBlock = some k → vd.ownBlock = some k ∨ W.heap.size ≤ k) :
    Aft w D vb vd ⟨s.delay, s.passed, s.bs, l⟩ (W'.setCell ⟨D, 3, none⟩ v') ∧ W'.cell? ⟨D, 3, none⟩ = some vd ∧ W'.frozen? ⟨D, 3, none⟩ = false := by
  have hbW : But (LF D vb vd) w W' := (But.of_below hW).grown hg fun r e => .inl (.inr (.inr e))
  have hD : W'.heap[D]? = _ := (hg.block D (Nat.lt_of_lt_of_le h.lt hW.size) fun e => h.neD e.symm).trans ((hW.block D h.lt).trans h.box)
  have ob : Me.Own W' 0 vb s.bs := own_same h.ob fun k e hk => (hg.block k (Nat.lt_of_lt_of_le hk hW.size) fun e2 => h.neBD (k := k) e e2.symm).trans (hW.block k hk)
  refine ⟨?_, ?_, frozen_of_row W' D 3 _ _ hD⟩
  · rw [setCell_eq_setRow W' D 3 _ _ (0, 0) _ hD]
    exact Aft.set (s := s) (s' := ⟨s.delay, s.passed, s.bs, l⟩) hD hbW ob ho (fun k e => .inl (.inr (.inl e))) (fun k e => (hn k e).imp (fun e => .inr (.inr e)) fun e => Nat.le_trans hW.size e)
  · rw [cell_of_row _ D _ _ _ (0, 0) hD]; rfl
/-- What a call leaves behind another call. -/
theorem Aft.then {w w1 w2 : World} {D : Nat} {vb vd vb1 vd1 : Value} {s2 : Ln} (hlt : ∀ k, LF D vb vd k → k < w.heap.size) (hb : But (LF D vb vd) w w1) (hk : ∀ k, LF D vb1 vd1 k → LF D vb vd k ∨ w.heap.size ≤ k) (h : Aft w1 D vb1 vd1 s2 w2) : Aft w D vb vd s2 w2 := by
  obtain ⟨vb2, vd2, h1, h2, h3⟩ := h
  refine ⟨vb2, vd2, h1, hb.trans h2 fun b hlt hs => ?_, fun k e => ?_⟩
  · rcases hk b hs with h | h
    · exact h
    · omega
  · rcases h3 k e with h | h
    · exact hk k h
    · exact .inr (Nat.le_trans hb.size h)
theorem drew_alloc (w : World) (o : Obj) : w.drew.alloc o = (w.alloc o).drew := rfl
theorem cell_set_ne {w : World} {b i j : Nat} (u : Value) (h : i ≠ j) : (w.setCell ⟨b, i, none⟩ u).cell? ⟨b, j, none⟩ = w.cell? ⟨b, j, none⟩ := by
  refine World.cell?_setCell_other _ _ _ _ fun e => h ?_
  injection e
theorem Put_nil (p : Value) (w : World) : Calls Try.prog 14 #[.pointer none, p] w fun e w' => e = .returned (.int .i64 7) ∧ w = w' := by
  go_enter Try.func14, Try.ntmps14
  go_wp2
  go_ret
  exact ⟨rfl, rfl⟩
theorem Put_full (w : World) (D : Nat) (s : Ln) (vb vd : Value) (h : Hid (Lq w D s vb vd)) (ok : Hid s.Ok) (A : Option Addr) (c : Nat) (p : List Nat) (hp : 65536 < s.bs.length + p.length) (hl : p.length ≤ 140737488355328) :
    Calls Try.prog 14 #[.pointer (some ⟨D, 0, none⟩), .slice A p.length c] w fun e w' => e = .returned (.int .i64 6) ∧ w = w' := by
  obtain ⟨A1, c1', rfl, _⟩ := h.out.formB
  obtain ⟨c0, c1, c2, c3⟩ := h.out.cells
  have hr := ok.out.room
  obtain ⟨m, hm⟩ : ∃ m, p.length = m := ⟨_, rfl⟩
  obtain ⟨l, hl2⟩ : ∃ l, s.bs.length = l := ⟨_, rfl⟩
  rw [hl2] at c2 hr hp
  rw [hm] at hp hl ⊢
  have HW : Hid (wrap64 (65536 - (l : Int)) = 65536 - (l : Int)) := Mi.fits (by unfold Mi.I64; omega)
  have q := HW.out
  have q1 : 65536 - (l : Int) < (m : Int) := by omega
  go_enter Try.func14, Try.ntmps14
  go_wp2
  go_ret
  exact ⟨rfl, rfl⟩
set_option maxRecDepth 100000 in
theorem Put_ok (w : World) (D : Nat) (s : Ln) (vb vd : Value) (h : Hid (Lq w D s vb vd)) (ok : Hid s.Ok) (A : Option Addr) (c : Nat) (p : List Nat) (hp : ¬ 65536 < s.bs.length + p.length) (hr : Hid (Me.Rd w w.heap.size A p)) (hA : Hid (A = none → p.length = 0 ∧ c = 0)) :
    Calls Try.prog 14 #[.pointer (some ⟨D, 0, none⟩), .slice A p.length c] w fun e w' => e = .returned (.int .i64 0) ∧ Hid (Aft w D vb vd ⟨s.delay, s.passed, s.bs ++ p, s.due ++ List.replicate p.length ((s.passed + s.delay : Nat) : Int)⟩ w') := by
  obtain ⟨A1, c1', hvb, _⟩ := h.out.formB
  obtain ⟨c0, c1, c2, c3⟩ := h.out.cells
  have HP : Hid (s.bs.length + p.length ≤ 140737488355328) := by show _ ≤ _; omega
  have hps := ok.out.ps
  have hdl := ok.out.dl
  have HD6 : Hid (s.due.length ≤ 65536) := by show _ ≤ _; rw [ok.out.len]; exact ok.out.room
  have HLT := Lib.hid h.out.ltF
  have HVB : Hid (vb = .slice A1 s.bs.length c1') := hvb
  rw [hvb] at c2
  have q1 : ¬ 65536 - (s.bs.length : Int) < (p.length : Int) := by omega
  have HW : Hid (wrap64 (65536 - (s.bs.length : Int)) = 65536 - (s.bs.length : Int)) := Mi.fits (by unfold Mi.I64; have := ok.out.room; omega)
  have q := HW.out
  have HT : Hid (IntKind.i64.wrap ((s.passed : Int) + (s.delay : Int)) = ((s.passed + s.delay : Nat) : Int)) := by show _ = _; rw [Mi.fits' (by unfold Mi.I64; omega)]; omega
  have f2 := h.out.frozen 2
  have hm6 : p.length ≤ 65536 := by omega
  have HOB : Hid (Me.Own w 0 (.slice A1 s.bs.length c1') s.bs) := by rw [← hvb]; exact h.out.ob
  obtain ⟨x, hx⟩ : ∃ x : Int, ((s.passed + s.delay : Nat) : Int) = x := ⟨_, rfl⟩
  rw [hx] at HT ⊢
  obtain ⟨m, hm⟩ : ∃ m, p.length = m := ⟨_, rfl⟩
  have HM : Hid (p.length = m) := hm
  obtain ⟨l, hl2⟩ : ∃ l, s.bs.length = l := ⟨_, rfl⟩
  have HL : Hid (s.bs.length = l) := hl2
  rw [hl2] at c2 q1 q HOB HVB
  rw [hm] at q1 hm6 hA ⊢
  have HApp : ∀ (v' : Value) (w' : World), Me.Own w' 0 v' (s.bs ++ p) → w.grownBy w' (Value.slice A1 l c1').ownBlock → (∀ k, v'.ownBlock = some k → (Value.slice A1 l c1').ownBlock = some k ∨ w.heap.size ≤ k) → Aft w D vb vd ⟨s.delay, s.passed, s.bs ++ p, s.due⟩ (w'.setCell ⟨D, 2, none⟩ v') ∧ w'.cell? ⟨D, 2, none⟩ = some (.slice A1 l c1') ∧ w'.frozen? ⟨D, 2, none⟩ = false := fun v' w' h1 h2 h3 => by
    have := h.out.appB (Below.refl _ _) h1 (by rw [HVB.out]; exact h2) (by rw [HVB.out]; exact h3)
    rw [HVB.out] at this ⊢
    exact this
  have HAPP := Lib.hid HApp
  clear HApp hp hm hl2 hx hvb hps hdl h
  go_enter Try.func14, Try.ntmps14
  go_wp2_with (at_builtin; refine Hd.app8q rfl (.tmp 22) (.tmp 23) rfl w.heap.size (.slice A1 l c1') s.bs p rfl HOB.out A c (by show _ = Value.slice A p.length c; rw [HM.out]; rfl) hr.out (by rw [HM.out]; exact hA.out) HP.out ?_; intro v1 w1 ho1 hg1 hk1; obtain ⟨ha1, d2, e2⟩ := HAPP.out v1 w1 ho1 hg1 hk1; obtain ⟨B1, n1, b1, hv1⟩ := own_form ho1; have HA1 := Lib.hid ha1; clear ha1 ho1 hg1 hk1; subst hv1)
  obtain ⟨W2, hW2⟩ : ∃ W2, w1.setCell ⟨D, 2, none⟩ (.slice B1 n1 b1) = W2 := ⟨_, rfl⟩
  rw [hW2] at HA1 ⊢
  clear hW2 d2 e2 c0 c1 c2 c3 q1 HAPP HOB q HW
  go_loopw [29] (fun u wr => ∃ i : Nat, i ≤ m ∧ u = .int .i64 (i : Int) ∧ Hid (Aft w D vb vd ⟨s.delay, s.passed, s.bs ++ p, s.due ++ List.replicate i x⟩ wr)) (fun u _ => m - (intOf u).toNat)
  case atStart => exact ⟨0, Nat.zero_le _, rfl, by have := HA1.out; rw [List.replicate_zero, List.append_nil]; exact this⟩
  case round =>
    obtain ⟨i, hi, rfl, HA⟩ := hrel
    clear HA1
    by_cases him : i < m
    · obtain ⟨vb1, vd1, hq0, hb0, hk0⟩ := HA.out
      have HQ := Lib.hid hq0
      have HB := Lib.hid hb0
      have HK := Lib.hid hk0
      clear hq0 hb0 hk0
      have q1 : (i : Int) < (m : Int) := by omega
      obtain ⟨e0, e1, e2, e3⟩ := HQ.out.cells
      obtain ⟨B3, n3, b3, hv3⟩ := own_form HQ.out.od
      subst hv3
      have HLen : Hid (((s.due ++ List.replicate i x).length + 1) * 8 ≤ 140737488355328) := by show _ ≤ _; have := HD6.out; simp only [List.length_append, List.length_replicate]; omega
      have HRep : Hid (s.due ++ List.replicate i x ++ [x] = s.due ++ List.replicate (i + 1) x) := by show _ = _; rw [List.append_assoc, List.replicate_succ']
      have HFin : ∀ (W W' : World) (v' : Value), Below wr.heap.size wr W → Mi.Own W' 0 v' (s.due ++ List.replicate i x ++ [x]) → W.grownBy W' (Value.slice B3 n3 b3).ownBlock → (∀ k, v'.ownBlock = some k → (Value.slice B3 n3 b3).ownBlock = some k ∨ W.heap.size ≤ k) →
          Aft w D vb vd ⟨s.delay, s.passed, s.bs ++ p, s.due ++ List.replicate (i + 1) x⟩ (W'.setCell ⟨D, 3, none⟩ v') ∧ W'.cell? ⟨D, 3, none⟩ = some (.slice B3 n3 b3) ∧ W'.frozen? ⟨D, 3, none⟩ = false := fun W W' v' h1 h2 h3 h4 => by
        obtain ⟨g1, g2, g3⟩ := HQ.out.appD h1 h2 h3 h4
        rw [HRep.out] at g1
        exact ⟨g1.then HLT.out HB.out HK.out, g2, g3⟩
      have HFIN := Lib.hid HFin
      clear HFin HA HB HK
      go_wp2
      have hlD := HQ.out.lt
      have hbl : Below wr.heap.size wr (wr.alloc (.cells #[.int .i64 x] 3)).drew := (Mi.below_alloc (Below.refl _ wr)).drew
      have hcx : (wr.alloc (.cells #[.int .i64 x] 3)).drew.cell? ⟨wr.heap.size, 0, none⟩ = some (.int .i64 x) := by
        show (wr.alloc (.cells #[.int .i64 x] 3)).cell? ⟨wr.heap.size, 0, none⟩ = _
        rw [cell_of_row _ wr.heap.size 0 _ 3 (0, 0) (heap_alloc_new wr _)]; rfl
      have hod : Mi.Own (wr.alloc (.cells #[.int .i64 x] 3)).drew 0 (.slice B3 n3 b3) (s.due ++ List.replicate i x) := Mi.Own.same HQ.out.od fun k e hk => hbl.block k hk
      obtain ⟨W5, hW5⟩ : ∃ W, (wr.alloc (.cells #[.int .i64 x] 3)).drew = W := ⟨_, rfl⟩
      have y0 : (wr.alloc (.cells #[.int .i64 x] 3)).drew.cell? ⟨D, 0, none⟩ = some (.int .i64 (s.delay : Int)) := (hbl.cell (p := ⟨D, 0, none⟩) hlD).trans e0
      have y1 : (wr.alloc (.cells #[.int .i64 x] 3)).drew.cell? ⟨D, 1, none⟩ = some (.int .i64 (s.passed : Int)) := (hbl.cell (p := ⟨D, 1, none⟩) hlD).trans e1
      have y3 : (wr.alloc (.cells #[.int .i64 x] 3)).drew.cell? ⟨D, 3, none⟩ = some (.slice B3 n3 b3) := (hbl.cell (p := ⟨D, 3, none⟩) hlD).trans e3
      have HW5 := Lib.hid hW5
      rw [hW5] at hbl hcx hod y0 y1 y3
      have HBL := Lib.hid hbl
      have HCX := Lib.hid hcx
      have HOD := Lib.hid hod
      clear hW5 hcx hod
      refine wp_region_held_drew (S := fun W => W.cell? ⟨D, 0, none⟩ = some (.int .i64 (s.delay : Int)) ∧ W.cell? ⟨D, 1, none⟩ = some (.int .i64 (s.passed : Int))) (by kernel_rfl) ⟨e0, e1⟩ (fun hHeld => ?_)
      refine wpAnyH_take (i := 0) (v := .pointer (some ⟨D, 0, none⟩)) rfl (by kernel_rfl) (by kernel_rfl) (by kernel_rfl) (fun _ _ _ h => h) (Or.inl ⟨by rfl, ?_⟩) (by first | assumption | exact trivial) ?_
      · intro W hSW; go_simp; try (with_reducible rfl)
      simp only [Act.put, List.getElem_toArray, List.getElem_cons_succ, List.getElem_cons_zero, List.setIfInBounds_toArray, List.set_cons_zero, List.set_cons_succ]
      refine wpAnyH_take (i := 1) (v := .pointer (some ⟨D, 0, none⟩)) rfl (by kernel_rfl) (by kernel_rfl) (by kernel_rfl) (fun _ _ _ h => h) (Or.inl ⟨by rfl, ?_⟩) (by first | assumption | exact trivial) ?_
      · intro W hSW; go_simp; try (with_reducible rfl)
      simp only [Act.put, List.getElem_toArray, List.getElem_cons_succ, List.getElem_cons_zero, List.setIfInBounds_toArray, List.set_cons_zero, List.set_cons_succ]
      refine wpAnyH_take (i := 2) (v := ?vz1) rfl (by kernel_rfl) (by kernel_rfl) (by kernel_rfl) (fun _ _ _ h => h) (Or.inl ⟨by rfl, ?hyz1⟩) (by first | assumption | exact trivial) ?restz1
      case hyz1 => intro W hSW; go_simp; try (with_reducible rfl)
      simp only [Act.put, List.getElem_toArray, List.getElem_cons_succ, List.getElem_cons_zero, List.setIfInBounds_toArray, List.set_cons_zero, List.set_cons_succ]
      refine wpAnyH_take (i := 3) (v := .pointer (some ⟨D, 3, none⟩)) rfl (by kernel_rfl) (by kernel_rfl) (by kernel_rfl) (fun _ _ _ h => h) (Or.inl ⟨by rfl, ?_⟩) (by first | assumption | exact trivial) ?_
      · intro W hSW; go_simp; try (with_reducible rfl)
      simp only [Act.put, List.getElem_toArray, List.getElem_cons_succ, List.getElem_cons_zero, List.setIfInBounds_toArray, List.set_cons_zero, List.set_cons_succ]
      refine wpAnyH_take (i := 5) (v := .pointer (some ⟨D, 0, none⟩)) rfl (by kernel_rfl) (by kernel_rfl) (by kernel_rfl) (fun _ _ _ h => h) (Or.inl ⟨by rfl, ?_⟩) (by first | assumption | exact trivial) ?_
      · intro W hSW; go_simp; try (with_reducible rfl)
      simp only [Act.put, List.getElem_toArray, List.getElem_cons_succ, List.getElem_cons_zero, List.setIfInBounds_toArray, List.set_cons_zero, List.set_cons_succ]
      refine wpAnyH_take (i := 6) (v := ?vz2) rfl (by kernel_rfl) (by kernel_rfl) (by kernel_rfl) (fun _ _ _ h => h) (Or.inl ⟨by rfl, ?hyz2⟩) (by first | assumption | exact trivial) ?restz2
      case hyz2 => intro W hSW; go_simp; try (with_reducible rfl)
      simp only [Act.put, List.getElem_toArray, List.getElem_cons_succ, List.getElem_cons_zero, List.setIfInBounds_toArray, List.set_cons_zero, List.set_cons_succ]
      refine wpAnyH_take (i := 7) (v := .pointer (some ⟨D, 1, none⟩)) rfl (by kernel_rfl) (by kernel_rfl) (by kernel_rfl) (fun _ _ _ h => h) (Or.inl ⟨by rfl, ?_⟩) (by first | assumption | exact trivial) ?_
      · intro W hSW; go_simp; try (with_reducible rfl)
      simp only [Act.put, List.getElem_toArray, List.getElem_cons_succ, List.getElem_cons_zero, List.setIfInBounds_toArray, List.set_cons_zero, List.set_cons_succ]
      refine wpAnyH_take (i := 8) (v := .int .i64 (s.passed : Int)) rfl (by kernel_rfl) (by kernel_rfl) (by kernel_rfl) (fun _ _ _ h => h) (Or.inl ⟨by rfl, ?_⟩) (by first | assumption | exact trivial) ?_
      · intro W hSW; have y := hSW.2; go_simp; try (with_reducible rfl)
      simp only [Act.put, List.getElem_toArray, List.getElem_cons_succ, List.getElem_cons_zero, List.setIfInBounds_toArray, List.set_cons_zero, List.set_cons_succ]
      refine wpAnyH_take (i := 9) (v := .pointer (some ⟨D, 0, none⟩)) rfl (by kernel_rfl) (by kernel_rfl) (by kernel_rfl) (fun _ _ _ h => h) (Or.inl ⟨by rfl, ?_⟩) (by first | assumption | exact trivial) ?_
      · intro W hSW; go_simp; try (with_reducible rfl)
      simp only [Act.put, List.getElem_toArray, List.getElem_cons_succ, List.getElem_cons_zero, List.setIfInBounds_toArray, List.set_cons_zero, List.set_cons_succ]
      refine wpAnyH_take (i := 10) (v := ?vz3) rfl (by kernel_rfl) (by kernel_rfl) (by kernel_rfl) (fun _ _ _ h => h) (Or.inl ⟨by rfl, ?hyz3⟩) (by first | assumption | exact trivial) ?restz3
      case hyz3 => intro W hSW; go_simp; try (with_reducible rfl)
      simp only [Act.put, List.getElem_toArray, List.getElem_cons_succ, List.getElem_cons_zero, List.setIfInBounds_toArray, List.set_cons_zero, List.set_cons_succ]
      refine wpAnyH_take (i := 11) (v := .pointer (some ⟨D, 0, none⟩)) rfl (by kernel_rfl) (by kernel_rfl) (by kernel_rfl) (fun _ _ _ h => h) (Or.inl ⟨by rfl, ?_⟩) (by first | assumption | exact trivial) ?_
      · intro W hSW; go_simp; try (with_reducible rfl)
      simp only [Act.put, List.getElem_toArray, List.getElem_cons_succ, List.getElem_cons_zero, List.setIfInBounds_toArray, List.set_cons_zero, List.set_cons_succ]
      refine wpAnyH_take (i := 12) (v := .int .i64 (s.delay : Int)) rfl (by kernel_rfl) (by kernel_rfl) (by kernel_rfl) (fun _ _ _ h => h) (Or.inl ⟨by rfl, ?_⟩) (by first | assumption | exact trivial) ?_
      · intro W hSW; have y := hSW.1; go_simp; try (with_reducible rfl)
      simp only [Act.put, List.getElem_toArray, List.getElem_cons_succ, List.getElem_cons_zero, List.setIfInBounds_toArray, List.set_cons_zero, List.set_cons_succ]
      refine wpAnyH_take (i := 13) (v := .int .i64 x) rfl (by kernel_rfl) (by kernel_rfl) (by kernel_rfl) (fun _ _ _ h => h) (Or.inl ⟨by rfl, ?_⟩) (by first | assumption | exact trivial) ?_
      · intro W hSW; have y := HT.out; go_simp; try (with_reducible rfl)
      simp only [Act.put, List.getElem_toArray, List.getElem_cons_succ, List.getElem_cons_zero, List.setIfInBounds_toArray, List.set_cons_zero, List.set_cons_succ]
      refine wpAnyH_ready (rs := [4, 14]) (by kernel_rfl) (by simp) ?_
      refine AllReadyH.cons rfl (fun K hK => ?pa) (AllReadyH.cons rfl (fun K hK => ?pb) AllReadyH.nil)
      case' pa =>
        go_simp
        refine hK.out _ _ (⟨e0, e1⟩) (fun hHeld => ?_)
        clear hK K
        refine wpAnyH_ready (rs := [14]) (by kernel_rfl) (by simp) ?_
        refine AllReadyH.cons rfl (fun K hK => ?_) AllReadyH.nil
        go_simp
        rw [HW5.out]
        refine hK.out _ _ (⟨y0, y1⟩) (fun hHeld => ?_)
        clear hK K
      case' pb =>
        go_simp
        rw [HW5.out]
        refine hK.out _ _ (⟨y0, y1⟩) (fun hHeld => ?_)
        clear hK K
        refine wpAnyH_ready (rs := [4]) (by kernel_rfl) (by simp) ?_
        refine AllReadyH.cons rfl (fun K hK => ?_) AllReadyH.nil
        go_simp
        refine hK.out _ _ (⟨y0, y1⟩) (fun hHeld => ?_)
        clear hK K
      all_goals
        refine wpAnyH_ready (rs := [15]) (by kernel_rfl) (by simp) ?_
        refine AllReadyH.cons rfl (fun K hK => ?_) AllReadyH.nil
        rw [if_pos (by kernel_rfl)]
        refine app1w (.tmp 35) (.tmp 45) rfl (.slice B3 n3 b3) (s.due ++ List.replicate i x) x rfl HOD.out wr.heap.size HCX.out rfl HLen.out ?_
        intro v7 w7 ho7 hg7 hk7
        obtain ⟨hA7, d3, f3⟩ := HFIN.out W5 w7 v7 HBL.out ho7 hg7 hk7
        have HA8 := Lib.hid hA7
        obtain ⟨B7, n7, b7, hv7⟩ := own_form ho7
        subst hv7
        have hD7 : w7.heap[D]? = W5.heap[D]? := hg7.block D (Nat.lt_of_lt_of_le hlD HBL.out.size) fun e => HQ.out.neD e.symm
        have z0 := (World.cell?_of_block (w := W5) (a := ⟨D, 0, none⟩) hD7).trans y0
        have z1 := (World.cell?_of_block (w := W5) (a := ⟨D, 1, none⟩) hD7).trans y1
        simp only [Act.put, List.getElem_toArray, List.getElem_cons_succ, List.getElem_cons_zero, List.setIfInBounds_toArray, List.set_cons_zero, List.set_cons_succ]
        clear hA7 ho7 hg7 hk7
        refine hK.out _ _ (⟨z0, z1⟩) (fun hHeld => ?_)
        clear hK K
        refine wpAnyH_take (i := 16) (v := .pointer (some ⟨D, 0, none⟩)) rfl (by kernel_rfl) (by kernel_rfl) (by kernel_rfl) (fun _ _ _ h => h) (Or.inl ⟨by rfl, ?_⟩) (by first | assumption | exact trivial) ?_
        · intro W hSW; go_simp; try (with_reducible rfl)
        simp only [Act.put, List.getElem_toArray, List.getElem_cons_succ, List.getElem_cons_zero, List.setIfInBounds_toArray, List.set_cons_zero, List.set_cons_succ]
        refine wpAnyH_take (i := 17) (v := .pointer (some ⟨D, 3, none⟩)) rfl (by kernel_rfl) (by kernel_rfl) (by kernel_rfl) (fun _ _ _ h => h) (Or.inl ⟨by rfl, ?_⟩) (by first | assumption | exact trivial) ?_
        · intro W hSW; go_simp; try (with_reducible rfl)
        simp only [Act.put, List.getElem_toArray, List.getElem_cons_succ, List.getElem_cons_zero, List.setIfInBounds_toArray, List.set_cons_zero, List.set_cons_succ]
        refine wpAnyH_ready (rs := [18]) (by kernel_rfl) (by simp) ?_
        refine AllReadyH.cons rfl (fun K hK => ?_) AllReadyH.nil
        go_simp
        refine hK.out _ _ (⟨(cell_set_ne _ (by decide)).trans z0, (cell_set_ne _ (by decide)).trans z1⟩) (fun hHeld => ?_)
        clear hK K
        refine wpAnyH_done (by kernel_rfl) ?_ _
        go_wp2
        go_roundw
        case rel => exact ⟨i + 1, by omega, by go_num, HA8⟩
        case measure => simp [intOf]; omega
    · obtain rfl : i = m := by omega
      go_wp2
      go_ret
      exact ⟨rfl, HA⟩
end Go.Proofs.Ytcdpdijfgeeenaa.Li
