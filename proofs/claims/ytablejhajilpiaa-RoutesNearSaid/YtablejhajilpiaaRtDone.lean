/- The law's done: both tables behind some calls. -/
import Derived.Test.YtablejhajilpiaaRtPlayF
import Derived.Test.YtablejhajilpiaaRtWoke
namespace Go.Proofs.Ytablejhajilpiaa.Rt
open Go.RowKit Go.Maps
open Go.Proofs.Ytablejhajilpiaa.Sb
set_option linter.unusedVariables false
set_option linter.unusedSimpArgs false

def stV (s : Int) (R : Option Addr) (n c : Nat) (g : Int) : Array Value := #[.int .i64 s, .slice R n c, .int .i64 g]
theorem exec_boxs (ρ : Operand → Value) (o : Oper) (s g : Int) (R : Option Addr) (n c : Nat) (x : Operand) (ho : o.op = .box 24 x) (h0 : ρ x = .agg (stV s R n c g)) (w : World) :
    (execOp ρ o).run Try.prog w = .ok (.value (.pointer (some ⟨w.heap.size, 0, none⟩))) (w.alloc (.cells (stV s R n c g) 24 (0, 0))) := by
  unfold execOp
  rw [ho]
  simp only [h0]
  kernel_rfl
theorem st_cells {W : World} {b : Nat} {s g : Int} {R : Option Addr} {n c : Nat} (h : W.heap[b]? = some (.cells (stV s R n c g) 24 (0, 0))) : W.cell? ⟨b, 0, none⟩ = some (.int .i64 s) ∧ W.cell? ⟨b, 1, none⟩ = some (.slice R n c) ∧ W.cell? ⟨b, 2, none⟩ = some (.int .i64 g) := by
  refine ⟨?_, ?_, ?_⟩
  all_goals
    rw [cell_of_row _ b _ _ _ (0, 0) h]
    rfl
/-- A table behind some calls. -/
def actsT (t : Tb) (l : List Ac) : Tb := l.foldl actT t
theorem actsT_snoc (t : Tb) (l : List Ac) {k : Nat} (h : k < l.length) : actsT t (l.take (k + 1)) = actT (actsT t (l.take k)) (acAt l k) := by
  rw [List.take_add_one, List.getElem?_eq_getElem h, ← acAt_get h]
  simp [actsT]
theorem actT_nbs (t : Tb) (a : Ac) : (actT t a).nbs = t.nbs ∧ (actT t a).self = t.self ∧ (actT t a).age = t.age := by
  unfold actT
  split
  · unfold setT; split <;> exact ⟨rfl, rfl, rfl⟩
  · split
    · unfold hearT; split <;> exact ⟨rfl, rfl, rfl⟩
    · split
      · exact ⟨rfl, rfl, rfl⟩
      · exact ⟨rfl, rfl, rfl⟩
theorem actsT_nbs (l : List Ac) : ∀ t : Tb, (actsT t l).nbs = t.nbs ∧ (actsT t l).self = t.self := by
  induction l with
  | nil => intro t; exact ⟨rfl, rfl⟩
  | cons a l ih =>
    intro t
    have h := ih (actT t a)
    have h2 := actT_nbs t a
    exact ⟨h.1.trans h2.1, h.2.trans h2.2.1⟩
theorem Acts.below {w w' : World} {A : Option Addr} {ls : List Ac} (h : Acts w A ls) (hb : Below w.heap.size w w') : Acts w' A ls := fun j hj => by
  obtain ⟨b, off, R, cr, e, h1, c0, c1, c2, c3, hi⟩ := h j hj
  exact ⟨b, off, R, cr, e, Nat.lt_of_lt_of_le h1 hb.size, (hb.cell (p := ⟨b, off + j * 4, none⟩) h1).trans c0, (hb.cell (p := ⟨b, off + j * 4 + 1, none⟩) h1).trans c1, (hb.cell (p := ⟨b, off + j * 4 + 2, none⟩) h1).trans c2, (hb.cell (p := ⟨b, off + j * 4 + 3, none⟩) h1).trans c3, hi.le, hi.sz, (hi.rd.below hb).more hb.size, hi.nil⟩
/-- The cells of call j, as the region's load of it reads them. -/
theorem Acts.range {w : World} {b off : Nat} {ls : List Ac} {j : Nat} {R : Option Addr} {cr : Nat} (c0 : w.cell? ⟨b, off + j * 4, none⟩ = some (.int .i64 (acAt ls j).k)) (c1 : w.cell? ⟨b, off + j * 4 + 1, none⟩ = some (.int .i64 (acAt ls j).d)) (c2 : w.cell? ⟨b, off + j * 4 + 2, none⟩ = some (.int .i64 (acAt ls j).v)) (c3 : w.cell? ⟨b, off + j * 4 + 3, none⟩ = some (.slice R (acAt ls j).p.length cr)) :
    w.rangeAt b (off + j * 4) (acV (acAt ls j).k (acAt ls j).d (acAt ls j).v R (acAt ls j).p.length cr).toList := fun i u hu => by
  match i, hu with
  | 0, hu => simp [acV] at hu; subst hu; exact c0
  | 1, hu => simp [acV] at hu; subst hu; exact c1
  | 2, hu => simp [acV] at hu; subst hu; exact c2
  | 3, hu => simp [acV] at hu; subst hu; exact c3
  | n + 4, hu => simp [acV] at hu
theorem ac_size (k d v : Int) (R : Option Addr) (n c : Nat) : (Try.prog.info? 40).map (·.size) = some (acV k d v R n c).toList.length := by
  show _ = some 4
  kernel_rfl
/-- Both tables, the box of the reference's, behind some calls. -/
structure Bth (w W : World) (D mb : Nat) (v : Value) (t : Tb) (g : Nat) (q : RQ) (p : Pl) (c : Nat) : Prop where
  tn : Tn w.heap.size W D mb v t
  rq : Rq (NM D mb fun b => b = g ∨ b < w.heap.size) W t q p c
  bx : Bq W g q p
  bel : Below w.heap.size w W
  lo : w.heap.size ≤ g
  gD : D < g
  gm : mb < g
  gv : ∀ k, v.ownBlock = some k → k < g
/-- What the answer's box and the store into the reference's leave. -/
theorem Bth.step {w wr V6 : World} {D mb g g12 : Nat} {v : Value} {t t' : Tb} {q q' : RQ} {p p' : Pl} {c : Nat} {X : Nat → Prop} (h : Bth w wr D mb v t g q p c) (ht : Tn w.heap.size V6 D mb v t') (hr : Rq (NM D mb X) V6 t' q' p' (c + 1)) (hX : ∀ b, b < V6.heap.size → NM D mb X b → b ≠ g ∧ b ≠ g12 ∧ w.heap.size ≤ b) (hz : Bq V6 g12 q0 p0) (hg12 : wr.heap.size ≤ g12) (hb : Below w.heap.size w V6) (hbx : Bq V6 g q p) :
    Bq (V6.setRow g12 (rqV q' p')) g12 q' p' ∧ Bq (V6.setRow g12 (rqV q' p')) g q p ∧ Below w.heap.size w (V6.setRow g12 (rqV q' p')) ∧ Bth w ((V6.setRow g12 (rqV q' p')).setRow g (rqV q' p')) D mb v t' g q' p' (c + 1) := by
  have hgl := h.bx.lt
  have hne : g ≠ g12 := by omega
  have h1 : Bq (V6.setRow g12 (rqV q' p')) g12 q' p' := setRow_heap _ _ _ _ _ _ hz
  have h2 : Bq (V6.setRow g12 (rqV q' p')) g q p := (setRow_other _ _ g _ hne).trans hbx
  have hws := h.bel.size
  have hb1 : Below w.heap.size w (V6.setRow g12 (rqV q' p')) := Sb.below_setRow _ hb (by omega)
  have k1 : But (fun b => b = g12) V6 (V6.setRow g12 (rqV q' p')) := (But.refl (fun b => b = g12) V6).setRow (D := g12) (.inl rfl) _
  have k2 : But (fun b => b = g) (V6.setRow g12 (rqV q' p')) ((V6.setRow g12 (rqV q' p')).setRow g (rqV q' p')) := (But.refl (fun b => b = g) _).setRow (D := g) (.inl rfl) _
  have e1 := h.gD
  have e2 := h.gm
  refine ⟨h1, h2, hb1, (ht.but k1 (by omega) (by omega) fun k hk e => by have := h.gv k hk; omega).but k2 (by omega) (by omega) fun k hk e => by have := h.gv k hk; omega, ?_, setRow_heap _ _ _ _ _ _ h2, Sb.below_setRow _ hb1 h.lo, h.lo, h.gD, h.gm, h.gv⟩
  exact (((hr.mono (M' := fun b => NM D mb (fun b => b = g ∨ b < w.heap.size) b ∧ b ≠ g12) fun b hlt hb => ⟨⟨hb.1, by obtain ⟨x1, x2, x3⟩ := hX b hlt hb; rintro (e | e); exact x1 e; omega⟩, (hX b hlt hb).2.1⟩).but k1 fun b hb e => hb.2 e).but k2 fun b hb e => hb.1.2 (.inl e)).mono fun b _ hb => hb.1
theorem ret_tct {fn : Func} {R : Ending → World → Prop} {a : Act} {w : World} {g : Nat} {cs : Array Value} {p q r : Tmp} {ty t : TypeId} {fr : Nat × Nat} {d : TypeDesc} (hres : fn.results = #[.tmp p, .cell q ty, .tmp r]) (hq : a.tmps.getD q undef = .pointer (some ⟨g, 0, none⟩)) (hg : w.heap[g]? = some (.cells cs t fr))
    (hd : d.isRow = true) (hu : Try.prog.underlying ty = some d) (hi : (Try.prog.info? ty).map (·.size) = some cs.size) (hdef : a.defers = [])
    (hR : R (.returned (.tuple #[a.tmps.getD p undef, .agg cs, a.tmps.getD r undef])) w) : bodyPost Try.prog fn R .ret a w := by
  have hq' : a.tmps[q]?.getD undef = .pointer (some ⟨g, 0, none⟩) := by simpa using hq
  refine bodyPost_ret (v := .tuple #[a.tmps.getD p undef, .agg cs, a.tmps.getD r undef]) ?_ hdef hR
  simp [results, hres, hq', asAddr, run_loadVar_row w g t ty cs fr d hg hu (by cases d <;> first | rfl | cases hd) hi]
/-- done's first boxes. -/
structure Dn2 (w W : World) (sf : Int) (R : Option Addr) (n c : Nat) (age : Int) : Prop where
  s : W.heap[w.heap.size]? = some (.cells (stV sf R n c age) 24 (0, 0))
  z : Bq W (w.heap.size + 1) q0 p0
  bel : Below w.heap.size w W
  sz : W.heap.size = w.heap.size + 2
theorem dn_boxes (w : World) (self : Int) (R : Option Addr) (n c : Nat) (age : Int) : Dn2 w ((w.alloc (.cells (stV self R n c age) 24)).alloc (.cells (rqV q0 p0) 33)) self R n c age := by
  refine ⟨(Below.heap_alloc _ _ _ (by simp)).trans (heap_alloc_new w _), ?_, Mi.below_alloc (Mi.below_alloc (Below.refl _ _)), by simp⟩
  have := box_rq q0 p0 (w.alloc (.cells (stV self R n c age) 24))
  rwa [World.size_alloc] at this
theorem wp_alloc_rq2 {o : Oper} {a : Act} {w : World} {K : Act → World → Prop} {Q : Exit → Act → World → Prop} (ho : o.op = .alloc 33) (g : Nat) (hg : w.heap.size = g) (h : K (a.put o.dst (.pointer (some ⟨g, 0, none⟩))) (w.alloc (.cells (rqV q0 p0) 33 (0, 0)))) : o.wp Try.prog a w K Q := by
  subst hg
  unfold Oper.wp
  rw [alloc_rq _ _ ho, Oper.upon_value]
  exact h
theorem Tn.low_ {s s' : Nat} {w : World} {D mb : Nat} {v : Value} {t : Tb} (h : Tn s' w D mb v t) (hs : s ≤ s') : Tn s w D mb v t := ⟨h.tq, h.ok, h.nl, Nat.le_trans hs h.gD, Nat.le_trans hs h.gm, fun k hk => Nat.le_trans hs (h.gv k hk)⟩
theorem Rq.more_ {M : Nat → Prop} {w : World} {t : Tb} {q : RQ} {p : Pl} {c c' : Nat} (h : Rq M w t q p c) (hc : c ≤ c') : Rq M w t q p c' := ⟨h.rf, h.rel, Nat.le_trans h.sl hc, Nat.le_trans h.ll hc⟩
theorem Tn.lower {s s' : Nat} {w w' : World} {D mb : Nat} {v : Value} {t t' : Tb} (h : Tn s' w' D mb v t') (h0 : Tn s w D mb v t) (hn : t'.nbs.length = t.nbs.length) : Tn s w' D mb v t' := ⟨h.tq, h.ok, h.nl, h0.gD, h0.gm, h0.gv⟩
set_option maxRecDepth 100000 in
set_option maxHeartbeats 8000000 in
theorem done_bad (self age : Int) (R : Option Addr) (n c : Nat) (l : List Int) (A : Option Addr) (len cap : Nat) (w : World) (hs : Mi.BySlice w R n c l ∧ c * 8 ≤ 140737488351232) (hE : newE self l age ≠ 0) :
    Calls Try.prog 20 #[.agg (stV self R n c age), .slice A len cap] w fun e w' => e = .returned (.tuple #[.pointer none, .agg (rqV q0 p0), .bool false]) ∧ Hid (Below w.heap.size w w') := by
  obtain ⟨⟨hln, hlc, hcm, hrd, hnil, _⟩, hc8⟩ := hs
  subst hln
  have HT := Lib.hid (dn_boxes w self R l.length c age)
  have HRD : Hid (Mi.Rd ((w.alloc (.cells (stV self R l.length c age) 24)).alloc (.cells (rqV q0 p0) 33)) w.heap.size R l) := hrd.below HT.out.bel
  have HNIL : Hid (R = none → l.length = 0 ∧ c = 0) := hnil
  have hl6 : l.length ≤ 9223372036854775806 := by omega
  obtain ⟨w1, hw1⟩ : ∃ w1, (w.alloc (.cells (stV self R l.length c age) 24)).alloc (.cells (rqV q0 p0) 33) = w1 := ⟨_, rfl⟩
  have HW1 : Hid ((w.alloc (.cells (stV self R l.length c age) 24)).alloc (.cells (rqV q0 p0) 33) = w1) := hw1
  rw [hw1] at HT HRD
  obtain ⟨c0, c1, c2⟩ := st_cells HT.out.s
  clear hw1
  have HN := Lib.hid (New_bad self age R c w.heap.size l w1 HRD hl6 hE)
  have HR := Lib.hid (RNew_bad self age R c w.heap.size l w1 HRD HT.out.bel.size hl6 hE)
  obtain ⟨E, hE2⟩ : ∃ E : Int, ((newE self l age : Nat) : Int) = E := ⟨_, rfl⟩
  have g1 : (E != 0) = true := bne_iff_ne.mpr (by omega)
  rw [hE2] at HN HR
  clear hE hE2
  go_enter Try.func20, Try.ntmps20
  go_wp2_with (first
    | (refine Mi.allocTo rfl (.pointer (some ⟨_, 0, none⟩)) (.cells (stV self R l.length c age) 24 (0, 0)) (exec_boxs _ _ self age R l.length c (.tmp 0) rfl rfl _) ?_)
    | (refine allocAt rfl (w.heap.size + 1) (.cells (rqV q0 p0) 33 (0, 0)) (alloc_rq _ _ rfl _) (World.size_alloc _ _) ?_; rw [HW1.out])
    | (go_at_call 9; refine HN.out.mono ?_; rintro e w' ⟨rfl, rfl⟩)
    | (go_at_call 10; refine HR.out.mono ?_; rintro e w2 ⟨rfl, hb2⟩; have HZ2 : Hid (Bq (w2.alloc (.cells (rqV q0 p0) 33)) w2.heap.size q0 p0) := box_rq q0 p0 w2)
    | (refine Mi.allocTo rfl (.pointer (some ⟨_, 0, none⟩)) (.cells (rqV q0 p0) 33 (0, 0)) (alloc_rq _ _ rfl _) ?_)
    | (refine wpList_store_row rfl 33 (.tmp 9) (.tmp 32) rfl w2.heap.size (rqV q0 p0) rfl rfl 33 _ HZ2.out (rq_size _ _) rfl (rq_one _ _) ?_))
  have HB9 : Hid (Bq ((w2.alloc (.cells (rqV q0 p0) 33)).setRow w2.heap.size (rqV q0 p0)) w2.heap.size q0 p0) := setRow_heap _ _ _ _ _ _ HZ2.out
  have hb3 : Below w1.heap.size w1 ((w2.alloc (.cells (rqV q0 p0) 33)).setRow w2.heap.size (rqV q0 p0)) := Sb.below_setRow _ (hb2.out.alloc hb2.out.size _) hb2.out.size
  obtain ⟨w3, hw3⟩ : ∃ w3, (w2.alloc (.cells (rqV q0 p0) 33)).setRow w2.heap.size (rqV q0 p0) = w3 := ⟨_, rfl⟩
  rw [hw3] at HB9 hb3 ⊢
  clear hw3
  have hz3 : Bq w3 (w.heap.size + 1) q0 p0 := HT.out.z.at_ hb3 (by have := HT.out.sz; omega)
  refine wp_region_held_drew (S := fun W => Bq W w2.heap.size q0 p0) (by kernel_rfl) HB9.out (fun hHeld => ?_)
  refine wpAnyH_take (i := 0) (v := .pointer none) rfl (by kernel_rfl) (by kernel_rfl) (by kernel_rfl) (fun _ _ _ h => h) (Or.inl ⟨by rfl, ?_⟩) (by first | assumption | exact trivial) ?_
  · intro W hSW; go_simp; try (with_reducible rfl)
  simp only [Act.put, List.getElem_toArray, List.getElem_cons_succ, List.getElem_cons_zero, List.setIfInBounds_toArray, List.set_cons_zero, List.set_cons_succ]
  refine wpAnyH_take (i := 1) (v := .agg (rqV q0 p0)) rfl (by kernel_rfl) (by kernel_rfl) (by kernel_rfl) (fun _ _ _ h => h) (yieldsIf_load_rq (by rfl) (.tmp 9) rfl w2.heap.size rfl q0 p0 (fun W hW => hW)) (by first | assumption | exact trivial) ?_
  simp only [Act.put, List.getElem_toArray, List.getElem_cons_succ, List.getElem_cons_zero, List.setIfInBounds_toArray, List.set_cons_zero, List.set_cons_succ]
  refine wpAnyH_take (i := 2) (v := .pointer none) rfl (by kernel_rfl) (by kernel_rfl) (by kernel_rfl) (fun _ _ _ h => h) (Or.inl ⟨by rfl, ?_⟩) (by first | assumption | exact trivial) ?_
  · intro W hSW; go_simp; try (with_reducible rfl)
  simp only [Act.put, List.getElem_toArray, List.getElem_cons_succ, List.getElem_cons_zero, List.setIfInBounds_toArray, List.set_cons_zero, List.set_cons_succ]
  refine wpAnyH_ready (rs := [3]) (by kernel_rfl) (by simp) ?_
  refine AllReadyH.cons rfl (fun K hK => ?_) AllReadyH.nil
  refine wp_store_row 33 (.tmp 5) (.tmp 45) rfl (w.heap.size + 1) (rqV q0 p0) rfl rfl 33 _ hz3 (rq_size _ _) rfl (rq_one _ _) ?_
  refine hK.out _ _ ((setRow_other _ _ _ _ (by have := hb2.out.size; have := HT.out.sz; omega)).trans HB9.out) (fun hHeld => ?_)
  clear hK K
  refine wpAnyH_take (i := 4) (v := .bool false) rfl (by kernel_rfl) (by kernel_rfl) (by kernel_rfl) (fun _ _ _ h => h) (Or.inl ⟨by rfl, ?_⟩) (by first | assumption | exact trivial) ?_
  · intro W hSW; go_simp; try (with_reducible rfl)
  simp only [Act.put, List.getElem_toArray, List.getElem_cons_succ, List.getElem_cons_zero, List.setIfInBounds_toArray, List.set_cons_zero, List.set_cons_succ]
  refine wpAnyH_done (by kernel_rfl) ?_ _
  go_wp2
  refine ret_tct rfl rfl (setRow_heap _ _ _ _ _ _ hz3) rfl Try.underlying33 (rq_size _ _) rfl ⟨rfl, ?_⟩
  exact Sb.below_setRow _ (HT.out.bel.trans (hb3.mono HT.out.bel.size)).drew (Nat.le_succ _)
end Go.Proofs.Ytablejhajilpiaa.Rt
