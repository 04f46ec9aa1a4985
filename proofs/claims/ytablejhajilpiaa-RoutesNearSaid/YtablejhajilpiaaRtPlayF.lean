/- The law's play, further calls. -/
import Derived.Test.YtablejhajilpiaaRtPlay0
namespace Go.Proofs.Ytablejhajilpiaa.Rt
open Go.RowKit Go.Maps
open Go.Proofs.Ytablejhajilpiaa.Sb
set_option linter.unusedVariables false
set_option linter.unusedSimpArgs false
set_option maxRecDepth 100000 in
set_option maxHeartbeats 4000000 in
theorem play2 {X : Nat → Prop} {s : Nat} (w : World) (D mb : Nat) (v : Value) (t : Tb) (q : RQ) (p : Pl) (c : Nat) (h : Hid (Tn s w D mb v t)) (hq : Hid (Rq (NM D mb X) w t q p c)) (hc : c ≤ 999) (hX : ∀ b, X b → b < w.heap.size) (d x : Int) (R : Option Addr) (n cr : Nat) :
    Calls Try.prog 12 #[.pointer (some ⟨D, 0, none⟩), .agg (rqV q p), .agg (acV 2 d x R n cr)] w (PlayP X s w D mb v (tickT t) c) := by
  have HT := Lib.hid (thr_boxes w q p 2 d x R n cr)
  obtain ⟨w1, hw1⟩ : ∃ w1, ((w.alloc (.cells (rqV q p) 33)).alloc (.cells (acV 2 d x R n cr) 40)).alloc (.cells (rqV q0 p0) 33) = w1 := ⟨_, rfl⟩
  have HW1 : Hid (((w.alloc (.cells (rqV q p) 33)).alloc (.cells (acV 2 d x R n cr) 40)).alloc (.cells (rqV q0 p0) 33) = w1) := hw1
  rw [hw1] at HT
  clear hw1
  obtain ⟨a0, a1, a2, a3⟩ := act_cells HT.out.a
  have hDw := h.out.tq.lt
  have hmw := h.out.tq.ltm
  have hM : ∀ (W : World), Below w.heap.size w W → ∀ b, W.heap.size ≤ b → NM D mb X b := fun W hW b hb => ⟨⟨by have := hW.size; omega, by have := hW.size; omega⟩, fun hx => by have := hX b hx; have := hW.size; omega⟩
  have HM := Lib.hid hM
  clear hM
  have HS := Lib.hid (RTick_f (M := fun b => NM D mb X b ∧ b ≠ w.heap.size + 2) (Lib.hid ((hq.out.mono (fun b hb hm => ⟨hm, by omega⟩)).below HT.out.bel)) h.out.ok hc (fun b hb => ⟨HM.out _ HT.out.bel b hb, by have := HT.out.sz; omega⟩))
  have HTP := Lib.hid (fun (W : World) (hW : Below w1.heap.size w1 W) => Tick_f (Lib.hid ((h.out.below HT.out.bel).below hW)))
  have hsz : Hid (w1.heap.size = w.heap.size + 3) := HT.out.sz
  go_enter Try.func12, Try.ntmps12
  go_wp2_with (first
    | (refine Mi.allocTo rfl (.pointer (some ⟨_, 0, none⟩)) (.cells (rqV q p) 33 (0, 0)) (exec_boxq _ _ q p (.tmp 1) rfl rfl _) ?_)
    | (refine allocAt rfl (w.heap.size + 1) (.cells (acV 2 d x R n cr) 40 (0, 0)) (exec_boxa _ _ 2 d x R n cr (.tmp 2) rfl rfl _) (World.size_alloc _ _) ?_)
    | (refine allocAt rfl (w.heap.size + 2) (.cells (rqV q0 p0) 33 (0, 0)) (alloc_rq _ _ rfl _) ((World.size_alloc _ _).trans (congrArg (· + 1) (World.size_alloc _ _))) ?_; rw [HW1.out])
    | (refine wpList_load_row rfl 33 (.tmp 4) rfl w.heap.size rfl 33 _ (0, 0) _ HT.out.b Try.underlying33 rfl (rq_size _ _) ?_)
    | (go_at_call 38; refine HS.out.mono ?_; rintro e w2 ⟨q', p', rfl, hq2, hb2⟩)
    | (go_at_call 24; refine (HTP.out w2 hb2.out).mono ?_; rintro e w3 ⟨rfl, ht3, hb3⟩; have HZ : Hid (Bq w3 (w.heap.size + 2) q0 p0) := (hb3.out.same _ (by (have := hb2.out.size; have := hsz.out; omega)) (by (rintro (e | e) <;> omega))).trans ((hb2.out.block _ (by (have := hsz.out; omega))).trans HT.out.z))
    | (refine wpList_store_row rfl 33 (.tmp 6) (.tmp 73) rfl (w.heap.size + 2) (rqV q' p') rfl rfl 33 _ HZ.out (rq_size _ _) rfl (rq_one _ _) ?_))
  have hb5 : But (fun k => k = w.heap.size + 2) w3 (w3.setRow (w.heap.size + 2) (rqV q' p')) := (But.refl (fun k => k = w.heap.size + 2) w3).setRow (D := w.heap.size + 2) (.inl rfl) _
  have h5w : But (DM D mb) w (w3.setRow (w.heap.size + 2) (rqV q' p')) := ((bel_but HT.out.bel (bel_but hb2.out hb3.out)).trans hb5 (fun b hb e => by omega))
  have h5t : Tn s (w3.setRow (w.heap.size + 2) (rqV q' p')) D mb v (tickT t) := ht3.out.but hb5 (by omega) (by omega) fun k hk e => by have := h.out.tq.ltv k hk; omega
  have h5q : Rq (NM D mb X) (w3.setRow (w.heap.size + 2) (rqV q' p')) (tickT t) q' p' (c + 1) := ((hq2.out.but hb3.out fun b hb e => by rcases e with e | e; exact hb.1.1.1 e; exact hb.1.1.2 e).but hb5 fun b hb e => hb.2 e).mono fun b _ hb => hb.1
  exact ret_box2 rfl rfl (setRow_heap _ _ _ _ _ _ HZ.out) rfl Try.underlying33 (rq_size _ _) rfl ⟨q', p', rfl, h5t, h5q, h5w⟩
set_option maxRecDepth 100000 in
set_option maxHeartbeats 4000000 in
theorem play3 {X : Nat → Prop} {s : Nat} (w : World) (D mb : Nat) (v : Value) (t : Tb) (q : RQ) (p : Pl) (c : Nat) (h : Hid (Tn s w D mb v t)) (hq : Hid (Rq (NM D mb X) w t q p c)) (hc : c ≤ 999) (hX : ∀ b, X b → b < w.heap.size) (k d x : Int) (R : Option Addr) (n cr : Nat) (hk0 : k ≠ 0) (hk1 : k ≠ 1) (hk2 : k ≠ 2) :
    Calls Try.prog 12 #[.pointer (some ⟨D, 0, none⟩), .agg (rqV q p), .agg (acV k d x R n cr)] w (PlayP X s w D mb v t c) := by
  have HT := Lib.hid (thr_boxes w q p k d x R n cr)
  obtain ⟨w1, hw1⟩ : ∃ w1, ((w.alloc (.cells (rqV q p) 33)).alloc (.cells (acV k d x R n cr) 40)).alloc (.cells (rqV q0 p0) 33) = w1 := ⟨_, rfl⟩
  have HW1 : Hid (((w.alloc (.cells (rqV q p) 33)).alloc (.cells (acV k d x R n cr) 40)).alloc (.cells (rqV q0 p0) 33) = w1) := hw1
  rw [hw1] at HT
  clear hw1
  obtain ⟨a0, a1, a2, a3⟩ := act_cells HT.out.a
  have hDw := h.out.tq.lt
  have hmw := h.out.tq.ltm
  have hM : ∀ (W : World), Below w.heap.size w W → ∀ b, W.heap.size ≤ b → NM D mb X b := fun W hW b hb => ⟨⟨by have := hW.size; omega, by have := hW.size; omega⟩, fun hx => by have := hX b hx; have := hW.size; omega⟩
  have HM := Lib.hid hM
  clear hM
  have HZ : Hid (Bq w1 (w.heap.size + 2) q0 p0) := HT.out.z
  have g0 : (k == 0) = false := beq_eq_false_iff_ne.mpr hk0
  have g1 : (k == 1) = false := beq_eq_false_iff_ne.mpr hk1
  have g2 : (k == 2) = false := beq_eq_false_iff_ne.mpr hk2
  go_enter Try.func12, Try.ntmps12
  go_wp2_with (first
    | (refine Mi.allocTo rfl (.pointer (some ⟨_, 0, none⟩)) (.cells (rqV q p) 33 (0, 0)) (exec_boxq _ _ q p (.tmp 1) rfl rfl _) ?_)
    | (refine allocAt rfl (w.heap.size + 1) (.cells (acV k d x R n cr) 40 (0, 0)) (exec_boxa _ _ k d x R n cr (.tmp 2) rfl rfl _) (World.size_alloc _ _) ?_)
    | (refine allocAt rfl (w.heap.size + 2) (.cells (rqV q0 p0) 33 (0, 0)) (alloc_rq _ _ rfl _) ((World.size_alloc _ _).trans (congrArg (· + 1) (World.size_alloc _ _))) ?_; rw [HW1.out])
    | (refine wpList_load_row rfl 33 (.tmp 4) rfl w.heap.size rfl 33 _ (0, 0) _ HT.out.b Try.underlying33 rfl (rq_size _ _) ?_)
    | (refine wpList_store_row rfl 33 (.tmp 6) (.tmp 77) rfl (w.heap.size + 2) (rqV q p) rfl rfl 33 _ HZ.out (rq_size _ _) rfl (rq_one _ _) ?_))
  have hb5 : But (fun k => k = w.heap.size + 2) w1 (w1.setRow (w.heap.size + 2) (rqV q p)) := (But.refl (fun k => k = w.heap.size + 2) w1).setRow (D := w.heap.size + 2) (.inl rfl) _
  have h5w : But (DM D mb) w (w1.setRow (w.heap.size + 2) (rqV q p)) := (But.of_below HT.out.bel).trans hb5 (fun b hb e => by omega)
  have h5t : Tn s (w1.setRow (w.heap.size + 2) (rqV q p)) D mb v t := (h.out.below HT.out.bel).but hb5 (by omega) (by omega) fun k hk e => by have := h.out.tq.ltv k hk; omega
  have h5q : Rq (NM D mb X) (w1.setRow (w.heap.size + 2) (rqV q p)) t q p (c + 1) := (fun r => ⟨r.rf, r.rel, Nat.le_succ_of_le r.sl, Nat.le_succ_of_le r.ll⟩ : Rq (NM D mb X) (w1.setRow (w.heap.size + 2) (rqV q p)) t q p c → _) ((((hq.out.mono (M' := fun b => NM D mb X b ∧ b ≠ w.heap.size + 2) (fun b hb hm => ⟨hm, by omega⟩)).below HT.out.bel).but hb5 fun b hb e => hb.2 e).mono fun b _ hb => hb.1)
  exact ret_box2 rfl rfl (setRow_heap _ _ _ _ _ _ HZ.out) rfl Try.underlying33 (rq_size _ _) rfl ⟨q, p, rfl, h5t, h5q, h5w⟩
/-- A slice of ints of one's own, to be written over: n of them, in a block from lo on. -/
structure Ob (w : World) (A : Option Addr) (n lo : Nat) : Prop where
  some_ : ∀ g off, A = some ⟨g, off, none⟩ → off = 0 ∧ lo ≤ g ∧ ∃ cs, w.heap[g]? = some (.cells cs 3 (0, 0)) ∧ n ≤ cs.size
  none_ : (∀ g off, A ≠ some ⟨g, off, none⟩) → n = 0
section
variable {w w' : World} {A : Option Addr} {n lo : Nat}
theorem own_ob {B : Nat} {v : Value} {l : List Int} (h : Mi.Own w B v l) : ∃ A c, v = .slice A l.length c ∧ Ob w A l.length B := by
  have hl := h.lt
  rcases h.2 with ⟨h1, h2⟩ | ⟨g, cap, cur, h1, h2, h3, h4, h5, h6, h7⟩
  · have : l = [] := by simpa using h2
    subst this
    exact ⟨none, 0, h1, ⟨(fun g off e => by cases e), fun _ => rfl⟩⟩
  · subst h1
    refine ⟨_, cap, rfl, ⟨fun g' off e => ?_, fun hno => absurd rfl (hno g 0)⟩⟩
    cases e
    exact ⟨rfl, h2, cur, h3, by rw [h6]; omega⟩
theorem Ob.ge (h : Ob w A n lo) {g off : Nat} (e : A = some ⟨g, off, none⟩) : lo ≤ g := (h.some_ g off e).2.1
theorem Ob.lt (h : Ob w A n lo) {g off : Nat} (e : A = some ⟨g, off, none⟩) : g < w.heap.size := by
  obtain ⟨_, _, cs, hc, _⟩ := h.some_ g off e
  exact (Array.getElem?_eq_some_iff.1 hc).1
theorem own_rd {l : List Int} {B c m : Nat} (ho : Mi.Own w B (.slice A m c) l) : Mi.Rd w w.heap.size A l := by
  obtain ⟨A', c', e, _, _, hr, _⟩ := ho.form
  injection e with e1 e2 e3
  subst e1
  exact hr
theorem Ob.same (h : Ob w A n lo) (hs : ∀ g off, A = some ⟨g, off, none⟩ → w'.heap[g]? = w.heap[g]?) : Ob w' A n lo := ⟨fun g off e => by
  obtain ⟨a, b, cs, hc, hz⟩ := h.some_ g off e
  exact ⟨a, b, cs, (hs g off e).trans hc, hz⟩, h.none_⟩
theorem Ob.below (h : Ob w A n lo) (hb : Below w.heap.size w w') : Ob w' A n lo := h.same fun g off e => hb.block g (h.lt e)
theorem Ob.but {S : Nat → Prop} (h : Ob w A n lo) (hb : But S w w') (hS : ∀ g, A = some ⟨g, 0, none⟩ → ¬ S g) : Ob w' A n lo := h.same fun g off e => hb.same g (h.lt e) (hS g (by obtain ⟨a, _⟩ := h.some_ g off e; subst a; exact e))
theorem Ob.cell (h : Ob w A n lo) {k : Nat} (hk : k < n) : ∃ g, A = some ⟨g, 0, none⟩ ∧ lo ≤ g ∧ (∃ u, w.cell? ⟨g, k, none⟩ = some u) ∧ w.frozen? ⟨g, k, none⟩ = false := by
  by_cases hA : ∃ g off, A = some ⟨g, off, none⟩
  · obtain ⟨g, off, e⟩ := hA
    obtain ⟨a, b, cs, hc, hz⟩ := h.some_ g off e
    subst a
    refine ⟨g, e, b, ⟨cs[k]'(by omega), ?_⟩, frozen_of_row w g k _ _ hc⟩
    rw [cell_of_row w g k _ _ (0, 0) hc]
    exact Array.getElem?_eq_getElem _
  · have := h.none_ fun g off e => hA ⟨g, off, e⟩
    omega
theorem Ob.set {g : Nat} (h : Ob w (some ⟨g, 0, none⟩) n lo) {k : Nat} (hk : k < n) : Ob (w.setCell ⟨g, k, none⟩ (.int .i64 1)) (some ⟨g, 0, none⟩) n lo := ⟨fun g' off e => by
  cases e
  obtain ⟨a, b, cs, hc, hz⟩ := h.some_ g 0 rfl
  exact ⟨rfl, b, cs.setIfInBounds k (.int .i64 1), heap_setCell_same w g k _ _ _ hc, by rw [Array.size_setIfInBounds]; exact hz⟩, fun hno => absurd rfl (hno g 0)⟩
end
set_option maxRecDepth 100000 in
set_option maxHeartbeats 4000000 in
theorem play1 {X : Nat → Prop} {s : Nat} (w : World) (D mb : Nat) (v : Value) (t : Tb) (q : RQ) (p : Pl) (c : Nat) (h : Hid (Tn s w D mb v t)) (hq : Hid (Rq (NM D mb X) w t q p c)) (hc : c ≤ 999) (hX : ∀ b, X b → b < w.heap.size) (d x : Int) (R : Option Addr) (l : List Int) (cr : Nat) (ha : Hid (AcIn w ⟨1, d, x, l⟩ R cr)) :
    Calls Try.prog 12 #[.pointer (some ⟨D, 0, none⟩), .agg (rqV q p), .agg (acV 1 d x R l.length cr)] w (PlayP X s w D mb v (hearT t x l) c) := by
  have HT := Lib.hid (thr_boxes w q p 1 d x R l.length cr)
  obtain ⟨w1, hw1⟩ : ∃ w1, ((w.alloc (.cells (rqV q p) 33)).alloc (.cells (acV 1 d x R l.length cr) 40)).alloc (.cells (rqV q0 p0) 33) = w1 := ⟨_, rfl⟩
  have HW1 : Hid (((w.alloc (.cells (rqV q p) 33)).alloc (.cells (acV 1 d x R l.length cr) 40)).alloc (.cells (rqV q0 p0) 33) = w1) := hw1
  rw [hw1] at HT
  clear hw1
  obtain ⟨a0, a1, a2, a3⟩ := act_cells HT.out.a
  have hDw := h.out.tq.lt
  have hmw := h.out.tq.ltm
  have hM : ∀ (W : World), Below w.heap.size w W → ∀ b, W.heap.size ≤ b → NM D mb X b := fun W hW b hb => ⟨⟨by have := hW.size; omega, by have := hW.size; omega⟩, fun hx => by have := hX b hx; have := hW.size; omega⟩
  have HM := Lib.hid hM
  clear hM
  have hnl : Hid (l.length ≤ 9223372036854775806) := by show _ ≤ _; have h1 : l.length ≤ cr := ha.out.le; have := ha.out.sz; omega
  have HRD : Hid (Mi.Rd w1 w.heap.size R l) := ha.out.rd.below HT.out.bel
  have HLB : Hid ((([] : List Int).length + l.length) * 8 ≤ 140737488355328) := by show _ ≤ _; have h1 : l.length ≤ cr := ha.out.le; have := ha.out.sz; simp; omega
  have HNIL : Hid (R = none → l.length = 0 ∧ cr = 0) := ha.out.nil
  have hsz : Hid (w1.heap.size = w.heap.size + 3) := HT.out.sz
  obtain ⟨E, hE⟩ : ∃ E : Int, ((hearE t x l : Nat) : Int) = E := ⟨_, rfl⟩
  have HEE : Hid (((hearE t x l : Nat) : Int) = E) := hE
  obtain ⟨n, hn⟩ : ∃ n, l.length = n := ⟨_, rfl⟩
  have HNN : Hid (l.length = n) := hn
  rw [hn] at a3 HT HW1 ⊢
  have a3' : (w1.alloc (.cells #[] 3)).cell? ⟨w.heap.size + 1, 3, none⟩ = some (.slice R n cr) := (Below.cell (B := w1.heap.size) (Mi.below_alloc (Below.refl _ _)) (p := ⟨w.heap.size + 1, 3, none⟩) (by show w.heap.size + 1 < _; have := hsz.out; omega)).trans a3
  clear hE hn
  go_enter Try.func12, Try.ntmps12
  go_wp2_with (first
    | (refine Mi.allocTo rfl (.pointer (some ⟨_, 0, none⟩)) (.cells (rqV q p) 33 (0, 0)) (exec_boxq _ _ q p (.tmp 1) rfl rfl _) ?_)
    | (refine allocAt rfl (w.heap.size + 1) (.cells (acV 1 d x R n cr) 40 (0, 0)) (exec_boxa _ _ 1 d x R n cr (.tmp 2) rfl rfl _) (World.size_alloc _ _) ?_)
    | (refine allocAt rfl (w.heap.size + 2) (.cells (rqV q0 p0) 33 (0, 0)) (alloc_rq _ _ rfl _) ((World.size_alloc _ _).trans (congrArg (· + 1) (World.size_alloc _ _))) ?_; rw [HW1.out])
    | (refine wpList_load_row rfl 33 (.tmp 4) rfl w.heap.size rfl 33 _ (0, 0) _ HT.out.b Try.underlying33 rfl (rq_size _ _) ?_)
    | (at_builtin; refine Mi.app rfl (.tmp 39) (.tmp 41) rfl w1.heap.size w.heap.size _ [] l rfl (Mi.Own.lit (Below.refl _ _)) (Mi.below_alloc (Below.refl _ _)) (by simp) R n cr HNN.out.symm rfl (HRD.out.below ((Below.refl _ _).alloc HT.out.bel.size _)) HNIL.out HLB.out ?_; intro v2 w2 ho2 hb2 _; rw [List.nil_append] at ho2; have HO2 := Lib.hid ho2; have HB2 := Lib.hid hb2; clear ho2 hb2; obtain ⟨A9, c9, rfl, hob⟩ := own_ob HO2.out; rw [HNN.out] at hob ⊢; have HOBk := Lib.hid hob; clear hob
       have HT2b : Hid (Bq w2 w.heap.size q p) := HT.out.b.at_ HB2.out (by (have := hsz.out; omega))
       have HT2a : Hid (w2.heap[w.heap.size + 1]? = some (.cells (acV 1 d x R n cr) 40 (0, 0))) := (HB2.out.block _ (by (have := hsz.out; omega))).trans HT.out.a
       have HT2z : Hid (Bq w2 (w.heap.size + 2) q0 p0) := HT.out.z.at_ HB2.out (by (have := hsz.out; omega))
       have HSR := Lib.hid (RHear_f (M := fun b => (NM D mb X b ∧ b ≠ w.heap.size + 2) ∧ ∀ g off, A9 = some ⟨g, off, none⟩ → b ≠ g) (Lib.hid ((hq.out.mono (fun b hb hm => ⟨⟨hm, by omega⟩, fun g off e => by (have := HOBk.out.ge e; have := hsz.out; omega)⟩)).below (HT.out.bel.trans (HB2.out.mono (by (have := hsz.out; omega)))))) h.out.ok h.out.nl hc (fun b hb => ⟨⟨HM.out w2 (HT.out.bel.trans (HB2.out.mono (by (have := hsz.out; omega)))) b hb, by (have := HB2.out.size; have := hsz.out; omega)⟩, fun g off e => by (have := HOBk.out.lt e; omega)⟩) x R cr w.heap.size l (Lib.hid (ha.out.rd.below (HT.out.bel.trans (HB2.out.mono (by (have := hsz.out; omega)))))) (by (have := HB2.out.size; have := hsz.out; omega)) hnl.out)
       rw [HEE.out, HNN.out] at HSR
       clear a0 a1 a2 a3 a3'
       obtain ⟨a0, a1, a2, a3⟩ := act_cells HT2a.out)
    | (refine wpList_load_row rfl 33 (.tmp 4) rfl w.heap.size rfl 33 _ (0, 0) _ HT2b.out Try.underlying33 rfl (rq_size _ _) ?_)
    | (go_at_call 37; refine HSR.out.mono ?_; rintro e w3 ⟨q', p', rfl, hq3, hb3⟩; have HZ3 : Hid (Bq (w3.alloc (.cells (rqV q0 p0) 33)) w3.heap.size q0 p0) := box_rq q0 p0 w3)
    | (refine Mi.allocTo rfl (.pointer (some ⟨_, 0, none⟩)) (.cells (rqV q0 p0) 33 (0, 0)) (alloc_rq _ _ rfl _) ?_)
    | (refine wpList_store_row rfl 33 (.tmp 11) (.tmp 50) rfl w3.heap.size (rqV q' p') rfl rfl 33 _ HZ3.out (rq_size _ _) rfl (rq_one _ _) ?_
       have HB8 : Hid (Bq ((w3.alloc (.cells (rqV q0 p0) 33)).setRow w3.heap.size (rqV q' p')) w3.heap.size q' p') := setRow_heap _ _ _ _ _ _ HZ3.out
       have hb4 : Below w3.heap.size w3 ((w3.alloc (.cells (rqV q0 p0) 33)).setRow w3.heap.size (rqV q' p')) := Sb.below_setRow _ (Mi.below_alloc (Below.refl _ _)) (Nat.le_refl _)
       obtain ⟨w4, hw4⟩ : ∃ w4, (w3.alloc (.cells (rqV q0 p0) 33)).setRow w3.heap.size (rqV q' p') = w4 := ⟨_, rfl⟩
       rw [hw4] at HB8 hb4 ⊢
       clear hw4
       have k4 : Hid (Below w2.heap.size w2 w4) := go_on hb3.out hb4
       have HR4 : Hid (Mi.Rd w4 w2.heap.size A9 l) := (own_rd HO2.out).below k4.out
       have HHP := Lib.hid (Hear_any (Lib.hid (((h.out.below HT.out.bel).below HB2.out).below k4.out)) x A9 c9 w2.heap.size l HR4 k4.out.size hnl.out)
       rw [HEE.out, HNN.out] at HHP
       have HT4a : Hid (w4.heap[w.heap.size + 1]? = some (.cells (acV 1 d x R n cr) 40 (0, 0))) := (k4.out.block _ (by (have := HB2.out.size; have := hsz.out; omega))).trans HT2a.out
       clear a0 a1 a2 a3
       obtain ⟨a0, a1, a2, a3⟩ := act_cells HT4a.out)
    | (go_at_call 23; refine HHP.out.mono ?_; rintro e w5 ⟨rfl, ht5, hb5⟩))
  clear a0 a1 a2 a3
  have hS : Hid (w.heap.size + 3 ≤ w2.heap.size ∧ w2.heap.size ≤ w3.heap.size ∧ w3.heap.size < w4.heap.size ∧ w4.heap.size ≤ w5.heap.size) := ⟨by have := HB2.out.size; have := hsz.out; omega, hb3.out.size, HB8.out.lt, hb5.out.size⟩
  have HOB5 : Hid (Ob w5 A9 n w1.heap.size) := (HOBk.out.below k4.out).but hb5.out fun g e => (by rintro (e2 | e2) <;> (have := HOBk.out.ge e; have := hsz.out; omega))
  have HI0 : Hid (∀ g, A9 = some ⟨g, 0, none⟩ → g < w2.heap.size) := fun g e => HOBk.out.lt e
  go_loopw [14] (fun i wr => ∃ k : Nat, k ≤ n ∧ i = .int .i64 k ∧ Hid (Ob wr A9 n w1.heap.size) ∧ Hid (But (fun b => ∃ off, A9 = some ⟨b, off, none⟩) w5 wr)) (fun i _ => n - (intOf i).toNat)
  case atStart => exact ⟨0, Nat.zero_le _, rfl, HOB5, But.refl _ _⟩
  case round =>
    obtain ⟨k, hk, rfl, HOb, HBr⟩ := hrel
    by_cases hlt : k < n
    · obtain ⟨g, rfl, hg1, hcl, hfz⟩ := HOb.out.cell hlt
      have hki : (k : Int) < (n : Int) := by omega
      have hn6 : n ≤ 9223372036854775806 := by rw [← HNN.out]; exact hnl.out
      have HN1 : Hid (Ob (wr.setCell ⟨g, k, none⟩ (.int .i64 1)) (some ⟨g, 0, none⟩) n w1.heap.size) := HOb.out.set hlt
      have HN2 : Hid (But (fun b => ∃ off, (some ⟨g, 0, none⟩ : Option Addr) = some ⟨b, off, none⟩) w5 (wr.setCell ⟨g, k, none⟩ (.int .i64 1))) := HBr.out.set (p := ⟨g, k, none⟩) (.inl ⟨0, rfl⟩) _
      obtain ⟨u, hu⟩ := hcl
      go_wp2
      go_roundw
      case rel => exact ⟨k + 1, by omega, by go_num, HN1, HN2⟩
      case measure => simp [intOf]; omega
    · obtain rfl : k = n := by omega
      have hgo : Hid (∀ b, (∃ off, A9 = some ⟨b, off, none⟩) → w1.heap.size ≤ b ∧ b < w2.heap.size) := fun b ⟨off, e⟩ => ⟨HOBk.out.ge e, HOBk.out.lt e⟩
      have HB8r : Hid (Bq wr w3.heap.size q' p') := (HBr.out.same _ (by have := hS.out; omega) (fun e => by have := hgo.out _ e; have := hS.out; omega)).trans ((hb5.out.same _ HB8.out.lt (by rintro (e | e) <;> (have := hS.out; omega))).trans HB8.out)
      have HZ : Hid (Bq wr (w.heap.size + 2) q0 p0) := (HBr.out.same _ (by have := hS.out; omega) (fun e => by have := hgo.out _ e; have := hsz.out; omega)).trans ((hb5.out.same _ (by have := hS.out; omega) (by rintro (e | e) <;> omega)).trans ((k4.out.block _ (by have := hS.out; omega)).trans HT2z.out))
      go_wp2_with (first
        | (refine wpList_load_row rfl 33 (.tmp 11) rfl w3.heap.size rfl 33 _ (0, 0) _ HB8r.out Try.underlying33 rfl (rq_size _ _) ?_)
        | (refine wpList_store_row rfl 33 (.tmp 6) (.tmp 66) rfl (w.heap.size + 2) (rqV q' p') rfl rfl 33 _ HZ.out (rq_size _ _) rfl (rq_one _ _) ?_))
      have hb6 : But (fun k => k = w.heap.size + 2) wr (wr.setRow (w.heap.size + 2) (rqV q' p')) := (But.refl (fun k => k = w.heap.size + 2) wr).setRow (D := w.heap.size + 2) (.inl rfl) _
      have kw4 : Below w.heap.size w w4 := go_on (HT.out.bel.trans (HB2.out.mono HT.out.bel.size)) k4.out
      have h5w : But (DM D mb) w (wr.setRow (w.heap.size + 2) (rqV q' p')) := ((bel_but kw4 hb5.out).trans HBr.out (fun b hb e => by have := hgo.out b e; have := hsz.out; omega)).trans hb6 (fun b hb e => by omega)
      have h5t : Tn s (wr.setRow (w.heap.size + 2) (rqV q' p')) D mb v (hearT t x l) := (ht5.out.but HBr.out (fun e => by have := hgo.out _ e; have := hsz.out; omega) (fun e => by have := hgo.out _ e; have := hsz.out; omega) fun k hk e => by have := h.out.tq.ltv k hk; have := hgo.out _ e; have := hsz.out; omega).but hb6 (by omega) (by omega) fun k hk e => by have := h.out.tq.ltv k hk; omega
      have h5q : Rq (NM D mb X) (wr.setRow (w.heap.size + 2) (rqV q' p')) (hearT t x l) q' p' (c + 1) := ((((hq3.out.below hb4).but hb5.out fun b hb e => by rcases e with e | e; exact hb.1.1.1.1 e; exact hb.1.1.1.2 e).but HBr.out fun b hb ⟨off, e⟩ => hb.2 b off e rfl).but hb6 fun b hb e => hb.1.2 e).mono fun b _ hb => hb.1.1
      exact ret_box2 rfl rfl (setRow_heap _ _ _ _ _ _ HZ.out) rfl Try.underlying33 (rq_size _ _) rfl ⟨q', p', rfl, h5t, h5q, h5w⟩
theorem play_any {X : Nat → Prop} {s : Nat} (w : World) (D mb : Nat) (v : Value) (t : Tb) (q : RQ) (p : Pl) (c : Nat) (h : Hid (Tn s w D mb v t)) (hq : Hid (Rq (NM D mb X) w t q p c)) (hc : c ≤ 999) (hX : ∀ b, X b → b < w.heap.size) (a : Ac) (R : Option Addr) (cr : Nat) (ha : Hid (AcIn w a R cr)) :
    Calls Try.prog 12 #[.pointer (some ⟨D, 0, none⟩), .agg (rqV q p), .agg (acV a.k a.d a.v R a.p.length cr)] w (PlayP X s w D mb v (actT t a) c) := by
  obtain ⟨k, d, x, l⟩ := a
  unfold actT
  by_cases h0 : k = 0
  · subst h0
    simp only [if_true]
    exact play0 w D mb v t q p c h hq hc hX d x R l.length cr
  · by_cases h1 : k = 1
    · subst h1
      exact play1 w D mb v t q p c h hq hc hX d x R l cr ha
    · by_cases h2 : k = 2
      · subst h2
        exact play2 w D mb v t q p c h hq hc hX d x R l.length cr
      · simp only [if_neg h0, if_neg h1, if_neg h2]
        exact play3 w D mb v t q p c h hq hc hX k d x R l.length cr h0 h1 h2
end Go.Proofs.Ytablejhajilpiaa.Rt
