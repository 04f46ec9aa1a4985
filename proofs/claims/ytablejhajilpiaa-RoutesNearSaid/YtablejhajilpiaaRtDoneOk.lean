/- The law's done: where it goes well; both tables behind some calls. -/
import Derived.Test.YtablejhajilpiaaRtDone
namespace Go.Proofs.Ytablejhajilpiaa.Rt
open Go.RowKit Go.Maps
open Go.Proofs.Ytablejhajilpiaa.Sb
set_option linter.unusedVariables false
set_option linter.unusedSimpArgs false

/-- The act's cells at every world in which the arguments lie as they lay. -/
theorem acts_hid {w : World} {A : Option Addr} {ls : List Ac} (h : Acts w A ls) {k : Nat} (hk : k < ls.length) : ∃ b off R cr, A = some ⟨b, off, none⟩ ∧ ∀ W, Below w.heap.size w W → W.rangeAt b (off + k * 4) (acV (acAt ls k).k (acAt ls k).d (acAt ls k).v R (acAt ls k).p.length cr).toList ∧ AcIn W (acAt ls k) R cr := by
  obtain ⟨b, off, R, cr, e, h1, c0, c1, c2, c3, hi⟩ := h k hk
  exact ⟨b, off, R, cr, e, fun W hW => ⟨Acts.range ((hW.cell (p := ⟨b, off + k * 4, none⟩) h1).trans c0) ((hW.cell (p := ⟨b, off + k * 4 + 1, none⟩) h1).trans c1) ((hW.cell (p := ⟨b, off + k * 4 + 2, none⟩) h1).trans c2) ((hW.cell (p := ⟨b, off + k * 4 + 3, none⟩) h1).trans c3), hi.le, hi.sz, (hi.rd.below hW).more hW.size, hi.nil⟩⟩
set_option maxRecDepth 100000 in
set_option maxHeartbeats 8000000 in
theorem done_ok (self age : Nat) (R : Option Addr) (n c : Nat) (l : List Int) (A : Option Addr) (len cap : Nat) (ls : List Ac) (w : World) (hs : Mi.BySlice w R n c l ∧ c * 8 ≤ 140737488351232) (hE : newE (self : Int) l (age : Int) = 0) (hl : len = ls.length ∧ len ≤ cap ∧ cap ≤ 9223372036854775807 ∧ Acts w A ls) :
    Calls Try.prog 20 #[.agg (stV (self : Int) R n c (age : Int)), .slice A len cap] w fun e w' => ∃ D mb v q p, e = .returned (.tuple #[.pointer (some ⟨D, 0, none⟩), .agg (rqV q p), .bool true]) ∧ Hid (Below w.heap.size w w') ∧ Hid (Tn w.heap.size w' D mb v (actsT (newT self age l) (ls.take 40))) ∧ Hid (Rq (NM D mb fun b => b < w.heap.size) w' (actsT (newT self age l) (ls.take 40)) q p 40) := by
  obtain ⟨⟨hln, hlc, hcm, hrd, hnil, _⟩, hc8⟩ := hs
  subst hln
  have HT := Lib.hid (dn_boxes w (self : Int) R l.length c (age : Int))
  have HRD : Hid (Mi.Rd ((w.alloc (.cells (stV (self : Int) R l.length c (age : Int)) 24)).alloc (.cells (rqV q0 p0) 33)) w.heap.size R l) := hrd.below HT.out.bel
  have HNIL : Hid (R = none → l.length = 0 ∧ c = 0) := hnil
  have hl6 : l.length ≤ 9223372036854775806 := by omega
  obtain ⟨w1, hw1⟩ : ∃ w1, (w.alloc (.cells (stV (self : Int) R l.length c (age : Int)) 24)).alloc (.cells (rqV q0 p0) 33) = w1 := ⟨_, rfl⟩
  have HW1 : Hid ((w.alloc (.cells (stV (self : Int) R l.length c (age : Int)) 24)).alloc (.cells (rqV q0 p0) 33) = w1) := hw1
  rw [hw1] at HT HRD
  obtain ⟨c0, c1, c2⟩ := st_cells HT.out.s
  clear hw1
  have HN := Lib.hid (New_ok self age R c w.heap.size l w1 HRD HNIL HT.out.bel.size hE)
  have HRN := Lib.hid (fun (W : World) (hW : Below w1.heap.size w1 W) => RNew_ok (M := fun b => W.heap.size ≤ b) (self : Int) (age : Int) R c w.heap.size l W (Lib.hid ((HRD.out.below (hW.mono HT.out.bel.size)))) HNIL (Nat.le_trans HT.out.bel.size hW.size) (fun _ h => h) hE)
  have HST := Lib.hid (fun (W : World) (hW : Below w1.heap.size w1 W) => st_cells ((hW.block _ (by have := HT.out.sz; omega)).trans HT.out.s))
  obtain ⟨hln2, hlc2, hcm2, hac⟩ := hl
  have HAC : Hid (Acts w1 A ls) := hac.below HT.out.bel
  have HLN : Hid (len = ls.length) := hln2
  have hlen6 : len ≤ 9223372036854775807 := Nat.le_trans hlc2 hcm2
  obtain ⟨N, hN⟩ : ∃ N, min len 40 = N := ⟨_, rfl⟩
  have hNN : N ≤ len ∧ N ≤ 40 ∧ (N = len ∨ (N = 40 ∧ 40 < len)) := by omega
  have HTK : Hid (ls.take 40 = ls.take N) := by
    show _ = _
    rcases hNN.2.2 with e | ⟨e, _⟩
    · rw [List.take_of_length_le (by omega), List.take_of_length_le (by omega)]
    · rw [e]
  clear hln2 hac hE hN hc8 hl6
  go_enter Try.func20, Try.ntmps20
  go_wp2_with (first
    | (refine Mi.allocTo rfl (.pointer (some ⟨_, 0, none⟩)) (.cells (stV (self : Int) R l.length c (age : Int)) 24 (0, 0)) (exec_boxs _ _ (self : Int) (age : Int) R l.length c (.tmp 0) rfl rfl _) ?_)
    | (refine allocAt rfl (w.heap.size + 1) (.cells (rqV q0 p0) 33 (0, 0)) (alloc_rq _ _ rfl _) (World.size_alloc _ _) ?_; rw [HW1.out])
    | (go_at_call 9; refine HN.out.mono ?_; rintro e w2 ⟨D, mb, v, rfl, ht2, hb2⟩; clear c0 c1 c2; obtain ⟨c0, c1, c2⟩ := HST.out w2 hb2.out; have HRN2 := Lib.hid (HRN.out w2 hb2.out))
    | (go_at_call 10; refine HRN2.out.mono ?_; rintro e w3 ⟨p, rfl, hr3, hb3⟩; have HZ3 : Hid (Bq (w3.alloc (.cells (rqV q0 p0) 33)) w3.heap.size q0 p0) := box_rq q0 p0 w3)
    | (refine Mi.allocTo rfl (.pointer (some ⟨_, 0, none⟩)) (.cells (rqV q0 p0) 33 (0, 0)) (alloc_rq _ _ rfl _) ?_)
    | (refine wpList_store_row rfl 33 (.tmp 9) (.tmp 32) rfl w3.heap.size (rqV (newQ (self : Int) (age : Int) l) p) rfl rfl 33 _ HZ3.out (rq_size _ _) rfl (rq_one _ _) ?_))
  have HB0 : Hid (Bth w1 ((w3.alloc (.cells (rqV q0 p0) 33)).setRow w3.heap.size (rqV (newQ (self : Int) (age : Int) l) p)) D mb v (newT self age l) w3.heap.size (newQ (self : Int) (age : Int) l) p 0) := by
    have hb4 : Below w3.heap.size w3 ((w3.alloc (.cells (rqV q0 p0) 33)).setRow w3.heap.size (rqV (newQ (self : Int) (age : Int) l) p)) := Sb.below_setRow _ (Mi.below_alloc (Below.refl _ _)) (Nat.le_refl _)
    have e1 := ht2.out.tq.lt
    have e2 := ht2.out.tq.ltm
    have e3 := hb3.out.size
    have e4 := hb2.out.size
    refine ⟨(ht2.out.below hb3.out).below hb4, ⟨?_, Rel.new, Nat.le_refl _, Nat.le_refl _⟩, setRow_heap _ _ _ _ _ _ HZ3.out, go_on (go_on hb2.out hb3.out) hb4, by omega, by omega, by omega, fun k hk => by have := ht2.out.tq.ltv k hk; omega⟩
    exact (hr3.out.mono fun b hlt hb => ⟨⟨by omega, by omega⟩, by rintro (e | e) <;> omega⟩).below hb4
  obtain ⟨g, hg⟩ : ∃ g, w3.heap.size = g := ⟨_, rfl⟩
  obtain ⟨w4, hw4⟩ : ∃ w4, (w3.alloc (.cells (rqV q0 p0) 33)).setRow w3.heap.size (rqV (newQ (self : Int) (age : Int) l) p) = w4 := ⟨_, rfl⟩
  rw [hw4] at HB0 ⊢
  rw [hg] at HB0 ⊢
  clear hw4 hg c0 c1 c2 hr3 HZ3 HRN2 HN HRN
  clear ht2
  go_loopw [11] (fun k wr => ∃ (i : Nat) (q : RQ) (p : Pl), i ≤ N ∧ k = .int .i64 i ∧ Hid (Bth w1 wr D mb v (actsT (newT self age l) (ls.take i)) g q p i)) (fun k _ => N - (intOf k).toNat)
  case atStart => exact ⟨0, _, _, Nat.zero_le _, rfl, HB0⟩
  case round =>
    obtain ⟨k, q, p, hk, rfl, HBt⟩ := hrel
    clear HB0
    by_cases hlt : k < N
    · obtain ⟨b, off, R, cr, rfl, hca⟩ := acts_hid HAC.out (k := k) (by rw [← HLN.out]; omega)
      have hst : Hid (actsT (newT self age l) (ls.take (k + 1)) = actT (actsT (newT self age l) (ls.take k)) (acAt ls k)) := actsT_snoc (newT self age l) ls (by rw [← HLN.out]; omega)
      obtain ⟨a, ha⟩ : ∃ a, acAt ls k = a := ⟨_, rfl⟩
      obtain ⟨t, ht⟩ : ∃ t, actsT (newT self age l) (ls.take k) = t := ⟨_, rfl⟩
      rw [ha] at hca hst
      rw [ht] at hst HBt
      have HRG : Hid (∀ W, Below w1.heap.size w1 W → W.rangeAt b (off + k * 4) (acV a.k a.d a.v R a.p.length cr).toList) := fun W hW => (hca W hW).1
      have HPL : Hid (∀ (X : Nat → Prop) (W : World), Below wr.heap.size wr W → (∀ b, X b → b < W.heap.size) → (∀ b, b < wr.heap.size → NM D mb (fun b => b = g ∨ b < w1.heap.size) b → NM D mb X b) → Calls Try.prog 12 #[.pointer (some ⟨D, 0, none⟩), .agg (rqV q p), .agg (acV a.k a.d a.v R a.p.length cr)] W (PlayP X w1.heap.size W D mb v (actT t a) k)) := fun X W hW h1 h2 => play_any W D mb v t q p k (Lib.hid (HBt.out.tn.below hW)) (Lib.hid ((HBt.out.rq.mono h2).below hW)) (by omega) h1 a R cr (Lib.hid (hca W (go_on HBt.out.bel hW)).2)
      have hki : (k : Int) < (len : Int) := by omega
      have hk40 : (k : Int) < 40 := by omega
      clear hca ha ht
      go_wp2
      refine wp_region_held_drew (S := fun W => Bq W g q p ∧ Below w1.heap.size w1 W) (by kernel_rfl) ⟨HBt.out.bx, HBt.out.bel.drew⟩ (fun hHeld => ?_)
      refine wpAnyH_take (i := 0) (v := .pointer (some ⟨D, 0, none⟩)) rfl (by kernel_rfl) (by kernel_rfl) (by kernel_rfl) (fun _ _ _ h => h) (Or.inl ⟨by rfl, ?_⟩) (by first | assumption | exact trivial) ?_
      · intro W hSW; go_simp; try (with_reducible rfl)
      simp only [Act.put, List.getElem_toArray, List.getElem_cons_succ, List.getElem_cons_zero, List.setIfInBounds_toArray, List.set_cons_zero, List.set_cons_succ]
      refine wpAnyH_take (i := 1) (v := .agg (rqV q p)) rfl (by kernel_rfl) (by kernel_rfl) (by kernel_rfl) (fun _ _ _ h => h) (yieldsIf_load_rq (by rfl) (.tmp 9) rfl g rfl q p (fun W hW => hW.1)) (by first | assumption | exact trivial) ?_
      simp only [Act.put, List.getElem_toArray, List.getElem_cons_succ, List.getElem_cons_zero, List.setIfInBounds_toArray, List.set_cons_zero, List.set_cons_succ]
      refine wpAnyH_take (i := 2) (v := .slice (some ⟨b, off, none⟩) len cap) rfl (by kernel_rfl) (by kernel_rfl) (by kernel_rfl) (fun _ _ _ h => h) (Or.inl ⟨by rfl, ?_⟩) (by first | assumption | exact trivial) ?_
      · intro W hSW; go_simp; try (with_reducible rfl)
      simp only [Act.put, List.getElem_toArray, List.getElem_cons_succ, List.getElem_cons_zero, List.setIfInBounds_toArray, List.set_cons_zero, List.set_cons_succ]
      refine wpAnyH_take (i := 3) (v := .int .i64 (k : Int)) rfl (by kernel_rfl) (by kernel_rfl) (by kernel_rfl) (fun _ _ _ h => h) (Or.inl ⟨by rfl, ?_⟩) (by first | assumption | exact trivial) ?_
      · intro W hSW; go_simp; try (with_reducible rfl)
      simp only [Act.put, List.getElem_toArray, List.getElem_cons_succ, List.getElem_cons_zero, List.setIfInBounds_toArray, List.set_cons_zero, List.set_cons_succ]
      refine wpAnyH_take (i := 4) (v := .pointer (some ⟨b, off + k * 4, none⟩)) rfl (by kernel_rfl) (by kernel_rfl) (by kernel_rfl) (fun _ _ _ h => h) (Or.inl ⟨by rfl, ?_⟩) (by first | assumption | exact trivial) ?_
      · intro W hSW; have q6 := hki; go_simp; try (with_reducible rfl)
      simp only [Act.put, List.getElem_toArray, List.getElem_cons_succ, List.getElem_cons_zero, List.setIfInBounds_toArray, List.set_cons_zero, List.set_cons_succ]
      refine wpAnyH_take (i := 5) (v := .agg (acV a.k a.d a.v R a.p.length cr)) rfl (by kernel_rfl) (by kernel_rfl) (by kernel_rfl) (fun _ _ _ h => h) (yieldsIf_load_mid (by rfl) 40 (.tmp 61) rfl b (off + k * 4) rfl (acV a.k a.d a.v R a.p.length cr).toList _ (fun W hW => HRG.out W hW.2) Try.underlying40 rfl (ac_size _ _ _ _ _ _)) (by first | assumption | exact trivial) ?_
      simp only [Act.put, List.getElem_toArray, List.getElem_cons_succ, List.getElem_cons_zero, List.setIfInBounds_toArray, List.set_cons_zero, List.set_cons_succ]
      refine wpAnyH_ready (rs := [6, 10]) (by kernel_rfl) (by simp) ?_
      refine AllReadyH.cons rfl (fun K hK => ?pa) (AllReadyH.cons rfl (fun K hK => ?pb) AllReadyH.nil)
      case' pa =>
        go_simp
        go_wp2_with (go_at_call 12; refine (HPL.out (fun b => b = g ∨ b < w1.heap.size) wr.drew (Below.refl _ _).drew (fun b hb => by (have := HBt.out.bx.lt; have := HBt.out.bel.size; show b < wr.heap.size; rcases hb with e | e <;> omega)) (fun b _ hb => hb)).mono ?_; rintro e w2 ⟨q', p', rfl, ht2, hr2, hb2⟩)
        have hsz2 : wr.heap.size ≤ w2.heap.size := hb2.out.size
        have hbx2 : Bq w2 g q p := (hb2.out.same g HBt.out.bx.lt (by have := HBt.out.gD; have := HBt.out.gm; rintro (e | e) <;> omega)).trans HBt.out.bx
        have hbl2 : Below w1.heap.size w1 w2 := (HBt.out.bel.drew.trans (hb2.out.below (by exact HBt.out.bel.size) (by have := HBt.out.tn.gD; have := HBt.out.tn.gm; rintro k (e | e) <;> omega)))
        refine hK.out _ _ (⟨hbx2, hbl2⟩) (fun hHeld => ?_)
        clear hK K
        refine wpAnyH_take (i := 7) (v := .tuple #[.agg (rqV q' p'), .bool true]) rfl (by kernel_rfl) (by kernel_rfl) (by kernel_rfl) (fun _ _ _ h => h) (Or.inl ⟨by rfl, ?_⟩) (by first | assumption | exact trivial) ?_
        · intro W hSW; go_simp; try (with_reducible rfl)
        simp only [Act.put, List.getElem_toArray, List.getElem_cons_succ, List.getElem_cons_zero, List.setIfInBounds_toArray, List.set_cons_zero, List.set_cons_succ]
        refine wpAnyH_take (i := 8) (v := .agg (rqV q' p')) rfl (by kernel_rfl) (by kernel_rfl) (by kernel_rfl) (fun _ _ _ h => h) (Or.inl ⟨by rfl, ?_⟩) (by first | assumption | exact trivial) ?_
        · intro W hSW; go_simp; try (with_reducible rfl)
        simp only [Act.put, List.getElem_toArray, List.getElem_cons_succ, List.getElem_cons_zero, List.setIfInBounds_toArray, List.set_cons_zero, List.set_cons_succ]
        refine wpAnyH_take (i := 9) (v := .bool true) rfl (by kernel_rfl) (by kernel_rfl) (by kernel_rfl) (fun _ _ _ h => h) (Or.inl ⟨by rfl, ?_⟩) (by first | assumption | exact trivial) ?_
        · intro W hSW; go_simp; try (with_reducible rfl)
        simp only [Act.put, List.getElem_toArray, List.getElem_cons_succ, List.getElem_cons_zero, List.setIfInBounds_toArray, List.set_cons_zero, List.set_cons_succ]
        refine wpAnyH_ready (rs := [10]) (by kernel_rfl) (by simp) ?_
        refine AllReadyH.cons rfl (fun K hK => ?_) AllReadyH.nil
        rw [if_pos (by kernel_rfl)]
        refine wp_alloc_rq2 rfl w2.heap.size rfl ?_
        simp only [Act.put, List.getElem_toArray, List.getElem_cons_succ, List.getElem_cons_zero, List.setIfInBounds_toArray, List.set_cons_zero, List.set_cons_succ]
        have hx6 : Bq (w2.alloc (.cells (rqV q0 p0) 33)) w2.heap.size q0 p0 := box_rq q0 p0 w2
        have ht6 : Tn w1.heap.size (w2.alloc (.cells (rqV q0 p0) 33)) D mb v (actT t a) := (ht2.out.below (Mi.below_alloc (Below.refl _ _))).lower (HBt.out.tn) (by rw [(actT_nbs t a).1])
        have hr6 : Rq (NM D mb fun b => (b = g ∨ b < w1.heap.size) ∨ b = w2.heap.size) (w2.alloc (.cells (rqV q0 p0) 33)) (actT t a) q' p' (k + 1) := (hr2.out.mono (M' := NM D mb fun b => (b = g ∨ b < w1.heap.size) ∨ b = w2.heap.size) (fun b hlt hb => ⟨hb.1, by rintro (e | e); exact hb.2 e; omega⟩)).below (Mi.below_alloc (Below.refl _ _))
        have hb6 : Below w1.heap.size w1 (w2.alloc (.cells (rqV q0 p0) 33)) := hbl2.alloc hbl2.size _
        have hbx6 : Bq (w2.alloc (.cells (rqV q0 p0) 33)) g q p := hbx2.below (Mi.below_alloc (Below.refl _ _))
        obtain ⟨V6, hV6⟩ : ∃ X, w2.alloc (.cells (rqV q0 p0) 33) = X := ⟨_, rfl⟩
        obtain ⟨g12, hg12⟩ : ∃ X, w2.heap.size = X := ⟨_, rfl⟩
        have hG12 : wr.heap.size ≤ g12 := by rw [← hg12]; exact hsz2
        rw [hV6] at hx6 ht6 hr6 hb6 hbx6 ⊢
        rw [hg12] at hx6 hr6 ⊢
        clear hV6 hg12
        refine hK.out _ _ (⟨hbx6, hb6⟩) (fun hHeld => ?_)
        clear hK K
      case' pb =>
        rw [if_pos (by kernel_rfl)]
        refine wp_alloc_rq2 rfl wr.heap.size rfl ?_
        simp only [Act.put, List.getElem_toArray, List.getElem_cons_succ, List.getElem_cons_zero, List.setIfInBounds_toArray, List.set_cons_zero, List.set_cons_succ]
        have hx5 : Bq (wr.drew.alloc (.cells (rqV q0 p0) 33)) wr.heap.size q0 p0 := box_rq q0 p0 wr
        have hb5 : Below wr.heap.size wr (wr.drew.alloc (.cells (rqV q0 p0) 33)) := (Mi.below_alloc (Below.refl _ _)).drew
        obtain ⟨V5, hV5⟩ : ∃ X, wr.drew.alloc (.cells (rqV q0 p0) 33) = X := ⟨_, rfl⟩
        obtain ⟨g12, hg12⟩ : ∃ X, wr.heap.size = X := ⟨_, rfl⟩
        have hG12 : wr.heap.size ≤ g12 := Nat.le_of_eq hg12
        have hG12' : g12 ≤ wr.heap.size := Nat.le_of_eq hg12.symm
        rw [hV5] at hx5 hb5 ⊢
        rw [hg12] at hx5 ⊢
        clear hV5 hg12
        refine hK.out _ _ (⟨HBt.out.bx.below hb5, go_on HBt.out.bel hb5⟩) (fun hHeld => ?_)
        clear hK K
        refine wpAnyH_ready (rs := [6]) (by kernel_rfl) (by simp) ?_
        refine AllReadyH.cons rfl (fun K hK => ?_) AllReadyH.nil
        go_simp
        go_wp2_with (go_at_call 12; refine (HPL.out (fun b => (b = g ∨ b < w1.heap.size) ∨ b = g12) V5 hb5 (fun b hb => by (have := HBt.out.bx.lt; have := HBt.out.bel.size; have := hx5.lt; have := hb5.size; rcases hb with (e | e) | e <;> omega)) (fun b hlt hb => ⟨hb.1, by (rintro (e | e); exact hb.2 e; omega)⟩)).mono ?_; rintro e w2 ⟨q', p', rfl, ht2, hr2, hb2⟩)
        have hsz5 := hb5.size
        have hbx6 : Bq w2 g q p := (hb2.out.same g (by have := HBt.out.bx.lt; omega) (by have := HBt.out.gD; have := HBt.out.gm; rintro (e | e) <;> omega)).trans (HBt.out.bx.below hb5)
        have hb6 : Below w1.heap.size w1 w2 := ((go_on HBt.out.bel hb5).trans (hb2.out.below (by have := HBt.out.bel.size; omega) (by have := HBt.out.tn.gD; have := HBt.out.tn.gm; rintro k (e | e) <;> omega)))
        have hx6 : Bq w2 g12 q0 p0 := (hb2.out.same g12 hx5.lt (by have := HBt.out.tn.tq.lt; have := HBt.out.tn.tq.ltm; rintro (e | e) <;> omega)).trans hx5
        have ht6 : Tn w1.heap.size w2 D mb v (actT t a) := ht2.out.lower (HBt.out.tn) (by rw [(actT_nbs t a).1])
        have hr6 : Rq (NM D mb fun b => (b = g ∨ b < w1.heap.size) ∨ b = g12) w2 (actT t a) q' p' (k + 1) := hr2.out
        refine hK.out _ _ (⟨hbx6, hb6⟩) (fun hHeld => ?_)
        clear hK K
        refine wpAnyH_take (i := 7) (v := .tuple #[.agg (rqV q' p'), .bool true]) rfl (by kernel_rfl) (by kernel_rfl) (by kernel_rfl) (fun _ _ _ h => h) (Or.inl ⟨by rfl, ?_⟩) (by first | assumption | exact trivial) ?_
        · intro W hSW; go_simp; try (with_reducible rfl)
        simp only [Act.put, List.getElem_toArray, List.getElem_cons_succ, List.getElem_cons_zero, List.setIfInBounds_toArray, List.set_cons_zero, List.set_cons_succ]
        refine wpAnyH_take (i := 8) (v := .agg (rqV q' p')) rfl (by kernel_rfl) (by kernel_rfl) (by kernel_rfl) (fun _ _ _ h => h) (Or.inl ⟨by rfl, ?_⟩) (by first | assumption | exact trivial) ?_
        · intro W hSW; go_simp; try (with_reducible rfl)
        simp only [Act.put, List.getElem_toArray, List.getElem_cons_succ, List.getElem_cons_zero, List.setIfInBounds_toArray, List.set_cons_zero, List.set_cons_succ]
        refine wpAnyH_take (i := 9) (v := .bool true) rfl (by kernel_rfl) (by kernel_rfl) (by kernel_rfl) (fun _ _ _ h => h) (Or.inl ⟨by rfl, ?_⟩) (by first | assumption | exact trivial) ?_
        · intro W hSW; go_simp; try (with_reducible rfl)
        simp only [Act.put, List.getElem_toArray, List.getElem_cons_succ, List.getElem_cons_zero, List.setIfInBounds_toArray, List.set_cons_zero, List.set_cons_succ]
        obtain ⟨V6, hV6⟩ : ∃ X, w2 = X := ⟨_, rfl⟩
        rw [hV6] at hx6 ht6 hr6 hb6 hbx6 ⊢
      all_goals
        obtain ⟨s1, s2, s3, s4⟩ := HBt.out.step (g12 := g12) ht6 hr6 (fun b hlt hb => ⟨fun e => hb.2 (.inl (.inl e)), fun e => hb.2 (.inr e), by (have := fun e => hb.2 (.inl (.inr e)); omega)⟩) hx6 hG12 hb6 hbx6
        refine wpAnyH_ready (rs := [11]) (by kernel_rfl) (by simp) ?_
        refine AllReadyH.cons rfl (fun K hK => ?_) AllReadyH.nil
        refine wp_store_row 33 (.tmp 12) (.tmp 64) rfl g12 (rqV q' p') rfl rfl 33 _ hx6 (rq_size _ _) rfl (rq_one _ _) ?_
        have S1 := Lib.hid s1
        have S2 := Lib.hid s2
        have S3 := Lib.hid s3
        have S4 := Lib.hid s4
        obtain ⟨V7, hV7⟩ : ∃ X, V6.setRow g12 (rqV q' p') = X := ⟨_, rfl⟩
        rw [hV7] at S1 S2 S3 S4 ⊢
        clear s1 s2 s3 s4 hV7 hx6 ht6 hr6 hb6 hbx6
        refine hK.out _ _ (⟨S2.out, S3.out⟩) (fun hHeld => ?_)
        clear hK K
        refine wpAnyH_take (i := 12) (v := .bool true) rfl (by kernel_rfl) (by kernel_rfl) (by kernel_rfl) (fun _ _ _ h => h) (Or.inl ⟨by rfl, ?_⟩) (by first | assumption | exact trivial) ?_
        · intro W hSW; go_simp; try (with_reducible rfl)
        simp only [Act.put, List.getElem_toArray, List.getElem_cons_succ, List.getElem_cons_zero, List.setIfInBounds_toArray, List.set_cons_zero, List.set_cons_succ]
        refine wpAnyH_done (by kernel_rfl) ?_ _
      go_wp2_with (first
        | (refine wpList_load_row rfl 33 (.tmp 12) rfl g12 rfl 33 _ (0, 0) _ S1.out Try.underlying33 rfl (rq_size _ _) ?_)
        | (refine wpList_store_row rfl 33 (.tmp 9) (.tmp 66) rfl g (rqV q' p') rfl rfl 33 _ S2.out (rq_size _ _) rfl (rq_one _ _) ?_))
      all_goals
        refine ⟨⟨k + 1, q', p', by omega, by go_num, by rw [hst.out]; exact S4⟩, ?_⟩
        simp [intOf]; omega
    · obtain rfl : k = N := by omega
      rcases hNN.2.2 with e | ⟨e, e2⟩
      case' inl =>
        have hend : ¬ (k : Int) < (len : Int) := by omega
      case' inr =>
        have hen1 : (k : Int) < (len : Int) := by omega
        have hend : ¬ (k : Int) < 40 := by omega
      all_goals
        rw [← HTK.out] at HBt
        have hz9 : Hid (Bq wr (w.heap.size + 1) q0 p0) := HT.out.z.at_ HBt.out.bel (by have := HT.out.sz; omega)
        have hk40 : k ≤ 40 := hNN.2.1
        have hne9 : g ≠ w.heap.size + 1 := by have := HBt.out.lo; have := HT.out.sz; omega
        clear e
        go_wp2
        refine wp_region_held_drew (S := fun W => Bq W g q p) (by kernel_rfl) HBt.out.bx (fun hHeld => ?_)
        refine wpAnyH_take (i := 0) (v := .pointer (some ⟨D, 0, none⟩)) rfl (by kernel_rfl) (by kernel_rfl) (by kernel_rfl) (fun _ _ _ h => h) (Or.inl ⟨by rfl, ?_⟩) (by first | assumption | exact trivial) ?_
        · intro W hSW; go_simp; try (with_reducible rfl)
        simp only [Act.put, List.getElem_toArray, List.getElem_cons_succ, List.getElem_cons_zero, List.setIfInBounds_toArray, List.set_cons_zero, List.set_cons_succ]
        refine wpAnyH_take (i := 1) (v := .agg (rqV q p)) rfl (by kernel_rfl) (by kernel_rfl) (by kernel_rfl) (fun _ _ _ h => h) (yieldsIf_load_rq (by rfl) (.tmp 9) rfl g rfl q p (fun W hW => hW)) (by first | assumption | exact trivial) ?_
        simp only [Act.put, List.getElem_toArray, List.getElem_cons_succ, List.getElem_cons_zero, List.setIfInBounds_toArray, List.set_cons_zero, List.set_cons_succ]
        refine wpAnyH_take (i := 2) (v := .pointer (some ⟨D, 0, none⟩)) rfl (by kernel_rfl) (by kernel_rfl) (by kernel_rfl) (fun _ _ _ h => h) (Or.inl ⟨by rfl, ?_⟩) (by first | assumption | exact trivial) ?_
        · intro W hSW; go_simp; try (with_reducible rfl)
        simp only [Act.put, List.getElem_toArray, List.getElem_cons_succ, List.getElem_cons_zero, List.setIfInBounds_toArray, List.set_cons_zero, List.set_cons_succ]
        refine wpAnyH_ready (rs := [3]) (by kernel_rfl) (by simp) ?_
        refine AllReadyH.cons rfl (fun K hK => ?_) AllReadyH.nil
        refine wp_store_row 33 (.tmp 5) (.tmp 68) rfl (w.heap.size + 1) (rqV q p) rfl rfl 33 _ hz9.out (rq_size _ _) rfl (rq_one _ _) ?_
        refine hK.out _ _ ((setRow_other _ _ _ _ hne9).trans HBt.out.bx) (fun hHeld => ?_)
        clear hK K
        refine wpAnyH_take (i := 4) (v := .bool true) rfl (by kernel_rfl) (by kernel_rfl) (by kernel_rfl) (fun _ _ _ h => h) (Or.inl ⟨by rfl, ?_⟩) (by first | assumption | exact trivial) ?_
        · intro W hSW; go_simp; try (with_reducible rfl)
        simp only [Act.put, List.getElem_toArray, List.getElem_cons_succ, List.getElem_cons_zero, List.setIfInBounds_toArray, List.set_cons_zero, List.set_cons_succ]
        refine wpAnyH_done (by kernel_rfl) ?_ _
        go_wp2
        refine ret_tct rfl rfl (setRow_heap _ _ _ _ _ _ hz9.out) rfl Try.underlying33 (rq_size _ _) rfl ?_
        have k1 : But (fun b => b = w.heap.size + 1) wr.drew (wr.drew.setRow (w.heap.size + 1) (rqV q p)) := (But.refl (fun b => b = w.heap.size + 1) wr.drew).setRow (D := w.heap.size + 1) (.inl rfl) _
        have hs2 := HT.out.sz
        have hgD := HBt.out.tn.gD
        have hgm := HBt.out.tn.gm
        refine ⟨D, mb, v, q, p, rfl, Sb.below_setRow _ ((HT.out.bel.trans (HBt.out.bel.mono HT.out.bel.size)).drew) (Nat.le_succ _), ?_, ?_⟩
        · exact ((HBt.out.tn.below (Below.refl _ _).drew).but k1 (by omega) (by omega) fun b hb e => by have := HBt.out.tn.gv b hb; omega).low_ (by omega)
        · exact (((HBt.out.rq.below (Below.refl _ _).drew).but k1 fun b hb e => hb.2 (.inr (by omega))).mono fun b _ hb => ⟨hb.1, fun e => hb.2 (.inr (by omega))⟩).more_ hk40
end Go.Proofs.Ytablejhajilpiaa.Rt
