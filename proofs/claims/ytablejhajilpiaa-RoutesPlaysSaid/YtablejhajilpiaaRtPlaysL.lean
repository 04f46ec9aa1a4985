/- RoutesPlays: any calls of any table, and the document's. -/
import Derived.Test.YtablejhajilpiaaRtVecL
namespace Go.Proofs.Ytablejhajilpiaa.Rt
open Go.RowKit Go.Maps
open Go.Proofs.Ytablejhajilpiaa.Sb
set_option linter.unusedVariables false
set_option linter.unusedSimpArgs false
theorem fromsI_len (kept : Nat → Option Nw) : (fromsI kept).length ≤ 64 := by unfold fromsI; rw [List.length_map]; exact froms_len kept
/-- Both tables in any world that has only grown. -/
theorem Bth.below {w W W' : World} {D mb g : Nat} {v : Value} {t : Tb} {q : RQ} {p : Pl} {c : Nat} (h : Bth w W D mb v t g q p c) (hb : Below W.heap.size W W') : Bth w W' D mb v t g q p c :=
  ⟨h.tn.below hb, h.rq.below hb, h.bx.below hb, go_on h.bel hb, h.lo, h.gD, h.gm, h.gv⟩
structure PFacts (V : World) (D : Nat) (t : Tb) (q : RQ) (p : Pl) : Prop where
  heard : ∀ W, Below V.heap.size V W → Calls Try.prog 14 #[.pointer (some ⟨D, 0, none⟩)] W fun e w' => ∃ A n c, e = .returned (.slice A n c) ∧ Hid (n = (fromsI t.heard).length) ∧ Hid (Mi.Rd w' w'.heap.size A (fromsI t.heard)) ∧ Hid (Below W.heap.size W w')
  froms : ∀ W, Below V.heap.size V W → Calls Try.prog 15 #[.agg (rqV q p)] W fun e w' => ∃ A n c, e = .returned (.slice A n c) ∧ Hid (n = (fromsI t.heard).length) ∧ Hid (Mi.Rd w' w'.heap.size A (fromsI t.heard)) ∧ Hid (Below W.heap.size W w')
  next : ∀ W, Below V.heap.size V W → ∀ n : Int, Calls Try.prog 16 #[.pointer (some ⟨D, 0, none⟩), .int .i64 n] W fun e w' => e = .returned (.tuple #[.int .i64 (nextN t n).1, .bool (nextN t n).2]) ∧ Hid (Below W.heap.size W w')
  rnext : ∀ W, Below V.heap.size V W → ∀ n : Int, Calls Try.prog 17 #[.agg (rqV q p), .int .i64 n] W fun e w' => e = .returned (.tuple #[.int .i64 (nextN t n).1, .bool (nextN t n).2]) ∧ Hid (Below W.heap.size W w')
  cost : ∀ W, Below V.heap.size V W → ∀ n : Int, Calls Try.prog 18 #[.pointer (some ⟨D, 0, none⟩), .int .i64 n] W fun e w' => e = .returned (.int .i64 (costN t n)) ∧ Hid (Below W.heap.size W w')
  rcost : ∀ W, Below V.heap.size V W → ∀ n : Int, Calls Try.prog 19 #[.agg (rqV q p), .int .i64 n] W fun e w' => e = .returned (.int .i64 (costN t n)) ∧ Hid (Below W.heap.size W w')
theorem plays_facts {w V : World} {D mb g : Nat} {v : Value} {t : Tb} {q : RQ} {p : Pl} {c : Nat} (h : Bth w V D mb v t g q p c) (hc : c ≤ 1000) : PFacts V D t q p := by
  have own : ∀ (w1 : World) (B : Nat) (v : Value) (l : List Int), Mi.Own w1 B v l → ∃ A n c, v = .slice A n c ∧ Hid (n = l.length) ∧ Hid (Mi.Rd w1 w1.heap.size A l) := by
    intro w1 B v l ho
    obtain ⟨A1, c1, e, _, _, g, _, _⟩ := Mi.Own.form ho
    exact ⟨A1, _, c1, e, Lib.hid rfl, g⟩
  have ask := h.rq.asked h.tn.ok h.tn.nl hc
  refine ⟨fun W hW => ?_, fun W hW => ?_, fun W hW n => ?_, fun W hW n => ?_, fun W hW n => ?_, fun W hW n => ?_⟩
  · refine (Heard_any W D mb v t (h.tn.below hW).tq).mono ?_
    rintro e w1 ⟨v1, rfl, ho, hb⟩
    obtain ⟨A1, n1, c1, rfl, hn, hr⟩ := own _ _ _ _ ho.out
    exact ⟨A1, n1, c1, rfl, hn, hr, hb⟩
  · refine (RFroms_any q p W (h.rq.below hW).rf (by have := h.rq.ll; omega)).mono ?_
    rintro e w1 ⟨v1, rfl, ho, hb⟩
    rw [h.rq.rel.froms] at ho
    obtain ⟨A1, n1, c1, rfl, hn, hr⟩ := own _ _ _ _ ho.out
    exact ⟨A1, n1, c1, rfl, hn, hr, hb⟩
  · exact Next_any W D mb v t (h.tn.below hW).tq h.tn.ok n
  · have := RNext_any q p n W (ask.below hW)
    rwa [h.rq.rel.next h.tn.ok n] at this
  · exact Cost_any W D mb v t (h.tn.below hW).tq h.tn.ok n
  · have := RCost_any q p n W (ask.below hW)
    rwa [h.rq.rel.cost h.tn.ok n] at this
set_option maxRecDepth 100000 in
set_option maxHeartbeats 16000000 in
theorem routesPlays (ss sg : Int) (sR : Option Addr) (sn sc : Nat) (l : List Int) (A : Option Addr) (len cap : Nat) (ls : List Ac) (w : World) (hs : Mi.BySlice w sR sn sc l ∧ sc * 8 ≤ 140737488351232) (hl : len = ls.length ∧ len ≤ cap ∧ cap ≤ 9223372036854775807 ∧ Acts w A ls) :
    Calls Try.prog 3 #[.agg #[.int .i64 ss, .slice sR sn sc, .int .i64 sg], .slice A len cap] w fun e w' => e = .returned (.bool true) ∧ Below w.heap.size w w' := by
  obtain ⟨⟨hln, hlc, hcm, hrd, hnil, _⟩, hc8⟩ := hs
  subst hln
  show Calls Try.prog _ #[.agg (stV ss sR l.length sc sg), .slice A len cap] w _
  have hl6 : l.length ≤ 9223372036854775806 := by omega
  have HB : Hid ((w.alloc (.cells (stV ss sR l.length sc sg) 24)).heap[w.heap.size]? = some (.cells (stV ss sR l.length sc sg) 24 (0, 0))) := heap_alloc_new w _
  have HBW : Hid (Below w.heap.size w (w.alloc (.cells (stV ss sR l.length sc sg) 24))) := Mi.below_alloc (Below.refl _ _)
  have HSZ : Hid ((w.alloc (.cells (stV ss sR l.length sc sg) 24)).heap.size = w.heap.size + 1) := World.size_alloc _ _
  obtain ⟨w1, hw1⟩ : ∃ w1, w.alloc (.cells (stV ss sR l.length sc sg) 24) = w1 := ⟨_, rfl⟩
  have HW1 : Hid (w.alloc (.cells (stV ss sR l.length sc sg) 24) = w1) := hw1
  rw [hw1] at HB HBW HSZ
  clear hw1
  have HRD : Hid (Mi.Rd w1 w.heap.size sR l) := hrd.below HBW.out
  have HNIL : Hid (sR = none → l.length = 0 ∧ sc = 0) := hnil
  have HK := Lib.hid awake_any
  obtain ⟨hln2, hlc2, hcm2, hac⟩ := hl
  have HAC : Hid (Acts w1 A ls) := hac.below HBW.out
  have HLN : Hid (len = ls.length) := hln2
  have hlen6 : len ≤ 9223372036854775807 := Nat.le_trans hlc2 hcm2
  obtain ⟨c0, c1, c2⟩ := st_cells HB.out
  clear hln2 hac hc8
  by_cases hE : newE ss l sg = 0
  · obtain ⟨self, age, rfl, rfl⟩ := newE_nat hE
    have HN := Lib.hid (New_ok self age sR sc w.heap.size l w1 HRD HNIL HBW.out.size hE)
    have HRN := Lib.hid (fun (W : World) (hW : Below w1.heap.size w1 W) => RNew_ok (M := fun b => W.heap.size ≤ b) (self : Int) (age : Int) sR sc w.heap.size l W (Lib.hid ((HRD.out.below (hW.mono HBW.out.size)))) HNIL (Nat.le_trans HBW.out.size hW.size) (fun _ h => h) hE)
    have HST := Lib.hid (fun (W : World) (hW : Below w1.heap.size w1 W) => st_cells ((hW.block _ (by have := HSZ.out; omega)).trans HB.out))
    obtain ⟨N, hN⟩ : ∃ N, min len 40 = N := ⟨_, rfl⟩
    have hNN : N ≤ len ∧ N ≤ 40 ∧ (N = len ∨ (N = 40 ∧ 40 < len)) := by omega
    clear hE hN hl6
    go_enter Try.func3, Try.ntmps3
    go_wp2_with (first
      | (refine Mi.allocTo rfl (.pointer (some ⟨_, 0, none⟩)) (.cells (stV (self : Int) sR l.length sc (age : Int)) 24 (0, 0)) (exec_boxs _ _ (self : Int) (age : Int) sR l.length sc (.tmp 0) rfl rfl _) ?_; rw [HW1.out])
      | (go_at_call 9; refine HN.out.mono ?_; rintro e w2 ⟨D, mb, v, rfl, ht2, hb2⟩; clear c0 c1 c2; obtain ⟨c0, c1, c2⟩ := HST.out w2 hb2.out; have HRN2 := Lib.hid (HRN.out w2 hb2.out))
      | (go_at_call 10; refine HRN2.out.mono ?_; rintro e w3 ⟨p, rfl, hr3, hb3⟩; have HZ3 : Hid (Bq (w3.alloc (.cells (rqV q0 p0) 33)) w3.heap.size q0 p0) := box_rq q0 p0 w3)
      | (refine Mi.allocTo rfl (.pointer (some ⟨_, 0, none⟩)) (.cells (rqV q0 p0) 33 (0, 0)) (alloc_rq _ _ rfl _) ?_)
      | (refine wpList_store_row rfl 33 (.tmp 7) (.tmp 35) rfl w3.heap.size (rqV (newQ (self : Int) (age : Int) l) p) rfl rfl 33 _ HZ3.out (rq_size _ _) rfl (rq_one _ _) ?_))
    have HB0 : Hid (Bth w1 ((w3.alloc (.cells (rqV q0 p0) 33)).setRow w3.heap.size (rqV (newQ (self : Int) (age : Int) l) p)) D mb v (newT self age l) w3.heap.size (newQ (self : Int) (age : Int) l) p 0) := by
      have hb4 : Below w3.heap.size w3 ((w3.alloc (.cells (rqV q0 p0) 33)).setRow w3.heap.size (rqV (newQ (self : Int) (age : Int) l) p)) := Sb.below_setRow _ (Mi.below_alloc (Below.refl _ _)) (Nat.le_refl _)
      have e1 := ht2.out.tq.lt
      have e2 := ht2.out.tq.ltm
      have e3 := hb3.out.size
      have e4 := hb2.out.size
      refine ⟨(ht2.out.below hb3.out).below hb4, ⟨?_, Rel.new, Nat.le_refl _, Nat.le_refl _⟩, setRow_heap _ _ _ _ _ _ HZ3.out, go_on (go_on hb2.out hb3.out) hb4, by omega, by omega, by omega, fun k hk => by have := ht2.out.tq.ltv k hk; omega⟩
      exact (hr3.out.mono fun b hlt hb => ⟨⟨by omega, by omega⟩, by rintro (e | e) <;> omega⟩).below hb4
    obtain ⟨g, hg⟩ : ∃ g, w3.heap.size = g := ⟨_, rfl⟩
    obtain ⟨w4, hw4⟩ : ∃ w4, (w3.alloc (.cells (rqV q0 p0) 33)).setRow w3.heap.size (rqV (newQ (self : Int) (age : Int) l) p) = w4 := ⟨_, rfl⟩
    rw [hw4] at HB0 ⊢
    rw [hg] at HB0 ⊢
    clear hw4 hg c0 c1 c2 hr3 HZ3 HRN2 HN HRN
    clear ht2
    go_loopw [9] (fun k wr => ∃ (i : Nat) (q : RQ) (p : Pl), i ≤ N ∧ k = .int .i64 i ∧ Hid (Bth w1 wr D mb v (actsT (newT self age l) (ls.take i)) g q p i)) (fun k _ => N - (intOf k).toNat)
    case atStart => exact ⟨0, _, _, Nat.zero_le _, rfl, HB0⟩
    case round =>
      obtain ⟨k, q, p, hk, rfl, HBt⟩ := hrel
      clear HB0
      by_cases hlt : k < N
      · obtain ⟨b, off, R, cr, rfl, hca⟩ := acts_hid HAC.out (k := k) (by rw [← HLN.out]; omega)
        have hst : Hid (actsT (newT self age l) (ls.take (k + 1)) = actT (actsT (newT self age l) (ls.take k)) (acAt ls k)) := actsT_snoc (newT self age l) ls (by rw [← HLN.out]; omega)
        obtain ⟨a, ha⟩ : ∃ a, acAt ls k = a := ⟨_, rfl⟩
        obtain ⟨t, ht⟩ : ∃ t, actsT (newT self age l) (ls.take k) = t := ⟨_, rfl⟩
        rw [ha] at hca hst
        rw [ht] at hst HBt
        have HRG : Hid (∀ W, Below w1.heap.size w1 W → W.rangeAt b (off + k * 4) (acV a.k a.d a.v R a.p.length cr).toList) := fun W hW => (hca W hW).1
        have HPL : Hid (∀ (X : Nat → Prop) (W : World), Below wr.heap.size wr W → (∀ b, X b → b < W.heap.size) → (∀ b, b < wr.heap.size → NM D mb (fun b => b = g ∨ b < w1.heap.size) b → NM D mb X b) → Calls Try.prog 12 #[.pointer (some ⟨D, 0, none⟩), .agg (rqV q p), .agg (acV a.k a.d a.v R a.p.length cr)] W (PlayP X w1.heap.size W D mb v (actT t a) k)) := fun X W hW h1 h2 => play_any W D mb v t q p k (Lib.hid (HBt.out.tn.below hW)) (Lib.hid ((HBt.out.rq.mono h2).below hW)) (by omega) h1 a R cr (Lib.hid (hca W (go_on HBt.out.bel hW)).2)
        have hki : (k : Int) < (len : Int) := by omega
        have hk40 : (k : Int) < 40 := by omega
        clear hca ha ht
        go_wp2
        refine wp_region_held_drew (S := fun W => Bq W g q p ∧ Below w1.heap.size w1 W) (by kernel_rfl) ⟨HBt.out.bx, HBt.out.bel.drew⟩ (fun hHeld => ?_)
        refine wpAnyH_take (i := 0) (v := .pointer (some ⟨D, 0, none⟩)) rfl (by kernel_rfl) (by kernel_rfl) (by kernel_rfl) (fun _ _ _ h => h) (Or.inl ⟨by rfl, ?_⟩) (by first | assumption | exact trivial) ?_
        · intro W hSW; go_simp; try (with_reducible rfl)
        simp only [Act.put, List.getElem_toArray, List.getElem_cons_succ, List.getElem_cons_zero, List.setIfInBounds_toArray, List.set_cons_zero, List.set_cons_succ]
        refine wpAnyH_take (i := 1) (v := .agg (rqV q p)) rfl (by kernel_rfl) (by kernel_rfl) (by kernel_rfl) (fun _ _ _ h => h) (yieldsIf_load_rq (by rfl) (.tmp 7) rfl g rfl q p (fun W hW => hW.1)) (by first | assumption | exact trivial) ?_
        simp only [Act.put, List.getElem_toArray, List.getElem_cons_succ, List.getElem_cons_zero, List.setIfInBounds_toArray, List.set_cons_zero, List.set_cons_succ]
        refine wpAnyH_take (i := 2) (v := .slice (some ⟨b, off, none⟩) len cap) rfl (by kernel_rfl) (by kernel_rfl) (by kernel_rfl) (fun _ _ _ h => h) (Or.inl ⟨by rfl, ?_⟩) (by first | assumption | exact trivial) ?_
        · intro W hSW; go_simp; try (with_reducible rfl)
        simp only [Act.put, List.getElem_toArray, List.getElem_cons_succ, List.getElem_cons_zero, List.setIfInBounds_toArray, List.set_cons_zero, List.set_cons_succ]
        refine wpAnyH_take (i := 3) (v := .int .i64 (k : Int)) rfl (by kernel_rfl) (by kernel_rfl) (by kernel_rfl) (fun _ _ _ h => h) (Or.inl ⟨by rfl, ?_⟩) (by first | assumption | exact trivial) ?_
        · intro W hSW; go_simp; try (with_reducible rfl)
        simp only [Act.put, List.getElem_toArray, List.getElem_cons_succ, List.getElem_cons_zero, List.setIfInBounds_toArray, List.set_cons_zero, List.set_cons_succ]
        refine wpAnyH_take (i := 4) (v := .pointer (some ⟨b, off + k * 4, none⟩)) rfl (by kernel_rfl) (by kernel_rfl) (by kernel_rfl) (fun _ _ _ h => h) (Or.inl ⟨by rfl, ?_⟩) (by first | assumption | exact trivial) ?_
        · intro W hSW; have q6 := hki; go_simp; try (with_reducible rfl)
        simp only [Act.put, List.getElem_toArray, List.getElem_cons_succ, List.getElem_cons_zero, List.setIfInBounds_toArray, List.set_cons_zero, List.set_cons_succ]
        refine wpAnyH_take (i := 5) (v := .agg (acV a.k a.d a.v R a.p.length cr)) rfl (by kernel_rfl) (by kernel_rfl) (by kernel_rfl) (fun _ _ _ h => h) (yieldsIf_load_mid (by rfl) 40 (.tmp 65) rfl b (off + k * 4) rfl (acV a.k a.d a.v R a.p.length cr).toList _ (fun W hW => HRG.out W hW.2) Try.underlying40 rfl (ac_size _ _ _ _ _ _)) (by first | assumption | exact trivial) ?_
        simp only [Act.put, List.getElem_toArray, List.getElem_cons_succ, List.getElem_cons_zero, List.setIfInBounds_toArray, List.set_cons_zero, List.set_cons_succ]
        refine wpAnyH_ready (rs := [6, 10]) (by kernel_rfl) (by simp) ?_
        refine AllReadyH.cons rfl (fun K hK => ?pa) (AllReadyH.cons rfl (fun K hK => ?pb) AllReadyH.nil)
        case pa =>
          go_simp
          go_wp2_with (go_at_call 12; refine (HPL.out (fun b => b = g ∨ b < w1.heap.size) wr.drew (Below.refl _ _).drew (fun b hb => by (have := HBt.out.bx.lt; have := HBt.out.bel.size; show b < wr.heap.size; rcases hb with e | e <;> omega)) (fun b _ hb => hb)).mono ?_; rintro e w2 ⟨q', p', rfl, ht2, hr2, hb2⟩)
          have hsz2 : wr.heap.size ≤ w2.heap.size := hb2.out.size
          have hbx2 : Bq w2 g q p := (hb2.out.same g HBt.out.bx.lt (by have := HBt.out.gD; have := HBt.out.gm; rintro (e | e) <;> omega)).trans HBt.out.bx
          have hbl2 : Below w1.heap.size w1 w2 := (HBt.out.bel.drew.trans (hb2.out.below (by exact HBt.out.bel.size) (by have := HBt.out.tn.gD; have := HBt.out.tn.gm; rintro k (e | e) <;> omega)))
          refine hK.out _ _ (⟨hbx2, hbl2⟩) (fun hHeld => ?_)
          clear hK K
          refine wpAnyH_take (i := 7) (v := .tuple #[.agg (rqV q' p'), .bool true]) rfl (by kernel_rfl) (by kernel_rfl) (by kernel_rfl) (fun _ _ _ h => h) (Or.inl ⟨by rfl, ?_⟩) (by first | assumption | exact trivial) ?_
          · intro W hSW; go_simp; try (with_reducible rfl)
          simp only [Act.put, List.getElem_toArray, List.getElem_cons_succ, List.getElem_cons_zero, List.setIfInBounds_toArray, List.set_cons_zero, List.set_cons_succ]
          refine wpAnyH_take (i := 8) (v := .agg (rqV q' p')) rfl (by kernel_rfl) (by kernel_rfl) (by kernel_rfl) (fun _ _ _ h => h) (Or.inl ⟨by rfl, ?_⟩) (by first | assumption | exact trivial) ?_
          · intro W hSW; go_simp; try (with_reducible rfl)
          simp only [Act.put, List.getElem_toArray, List.getElem_cons_succ, List.getElem_cons_zero, List.setIfInBounds_toArray, List.set_cons_zero, List.set_cons_succ]
          refine wpAnyH_take (i := 9) (v := .bool true) rfl (by kernel_rfl) (by kernel_rfl) (by kernel_rfl) (fun _ _ _ h => h) (Or.inl ⟨by rfl, ?_⟩) (by first | assumption | exact trivial) ?_
          · intro W hSW; go_simp; try (with_reducible rfl)
          simp only [Act.put, List.getElem_toArray, List.getElem_cons_succ, List.getElem_cons_zero, List.setIfInBounds_toArray, List.set_cons_zero, List.set_cons_succ]
          refine wpAnyH_ready (rs := [10]) (by kernel_rfl) (by simp) ?_
          refine AllReadyH.cons rfl (fun K hK => ?_) AllReadyH.nil
          rw [if_pos (by kernel_rfl)]
          refine wp_alloc_rq2 rfl w2.heap.size rfl ?_
          simp only [Act.put, List.getElem_toArray, List.getElem_cons_succ, List.getElem_cons_zero, List.setIfInBounds_toArray, List.set_cons_zero, List.set_cons_succ]
          have hx6 : Bq (w2.alloc (.cells (rqV q0 p0) 33)) w2.heap.size q0 p0 := box_rq q0 p0 w2
          have ht6 : Tn w1.heap.size (w2.alloc (.cells (rqV q0 p0) 33)) D mb v (actT t a) := (ht2.out.below (Mi.below_alloc (Below.refl _ _))).lower (HBt.out.tn) (by rw [(actT_nbs t a).1])
          have hr6 : Rq (NM D mb fun b => (b = g ∨ b < w1.heap.size) ∨ b = w2.heap.size) (w2.alloc (.cells (rqV q0 p0) 33)) (actT t a) q' p' (k + 1) := (hr2.out.mono (M' := NM D mb fun b => (b = g ∨ b < w1.heap.size) ∨ b = w2.heap.size) (fun b hlt hb => ⟨hb.1, by rintro (e | e); exact hb.2 e; omega⟩)).below (Mi.below_alloc (Below.refl _ _))
          have hb6 : Below w1.heap.size w1 (w2.alloc (.cells (rqV q0 p0) 33)) := hbl2.alloc hbl2.size _
          have hbx6 : Bq (w2.alloc (.cells (rqV q0 p0) 33)) g q p := hbx2.below (Mi.below_alloc (Below.refl _ _))
          obtain ⟨V6, hV6⟩ : ∃ X, w2.alloc (.cells (rqV q0 p0) 33) = X := ⟨_, rfl⟩
          obtain ⟨g12, hg12⟩ : ∃ X, w2.heap.size = X := ⟨_, rfl⟩
          have hG12 : wr.heap.size ≤ g12 := by rw [← hg12]; exact hsz2
          rw [hV6] at hx6 ht6 hr6 hb6 hbx6 ⊢
          rw [hg12] at hx6 hr6 ⊢
          clear hV6 hg12
          refine hK.out _ _ (⟨hbx6, hb6⟩) (fun hHeld => ?_)
          clear hK K
          obtain ⟨s1, s2, s3, s4⟩ := HBt.out.step (g12 := g12) ht6 hr6 (fun b hlt hb => ⟨fun e => hb.2 (.inl (.inl e)), fun e => hb.2 (.inr e), by (have := fun e => hb.2 (.inl (.inr e)); omega)⟩) hx6 hG12 hb6 hbx6
          refine wpAnyH_ready (rs := [11]) (by kernel_rfl) (by simp) ?_
          refine AllReadyH.cons rfl (fun K hK => ?_) AllReadyH.nil
          refine wp_store_row 33 (.tmp 10) (.tmp 68) rfl g12 (rqV q' p') rfl rfl 33 _ hx6 (rq_size _ _) rfl (rq_one _ _) ?_
          have S1 := Lib.hid s1
          have S2 := Lib.hid s2
          have S3 := Lib.hid s3
          have S4 := Lib.hid s4
          obtain ⟨V7, hV7⟩ : ∃ X, V6.setRow g12 (rqV q' p') = X := ⟨_, rfl⟩
          rw [hV7] at S1 S2 S3 S4 ⊢
          clear s1 s2 s3 s4 hV7 hx6 ht6 hr6 hb6 hbx6
          refine hK.out _ _ (⟨S2.out, S3.out⟩) (fun hHeld => ?_)
          clear hK K
          refine wpAnyH_take (i := 12) (v := .bool true) rfl (by kernel_rfl) (by kernel_rfl) (by kernel_rfl) (fun _ _ _ h => h) (Or.inl ⟨by rfl, ?_⟩) (by first | assumption | exact trivial) ?_
          · intro W hSW; go_simp; try (with_reducible rfl)
          simp only [Act.put, List.getElem_toArray, List.getElem_cons_succ, List.getElem_cons_zero, List.setIfInBounds_toArray, List.set_cons_zero, List.set_cons_succ]
          refine wpAnyH_done (by kernel_rfl) ?_ _
          go_wp2_with (first
            | (refine wpList_load_row rfl 33 (.tmp 10) rfl g12 rfl 33 _ (0, 0) _ S1.out Try.underlying33 rfl (rq_size _ _) ?_)
            | (refine wpList_store_row rfl 33 (.tmp 7) (.tmp 70) rfl g (rqV q' p') rfl rfl 33 _ S2.out (rq_size _ _) rfl (rq_one _ _) ?_))
          obtain ⟨V8, hV8⟩ : ∃ X, V7.setRow g (rqV q' p') = X := ⟨_, rfl⟩
          rw [hV8] at S4 ⊢
          clear hV8 S1 S2 S3
          obtain ⟨t', ht'⟩ : ∃ X, actT t a = X := ⟨_, rfl⟩
          rw [ht'] at S4 hst
          clear ht' HPL HRG HBt hHeld
          have PF := Lib.hid (plays_facts S4.out (by omega))
          refine wp_region_held_drew (S := fun W => Bq W g q' p' ∧ Below V8.heap.size V8 W) (by kernel_rfl) ⟨S4.out.bx, (Below.refl _ _).drew⟩ (fun hHeld => ?_)
          refine wpAnyH_take (i := 0) (v := .bool true) rfl (by kernel_rfl) (by kernel_rfl) (by kernel_rfl) (fun _ _ _ h => h) (Or.inl ⟨by rfl, ?_⟩) (by first | assumption | exact trivial) ?_
          · intro W hSW; go_simp; try (with_reducible rfl)
          simp only [Act.put, List.getElem_toArray, List.getElem_cons_succ, List.getElem_cons_zero, List.setIfInBounds_toArray, List.set_cons_zero, List.set_cons_succ]
          refine wpAnyH_take (i := 1) (v := .bool false) rfl (by kernel_rfl) (by kernel_rfl) (by kernel_rfl) (fun _ _ _ h => h) (Or.inl ⟨by rfl, ?_⟩) (by first | assumption | exact trivial) ?_
          · intro W hSW; go_simp; try (with_reducible rfl)
          simp only [Act.put, List.getElem_toArray, List.getElem_cons_succ, List.getElem_cons_zero, List.setIfInBounds_toArray, List.set_cons_zero, List.set_cons_succ]
          refine wpAnyH_take (i := 2) (v := .bool false) rfl (by kernel_rfl) (by kernel_rfl) (by kernel_rfl) (fun _ _ _ h => h) (Or.inl ⟨by rfl, ?_⟩) (by first | assumption | exact trivial) ?_
          · intro W hSW; go_simp; try (with_reducible rfl)
          simp only [Act.put, List.getElem_toArray, List.getElem_cons_succ, List.getElem_cons_zero, List.setIfInBounds_toArray, List.set_cons_zero, List.set_cons_succ]
          refine wpAnyH_take (i := 3) (v := .pointer (some ⟨D, 0, none⟩)) rfl (by kernel_rfl) (by kernel_rfl) (by kernel_rfl) (fun _ _ _ h => h) (Or.inl ⟨by rfl, ?_⟩) (by first | assumption | exact trivial) ?_
          · intro W hSW; go_simp; try (with_reducible rfl)
          simp only [Act.put, List.getElem_toArray, List.getElem_cons_succ, List.getElem_cons_zero, List.setIfInBounds_toArray, List.set_cons_zero, List.set_cons_succ]
          refine wpAnyH_take (i := 5) (v := .agg (rqV q' p')) rfl (by kernel_rfl) (by kernel_rfl) (by kernel_rfl) (fun _ _ _ h => h) (yieldsIf_load_rq (by rfl) (.tmp 7) rfl g rfl q' p' (fun W hW => hW.1)) (by first | assumption | exact trivial) ?_
          simp only [Act.put, List.getElem_toArray, List.getElem_cons_succ, List.getElem_cons_zero, List.setIfInBounds_toArray, List.set_cons_zero, List.set_cons_succ]
          refine wpAnyH_ready (rs := [4]) (by kernel_rfl) (by simp) ?_
          refine AllReadyH.cons rfl (fun K hK => ?_) AllReadyH.nil
          go_simp
          go_wp2_with (go_at_call 14; with_reducible refine (PF.out.heard _ hHeld.2).mono ?_; rintro e wa ⟨Aa, na, ca, rfl, hna, rda, hba⟩)
          have hka : Bq wa g q' p' ∧ Below V8.heap.size V8 wa := hHeld.imp (fun h => h.below hba.out) fun h => go_on h hba.out
          refine hK.out _ _ (hka) (fun hHeld => ?_)
          clear hK K
          refine wpAnyH_ready (rs := [6]) (by kernel_rfl) (by simp) ?_
          refine AllReadyH.cons rfl (fun K hK => ?_) AllReadyH.nil
          go_simp
          go_wp2_with (go_at_call 15; with_reducible refine (PF.out.froms _ hka.2).mono ?_; rintro e wb ⟨Ab, nb, cb, rfl, hnb, rdb, hbb⟩)
          have hkb : Bq wb g q' p' ∧ Below V8.heap.size V8 wb := hka.imp (fun h => h.below hbb.out) fun h => go_on h hbb.out
          have HS := Lib.hid (Wn.Same_one Aa Ab na nb ca cb (fromsI t'.heard) wb ((rda.out.below hbb.out).more hbb.out.size) rdb.out hna.out hnb.out (by have := fromsI_len t'.heard; omega))
          refine hK.out _ _ (hkb) (fun hHeld => ?_)
          clear hK K
          refine wpAnyH_ready (rs := [7]) (by kernel_rfl) (by simp) ?_
          refine AllReadyH.cons rfl (fun K hK => ?_) AllReadyH.nil
          go_simp
          go_wp2_with (go_at_call 13; with_reducible refine HS.out.mono ?_; rintro e wc ⟨rfl, hbc⟩)
          have hkc : Bq wc g q' p' ∧ Below V8.heap.size V8 wc := hkb.imp (fun h => h.below hbc.out) fun h => go_on h hbc.out
          refine hK.out _ _ (hkc) (fun hHeld => ?_)
          clear hK K
          refine wpAnyH_take (i := 8) (v := .bool false) rfl (by kernel_rfl) (by kernel_rfl) (by kernel_rfl) (fun _ _ _ h => h) (Or.inl ⟨by rfl, ?_⟩) (by first | assumption | exact trivial) ?_
          · intro W hSW; go_simp; try (with_reducible rfl)
          simp only [Act.put, List.getElem_toArray, List.getElem_cons_succ, List.getElem_cons_zero, List.setIfInBounds_toArray, List.set_cons_zero, List.set_cons_succ]
          refine wpAnyH_take (i := 9) (v := .bool false) rfl (by kernel_rfl) (by kernel_rfl) (by kernel_rfl) (fun _ _ _ h => h) (Or.inl ⟨by rfl, ?_⟩) (by first | assumption | exact trivial) ?_
          · intro W hSW; go_simp; try (with_reducible rfl)
          simp only [Act.put, List.getElem_toArray, List.getElem_cons_succ, List.getElem_cons_zero, List.setIfInBounds_toArray, List.set_cons_zero, List.set_cons_succ]
          refine wpAnyH_done (by kernel_rfl) ?_ _
          have HKC := Lib.hid hkc.2
          clear HS hna rda hba hka hnb rdb hbb hkb hbc hkc hHeld
          go_wp2
          go_loopw [12] (fun d wd => ∃ j : Nat, j ≤ 66 ∧ d = .int .i64 ((j : Int) - 1) ∧ Hid (Below V8.heap.size V8 wd)) (fun d _ => 66 - (intOf d + 1).toNat)
          case atStart => exact ⟨0, Nat.zero_le _, rfl, HKC⟩
          case round =>
            obtain ⟨j, hj, rfl, hbd⟩ := hrel
            by_cases hjl : j < 66
            · have hj64 : (j : Int) - 1 ≤ 64 := by omega
              obtain ⟨x, hx⟩ : ∃ x : Int, (j : Int) - 1 = x := ⟨_, rfl⟩
              have hx2 : (j : Int) = x + 1 := by omega
              rw [hx] at hj64 ⊢
              have hxl : -1 ≤ x := by omega
              clear hx
              have HN1 := Lib.hid (PF.out.next wr hbd.out x)
              have HN2 := Lib.hid (fun (W : World) (hW : Below V8.heap.size V8 W) => PF.out.rnext W hW x)
              have HC1 := Lib.hid (fun (W : World) (hW : Below V8.heap.size V8 W) => PF.out.cost W hW x)
              have HC2 := Lib.hid (fun (W : World) (hW : Below V8.heap.size V8 W) => PF.out.rcost W hW x)
              obtain ⟨hop, is, hhop⟩ : ∃ hop is, nextN t' x = (hop, is) := ⟨_, _, rfl⟩
              obtain ⟨cst, hcst⟩ : ∃ cst, costN t' x = cst := ⟨_, rfl⟩
              rw [hhop] at HN1 HN2
              rw [hcst] at HC1 HC2
              clear hhop hcst
              go_wp2_with (first
                | (go_at_call 16; (with_reducible refine HN1.out.mono ?_); rintro e wa ⟨rfl, hba⟩; have hka : Hid (Below V8.heap.size V8 wa) := go_on hbd.out hba.out)
                | (refine wpList_load_row rfl 33 (.tmp 7) rfl g rfl 33 _ (0, 0) _ ((hka.out.block g S4.out.bx.lt).trans S4.out.bx) Try.underlying33 rfl (rq_size _ _) ?_)
                | (go_at_call 17; with_reducible refine (HN2.out wa hka.out).mono ?_; rintro e wb ⟨rfl, hbb⟩))
              have hkb : Below V8.heap.size V8 wb := go_on hka.out hbb.out
              have hqb : Bq wb g q' p' := (hkb.block g S4.out.bx.lt).trans S4.out.bx
              refine wp_region_held_drew (S := fun W => Bq W g q' p' ∧ Below V8.heap.size V8 W) (by kernel_rfl) ⟨hqb, hkb.drew⟩ (fun hHeld => ?_)
              refine wpAnyH_take (i := 0) (v := .int .i64 hop) rfl (by kernel_rfl) (by kernel_rfl) (by kernel_rfl) (fun _ _ _ h => h) (Or.inl ⟨by rfl, ?_⟩) (by first | assumption | exact trivial) ?_
              · intro W hSW; go_simp; try (with_reducible rfl)
              simp only [Act.put, List.getElem_toArray, List.getElem_cons_succ, List.getElem_cons_zero, List.setIfInBounds_toArray, List.set_cons_zero, List.set_cons_succ]
              refine wpAnyH_take (i := 1) (v := .int .i64 hop) rfl (by kernel_rfl) (by kernel_rfl) (by kernel_rfl) (fun _ _ _ h => h) (Or.inl ⟨by rfl, ?_⟩) (by first | assumption | exact trivial) ?_
              · intro W hSW; go_simp; try (with_reducible rfl)
              simp only [Act.put, List.getElem_toArray, List.getElem_cons_succ, List.getElem_cons_zero, List.setIfInBounds_toArray, List.set_cons_zero, List.set_cons_succ]
              refine wpAnyH_take (i := 2) (v := .bool false) rfl (by kernel_rfl) (by kernel_rfl) (by kernel_rfl) (fun _ _ _ h => h) (Or.inl ⟨by rfl, ?_⟩) (by first | assumption | exact trivial) ?_
              · intro W hSW; go_simp; try (with_reducible rfl)
              simp only [Act.put, List.getElem_toArray, List.getElem_cons_succ, List.getElem_cons_zero, List.setIfInBounds_toArray, List.set_cons_zero, List.set_cons_succ]
              refine wpAnyH_take (i := 3) (v := .bool false) rfl (by kernel_rfl) (by kernel_rfl) (by kernel_rfl) (fun _ _ _ h => h) (Or.inl ⟨by rfl, ?_⟩) (by first | assumption | exact trivial) ?_
              · intro W hSW; go_simp; try (with_reducible rfl)
              simp only [Act.put, List.getElem_toArray, List.getElem_cons_succ, List.getElem_cons_zero, List.setIfInBounds_toArray, List.set_cons_zero, List.set_cons_succ]
              refine wpAnyH_take (i := 4) (v := .bool is) rfl (by kernel_rfl) (by kernel_rfl) (by kernel_rfl) (fun _ _ _ h => h) (Or.inl ⟨by rfl, ?_⟩) (by first | assumption | exact trivial) ?_
              · intro W hSW; go_simp; try (with_reducible rfl)
              simp only [Act.put, List.getElem_toArray, List.getElem_cons_succ, List.getElem_cons_zero, List.setIfInBounds_toArray, List.set_cons_zero, List.set_cons_succ]
              refine wpAnyH_take (i := 5) (v := .bool is) rfl (by kernel_rfl) (by kernel_rfl) (by kernel_rfl) (fun _ _ _ h => h) (Or.inl ⟨by rfl, ?_⟩) (by first | assumption | exact trivial) ?_
              · intro W hSW; go_simp; try (with_reducible rfl)
              simp only [Act.put, List.getElem_toArray, List.getElem_cons_succ, List.getElem_cons_zero, List.setIfInBounds_toArray, List.set_cons_zero, List.set_cons_succ]
              refine wpAnyH_take (i := 6) (v := .bool false) rfl (by kernel_rfl) (by kernel_rfl) (by kernel_rfl) (fun _ _ _ h => h) (Or.inl ⟨by rfl, ?_⟩) (by first | assumption | exact trivial) ?_
              · intro W hSW; go_simp; try (with_reducible rfl)
              simp only [Act.put, List.getElem_toArray, List.getElem_cons_succ, List.getElem_cons_zero, List.setIfInBounds_toArray, List.set_cons_zero, List.set_cons_succ]
              refine wpAnyH_take (i := 7) (v := .bool false) rfl (by kernel_rfl) (by kernel_rfl) (by kernel_rfl) (fun _ _ _ h => h) (Or.inl ⟨by rfl, ?_⟩) (by first | assumption | exact trivial) ?_
              · intro W hSW; go_simp; try (with_reducible rfl)
              simp only [Act.put, List.getElem_toArray, List.getElem_cons_succ, List.getElem_cons_zero, List.setIfInBounds_toArray, List.set_cons_zero, List.set_cons_succ]
              refine wpAnyH_take (i := 8) (v := .bool false) rfl (by kernel_rfl) (by kernel_rfl) (by kernel_rfl) (fun _ _ _ h => h) (Or.inl ⟨by rfl, ?_⟩) (by first | assumption | exact trivial) ?_
              · intro W hSW; go_simp; try (with_reducible rfl)
              simp only [Act.put, List.getElem_toArray, List.getElem_cons_succ, List.getElem_cons_zero, List.setIfInBounds_toArray, List.set_cons_zero, List.set_cons_succ]
              refine wpAnyH_take (i := 9) (v := .pointer (some ⟨D, 0, none⟩)) rfl (by kernel_rfl) (by kernel_rfl) (by kernel_rfl) (fun _ _ _ h => h) (Or.inl ⟨by rfl, ?_⟩) (by first | assumption | exact trivial) ?_
              · intro W hSW; go_simp; try (with_reducible rfl)
              simp only [Act.put, List.getElem_toArray, List.getElem_cons_succ, List.getElem_cons_zero, List.setIfInBounds_toArray, List.set_cons_zero, List.set_cons_succ]
              refine wpAnyH_take (i := 10) (v := .int .i64 x) rfl (by kernel_rfl) (by kernel_rfl) (by kernel_rfl) (fun _ _ _ h => h) (Or.inl ⟨by rfl, ?_⟩) (by first | assumption | exact trivial) ?_
              · intro W hSW; go_simp; try (with_reducible rfl)
              simp only [Act.put, List.getElem_toArray, List.getElem_cons_succ, List.getElem_cons_zero, List.setIfInBounds_toArray, List.set_cons_zero, List.set_cons_succ]
              refine wpAnyH_take (i := 12) (v := .agg (rqV q' p')) rfl (by kernel_rfl) (by kernel_rfl) (by kernel_rfl) (fun _ _ _ h => h) (yieldsIf_load_rq (by rfl) (.tmp 7) rfl g rfl q' p' (fun W hW => hW.1)) (by first | assumption | exact trivial) ?_
              simp only [Act.put, List.getElem_toArray, List.getElem_cons_succ, List.getElem_cons_zero, List.setIfInBounds_toArray, List.set_cons_zero, List.set_cons_succ]
              refine wpAnyH_take (i := 13) (v := .int .i64 x) rfl (by kernel_rfl) (by kernel_rfl) (by kernel_rfl) (fun _ _ _ h => h) (Or.inl ⟨by rfl, ?_⟩) (by first | assumption | exact trivial) ?_
              · intro W hSW; go_simp; try (with_reducible rfl)
              simp only [Act.put, List.getElem_toArray, List.getElem_cons_succ, List.getElem_cons_zero, List.setIfInBounds_toArray, List.set_cons_zero, List.set_cons_succ]
              refine wpAnyH_ready (rs := [11]) (by kernel_rfl) (by simp) ?_
              refine AllReadyH.cons rfl (fun K hK => ?_) AllReadyH.nil
              go_simp
              go_wp2_with (go_at_call 18; with_reducible refine (HC1.out _ hHeld.2).mono ?_; rintro e wc ⟨rfl, hbc⟩)
              have hkc : Bq wc g q' p' ∧ Below V8.heap.size V8 wc := hHeld.imp (fun h => h.below hbc.out) fun h => go_on h hbc.out
              refine hK.out _ _ (hkc) (fun hHeld => ?_)
              clear hK K
              refine wpAnyH_ready (rs := [14]) (by kernel_rfl) (by simp) ?_
              refine AllReadyH.cons rfl (fun K hK => ?_) AllReadyH.nil
              go_simp
              go_wp2_with (go_at_call 19; with_reducible refine (HC2.out _ hkc.2).mono ?_; rintro e wz ⟨rfl, hbz⟩)
              have hkz : Bq wz g q' p' ∧ Below V8.heap.size V8 wz := hkc.imp (fun h => h.below hbz.out) fun h => go_on h hbz.out
              refine hK.out _ _ (hkz) (fun hHeld => ?_)
              clear hK K
              refine wpAnyH_take (i := 15) (v := .bool false) rfl (by kernel_rfl) (by kernel_rfl) (by kernel_rfl) (fun _ _ _ h => h) (Or.inl ⟨by rfl, ?_⟩) (by first | assumption | exact trivial) ?_
              · intro W hSW; go_simp; try (with_reducible rfl)
              simp only [Act.put, List.getElem_toArray, List.getElem_cons_succ, List.getElem_cons_zero, List.setIfInBounds_toArray, List.set_cons_zero, List.set_cons_succ]
              refine wpAnyH_take (i := 16) (v := .bool false) rfl (by kernel_rfl) (by kernel_rfl) (by kernel_rfl) (fun _ _ _ h => h) (Or.inl ⟨by rfl, ?_⟩) (by first | assumption | exact trivial) ?_
              · intro W hSW; go_simp; try (with_reducible rfl)
              simp only [Act.put, List.getElem_toArray, List.getElem_cons_succ, List.getElem_cons_zero, List.setIfInBounds_toArray, List.set_cons_zero, List.set_cons_succ]
              refine wpAnyH_done (by kernel_rfl) ?_ _
              have HKZ := Lib.hid hkz.2
              clear hkz hkc hHeld hbz hbc
              go_wp2
              go_roundw
              case rel => exact ⟨j + 1, by omega, by go_num, HKZ⟩
              case measure => simp [intOf]; omega
            · obtain rfl : j = 66 := by omega
              go_wp2
              refine ⟨⟨k + 1, q', p', by omega, by go_num, by rw [hst.out]; exact S4.out.below hbd.out⟩, ?_⟩
              simp [intOf]; omega
        case pb =>
          rw [if_pos (by kernel_rfl)]
          refine wp_alloc_rq2 rfl wr.heap.size rfl ?_
          simp only [Act.put, List.getElem_toArray, List.getElem_cons_succ, List.getElem_cons_zero, List.setIfInBounds_toArray, List.set_cons_zero, List.set_cons_succ]
          have hx5 : Bq (wr.drew.alloc (.cells (rqV q0 p0) 33)) wr.heap.size q0 p0 := box_rq q0 p0 wr
          have hb5 : Below wr.heap.size wr (wr.drew.alloc (.cells (rqV q0 p0) 33)) := (Mi.below_alloc (Below.refl _ _)).drew
          obtain ⟨V5, hV5⟩ : ∃ X, wr.drew.alloc (.cells (rqV q0 p0) 33) = X := ⟨_, rfl⟩
          obtain ⟨g12, hg12⟩ : ∃ X, wr.heap.size = X := ⟨_, rfl⟩
          have hG12 : wr.heap.size ≤ g12 := Nat.le_of_eq hg12
          have hG12' : g12 ≤ wr.heap.size := Nat.le_of_eq hg12.symm
          rw [hV5] at hx5 hb5 ⊢
          rw [hg12] at hx5 ⊢
          clear hV5 hg12
          refine hK.out _ _ (⟨HBt.out.bx.below hb5, go_on HBt.out.bel hb5⟩) (fun hHeld => ?_)
          clear hK K
          refine wpAnyH_ready (rs := [6]) (by kernel_rfl) (by simp) ?_
          refine AllReadyH.cons rfl (fun K hK => ?_) AllReadyH.nil
          go_simp
          go_wp2_with (go_at_call 12; refine (HPL.out (fun b => (b = g ∨ b < w1.heap.size) ∨ b = g12) V5 hb5 (fun b hb => by (have := HBt.out.bx.lt; have := HBt.out.bel.size; have := hx5.lt; have := hb5.size; rcases hb with (e | e) | e <;> omega)) (fun b hlt hb => ⟨hb.1, by (rintro (e | e); exact hb.2 e; omega)⟩)).mono ?_; rintro e w2 ⟨q', p', rfl, ht2, hr2, hb2⟩)
          have hsz5 := hb5.size
          have hbx6 : Bq w2 g q p := (hb2.out.same g (by have := HBt.out.bx.lt; omega) (by have := HBt.out.gD; have := HBt.out.gm; rintro (e | e) <;> omega)).trans (HBt.out.bx.below hb5)
          have hb6 : Below w1.heap.size w1 w2 := ((go_on HBt.out.bel hb5).trans (hb2.out.below (by have := HBt.out.bel.size; omega) (by have := HBt.out.tn.gD; have := HBt.out.tn.gm; rintro k (e | e) <;> omega)))
          have hx6 : Bq w2 g12 q0 p0 := (hb2.out.same g12 hx5.lt (by have := HBt.out.tn.tq.lt; have := HBt.out.tn.tq.ltm; rintro (e | e) <;> omega)).trans hx5
          have ht6 : Tn w1.heap.size w2 D mb v (actT t a) := ht2.out.lower (HBt.out.tn) (by rw [(actT_nbs t a).1])
          have hr6 : Rq (NM D mb fun b => (b = g ∨ b < w1.heap.size) ∨ b = g12) w2 (actT t a) q' p' (k + 1) := hr2.out
          refine hK.out _ _ (⟨hbx6, hb6⟩) (fun hHeld => ?_)
          clear hK K
          refine wpAnyH_take (i := 7) (v := .tuple #[.agg (rqV q' p'), .bool true]) rfl (by kernel_rfl) (by kernel_rfl) (by kernel_rfl) (fun _ _ _ h => h) (Or.inl ⟨by rfl, ?_⟩) (by first | assumption | exact trivial) ?_
          · intro W hSW; go_simp; try (with_reducible rfl)
          simp only [Act.put, List.getElem_toArray, List.getElem_cons_succ, List.getElem_cons_zero, List.setIfInBounds_toArray, List.set_cons_zero, List.set_cons_succ]
          refine wpAnyH_take (i := 8) (v := .agg (rqV q' p')) rfl (by kernel_rfl) (by kernel_rfl) (by kernel_rfl) (fun _ _ _ h => h) (Or.inl ⟨by rfl, ?_⟩) (by first | assumption | exact trivial) ?_
          · intro W hSW; go_simp; try (with_reducible rfl)
          simp only [Act.put, List.getElem_toArray, List.getElem_cons_succ, List.getElem_cons_zero, List.setIfInBounds_toArray, List.set_cons_zero, List.set_cons_succ]
          refine wpAnyH_take (i := 9) (v := .bool true) rfl (by kernel_rfl) (by kernel_rfl) (by kernel_rfl) (fun _ _ _ h => h) (Or.inl ⟨by rfl, ?_⟩) (by first | assumption | exact trivial) ?_
          · intro W hSW; go_simp; try (with_reducible rfl)
          simp only [Act.put, List.getElem_toArray, List.getElem_cons_succ, List.getElem_cons_zero, List.setIfInBounds_toArray, List.set_cons_zero, List.set_cons_succ]
          obtain ⟨V6, hV6⟩ : ∃ X, w2 = X := ⟨_, rfl⟩
          rw [hV6] at hx6 ht6 hr6 hb6 hbx6 ⊢
          obtain ⟨s1, s2, s3, s4⟩ := HBt.out.step (g12 := g12) ht6 hr6 (fun b hlt hb => ⟨fun e => hb.2 (.inl (.inl e)), fun e => hb.2 (.inr e), by (have := fun e => hb.2 (.inl (.inr e)); omega)⟩) hx6 hG12 hb6 hbx6
          refine wpAnyH_ready (rs := [11]) (by kernel_rfl) (by simp) ?_
          refine AllReadyH.cons rfl (fun K hK => ?_) AllReadyH.nil
          refine wp_store_row 33 (.tmp 10) (.tmp 68) rfl g12 (rqV q' p') rfl rfl 33 _ hx6 (rq_size _ _) rfl (rq_one _ _) ?_
          have S1 := Lib.hid s1
          have S2 := Lib.hid s2
          have S3 := Lib.hid s3
          have S4 := Lib.hid s4
          obtain ⟨V7, hV7⟩ : ∃ X, V6.setRow g12 (rqV q' p') = X := ⟨_, rfl⟩
          rw [hV7] at S1 S2 S3 S4 ⊢
          clear s1 s2 s3 s4 hV7 hx6 ht6 hr6 hb6 hbx6
          refine hK.out _ _ (⟨S2.out, S3.out⟩) (fun hHeld => ?_)
          clear hK K
          refine wpAnyH_take (i := 12) (v := .bool true) rfl (by kernel_rfl) (by kernel_rfl) (by kernel_rfl) (fun _ _ _ h => h) (Or.inl ⟨by rfl, ?_⟩) (by first | assumption | exact trivial) ?_
          · intro W hSW; go_simp; try (with_reducible rfl)
          simp only [Act.put, List.getElem_toArray, List.getElem_cons_succ, List.getElem_cons_zero, List.setIfInBounds_toArray, List.set_cons_zero, List.set_cons_succ]
          refine wpAnyH_done (by kernel_rfl) ?_ _
          go_wp2_with (first
            | (refine wpList_load_row rfl 33 (.tmp 10) rfl g12 rfl 33 _ (0, 0) _ S1.out Try.underlying33 rfl (rq_size _ _) ?_)
            | (refine wpList_store_row rfl 33 (.tmp 7) (.tmp 70) rfl g (rqV q' p') rfl rfl 33 _ S2.out (rq_size _ _) rfl (rq_one _ _) ?_))
          obtain ⟨V8, hV8⟩ : ∃ X, V7.setRow g (rqV q' p') = X := ⟨_, rfl⟩
          rw [hV8] at S4 ⊢
          clear hV8 S1 S2 S3
          obtain ⟨t', ht'⟩ : ∃ X, actT t a = X := ⟨_, rfl⟩
          rw [ht'] at S4 hst
          clear ht' HPL HRG HBt hHeld
          have PF := Lib.hid (plays_facts S4.out (by omega))
          refine wp_region_held_drew (S := fun W => Bq W g q' p' ∧ Below V8.heap.size V8 W) (by kernel_rfl) ⟨S4.out.bx, (Below.refl _ _).drew⟩ (fun hHeld => ?_)
          refine wpAnyH_take (i := 0) (v := .bool true) rfl (by kernel_rfl) (by kernel_rfl) (by kernel_rfl) (fun _ _ _ h => h) (Or.inl ⟨by rfl, ?_⟩) (by first | assumption | exact trivial) ?_
          · intro W hSW; go_simp; try (with_reducible rfl)
          simp only [Act.put, List.getElem_toArray, List.getElem_cons_succ, List.getElem_cons_zero, List.setIfInBounds_toArray, List.set_cons_zero, List.set_cons_succ]
          refine wpAnyH_take (i := 1) (v := .bool false) rfl (by kernel_rfl) (by kernel_rfl) (by kernel_rfl) (fun _ _ _ h => h) (Or.inl ⟨by rfl, ?_⟩) (by first | assumption | exact trivial) ?_
          · intro W hSW; go_simp; try (with_reducible rfl)
          simp only [Act.put, List.getElem_toArray, List.getElem_cons_succ, List.getElem_cons_zero, List.setIfInBounds_toArray, List.set_cons_zero, List.set_cons_succ]
          refine wpAnyH_take (i := 2) (v := .bool false) rfl (by kernel_rfl) (by kernel_rfl) (by kernel_rfl) (fun _ _ _ h => h) (Or.inl ⟨by rfl, ?_⟩) (by first | assumption | exact trivial) ?_
          · intro W hSW; go_simp; try (with_reducible rfl)
          simp only [Act.put, List.getElem_toArray, List.getElem_cons_succ, List.getElem_cons_zero, List.setIfInBounds_toArray, List.set_cons_zero, List.set_cons_succ]
          refine wpAnyH_take (i := 3) (v := .pointer (some ⟨D, 0, none⟩)) rfl (by kernel_rfl) (by kernel_rfl) (by kernel_rfl) (fun _ _ _ h => h) (Or.inl ⟨by rfl, ?_⟩) (by first | assumption | exact trivial) ?_
          · intro W hSW; go_simp; try (with_reducible rfl)
          simp only [Act.put, List.getElem_toArray, List.getElem_cons_succ, List.getElem_cons_zero, List.setIfInBounds_toArray, List.set_cons_zero, List.set_cons_succ]
          refine wpAnyH_take (i := 5) (v := .agg (rqV q' p')) rfl (by kernel_rfl) (by kernel_rfl) (by kernel_rfl) (fun _ _ _ h => h) (yieldsIf_load_rq (by rfl) (.tmp 7) rfl g rfl q' p' (fun W hW => hW.1)) (by first | assumption | exact trivial) ?_
          simp only [Act.put, List.getElem_toArray, List.getElem_cons_succ, List.getElem_cons_zero, List.setIfInBounds_toArray, List.set_cons_zero, List.set_cons_succ]
          refine wpAnyH_ready (rs := [4]) (by kernel_rfl) (by simp) ?_
          refine AllReadyH.cons rfl (fun K hK => ?_) AllReadyH.nil
          go_simp
          go_wp2_with (go_at_call 14; with_reducible refine (PF.out.heard _ hHeld.2).mono ?_; rintro e wa ⟨Aa, na, ca, rfl, hna, rda, hba⟩)
          have hka : Bq wa g q' p' ∧ Below V8.heap.size V8 wa := hHeld.imp (fun h => h.below hba.out) fun h => go_on h hba.out
          refine hK.out _ _ (hka) (fun hHeld => ?_)
          clear hK K
          refine wpAnyH_ready (rs := [6]) (by kernel_rfl) (by simp) ?_
          refine AllReadyH.cons rfl (fun K hK => ?_) AllReadyH.nil
          go_simp
          go_wp2_with (go_at_call 15; with_reducible refine (PF.out.froms _ hka.2).mono ?_; rintro e wb ⟨Ab, nb, cb, rfl, hnb, rdb, hbb⟩)
          have hkb : Bq wb g q' p' ∧ Below V8.heap.size V8 wb := hka.imp (fun h => h.below hbb.out) fun h => go_on h hbb.out
          have HS := Lib.hid (Wn.Same_one Aa Ab na nb ca cb (fromsI t'.heard) wb ((rda.out.below hbb.out).more hbb.out.size) rdb.out hna.out hnb.out (by have := fromsI_len t'.heard; omega))
          refine hK.out _ _ (hkb) (fun hHeld => ?_)
          clear hK K
          refine wpAnyH_ready (rs := [7]) (by kernel_rfl) (by simp) ?_
          refine AllReadyH.cons rfl (fun K hK => ?_) AllReadyH.nil
          go_simp
          go_wp2_with (go_at_call 13; with_reducible refine HS.out.mono ?_; rintro e wc ⟨rfl, hbc⟩)
          have hkc : Bq wc g q' p' ∧ Below V8.heap.size V8 wc := hkb.imp (fun h => h.below hbc.out) fun h => go_on h hbc.out
          refine hK.out _ _ (hkc) (fun hHeld => ?_)
          clear hK K
          refine wpAnyH_take (i := 8) (v := .bool false) rfl (by kernel_rfl) (by kernel_rfl) (by kernel_rfl) (fun _ _ _ h => h) (Or.inl ⟨by rfl, ?_⟩) (by first | assumption | exact trivial) ?_
          · intro W hSW; go_simp; try (with_reducible rfl)
          simp only [Act.put, List.getElem_toArray, List.getElem_cons_succ, List.getElem_cons_zero, List.setIfInBounds_toArray, List.set_cons_zero, List.set_cons_succ]
          refine wpAnyH_take (i := 9) (v := .bool false) rfl (by kernel_rfl) (by kernel_rfl) (by kernel_rfl) (fun _ _ _ h => h) (Or.inl ⟨by rfl, ?_⟩) (by first | assumption | exact trivial) ?_
          · intro W hSW; go_simp; try (with_reducible rfl)
          simp only [Act.put, List.getElem_toArray, List.getElem_cons_succ, List.getElem_cons_zero, List.setIfInBounds_toArray, List.set_cons_zero, List.set_cons_succ]
          refine wpAnyH_done (by kernel_rfl) ?_ _
          have HKC := Lib.hid hkc.2
          clear HS hna rda hba hka hnb rdb hbb hkb hbc hkc hHeld
          go_wp2
          go_loopw [12] (fun d wd => ∃ j : Nat, j ≤ 66 ∧ d = .int .i64 ((j : Int) - 1) ∧ Hid (Below V8.heap.size V8 wd)) (fun d _ => 66 - (intOf d + 1).toNat)
          case atStart => exact ⟨0, Nat.zero_le _, rfl, HKC⟩
          case round =>
            obtain ⟨j, hj, rfl, hbd⟩ := hrel
            by_cases hjl : j < 66
            · have hj64 : (j : Int) - 1 ≤ 64 := by omega
              obtain ⟨x, hx⟩ : ∃ x : Int, (j : Int) - 1 = x := ⟨_, rfl⟩
              have hx2 : (j : Int) = x + 1 := by omega
              rw [hx] at hj64 ⊢
              have hxl : -1 ≤ x := by omega
              clear hx
              have HN1 := Lib.hid (PF.out.next wr hbd.out x)
              have HN2 := Lib.hid (fun (W : World) (hW : Below V8.heap.size V8 W) => PF.out.rnext W hW x)
              have HC1 := Lib.hid (fun (W : World) (hW : Below V8.heap.size V8 W) => PF.out.cost W hW x)
              have HC2 := Lib.hid (fun (W : World) (hW : Below V8.heap.size V8 W) => PF.out.rcost W hW x)
              obtain ⟨hop, is, hhop⟩ : ∃ hop is, nextN t' x = (hop, is) := ⟨_, _, rfl⟩
              obtain ⟨cst, hcst⟩ : ∃ cst, costN t' x = cst := ⟨_, rfl⟩
              rw [hhop] at HN1 HN2
              rw [hcst] at HC1 HC2
              clear hhop hcst
              go_wp2_with (first
                | (go_at_call 16; (with_reducible refine HN1.out.mono ?_); rintro e wa ⟨rfl, hba⟩; have hka : Hid (Below V8.heap.size V8 wa) := go_on hbd.out hba.out)
                | (refine wpList_load_row rfl 33 (.tmp 7) rfl g rfl 33 _ (0, 0) _ ((hka.out.block g S4.out.bx.lt).trans S4.out.bx) Try.underlying33 rfl (rq_size _ _) ?_)
                | (go_at_call 17; with_reducible refine (HN2.out wa hka.out).mono ?_; rintro e wb ⟨rfl, hbb⟩))
              have hkb : Below V8.heap.size V8 wb := go_on hka.out hbb.out
              have hqb : Bq wb g q' p' := (hkb.block g S4.out.bx.lt).trans S4.out.bx
              refine wp_region_held_drew (S := fun W => Bq W g q' p' ∧ Below V8.heap.size V8 W) (by kernel_rfl) ⟨hqb, hkb.drew⟩ (fun hHeld => ?_)
              refine wpAnyH_take (i := 0) (v := .int .i64 hop) rfl (by kernel_rfl) (by kernel_rfl) (by kernel_rfl) (fun _ _ _ h => h) (Or.inl ⟨by rfl, ?_⟩) (by first | assumption | exact trivial) ?_
              · intro W hSW; go_simp; try (with_reducible rfl)
              simp only [Act.put, List.getElem_toArray, List.getElem_cons_succ, List.getElem_cons_zero, List.setIfInBounds_toArray, List.set_cons_zero, List.set_cons_succ]
              refine wpAnyH_take (i := 1) (v := .int .i64 hop) rfl (by kernel_rfl) (by kernel_rfl) (by kernel_rfl) (fun _ _ _ h => h) (Or.inl ⟨by rfl, ?_⟩) (by first | assumption | exact trivial) ?_
              · intro W hSW; go_simp; try (with_reducible rfl)
              simp only [Act.put, List.getElem_toArray, List.getElem_cons_succ, List.getElem_cons_zero, List.setIfInBounds_toArray, List.set_cons_zero, List.set_cons_succ]
              refine wpAnyH_take (i := 2) (v := .bool false) rfl (by kernel_rfl) (by kernel_rfl) (by kernel_rfl) (fun _ _ _ h => h) (Or.inl ⟨by rfl, ?_⟩) (by first | assumption | exact trivial) ?_
              · intro W hSW; go_simp; try (with_reducible rfl)
              simp only [Act.put, List.getElem_toArray, List.getElem_cons_succ, List.getElem_cons_zero, List.setIfInBounds_toArray, List.set_cons_zero, List.set_cons_succ]
              refine wpAnyH_take (i := 3) (v := .bool false) rfl (by kernel_rfl) (by kernel_rfl) (by kernel_rfl) (fun _ _ _ h => h) (Or.inl ⟨by rfl, ?_⟩) (by first | assumption | exact trivial) ?_
              · intro W hSW; go_simp; try (with_reducible rfl)
              simp only [Act.put, List.getElem_toArray, List.getElem_cons_succ, List.getElem_cons_zero, List.setIfInBounds_toArray, List.set_cons_zero, List.set_cons_succ]
              refine wpAnyH_take (i := 4) (v := .bool is) rfl (by kernel_rfl) (by kernel_rfl) (by kernel_rfl) (fun _ _ _ h => h) (Or.inl ⟨by rfl, ?_⟩) (by first | assumption | exact trivial) ?_
              · intro W hSW; go_simp; try (with_reducible rfl)
              simp only [Act.put, List.getElem_toArray, List.getElem_cons_succ, List.getElem_cons_zero, List.setIfInBounds_toArray, List.set_cons_zero, List.set_cons_succ]
              refine wpAnyH_take (i := 5) (v := .bool is) rfl (by kernel_rfl) (by kernel_rfl) (by kernel_rfl) (fun _ _ _ h => h) (Or.inl ⟨by rfl, ?_⟩) (by first | assumption | exact trivial) ?_
              · intro W hSW; go_simp; try (with_reducible rfl)
              simp only [Act.put, List.getElem_toArray, List.getElem_cons_succ, List.getElem_cons_zero, List.setIfInBounds_toArray, List.set_cons_zero, List.set_cons_succ]
              refine wpAnyH_take (i := 6) (v := .bool false) rfl (by kernel_rfl) (by kernel_rfl) (by kernel_rfl) (fun _ _ _ h => h) (Or.inl ⟨by rfl, ?_⟩) (by first | assumption | exact trivial) ?_
              · intro W hSW; go_simp; try (with_reducible rfl)
              simp only [Act.put, List.getElem_toArray, List.getElem_cons_succ, List.getElem_cons_zero, List.setIfInBounds_toArray, List.set_cons_zero, List.set_cons_succ]
              refine wpAnyH_take (i := 7) (v := .bool false) rfl (by kernel_rfl) (by kernel_rfl) (by kernel_rfl) (fun _ _ _ h => h) (Or.inl ⟨by rfl, ?_⟩) (by first | assumption | exact trivial) ?_
              · intro W hSW; go_simp; try (with_reducible rfl)
              simp only [Act.put, List.getElem_toArray, List.getElem_cons_succ, List.getElem_cons_zero, List.setIfInBounds_toArray, List.set_cons_zero, List.set_cons_succ]
              refine wpAnyH_take (i := 8) (v := .bool false) rfl (by kernel_rfl) (by kernel_rfl) (by kernel_rfl) (fun _ _ _ h => h) (Or.inl ⟨by rfl, ?_⟩) (by first | assumption | exact trivial) ?_
              · intro W hSW; go_simp; try (with_reducible rfl)
              simp only [Act.put, List.getElem_toArray, List.getElem_cons_succ, List.getElem_cons_zero, List.setIfInBounds_toArray, List.set_cons_zero, List.set_cons_succ]
              refine wpAnyH_take (i := 9) (v := .pointer (some ⟨D, 0, none⟩)) rfl (by kernel_rfl) (by kernel_rfl) (by kernel_rfl) (fun _ _ _ h => h) (Or.inl ⟨by rfl, ?_⟩) (by first | assumption | exact trivial) ?_
              · intro W hSW; go_simp; try (with_reducible rfl)
              simp only [Act.put, List.getElem_toArray, List.getElem_cons_succ, List.getElem_cons_zero, List.setIfInBounds_toArray, List.set_cons_zero, List.set_cons_succ]
              refine wpAnyH_take (i := 10) (v := .int .i64 x) rfl (by kernel_rfl) (by kernel_rfl) (by kernel_rfl) (fun _ _ _ h => h) (Or.inl ⟨by rfl, ?_⟩) (by first | assumption | exact trivial) ?_
              · intro W hSW; go_simp; try (with_reducible rfl)
              simp only [Act.put, List.getElem_toArray, List.getElem_cons_succ, List.getElem_cons_zero, List.setIfInBounds_toArray, List.set_cons_zero, List.set_cons_succ]
              refine wpAnyH_take (i := 12) (v := .agg (rqV q' p')) rfl (by kernel_rfl) (by kernel_rfl) (by kernel_rfl) (fun _ _ _ h => h) (yieldsIf_load_rq (by rfl) (.tmp 7) rfl g rfl q' p' (fun W hW => hW.1)) (by first | assumption | exact trivial) ?_
              simp only [Act.put, List.getElem_toArray, List.getElem_cons_succ, List.getElem_cons_zero, List.setIfInBounds_toArray, List.set_cons_zero, List.set_cons_succ]
              refine wpAnyH_take (i := 13) (v := .int .i64 x) rfl (by kernel_rfl) (by kernel_rfl) (by kernel_rfl) (fun _ _ _ h => h) (Or.inl ⟨by rfl, ?_⟩) (by first | assumption | exact trivial) ?_
              · intro W hSW; go_simp; try (with_reducible rfl)
              simp only [Act.put, List.getElem_toArray, List.getElem_cons_succ, List.getElem_cons_zero, List.setIfInBounds_toArray, List.set_cons_zero, List.set_cons_succ]
              refine wpAnyH_ready (rs := [11]) (by kernel_rfl) (by simp) ?_
              refine AllReadyH.cons rfl (fun K hK => ?_) AllReadyH.nil
              go_simp
              go_wp2_with (go_at_call 18; with_reducible refine (HC1.out _ hHeld.2).mono ?_; rintro e wc ⟨rfl, hbc⟩)
              have hkc : Bq wc g q' p' ∧ Below V8.heap.size V8 wc := hHeld.imp (fun h => h.below hbc.out) fun h => go_on h hbc.out
              refine hK.out _ _ (hkc) (fun hHeld => ?_)
              clear hK K
              refine wpAnyH_ready (rs := [14]) (by kernel_rfl) (by simp) ?_
              refine AllReadyH.cons rfl (fun K hK => ?_) AllReadyH.nil
              go_simp
              go_wp2_with (go_at_call 19; with_reducible refine (HC2.out _ hkc.2).mono ?_; rintro e wz ⟨rfl, hbz⟩)
              have hkz : Bq wz g q' p' ∧ Below V8.heap.size V8 wz := hkc.imp (fun h => h.below hbz.out) fun h => go_on h hbz.out
              refine hK.out _ _ (hkz) (fun hHeld => ?_)
              clear hK K
              refine wpAnyH_take (i := 15) (v := .bool false) rfl (by kernel_rfl) (by kernel_rfl) (by kernel_rfl) (fun _ _ _ h => h) (Or.inl ⟨by rfl, ?_⟩) (by first | assumption | exact trivial) ?_
              · intro W hSW; go_simp; try (with_reducible rfl)
              simp only [Act.put, List.getElem_toArray, List.getElem_cons_succ, List.getElem_cons_zero, List.setIfInBounds_toArray, List.set_cons_zero, List.set_cons_succ]
              refine wpAnyH_take (i := 16) (v := .bool false) rfl (by kernel_rfl) (by kernel_rfl) (by kernel_rfl) (fun _ _ _ h => h) (Or.inl ⟨by rfl, ?_⟩) (by first | assumption | exact trivial) ?_
              · intro W hSW; go_simp; try (with_reducible rfl)
              simp only [Act.put, List.getElem_toArray, List.getElem_cons_succ, List.getElem_cons_zero, List.setIfInBounds_toArray, List.set_cons_zero, List.set_cons_succ]
              refine wpAnyH_done (by kernel_rfl) ?_ _
              have HKZ := Lib.hid hkz.2
              clear hkz hkc hHeld hbz hbc
              go_wp2
              go_roundw
              case rel => exact ⟨j + 1, by omega, by go_num, HKZ⟩
              case measure => simp [intOf]; omega
            · obtain rfl : j = 66 := by omega
              go_wp2
              refine ⟨⟨k + 1, q', p', by omega, by go_num, by rw [hst.out]; exact S4.out.below hbd.out⟩, ?_⟩
              simp [intOf]; omega
      · obtain rfl : k = N := by omega
        rcases hNN.2.2 with e | ⟨e, e2⟩
        case' inl =>
          have hend : ¬ (k : Int) < (len : Int) := by omega
        case' inr =>
          have hen1 : (k : Int) < (len : Int) := by omega
          have hend : ¬ (k : Int) < 40 := by omega
        all_goals
          clear e
          go_wp2_with (go_at_call 11; with_reducible refine (HK.out wr).mono ?_; rintro e w7 ⟨rfl, hb7⟩)
          go_ret
          exact ⟨rfl, go_on (go_on HBW.out HBt.out.bel) hb7.out⟩
  · have HN := Lib.hid (New_bad ss sg sR sc w.heap.size l w1 HRD hl6 hE)
    have HR := Lib.hid (RNew_bad ss sg sR sc w.heap.size l w1 HRD HBW.out.size hl6 hE)
    obtain ⟨E, hE2⟩ : ∃ E : Int, ((newE ss l sg : Nat) : Int) = E := ⟨_, rfl⟩
    have g1 : (E != 0) = true := bne_iff_ne.mpr (by omega)
    rw [hE2] at HN HR
    clear hE hE2
    go_enter Try.func3, Try.ntmps3
    go_wp2_with (first
      | (refine Mi.allocTo rfl (.pointer (some ⟨_, 0, none⟩)) (.cells (stV ss sR l.length sc sg) 24 (0, 0)) (exec_boxs _ _ ss sg sR l.length sc (.tmp 0) rfl rfl _) ?_; rw [HW1.out])
      | (go_at_call 9; refine HN.out.mono ?_; rintro e w' ⟨rfl, rfl⟩)
      | (go_at_call 10; refine HR.out.mono ?_; rintro e w2 ⟨rfl, hb2⟩; have HZ2 : Hid (Bq (w2.alloc (.cells (rqV q0 p0) 33)) w2.heap.size q0 p0) := box_rq q0 p0 w2)
      | (refine Mi.allocTo rfl (.pointer (some ⟨_, 0, none⟩)) (.cells (rqV q0 p0) 33 (0, 0)) (alloc_rq _ _ rfl _) ?_)
      | (refine wpList_store_row rfl 33 (.tmp 7) (.tmp 35) rfl w2.heap.size (rqV q0 p0) rfl rfl 33 _ HZ2.out (rq_size _ _) rfl (rq_one _ _) ?_
         have hb3 : Below w2.heap.size w2 ((w2.alloc (.cells (rqV q0 p0) 33)).setRow w2.heap.size (rqV q0 p0)) := Sb.below_setRow _ (Mi.below_alloc (Below.refl _ _)) (Nat.le_refl _)
         have HBW3 : Hid (Below w.heap.size w ((w2.alloc (.cells (rqV q0 p0) 33)).setRow w2.heap.size (rqV q0 p0))) := go_on (go_on HBW.out hb2.out) hb3
         obtain ⟨w3, hw3⟩ : ∃ w3, (w2.alloc (.cells (rqV q0 p0) 33)).setRow w2.heap.size (rqV q0 p0) = w3 := ⟨_, rfl⟩
         rw [hw3] at HBW3 ⊢
         clear hw3 hb3 hb2 HZ2)
      | (go_at_call 11; with_reducible refine (HK.out w3).mono ?_; rintro e w4 ⟨rfl, hb4⟩))
    go_ret
    exact ⟨rfl, go_on HBW3.out hb4.out⟩
end Go.Proofs.Ytablejhajilpiaa.Rt
