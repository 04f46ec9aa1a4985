/- The law of May: it says what Apply says, and changes nothing; what was told may be written over. -/
import Derived.Test.YtfnlhfelpdkieaaGreatZ31
import Derived.Test.YtfnlhfelpdkieaaGreatSoDone
import Derived.Test.YtfnlhfelpdkieaaGreatZ20
namespace Go.Proofs.YtfnlhfelpdkieaaGreat.So
open Go.RowKit
open Go.Proofs.YtfnlhfelpdkieaaGreat.Me Go.Proofs.YtfnlhfelpdkieaaGreat.Sb
open Go.Proofs.YtfnlhfelpdkieaaGreat.Se (Mw Pm)
set_option linter.unusedVariables false
set_option linter.unusedSimpArgs false

set_option maxRecDepth 100000 in
set_option maxHeartbeats 16000000 in
theorem storeMays_no (me qh qb qg : Int) (v1 : Value) (k : Int) (i : Mg.Id4) (R : Option Addr) (n c : Nat) (w : World) (h : ¬ NewOk me qh qb qg) : Calls Tryz.prog 4 #[.agg #[.int .i64 me, .int .i64 qh, .int .i64 qb, .int .i64 qg], v1, .agg (evC k i R n c)] w fun e w' => e = .returned (.bool true) ∧ Below w.heap.size w w' := by
  unfold evC
  obtain ⟨hB, hY, hX⟩ := two_new w #[.int .i64 me, .int .i64 qh, .int .i64 qb, .int .i64 qg] #[.int .i64 k, .int .i64 i.o, .int .i64 i.d, .int .i64 i.e, .int .i64 i.c, .slice R n c] 25 48
  obtain ⟨x0, x1, x2, x3⟩ := set_cells hX
  have HD := Lib.hid (fun W => done_no me qh qb qg W v1 h)
  have HAw := Lib.hid (fun W => awake_any W)
  have HB := Lib.hid hB
  unfold rs0 at HD
  clear h hB hY hX
  go_enter Tryz.func4, Tryz.ntmps4
  go_wp2_with (first
    | (go_at_call 15; refine (HD.out _).mono ?_; rintro e w2 ⟨rfl, b2⟩)
    | (go_at_call 9; refine (HAw.out _).mono ?_; rintro e w3 ⟨rfl, b3⟩))
  go_ret
  exact ⟨rfl, go_on (go_on (go_on HB.out b2.out) (Me.below_alloc (Below.refl _ _))) b3.out⟩
/-- What holds between the calls. -/
structure Ln (w1 : World) (D : Nat) (O : Nat → Prop) (s : Sto) (m : Nat) (K : Se.Ks) (vU vL vK : Value) (P : List Pq) (ib X : Nat) (ev : Array Value) (W : World) : Prop where
  dn : Dn w1 D W O s m K vU vL vK P
  ev : W.heap[ib]? = some (.cells ev 48 (0, 0))
  st : W.heap[X]? = some (.cells (rsv s vU vL vK) 37 (0, 0))
section
variable {w1 : World} {D : Nat} {O : Nat → Prop} {s : Sto} {m : Nat} {K : Se.Ks} {vU vL vK : Value} {P : List Pq} {ib X : Nat} {ev : Array Value} {W W' : World}
theorem Ln.go (h : Ln w1 D O s m K vU vL vK P ib X ev W) (hb : Below W.heap.size W W') : Ln w1 D O s m K vU vL vK P ib X ev W' :=
  ⟨h.dn.go hb, (hb.block _ (Array.getElem?_eq_some_iff.1 h.ev).1).trans h.ev, (hb.block _ (Array.getElem?_eq_some_iff.1 h.st).1).trans h.st⟩
end
/-- The law's own blocks: those behind done, and what lies from there to N. -/
def OW (O : Nat → Prop) (a N : Nat) (k : Nat) : Prop := O k ∨ (a ≤ k ∧ k < N)
theorem Dn.apply {w1 w2 W : World} {D : Nat} {O : Nat → Prop} {s : Sto} {m : Nat} {K : Se.Ks} {vU vL vK : Value} {P : List Pq} (h : Dn w1 D w2 O s m K vU vL vK P) (hW : Below w2.heap.size w2 W) (k : Int) (i : Mg.Id4) (R : Option Addr) (c : Nat) (p : List Nat) (hp : Rd W W.heap.size R p) (hR : R = none → p.length = 0 ∧ c = 0) :
    Calls Tryz.prog 13 #[.pointer (some ⟨D, 0, none⟩), .agg (evC k i R p.length c)] W fun e w' => e = .returned (.int .i64 (mayE s k i p.length : Int)) ∧ Hid (Lv w1.heap.size (OW O w2.heap.size W.heap.size) w' (m + 1) D (appE s k i p)) ∧ Hid (But (Out w1.heap.size (OW O w2.heap.size W.heap.size)) W w') := by
  have hz := hW.size
  have hb := (go_on h.below hW).size
  have hl : Lv w1.heap.size (OW O w2.heap.size W.heap.size) W m D s := (h.lv.other fun k hk ho => ho.elim id fun q => by omega).below hW
  exact Apply_l _ _ W m D s k i R c p (by have := h.m50; omega) hp hR hb (fun k hk => hk.elim (fun q => by have := (h.oge k q).2; omega) fun q => q.2) (Lib.hid hl)
/-- What lies behind done's end stays behind such a call. -/
theorem ow_same {w1 w2 W w' : World} {O : Nat → Prop} {X : Nat} {o : Obj} (hb : But (Out w1.heap.size (OW O w2.heap.size W.heap.size)) W w') (hX : w2.heap.size ≤ X) (h : W.heap[X]? = some o) : w'.heap[X]? = some o := by
  have hl := (Array.getElem?_eq_some_iff.1 h).1
  exact (hb.same X hl fun hs => hs.2 (.inr ⟨hX, hl⟩)).trans h
theorem below_set {w0 w : World} {p : Addr} (h : Below w0.heap.size w0 w) (hp : w0.heap.size ≤ p.block) (u : Value) : Below w0.heap.size w0 (w.setCell p u) :=
  h.trans (((But.refl (fun k => k = p.block) w).set (p := p) (.inl rfl) u).below h.size fun k hk => by rw [hk]; exact hp)
theorem below_cells {w0 w : World} {g o : Nat} (h : Below w0.heap.size w0 w) (hp : w0.heap.size ≤ g) (us : List Value) : Below w0.heap.size w0 (w.setCells g o us) :=
  h.trans ((but_setCells w g o us).1.below h.size fun k hk => by rw [hk]; exact hp)
set_option maxRecDepth 100000 in
set_option maxHeartbeats 64000000 in
theorem storeMays_ok (me qh qb qg : Int) (A : Option Addr) (len cap : Nat) (ls : List Evt) (ek : Int) (ei : Mg.Id4) (R : Option Addr) (cr : Nat) (ep : List Nat) (w : World) (h : NewOk me qh qb qg) (hl : len = ls.length ∧ len ≤ cap ∧ cap ≤ 9223372036854775807 ∧ Evs w A ls) (hR : Me.Rd w w.heap.size R ep) (hRn : R = none → ep.length = 0 ∧ cr = 0) :
    Calls Tryz.prog 4 #[.agg #[.int .i64 me, .int .i64 qh, .int .i64 qb, .int .i64 qg], .slice A len cap, .agg (evC ek ei R ep.length cr)] w fun e w' => e = .returned (.bool true) ∧ Below w.heap.size w w' := by
  obtain ⟨hB, hY, hX⟩ := two_new w #[.int .i64 me, .int .i64 qh, .int .i64 qb, .int .i64 qg] (evC ek ei R ep.length cr) 25 48
  obtain ⟨s0, s1, s2, s3⟩ := set_cells hX
  have HD := Lib.hid (fun W (hW : Below w.heap.size w W) => done_ok me qh qb qg A len cap ls W h ⟨hl.1, hl.2.1, hl.2.2.1, hl.2.2.2.below hW⟩)
  simp only [rsv, rsc] at HD
  have HAw := Lib.hid (fun W => awake_any W)
  have HR := Lib.hid (fun W (hW : Below w.heap.size w W) => Me.Rd.more (hR.below hW) hW.size)
  have HRn := Lib.hid hRn
  have HB := Lib.hid hB
  have HY := Lib.hid hY
  obtain ⟨en, hen⟩ : ∃ n, ep.length = n := ⟨_, rfl⟩
  have HEn := Lib.hid hen
  rw [hen] at HY HB s0 s1 s2 s3 ⊢
  clear h hB hY hX hl hR hRn hen
  simp only [evC] at HY HB s0 s1 s2 s3 ⊢
  obtain ⟨eo, ed, ee, ec⟩ := ei
  simp only at HY HB s0 s1 s2 s3 ⊢
  obtain ⟨W1, hW1⟩ : ∃ W, (w.alloc (.cells #[.int .i64 me, .int .i64 qh, .int .i64 qb, .int .i64 qg] 25)).alloc (.cells #[.int .i64 ek, .int .i64 eo, .int .i64 ed, .int .i64 ee, .int .i64 ec, .slice R en cr] 48) = W := ⟨_, rfl⟩
  have HW1 := Lib.hid hW1
  rw [hW1] at HY HB
  clear hW1
  go_enter Tryz.func4, Tryz.ntmps4
  go_wp2_with (first
    | (go_at_call 15
       rw [HW1.out]
       refine (HD.out W1 HB.out).mono ?_
       rintro e w2 ⟨D, s, vU, vL, vK, rfl, O, m, K, P, dn⟩
       obtain ⟨Au, cu, rfl, _⟩ := dn.out.rf.un.form
       obtain ⟨Al, cl, rfl, _⟩ := dn.out.rf.ml.form
       obtain ⟨Ak, ck, rfl, _⟩ := dn.out.rf.kv.form
       obtain ⟨nu, hnu⟩ : ∃ n, (usedTo s.last 64).length = n := ⟨_, rfl⟩
       obtain ⟨nl, hnl⟩ : ∃ n, P.length = n := ⟨_, rfl⟩
       obtain ⟨nk, hnk⟩ : ∃ n, K.length = n := ⟨_, rfl⟩
       rw [hnu, hnl, hnk] at dn ⊢
       clear hnu hnl hnk
       have hbn := dn.out.below
       have hy2 := (hbn.block _ (Array.getElem?_eq_some_iff.1 HY.out).1).trans HY.out
       have hba : Below w2.heap.size w2 (w2.alloc (.cells #[.int .i64 s.self, .int .i64 s.qh, .int .i64 s.qb, .int .i64 s.qg, .int .i64 s.epoch, .slice Au nu cu, .slice Al nl cl, .int .i64 s.qg, .slice Ak nk ck] 37)) := Me.below_alloc (Below.refl _ _)
       have S2 : Hid (Ln W1 D O s m K (.slice Au nu cu) (.slice Al nl cl) (.slice Ak nk ck) P (w.heap.size + 1) w2.heap.size #[.int .i64 ek, .int .i64 eo, .int .i64 ed, .int .i64 ee, .int .i64 ec, .slice R en cr] (w2.alloc (.cells #[.int .i64 s.self, .int .i64 s.qh, .int .i64 s.qb, .int .i64 s.qg, .int .i64 s.epoch, .slice Au nu cu, .slice Al nl cl, .int .i64 s.qg, .slice Ak nk ck] 37))) := ⟨dn.out.go hba, (hba.block _ (Array.getElem?_eq_some_iff.1 hy2).1).trans hy2, heap_alloc_new w2 _⟩
       have hw2 : Hid (Below w.heap.size w (w2.alloc (.cells #[.int .i64 s.self, .int .i64 s.qh, .int .i64 s.qb, .int .i64 s.qg, .int .i64 s.epoch, .slice Au nu cu, .slice Al nl cl, .int .i64 s.qg, .slice Ak nk ck] 37))) := go_on (go_on HB.out hbn) hba
       obtain ⟨V2, hV2⟩ : ∃ V, w2.alloc (.cells #[.int .i64 s.self, .int .i64 s.qh, .int .i64 s.qb, .int .i64 s.qg, .int .i64 s.epoch, .slice Au nu cu, .slice Al nl cl, .int .i64 s.qg, .slice Ak nk ck] 37) = V := ⟨_, rfl⟩
       have HV2 := Lib.hid hV2
       rw [hV2] at S2 hw2 hba
       have HBA := Lib.hid hba
       clear hbn hy2 hba hV2)
    | (go_at_call 16
       rw [HV2.out]
       refine (Held_l _ O V2 m D s (Lib.hid S2.out.dn.lv)).mono ?_
       rintro e w4 ⟨vh, PH, rfl, oH, pH, b4⟩
       obtain ⟨aH, cH, rfl, _⟩ := oH.out.form))
  have hby : ∀ p ∈ PH, ∀ z ∈ p.x.p, z < 256 := fun p hp => (S2.out.dn.lv.ok.all p.x (by rw [← pH.out]; exact List.mem_map_of_mem hp)).2.2
  have HMz0 := Lib.hid (Mz.of_ow oH.out hby)
  have hnp : ∀ p ∈ PH, p.x.p.length ≤ 48 := fun p hp => (msgN_zero (S2.out.dn.lv.ok.all p.x (by rw [← pH.out]; exact List.mem_map_of_mem hp)).1).2.2
  have hnH9 : PH.length ≤ 256 := by
    have h1 := S2.out.dn.lv.ok.len
    have h2 := S2.out.dn.lv.ok.h1
    have h3 := congrArg List.length pH.out
    rw [List.length_map] at h3
    omega
  have HNp := Lib.hid hnp
  obtain ⟨nH, hnH⟩ : ∃ n, PH.length = n := ⟨_, rfl⟩
  rw [hnH] at hnH9
  have HN9 := Lib.hid hnH9
  have HNH := Lib.hid hnH
  obtain ⟨X, hXe⟩ : ∃ X, w2.heap.size = X := ⟨_, rfl⟩
  rw [hnH]
  rw [hXe] at S2 ⊢
  have HXe := Lib.hid hXe
  clear hby hnH hXe oH pH hnp hnH9 s0 s1 s2 s3 HD HV2
  go_loopw [11] (fun v11 wr => ∃ j : Nat, v11 = .int .i64 (j : Int) ∧ j ≤ nH ∧ Hid (Mz wr V2.heap.size aH PH j) ∧ Hid (Below V2.heap.size V2 wr)) (fun v11 _ => nH - (intOf v11).toNat)
  case atStart => exact ⟨0, rfl, Nat.zero_le _, HMz0, b4⟩
  case round =>
    obtain ⟨j, rfl, hj, HM, HBr⟩ := hrel
    by_cases hlt : j < nH
    · obtain ⟨p, hp⟩ : ∃ p, PH[j]? = some p := ⟨_, List.getElem?_eq_getElem (by have := HNH.out; omega)⟩
      have HP := Lib.hid hp
      obtain ⟨g, rfl, hg, _, x0, x1, x2, x3, x4, xf, xd⟩ := HM.out.at_ hp
      have HG := Lib.hid hg
      unfold Pq.v at x4
      obtain ⟨np, hnp⟩ : ∃ n, p.x.p.length = n := ⟨_, rfl⟩
      have HNP := Lib.hid hnp
      rw [hnp] at x4
      obtain ⟨pA, hpA⟩ : ∃ n, p.A = n := ⟨_, rfl⟩
      have HPA := Lib.hid hpA
      rw [hpA] at x4
      obtain ⟨pc, hpc⟩ : ∃ n, p.c = n := ⟨_, rfl⟩
      rw [hpc] at x4
      have HV : Hid (p.v = .slice pA np pc) := by show _ = _; unfold Pq.v; rw [hpA, hnp, hpc]
      have g1 : (j : Int) < (nH : Int) := by omega
      have g2 : ¬ ((nH : Int) ≤ (j : Int)) := by omega
      have g3 : (j : Int) < 1000 := by have := HN9.out; omega
      have hn48 := HNp.out p (List.mem_of_getElem? hp)
      rw [HNP.out] at hn48
      clear hnp hpA hpc hp hg xd x0 x1 x2 x3
      go_wp2
      go_loopw [12] (fun v12 wr => ∃ k : Nat, v12 = .int .i64 (k : Int) ∧ k ≤ np ∧ Hid (Mz wr V2.heap.size (some ⟨g, 0, none⟩) PH j) ∧ Hid (Below V2.heap.size V2 wr)) (fun v12 _ => np - (intOf v12).toNat)
      case atStart => exact ⟨0, rfl, Nat.zero_le _, HM, HBr⟩
      case round =>
        obtain ⟨k, rfl, hk, HMq, HBq⟩ := hrel
        obtain ⟨g', e', _, _, y0, y1, y2, y3, y4, yf, yd⟩ := HMq.out.at_ HP.out
        cases e'
        rw [HV.out] at y4
        rw [HPA.out, HNP.out] at yd
        have yf4 := yf (j * 5 + 4)
        by_cases hlk : k < np
        · obtain ⟨gd, b, cs, rfl, hgd, hb, hcs, z0, z1⟩ := yd.at_ hlk
          have HGd := Lib.hid hgd
          have HCs := Lib.hid hcs
          have t1 : (k : Int) < (np : Int) := by omega
          have t4 : (k : Int) < 1000 := by omega
          have t2 : ¬ ((np : Int) ≤ (k : Int)) := by omega
          obtain ⟨c, hc⟩ : ∃ c : Nat, 255 - b = c := ⟨_, rfl⟩
          have hcI : (255 : Int) - (b : Int) = (c : Int) := by omega
          have hc8 : c < 256 := by omega
          have HWr : Hid (IntKind.u8.wrap (255 - (b : Int)) = (c : Int)) := by show _ = _; rw [hcI]; exact Me.wrap8 (by unfold Me.U8; omega)
          have HC8 := Lib.hid hc8
          have HZ0 := Lib.hid z0
          have HZ1 := Lib.hid z1
          have HY4 := Lib.hid y4
          clear hgd hcs hb hc hcI hc8 yd yf yf4 y0 y1 y2 y3 xf x4 z0 z1
          go_wp2
          have S0 : wr.drew.cell? ⟨g, j * 5 + 4, none⟩ = some (.slice (some ⟨gd, 0, none⟩) np pc) := HY4.out
          clear y4
          refine wp_region_held_drew (S := fun W : World => W.cell? ⟨g, j * 5 + 4, none⟩ = some (.slice (some ⟨gd, 0, none⟩) np pc)) (by kernel_rfl) S0 (fun hHeld => ?_)
          refine wpAnyH_take (i := 0) (v := .slice (some ⟨g, 0, none⟩) nH cH) rfl (by kernel_rfl) (by kernel_rfl) (by kernel_rfl) (fun _ _ _ h => h) (Or.inl ⟨by rfl, ?_⟩) (by first | assumption | exact trivial) ?_
          · intro W hSW; go_simp; try (with_reducible rfl)
          simp only [Act.put, List.getElem_toArray, List.getElem_cons_succ, List.getElem_cons_zero, List.setIfInBounds_toArray, List.set_cons_zero, List.set_cons_succ]
          refine wpAnyH_take (i := 1) (v := .int .i64 (j : Int)) rfl (by kernel_rfl) (by kernel_rfl) (by kernel_rfl) (fun _ _ _ h => h) (Or.inl ⟨by rfl, ?_⟩) (by first | assumption | exact trivial) ?_
          · intro W hSW; go_simp; try (with_reducible rfl)
          simp only [Act.put, List.getElem_toArray, List.getElem_cons_succ, List.getElem_cons_zero, List.setIfInBounds_toArray, List.set_cons_zero, List.set_cons_succ]
          refine wpAnyH_take (i := 2) (v := .pointer (some ⟨g, j * 5, none⟩)) rfl (by kernel_rfl) (by kernel_rfl) (by kernel_rfl) (fun _ _ _ h => h) (Or.inl ⟨by rfl, ?_⟩) (by first | assumption | exact trivial) ?_
          · intro W hSW; go_simp; try (with_reducible rfl)
          simp only [Act.put, List.getElem_toArray, List.getElem_cons_succ, List.getElem_cons_zero, List.setIfInBounds_toArray, List.set_cons_zero, List.set_cons_succ]
          refine wpAnyH_take (i := 3) (v := .pointer (some ⟨g, j * 5 + 4, none⟩)) rfl (by kernel_rfl) (by kernel_rfl) (by kernel_rfl) (fun _ _ _ h => h) (Or.inl ⟨by rfl, ?_⟩) (by first | assumption | exact trivial) ?_
          · intro W hSW; go_simp; try (with_reducible rfl)
          simp only [Act.put, List.getElem_toArray, List.getElem_cons_succ, List.getElem_cons_zero, List.setIfInBounds_toArray, List.set_cons_zero, List.set_cons_succ]
          refine wpAnyH_take (i := 4) (v := .slice (some ⟨gd, 0, none⟩) np pc) rfl (by kernel_rfl) (by kernel_rfl) (by kernel_rfl) (fun _ _ _ h => h) (Or.inl ⟨by rfl, ?_⟩) (by first | assumption | exact trivial) ?_
          · intro W hSW; have q := hSW; go_simp; try (with_reducible rfl)
          simp only [Act.put, List.getElem_toArray, List.getElem_cons_succ, List.getElem_cons_zero, List.setIfInBounds_toArray, List.set_cons_zero, List.set_cons_succ]
          refine wpAnyH_take (i := 5) (v := .int .i64 (k : Int)) rfl (by kernel_rfl) (by kernel_rfl) (by kernel_rfl) (fun _ _ _ h => h) (Or.inl ⟨by rfl, ?_⟩) (by first | assumption | exact trivial) ?_
          · intro W hSW; go_simp; try (with_reducible rfl)
          simp only [Act.put, List.getElem_toArray, List.getElem_cons_succ, List.getElem_cons_zero, List.setIfInBounds_toArray, List.set_cons_zero, List.set_cons_succ]
          refine wpAnyH_take (i := 6) (v := .slice (some ⟨g, 0, none⟩) nH cH) rfl (by kernel_rfl) (by kernel_rfl) (by kernel_rfl) (fun _ _ _ h => h) (Or.inl ⟨by rfl, ?_⟩) (by first | assumption | exact trivial) ?_
          · intro W hSW; go_simp; try (with_reducible rfl)
          simp only [Act.put, List.getElem_toArray, List.getElem_cons_succ, List.getElem_cons_zero, List.setIfInBounds_toArray, List.set_cons_zero, List.set_cons_succ]
          refine wpAnyH_take (i := 7) (v := .int .i64 (j : Int)) rfl (by kernel_rfl) (by kernel_rfl) (by kernel_rfl) (fun _ _ _ h => h) (Or.inl ⟨by rfl, ?_⟩) (by first | assumption | exact trivial) ?_
          · intro W hSW; go_simp; try (with_reducible rfl)
          simp only [Act.put, List.getElem_toArray, List.getElem_cons_succ, List.getElem_cons_zero, List.setIfInBounds_toArray, List.set_cons_zero, List.set_cons_succ]
          refine wpAnyH_take (i := 8) (v := .pointer (some ⟨g, j * 5, none⟩)) rfl (by kernel_rfl) (by kernel_rfl) (by kernel_rfl) (fun _ _ _ h => h) (Or.inl ⟨by rfl, ?_⟩) (by first | assumption | exact trivial) ?_
          · intro W hSW; go_simp; try (with_reducible rfl)
          simp only [Act.put, List.getElem_toArray, List.getElem_cons_succ, List.getElem_cons_zero, List.setIfInBounds_toArray, List.set_cons_zero, List.set_cons_succ]
          refine wpAnyH_take (i := 9) (v := .pointer (some ⟨g, j * 5 + 4, none⟩)) rfl (by kernel_rfl) (by kernel_rfl) (by kernel_rfl) (fun _ _ _ h => h) (Or.inl ⟨by rfl, ?_⟩) (by first | assumption | exact trivial) ?_
          · intro W hSW; go_simp; try (with_reducible rfl)
          simp only [Act.put, List.getElem_toArray, List.getElem_cons_succ, List.getElem_cons_zero, List.setIfInBounds_toArray, List.set_cons_zero, List.set_cons_succ]
          refine wpAnyH_take (i := 10) (v := .slice (some ⟨gd, 0, none⟩) np pc) rfl (by kernel_rfl) (by kernel_rfl) (by kernel_rfl) (fun _ _ _ h => h) (Or.inl ⟨by rfl, ?_⟩) (by first | assumption | exact trivial) ?_
          · intro W hSW; have q := hSW; go_simp; try (with_reducible rfl)
          simp only [Act.put, List.getElem_toArray, List.getElem_cons_succ, List.getElem_cons_zero, List.setIfInBounds_toArray, List.set_cons_zero, List.set_cons_succ]
          refine wpAnyH_take (i := 11) (v := .int .i64 (k : Int)) rfl (by kernel_rfl) (by kernel_rfl) (by kernel_rfl) (fun _ _ _ h => h) (Or.inl ⟨by rfl, ?_⟩) (by first | assumption | exact trivial) ?_
          · intro W hSW; go_simp; try (with_reducible rfl)
          simp only [Act.put, List.getElem_toArray, List.getElem_cons_succ, List.getElem_cons_zero, List.setIfInBounds_toArray, List.set_cons_zero, List.set_cons_succ]
          refine wpAnyH_take (i := 12) (v := .pointer (some ⟨gd, k, none⟩)) rfl (by kernel_rfl) (by kernel_rfl) (by kernel_rfl) (fun _ _ _ h => h) (Or.inl ⟨by rfl, ?_⟩) (by first | assumption | exact trivial) ?_
          · intro W hSW; go_simp; try (with_reducible rfl)
          simp only [Act.put, List.getElem_toArray, List.getElem_cons_succ, List.getElem_cons_zero, List.setIfInBounds_toArray, List.set_cons_zero, List.set_cons_succ]
          refine wpAnyH_ready (rs := [13]) (by kernel_rfl) (by simp) ?_
          refine AllReadyH.cons rfl (fun K hK => ?_) AllReadyH.nil
          have q0 : wr.drew.cell? ⟨gd, k, none⟩ = some (.int .u8 (b : Int)) := HZ0.out
          go_simp
          refine hK.out _ _ (S0) (fun hHeld => ?_)
          clear hK K
          refine wpAnyH_take (i := 14) (v := .int .u8 (c : Int)) rfl (by kernel_rfl) (by kernel_rfl) (by kernel_rfl) (fun _ _ _ h => h) (Or.inl ⟨by rfl, ?_⟩) (by first | assumption | exact trivial) ?_
          · intro W hSW; have q := HWr.out; go_simp; try (with_reducible rfl)
          simp only [Act.put, List.getElem_toArray, List.getElem_cons_succ, List.getElem_cons_zero, List.setIfInBounds_toArray, List.set_cons_zero, List.set_cons_succ]
          refine wpAnyH_take (i := 15) (v := .pointer (some ⟨gd, k, none⟩)) rfl (by kernel_rfl) (by kernel_rfl) (by kernel_rfl) (fun _ _ _ h => h) (Or.inl ⟨by rfl, ?_⟩) (by first | assumption | exact trivial) ?_
          · intro W hSW; go_simp; try (with_reducible rfl)
          simp only [Act.put, List.getElem_toArray, List.getElem_cons_succ, List.getElem_cons_zero, List.setIfInBounds_toArray, List.set_cons_zero, List.set_cons_succ]
          refine wpAnyH_ready (rs := [16]) (by kernel_rfl) (by simp) ?_
          refine AllReadyH.cons rfl (fun K hK => ?_) AllReadyH.nil
          have q1 : wr.drew.frozen? ⟨gd, k, none⟩ = false := HZ1.out
          go_simp
          obtain ⟨V6, hV6⟩ : ∃ V, (wr.setCell ⟨gd, k, none⟩ (.int .u8 (c : Int))).drew = V := ⟨_, rfl⟩
          have hM6 : Mz V6 V2.heap.size (some ⟨g, 0, none⟩) PH j := by
            rw [← hV6]
            exact HMq.out.set HCs.out HC8.out
          have hB6 : Below V2.heap.size V2 V6 := by
            rw [← hV6]
            exact (below_set HBq.out HGd.out _).drew
          rw [hV6]
          clear hV6
          have hS6 : V6.cell? ⟨g, j * 5 + 4, none⟩ = some (.slice (some ⟨gd, 0, none⟩) np pc) := by
            obtain ⟨g', e', _, _, _, _, _, _, u4, _⟩ := hM6.at_ HP.out
            cases e'
            rw [HV.out] at u4
            exact u4
          refine hK.out _ _ (hS6) (fun hHeld => ?_)
          clear hK K
          refine wpAnyH_done (by kernel_rfl) ?_ _
          have HM6 := Lib.hid hM6
          have HB6 := Lib.hid hB6
          clear hHeld hS6 hM6 hB6 S0
          go_wp2
          go_roundw
          case rel => exact ⟨k + 1, by go_num, by omega, HM6, HB6⟩
          case measure => simp [intOf]; omega
        · obtain rfl : k = np := by omega
          have t1 : ¬ (k : Int) < (k : Int) := by omega
          have HTh : Hid (wr.there g (j * 5) 5) := fun i hi => by
            refine ⟨?_, yf _⟩
            have hi5 : i = 0 ∨ i = 1 ∨ i = 2 ∨ i = 3 ∨ i = 4 := by omega
            rcases hi5 with rfl | rfl | rfl | rfl | rfl
            · rw [Nat.add_zero, y0]; rfl
            · rw [y1]; rfl
            · rw [y2]; rfl
            · rw [y3]; rfl
            · rw [y4]; rfl
          have HJ : Hid (j < PH.length) := by show _ < _; rw [HNH.out]; exact hlt
          clear yd yf yf4 y0 y1 y2 y3 xf x4
          go_wp2_with (refine wpList_store_mid rfl 46 (.tmp 67) (.tmp 66) rfl g (j * 5) #[.int .i64 0, .int .i64 0, .int .i64 0, .int .i64 0, .slice none 0 0] rfl rfl ?ht (by kernel_rfl) (by kernel_rfl) ?_)
          case ht => exact HTh.out
          go_roundw
          case rel => exact ⟨j + 1, by go_num, by omega, HMq.out.row rfl HJ.out rfl, below_cells HBq.out HG.out _⟩
          case measure => simp [intOf]; omega
    · obtain rfl : j = nH := by omega
      have t1 : ¬ (j : Int) < (j : Int) := by omega
      have S5 := Lib.hid (S2.out.go HBr.out)
      have HSt := Lib.hid (State_l _ O wr m D s (by have := S5.out.dn.m50; omega) (Lib.hid S5.out.dn.lv))
      unfold StT at HSt
      have Hw5 := Lib.hid (go_on hw2.out HBr.out)
      have HBr7 : Hid (Below V2.heap.size V2 wr) := HBr
      have HXX : Hid (w2.heap.size = X) := HXe
      clear S2 hw2 HM HMz0 HBr b4
      go_wp2_with (go_at_call 17; (refine HSt.out.mono ?_); rintro e w5 ⟨n4, hn4, vU1, vH1, vM1, PH2, PM, LM, rfl, kU, oH2, pH2, mM, oM, pM, b5⟩; obtain ⟨aU, cU, rfl, _⟩ := kU.out.form; obtain ⟨aH2, cH2, rfl, _⟩ := oH2.out.form; obtain ⟨aM, cM, rfl, _⟩ := mM.out.form)
      have kz := Nz.of_kn kU.out
      obtain ⟨nU, hnU⟩ : ∃ n, (usedTo s.last 64).length = n := ⟨_, rfl⟩
      obtain ⟨nH2, hnH2⟩ : ∃ n, PH2.length = n := ⟨_, rfl⟩
      obtain ⟨nM, hnM⟩ : ∃ n, PM.length = n := ⟨_, rfl⟩
      rw [hnU] at kz
      rw [hnU, hnH2, hnM]
      obtain ⟨V5, hV5⟩ : ∃ x, w5.alloc (.cells #[.int .i64 s.self, .int .i64 s.epoch, .slice aU nU cU, .slice aH2 nH2 cH2, .slice aM nM cM] 59) = x := ⟨_, rfl⟩
      have hb5 : Below w5.heap.size w5 V5 := by rw [← hV5]; exact Me.below_alloc (Below.refl _ _)
      have hX5 : V5.heap[w5.heap.size]? = some (.cells #[.int .i64 s.self, .int .i64 s.epoch, .slice aU nU cU, .slice aH2 nH2 cH2, .slice aM nM cM] 59 (0, 0)) := by rw [← hV5]; exact heap_alloc_new w5 _
      have HK5 := Lib.hid (kz.below hb5)
      have HB5 : Hid (Below wr.heap.size wr V5) := go_on b5.out hb5
      have HX5 := Lib.hid hX5
      have hgl : ∀ g, aU = some ⟨g, 0, none⟩ → 0 < nU → g < w5.heap.size := fun g e hn => by
        obtain ⟨g', u, e', _, hl, _⟩ := kz.at_ hn
        rw [e'] at e
        cases e
        exact hl
      have HGl := Lib.hid hgl
      rw [hV5]
      obtain ⟨Z, hZ⟩ : ∃ x, w5.heap.size = x := ⟨_, rfl⟩
      rw [hZ] at HX5 HGl ⊢
      have hU64 : nU ≤ 64 := by rw [← hnU]; have := usedTo_len s.last 64; omega
      obtain ⟨wz, hwz⟩ : ∃ x, wr = x := ⟨_, rfl⟩
      rw [hwz] at HK5 HB5 HBr7 S5 Hw5
      clear hwz hnU hnH2 hnM kU oH2 pH2 mM oM pM b5 hn4 kz hb5 hX5 hgl hV5 hZ HSt
      go_loopw [14] (fun v14 wr => ∃ k : Nat, v14 = .int .i64 (k : Int) ∧ k ≤ nU ∧ Hid (Nz wr wz.heap.size aU nU) ∧ Hid (wr.heap[Z]? = some (.cells #[.int .i64 s.self, .int .i64 s.epoch, .slice aU nU cU, .slice aH2 nH2 cH2, .slice aM nM cM] 59 (0, 0))) ∧ Hid (Below wz.heap.size wz wr)) (fun v14 _ => nU - (intOf v14).toNat)
      case atStart => exact ⟨0, rfl, Nat.zero_le _, HK5, HX5, HB5⟩
      case round =>
        obtain ⟨k, rfl, hk, HKq, HXq, HBq⟩ := hrel
        obtain ⟨z0, z1, z2, z3, z4⟩ := state_cells HXq.out
        by_cases hlk : k < nU
        · obtain ⟨g, u, rfl, hg, hgl, q0, q1⟩ := HKq.out.at_ hlk
          have hgZ : Z ≠ g := by have := HGl.out g rfl (by omega); omega
          have HGZ := Lib.hid hgZ
          have HG := Lib.hid hg
          have t2 : (k : Int) < (nU : Int) := by omega
          have t4 : (k : Int) < 1000 := by omega
          have t3 : ¬ ((nU : Int) ≤ (k : Int)) := by omega
          clear hg hgl hgZ
          go_wp2
          go_roundw
          case rel => exact ⟨k + 1, by go_num, by omega, HKq.out.set _ _ _, (heap_setCell_other wr _ _ _ HGZ.out).trans HXq.out, below_set HBq.out HG.out _⟩
          case measure => simp [intOf]; omega
        · obtain rfl : k = nU := by omega
          have t2 : ¬ (k : Int) < (k : Int) := by omega
          have S7 := Lib.hid (S5.out.go HBq.out)
          have Hw7 := Lib.hid (go_on Hw5.out HBq.out)
          have hm50 := S7.out.dn.m50
          have hk50 := S7.out.dn.k50
          have HMay := Lib.hid (May_l _ O wr m D s ek ⟨eo, ed, ee, ec⟩ R en cr (Lib.hid S7.out.dn.lv))
          have HTold := Lib.hid (fun W (hW : Below wr.heap.size wr W) => told_ok _ O O W m D s K (.slice Au nu cu) (.slice Al nl cl) (.slice Ak nk ck) P (by omega) (Lib.hid (S7.out.go hW).dn.lv) (Lib.hid (S7.out.go hW).dn.rf) (by omega))
          have HAp := Lib.hid (fun W (hW : Below wr.heap.size wr W) => dn.out.apply (go_on (go_on (go_on HBA.out HBr7.out) HBq.out) hW) ek ⟨eo, ed, ee, ec⟩ R cr ep (HR.out W (go_on Hw7.out hW)) HRn.out)
          simp only [rsv, rsc, evC, HEn.out] at HMay HTold HAp
          obtain ⟨x0, x1, x2, x3, x4, x5, x6, x7, x8⟩ := rs_cells S7.out.st
          obtain ⟨i0, i1, i2, i3, i4, i5⟩ := ev_cells S7.out.ev
          by_cases h0 : mayE s ek ⟨eo, ed, ee, ec⟩ en = 0
          · rw [h0, show ((0 : Nat) : Int) = 0 from rfl] at HMay HAp
            clear h0 hm50 hk50 z0 z1 z3 z4
            go_wp2_with (first
              | (go_at_call 18; (refine HMay.out.mono ?_); rintro e w8 ⟨rfl, b8⟩; have S8 := Lib.hid (S7.out.go b8.out); clear x0 x1 x2 x3 x4 x5 x6 x7 x8 i0 i1 i2 i3 i4 i5; obtain ⟨x0, x1, x2, x3, x4, x5, x6, x7, x8⟩ := rs_cells S8.out.st)
              | (go_at_call 14; (refine (HTold.out w8 b8.out).mono ?_); rintro e w9 ⟨rfl, b9⟩; have B9 := Lib.hid (go_on b8.out b9.out); have S9 := Lib.hid (S8.out.go b9.out); clear x0 x1 x2 x3 x4 x5 x6 x7 x8; obtain ⟨i0, i1, i2, i3, i4, i5⟩ := ev_cells S9.out.ev)
              | (go_at_call 13; (refine (HAp.out w9 B9.out).mono ?_); rintro e w10 ⟨rfl, l10, b10⟩)
              | (go_at_call 9; refine (HAw.out _).mono ?_; rintro e w11 ⟨rfl, b11⟩))
            go_ret
            exact ⟨rfl, go_on (go_on HB.out (S9.out.dn.below.trans (but_out b10.out S9.out.dn.below.size))) b11.out⟩
          · have hz := Mg.nz h0
            have hap := appE_no (p := ep) (by rw [HEn.out]; exact h0)
            rw [hap] at HAp
            obtain ⟨mN, hmN⟩ : ∃ n, mayE s ek ⟨eo, ed, ee, ec⟩ en = n := ⟨_, rfl⟩
            rw [hmN] at HMay HAp hz
            have HTold2 : Hid (∀ W w10, Below wr.heap.size wr W → Lv W1.heap.size (OW O w2.heap.size W.heap.size) w10 (m + 1) D s → But (Out W1.heap.size (OW O w2.heap.size W.heap.size)) W w10 → Calls Tryz.prog 14 #[.pointer (some ⟨D, 0, none⟩), .agg (rsv s (.slice Au nu cu) (.slice Al nl cl) (.slice Ak nk ck))] w10 fun e w' => e = .returned (.bool true) ∧ Hid (Below w10.heap.size w10 w')) := fun W w10 hW hl hb =>
              told_ok _ _ O w10 (m + 1) D s K (.slice Au nu cu) (.slice Al nl cl) (.slice Ak nk ck) P (by omega) (Lib.hid hl) (Lib.hid ((S7.out.go hW).dn.rf.but hb fun k hk hs => hs.2 (.inl hk))) (by omega)
            simp only [rsv, rsc] at HTold2
            clear h0 hmN hap hm50 hk50 z0 z1 z3 z4
            go_wp2_with (first
              | (go_at_call 18; (refine HMay.out.mono ?_); rintro e w8 ⟨rfl, b8⟩; have S8 := Lib.hid (S7.out.go b8.out); clear x0 x1 x2 x3 x4 x5 x6 x7 x8 i0 i1 i2 i3 i4 i5; obtain ⟨x0, x1, x2, x3, x4, x5, x6, x7, x8⟩ := rs_cells S8.out.st)
              | (go_at_call 13; (refine (HAp.out w9 B9.out).mono ?_); rintro e w10 ⟨rfl, l10, b10⟩; have X10 := ow_same b10.out (Nat.le_of_eq HXX.out) S9.out.st; clear i0 i1 i2 i3 i4 i5; obtain ⟨x0, x1, x2, x3, x4, x5, x6, x7, x8⟩ := rs_cells X10)
              | (go_at_call 14; first
                  | ((with_reducible refine (HTold.out w8 b8.out).mono ?_); rintro e w9 ⟨rfl, b9⟩; have B9 := Lib.hid (go_on b8.out b9.out); have S9 := Lib.hid (S8.out.go b9.out); clear x0 x1 x2 x3 x4 x5 x6 x7 x8; obtain ⟨i0, i1, i2, i3, i4, i5⟩ := ev_cells S9.out.ev)
                  | ((with_reducible refine (HTold2.out w9 w10 B9.out l10.out b10.out).mono ?_); rintro e w12 ⟨rfl, b12⟩))
              | (go_at_call 9; refine (HAw.out _).mono ?_; rintro e w11 ⟨rfl, b11⟩))
            go_ret
            exact ⟨rfl, go_on (go_on (go_on HB.out (S9.out.dn.below.trans (but_out b10.out S9.out.dn.below.size))) b12.out) b11.out⟩
theorem storeMays (me qh qb qg : Int) (A : Option Addr) (len cap : Nat) (ls : List Evt) (ev : Evt) (R : Option Addr) (cr : Nat) (w : World) (w1 : len = ls.length ∧ len ≤ cap ∧ cap ≤ 9223372036854775807 ∧ Evs w A ls) (w2 : ev.p.length ≤ cr ∧ cr ≤ 140737488351232 ∧ Me.Rd w w.heap.size R ev.p ∧ (R = none → ev.p.length = 0 ∧ cr = 0)) :
    Calls Tryz.prog 4 #[.agg #[.int .i64 me, .int .i64 qh, .int .i64 qb, .int .i64 qg], .slice A len cap, .agg (evC ev.k ev.i R ev.p.length cr)] w fun e w' => e = .returned (.bool true) ∧ Below w.heap.size w w' := by
  by_cases h : NewOk me qh qb qg
  · exact storeMays_ok me qh qb qg A len cap ls ev.k ev.i R cr ev.p w h w1 w2.2.2.1 w2.2.2.2
  · exact storeMays_no me qh qb qg _ ev.k ev.i R ev.p.length cr w h
end Go.Proofs.YtfnlhfelpdkieaaGreat.So
/- What holds between the rounds of the law of plays. -/
namespace Go.Proofs.YtfnlhfelpdkieaaGreat.So
open Go.RowKit Go.Deep
open Go.Proofs.YtfnlhfelpdkieaaGreat.Me Go.Proofs.YtfnlhfelpdkieaaGreat.Sb
set_option linter.unusedVariables false
set_option linter.unusedSimpArgs false

/-- Both stores, between rounds. -/
structure Bp (w : World) (D X j : Nat) (wr : World) (O : Nat → Prop) (s : Sto) (m : Nat) (K : Se.Ks) (vU vL vK : Value) (P : List Pq) : Prop where
  lv : Lv w.heap.size O wr m D s
  rf : Rf (fun g => O g ∧ g ≠ X) wr s K vU vL vK P
  box : wr.heap[X]? = some (.cells (rsv s vU vL vK) 37 (0, 0))
  oX : O X
  oge : ∀ k, O k → w.heap.size ≤ k ∧ k < wr.heap.size
  mj : m ≤ j
  kj : K.length ≤ j
  below : Below w.heap.size w wr
/-- The reference's blocks behind its Apply. -/
def QP (O : Nat → Prop) (X a b : Nat) (g : Nat) : Prop := (O g ∧ g ≠ X) ∨ (a ≤ g ∧ g < b)
section
variable {w : World} {D X j : Nat} {wr V3 V6 w9 wq : World} {O : Nat → Prop} {s s' : Sto} {m : Nat} {K K' : Se.Ks} {vU vL vK vU' vL' vK' : Value} {P P' : List Pq}
theorem Bp.mid (h : Bp w D X j wr O s m K vU vL vK P) (hW : Below wr.heap.size wr V3) : Rf (fun g => O g ∧ g ≠ X) V3 s K vU vL vK P ∧ V3.heap[X]? = some (.cells (rsv s vU vL vK) 37 (0, 0)) ∧ Below w.heap.size w V3 :=
  ⟨h.rf.below hW, (hW.block _ (Array.getElem?_eq_some_iff.1 h.box).1).trans h.box, go_on h.below hW⟩
/-- The reference's store is laid down. -/
theorem Bp.laid (h : Bp w D X j wr O s m K vU vL vK P) (b3 : Below wr.heap.size wr V3) (h6 : Rf (fun g => (O g ∧ g ≠ X) ∨ V3.heap.size ≤ g) V6 s' K' vU' vL' vK' P') (b6 : Below V3.heap.size V3 V6) :
    Lv w.heap.size (OW O wr.heap.size V6.heap.size) (V6.setRow X (rsv s' vU' vL' vK')) m D s ∧ Rf (QP O X V3.heap.size V6.heap.size) (V6.setRow X (rsv s' vU' vL' vK')) s' K' vU' vL' vK' P' ∧ (V6.setRow X (rsv s' vU' vL' vK')).heap[X]? = some (.cells (rsv s' vU' vL' vK') 37 (0, 0)) ∧ Below w.heap.size w (V6.setRow X (rsv s' vU' vL' vK')) ∧ (V6.setRow X (rsv s' vU' vL' vK')).heap.size = V6.heap.size ∧ ∀ k, k ≠ X → (V6.setRow X (rsv s' vU' vL' vK')).heap[k]? = V6.heap[k]? := by
  have b36 := go_on b3 b6
  have hXl : X < wr.heap.size := (Array.getElem?_eq_some_iff.1 h.box).1
  have hX6 := (b36.block _ hXl).trans h.box
  have hge := (h.oge X h.oX).1
  have hz : (V6.setRow X (rsv s' vU' vL' vK')).heap.size = V6.heap.size := by simp
  have hbs : But (fun k => k = X) V6 (V6.setRow X (rsv s' vU' vL' vK')) := (But.refl (fun k => k = X) V6).setRow (.inl rfl) _
  refine ⟨?_, ?_, setRow_heap _ _ _ _ _ _ hX6, Sb.below_setRow _ (go_on h.below b36) hge, hz, fun k hk => setRow_other _ _ _ _ hk⟩
  · refine ((h.lv.other (O' := OW O wr.heap.size V6.heap.size) fun k hk ho => ho.elim id fun q => by omega).below b36).but hbs (fun k e => .inl (.inl (by rw [e]; exact h.oX))) fun k cs e hc => ?_
    subst e
    rw [hX6] at hc
    cases hc
  · refine (h6.but hbs fun k hk e => ?_).mono fun k hk hq => ?_
    · rcases hk with hk | hk
      · exact hk.2 e
      · have := b3.size; omega
    · rw [hz] at hk
      rcases hq with hq | hq
      · exact .inl hq
      · exact .inr ⟨hq, hk⟩
/-- Behind the program's Apply. -/
theorem Bp.step {W : World} (h : Bp w D X j wr O s m K vU vL vK P) (b3 : Below wr.heap.size wr V3) (b6 : V3.heap.size ≤ V6.heap.size) (hW : W.heap.size = V6.heap.size) (hB : Below w.heap.size w W) (hr : Rf (QP O X V3.heap.size V6.heap.size) W s' K' vU' vL' vK' P') (hX : W.heap[X]? = some (.cells (rsv s' vU' vL' vK') 37 (0, 0)))
    (b9 : But (Out w.heap.size (OW O wr.heap.size V6.heap.size)) W w9) (hl : Lv w.heap.size (OW O wr.heap.size V6.heap.size) w9 (m + 1) D s') (hk : K'.length ≤ K.length + 1) :
    Bp w D X (j + 1) w9 (OW O wr.heap.size V6.heap.size) s' (m + 1) K' vU' vL' vK' P' ∧ Rf (QP O X V3.heap.size V6.heap.size) w9 s' K' vU' vL' vK' P' ∧ ∀ k, wr.heap.size ≤ k → k < V6.heap.size → w9.heap[k]? = W.heap[k]? := by
  have hz := b3.size
  have hwz := h.below.size
  have hrr : Rf (QP O X V3.heap.size V6.heap.size) w9 s' K' vU' vL' vK' P' := hr.but b9 fun k hk hs => hs.2 (hk.elim (fun q => .inl q.1) fun q => .inr ⟨by omega, q.2⟩)
  have hXl : X < W.heap.size := (Array.getElem?_eq_some_iff.1 hX).1
  refine ⟨⟨hl, hrr.mono fun k _ hq => hq.elim (fun q => ⟨.inl q.1, q.2⟩) fun q => ⟨.inr ⟨by omega, q.2⟩, fun e => ?_⟩, (b9.same X hXl fun hs => hs.2 (.inl h.oX)).trans hX, .inl h.oX, fun k hk => ?_, by have := h.mj; omega, by have := h.kj; omega, hB.trans (but_out b9 hB.size)⟩, hrr, fun k h1 h2 => b9.same k (by omega) fun hs => hs.2 (.inr ⟨h1, h2⟩)⟩
  · have := (Array.getElem?_eq_some_iff.1 h.box).1
    omega
  · have hs := b9.size
    rcases hk with hk | hk
    · have := h.oge k hk; omega
    · omega
/-- The law writes over its own copy's bytes. -/
theorem Bp.over {O0 S : Nat → Prop} {a b : Nat} (h : Bp w D X j w9 O s m K vU vL vK P) (hr : Rf (QP O0 X a b) w9 s K vU vL vK P) (hQ : ∀ k, QP O0 X a b k → O k ∧ k ≠ X) (hb : But S w9 wq) (h1 : ∀ k, S k → O k ∧ k ≠ X ∧ ¬ QP O0 X a b k) (h2 : ∀ (k : Nat) (cs : Array Value), S k → w9.heap[k]? ≠ some (.cells cs 3 (0, 0))) : Bp w D X j wq O s m K vU vL vK P :=
  ⟨h.lv.but hb (fun k hk => .inl (h1 k hk).1) h2, (hr.but hb fun k hk hs => (h1 k hs).2.2 hk).mono fun k _ hk => hQ k hk, (hb.same X (Array.getElem?_eq_some_iff.1 h.box).1 fun hs => (h1 X hs).2.1 rfl).trans h.box, h.oX, fun k hk => ⟨(h.oge k hk).1, Nat.lt_of_lt_of_le (h.oge k hk).2 hb.size⟩, h.mj, h.kj, h.below.trans (hb.below h.below.size fun k hk => (h.oge k (h1 k hk).1).1)⟩
theorem Bp.go (h : Bp w D X j wr O s m K vU vL vK P) (hb : Below wr.heap.size wr wq) : Bp w D X j wq O s m K vU vL vK P :=
  ⟨h.lv.below hb, h.rf.below hb, (hb.block _ (Array.getElem?_eq_some_iff.1 h.box).1).trans h.box, h.oX, fun k hk => ⟨(h.oge k hk).1, Nat.lt_of_lt_of_le (h.oge k hk).2 hb.size⟩, h.mj, h.kj, go_on h.below hb⟩
/-- Both stores ahead of any event. -/
theorem Bp.new {me qh qb qg : Int} (hl : Lv w.heap.size (fun k => k = X) wr 0 D (new0 me qh qb qg)) (hx : wr.heap[X]? = some (.cells #[.int .i64 me, .int .i64 qh, .int .i64 qb, .int .i64 qg, .int .i64 0, .slice none 0 0, .slice none 0 0, .int .i64 qg, .slice none 0 0] 37 (0, 0)))
    (hgt : w.heap.size ≤ X) (hb : Below w.heap.size w wr) : Bp w D X 0 wr (fun k => k = X) (new0 me qh qb qg) 0 [] (.slice none 0 0) (.slice none 0 0) (.slice none 0 0) [] := by
  have hX := (Array.getElem?_eq_some_iff.1 hx).1
  refine ⟨hl, ⟨?_, fun k e => (by cases e), Rl.nil _ _ _, fun k e => (by cases e), rfl, Kv.nilq _ _, ?_, hl.ok⟩, hx, rfl, fun k hk => (by subst hk; exact ⟨hgt, hX⟩), Nat.le_refl _, Nat.le_refl _, hb⟩
  · show Kn _ _ _ (usedTo (fun _ => 0) 64)
    rw [usedTo_none]
    exact Kn.nil _ _
  · exact Se.Rel.nil hl.ok.sok (fun _ _ => rfl)
end
end Go.Proofs.YtfnlhfelpdkieaaGreat.So
