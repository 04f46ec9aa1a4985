/- A law's done: both sides' stores behind the events. -/
import Derived.Test.YtfnlhfelpdkieaaGreatZ28
namespace Go.Proofs.YtfnlhfelpdkieaaGreat.So
open Go.RowKit
open Go.Proofs.YtfnlhfelpdkieaaGreat.Me Go.Proofs.YtfnlhfelpdkieaaGreat.Sb
set_option linter.unusedVariables false
set_option linter.unusedSimpArgs false

set_option maxRecDepth 100000 in
set_option maxHeartbeats 16000000 in
theorem done_ok (me qh qb qg : Int) (A : Option Addr) (len cap : Nat) (ls : List Evt) (w : World) (h : NewOk me qh qb qg) (hl : len = ls.length ∧ len ≤ cap ∧ cap ≤ 9223372036854775807 ∧ Evs w A ls) : Calls Tryz.prog 15 #[.agg #[.int .i64 me, .int .i64 qh, .int .i64 qb, .int .i64 qg], .slice A len cap] w fun e w' =>
    ∃ D s vU vL vK, e = .returned (.tuple #[.pointer (some ⟨D, 0, none⟩), .agg (rsv s vU vL vK), .bool true]) ∧ ∃ O m K P, Hid (Dn w D w' O s m K vU vL vK P) := by
  obtain ⟨rfl, hc1, hc2, hev⟩ := hl
  obtain ⟨L, hL⟩ : ∃ L, (ls.take 50).length = L := ⟨_, rfl⟩
  have hL50 : L ≤ 50 ∧ L ≤ ls.length := by rw [← hL, List.length_take]; omega
  have HC := Lib.hid (fun W => cut_any A cap ls W hc1 hc2 L hL)
  have HN := Lib.hid (fun W (hW : w.heap.size + 1 < W.heap.size) => New_l w.heap.size (fun k => k = w.heap.size + 1) me qh qb qg h W (by omega) fun k hk => by omega)
  have HR := Lib.hid (fun W => RNew_ok me qh qb qg W h)
  have HE : Hid (∀ j, j < L → ∃ b off R cr, A = some ⟨b, off, none⟩ ∧ (R = none → (evAt ls j).p.length = 0 ∧ cr = 0) ∧ ∀ W, Below w.heap.size w W → (W.cell? ⟨b, off + j * 6, none⟩ = some (.int .i64 (evAt ls j).k) ∧ W.cell? ⟨b, off + j * 6 + 1, none⟩ = some (.int .i64 (evAt ls j).i.o) ∧
    W.cell? ⟨b, off + j * 6 + 2, none⟩ = some (.int .i64 (evAt ls j).i.d) ∧ W.cell? ⟨b, off + j * 6 + 3, none⟩ = some (.int .i64 (evAt ls j).i.e) ∧ W.cell? ⟨b, off + j * 6 + 4, none⟩ = some (.int .i64 (evAt ls j).i.c) ∧
    W.cell? ⟨b, off + j * 6 + 5, none⟩ = some (.slice R (evAt ls j).p.length cr)) ∧ Me.Rd W W.heap.size R (evAt ls j).p) := fun j hj => by
    obtain ⟨b, off, R, cr, e1, e2, c0, c1, c2, c3, c4, c5, g1, g2, g3, g4⟩ := hev j (by omega)
    exact ⟨b, off, R, cr, e1, g4, fun W hW => ⟨⟨(hW.cell e2).trans c0, (hW.cell e2).trans c1, (hW.cell e2).trans c2, (hW.cell e2).trans c3, (hW.cell e2).trans c4, (hW.cell e2).trans c5⟩, Me.Rd.more (g3.below hW) hW.size⟩⟩
  obtain ⟨hB, hD, hX⟩ := two_new w #[.int .i64 me, .int .i64 qh, .int .i64 qb, .int .i64 qg] rs0 25 37
  unfold rs0 at hB hD hX
  unfold rsc at HR
  have HB := Lib.hid hB
  have HD := Lib.hid hD
  have HX := Lib.hid hX
  obtain ⟨x0, x1, x2, x3⟩ := set_cells hX
  obtain ⟨N1, hN1⟩ : ∃ n, ls.length = n := ⟨_, rfl⟩
  rw [hN1] at HC hL50 ⊢
  clear h hB hD hX hc1 hc2 hev hL hN1
  go_enter Tryz.func15, Tryz.ntmps15
  go_wp2_with (first
    | (go_at_call 7; refine (HN.out _ (Array.getElem?_eq_some_iff.1 HD.out).1).mono ?_; rintro e w1 ⟨D, rfl, l1, b1⟩; have HX1 := Lib.hid ((b1.out.block _ (Array.getElem?_eq_some_iff.1 HX.out).1).trans HX.out); obtain ⟨y0, y1, y2, y3⟩ := set_cells HX1.out)
    | (go_at_call 8; refine (HR.out _).mono ?_; rintro e w2 ⟨rfl, b2⟩)
    | (go_at_call 10; refine (HC.out _).mono ?_; rintro e w3 ⟨rfl, rfl⟩))
  have HB2 := Lib.hid (go_on (go_on HB.out b1.out) b2.out)
  have hD2 := (b2.out.block _ (Nat.lt_of_lt_of_le (Array.getElem?_eq_some_iff.1 HD.out).1 b1.out.size)).trans ((b1.out.block _ (Array.getElem?_eq_some_iff.1 HD.out).1).trans HD.out)
  have hl2 : w.heap.size + 1 < w2.heap.size := (Array.getElem?_eq_some_iff.1 hD2).1
  obtain ⟨V, hV⟩ : ∃ V, w2.alloc (.cells #[.int .i64 me, .int .i64 qh, .int .i64 qb, .int .i64 qg, .int .i64 0, .slice none 0 0, .slice none 0 0, .int .i64 qg, .slice none 0 0] 37) = V := ⟨_, rfl⟩
  have hVb : Below w2.heap.size w2 V := by rw [← hV]; exact Me.below_alloc (Below.refl _ _)
  have hV9 : V.heap[w2.heap.size]? = some (.cells #[.int .i64 me, .int .i64 qh, .int .i64 qb, .int .i64 qg, .int .i64 0, .slice none 0 0, .slice none 0 0, .int .i64 qg, .slice none 0 0] 37 (0, 0)) := by rw [← hV]; exact heap_alloc_new w2 _
  have hVD := (hVb.block _ hl2).trans hD2
  have hlv : Lv w.heap.size (fun k => k = w2.heap.size ∨ k = w.heap.size + 1) V 0 D (new0 me qh qb qg) :=
    ((l1.out.below b2.out).other (O' := fun k => k = w2.heap.size ∨ k = w.heap.size + 1) fun k hk ho => ho.elim (fun e => by omega) id).below hVb
  have B0 := Lib.hid (Bd.new hlv hV9 hVD hl2 (go_on HB2.out hVb))
  obtain ⟨X, hXX⟩ : ∃ X, w2.heap.size = X := ⟨_, rfl⟩
  rw [hV]
  rw [hXX] at B0 ⊢
  clear hV hVb hV9 hVD hD2 hl2 hlv HX HX1 HD HB x0 x1 x2 x3 y0 y1 y2 y3 HN HR b1 b2 l1 HB2 HC hXX
  go_loopw [11] (fun v11 wr => ∃ (j : Nat) (O : Nat → Prop) (s : Sto) (m : Nat) (K : Se.Ks) (vU vL vK : Value) (P : List Pq), v11 = .int .i64 (j : Int) ∧ j ≤ L ∧ Hid (Bd w D X j wr O s m K vU vL vK P)) (fun v11 _ => L - (intOf v11).toNat)
  case atStart => exact ⟨0, _, _, 0, [], _, _, _, [], rfl, Nat.zero_le _, B0⟩
  case round =>
    obtain ⟨j, O, s, m, K, vU, vL, vK, P, rfl, hj, HBd⟩ := hrel
    by_cases hlt : j < L
    · have hjI : (j : Int) < (L : Int) := by omega
      have hj50 : (j : Int) < 50 := by omega
      have hLN : (L : Int) ≤ (N1 : Int) := by omega
      obtain ⟨b, off, R, cr, rfl, hRn, hEv⟩ := HE.out j hlt
      obtain ⟨⟨ek, ⟨eo, ed, ee, ec⟩, ep⟩, hq⟩ : ∃ q, evAt ls j = q := ⟨_, rfl⟩
      rw [hq] at hRn hEv
      simp only at hRn hEv
      have HAp := Lib.hid (Apply_l w.heap.size O wr m D s ek ⟨eo, ed, ee, ec⟩ R cr ep (by have := HBd.out.mj; omega) (hEv wr HBd.out.below).2 hRn HBd.out.below.size (fun k e => (HBd.out.oge k e).2) (Lib.hid HBd.out.lv))
      have HRA : Hid (∀ w3, But (Out w.heap.size O) wr w3 → ∀ W, Below w3.heap.size w3 W → Calls Tryz.prog 12 #[.agg (rsv s vU vL vK), .agg (evC ek ⟨eo, ed, ee, ec⟩ R ep.length cr)] W fun e w' => ∃ vU' vL' vK' P' K', e = .returned (.tuple #[.agg (rsv (appE s ek ⟨eo, ed, ee, ec⟩ ep) vU' vL' vK'), .int .i64 (mayE s ek ⟨eo, ed, ee, ec⟩ ep.length : Int)]) ∧ Hid (Rf (fun g => (O g ∧ g ≠ X ∧ g ≠ w.heap.size + 1) ∨ w3.heap.size ≤ g) w' (appE s ek ⟨eo, ed, ee, ec⟩ ep) K' vU' vL' vK' P') ∧ Hid (K'.length ≤ K.length + 1) ∧ Hid (Below W.heap.size W w')) := fun w3 hb3 W hW => by
        obtain ⟨hrf, _, _, hbw⟩ := HBd.out.mid hb3
        refine (RApply_s _ W s K vU vL vK P ek ⟨eo, ed, ee, ec⟩ R cr ep (Lib.hid (hrf.below hW)) (by have := HBd.out.kj; omega) (hEv W (go_on hbw hW)).2 hRn).mono ?_
        rintro e w' ⟨vU', vL', vK', P', K', rfl, h1, h2, h3⟩
        exact ⟨vU', vL', vK', P', K', rfl, h1.out.mono fun g _ hg => hg.elim .inl (fun q => .inr (Nat.le_trans hW.size q)), h2, h3⟩
      have HEc : Hid (∀ W, Below w.heap.size w W → W.cell? ⟨b, off + j * 6, none⟩ = some (.int .i64 ek) ∧ W.cell? ⟨b, off + j * 6 + 1, none⟩ = some (.int .i64 eo) ∧ W.cell? ⟨b, off + j * 6 + 2, none⟩ = some (.int .i64 ed) ∧ W.cell? ⟨b, off + j * 6 + 3, none⟩ = some (.int .i64 ee) ∧ W.cell? ⟨b, off + j * 6 + 4, none⟩ = some (.int .i64 ec) ∧ W.cell? ⟨b, off + j * 6 + 5, none⟩ = some (.slice R ep.length cr)) := fun W hW => (hEv W hW).1
      obtain ⟨en, hen⟩ : ∃ n, ep.length = n := ⟨_, rfl⟩
      rw [hen] at HAp HRA HEc
      obtain ⟨mN, hmN⟩ : ∃ n, mayE s ek ⟨eo, ed, ee, ec⟩ en = n := ⟨_, rfl⟩
      obtain ⟨s3, hs3⟩ : ∃ n, appE s ek ⟨eo, ed, ee, ec⟩ ep = n := ⟨_, rfl⟩
      rw [hmN, hs3] at HAp HRA
      simp only [rsv, rsc, evC] at HAp HRA
      obtain ⟨c0, c1, c2, c3, c4, c5⟩ := HEc.out wr HBd.out.below
      clear hq hRn hEv hen hmN hs3
      go_wp2_with (go_at_call 13; (with_reducible refine HAp.out.mono ?_); rintro e w3 ⟨rfl, l3, b3⟩)
      obtain ⟨_, hX3, hR3, hB3⟩ := HBd.out.mid b3.out
      have HB3 := Lib.hid hB3
      have HX3 := Lib.hid hX3
      have HXl : Hid (w.heap.size + 1 < X) := HBd.out.gt
      clear hX3 hR3 hB3 c0 c1 c2 c3 c4 c5
      have S0 : Below w.heap.size w w3.drew := HB3.out.drew
      refine wp_region_held_drew (S := fun W => Below w.heap.size w W) (by kernel_rfl) S0 (fun hHeld => ?_)
      refine wpAnyH_take (i := 1) (v := .slice (some ⟨b, off, none⟩) L cap) rfl (by kernel_rfl) (by kernel_rfl) (by kernel_rfl) (fun _ _ _ h => h) (Or.inl ⟨by rfl, ?_⟩) (by first | assumption | exact trivial) ?_
      · intro W hSW; go_simp; try (with_reducible rfl)
      simp only [Act.put, List.getElem_toArray, List.getElem_cons_succ, List.getElem_cons_zero, List.setIfInBounds_toArray, List.set_cons_zero, List.set_cons_succ]
      refine wpAnyH_take (i := 2) (v := .int .i64 (j : Int)) rfl (by kernel_rfl) (by kernel_rfl) (by kernel_rfl) (fun _ _ _ h => h) (Or.inl ⟨by rfl, ?_⟩) (by first | assumption | exact trivial) ?_
      · intro W hSW; go_simp; try (with_reducible rfl)
      simp only [Act.put, List.getElem_toArray, List.getElem_cons_succ, List.getElem_cons_zero, List.setIfInBounds_toArray, List.set_cons_zero, List.set_cons_succ]
      refine wpAnyH_take (i := 3) (v := .pointer (some ⟨b, off + j * 6, none⟩)) rfl (by kernel_rfl) (by kernel_rfl) (by kernel_rfl) (fun _ _ _ h => h) (Or.inl ⟨by rfl, ?_⟩) (by first | assumption | exact trivial) ?_
      · intro W hSW; go_simp; try (with_reducible rfl)
      simp only [Act.put, List.getElem_toArray, List.getElem_cons_succ, List.getElem_cons_zero, List.setIfInBounds_toArray, List.set_cons_zero, List.set_cons_succ]
      refine wpAnyH_take (i := 4) (v := .agg #[.int .i64 ek, .int .i64 eo, .int .i64 ed, .int .i64 ee, .int .i64 ec, .slice R en cr]) rfl (by kernel_rfl) (by kernel_rfl) (by kernel_rfl) (fun _ _ _ h => h) (Or.inl ⟨by rfl, ?_⟩) (by first | assumption | exact trivial) ?_
      · intro W hSW; obtain ⟨c0, c1, c2, c3, c4, c5⟩ := HEc.out W hSW; go_simp; try (with_reducible rfl)
      simp only [Act.put, List.getElem_toArray, List.getElem_cons_succ, List.getElem_cons_zero, List.setIfInBounds_toArray, List.set_cons_zero, List.set_cons_succ]
      refine wpAnyH_ready (rs := [0]) (by kernel_rfl) (by simp) ?_
      refine AllReadyH.cons rfl (fun K hK => ?_) AllReadyH.nil
      obtain ⟨q0, q1, q2, q3, q4, q5, q6, q7, q8⟩ := rs_cells (W := w3) HX3.out
      go_simp
      clear q0 q1 q2 q3 q4 q5 q6 q7 q8
      refine hK.out _ _ (S0) (fun hHeld => ?_)
      clear hK K
      refine wpAnyH_ready (rs := [5]) (by kernel_rfl) (by simp) ?_
      refine AllReadyH.cons rfl (fun K hK => ?_) AllReadyH.nil
      go_simp
      go_wp2_with (go_at_call 12; refine (HRA.out w3 b3.out _ (Below.refl _ _).drew).mono ?_; rintro e w6 ⟨vU', vL', vK', P', K', rfl, r6, k6, b6⟩)
      have k36 : Below w3.heap.size w3 w6 := go_on (Below.refl _ _).drew b6.out
      have hb6 : Below w.heap.size w w6 := go_on HB3.out k36
      have hX6 := (k36.block _ (Array.getElem?_eq_some_iff.1 HX3.out).1).trans HX3.out
      obtain ⟨o1, o2, o3⟩ := r6.out.oneU
      refine hK.out _ _ (hb6) (fun hHeld => ?_)
      clear hK K
      refine wpAnyH_take (i := 6) (v := .tuple #[.agg #[.int .i64 s3.self, .int .i64 s3.qh, .int .i64 s3.qb, .int .i64 s3.qg, .int .i64 s3.epoch, vU', vL', .int .i64 s3.qg, vK'], .int .i64 (mN : Int)]) rfl (by kernel_rfl) (by kernel_rfl) (by kernel_rfl) (fun _ _ _ h => h) (Or.inl ⟨by rfl, ?_⟩) (by first | assumption | exact trivial) ?_
      · intro W hSW; go_simp; try (with_reducible rfl)
      simp only [Act.put, List.getElem_toArray, List.getElem_cons_succ, List.getElem_cons_zero, List.setIfInBounds_toArray, List.set_cons_zero, List.set_cons_succ]
      refine wpAnyH_take (i := 7) (v := .agg #[.int .i64 s3.self, .int .i64 s3.qh, .int .i64 s3.qb, .int .i64 s3.qg, .int .i64 s3.epoch, vU', vL', .int .i64 s3.qg, vK']) rfl (by kernel_rfl) (by kernel_rfl) (by kernel_rfl) (fun _ _ _ h => h) (Or.inl ⟨by rfl, ?_⟩) (by first | assumption | exact trivial) ?_
      · intro W hSW; go_simp; try (with_reducible rfl)
      simp only [Act.put, List.getElem_toArray, List.getElem_cons_succ, List.getElem_cons_zero, List.setIfInBounds_toArray, List.set_cons_zero, List.set_cons_succ]
      refine wpAnyH_take (i := 8) (v := .int .i64 (mN : Int)) rfl (by kernel_rfl) (by kernel_rfl) (by kernel_rfl) (fun _ _ _ h => h) (Or.inl ⟨by rfl, ?_⟩) (by first | assumption | exact trivial) ?_
      · intro W hSW; go_simp; try (with_reducible rfl)
      simp only [Act.put, List.getElem_toArray, List.getElem_cons_succ, List.getElem_cons_zero, List.setIfInBounds_toArray, List.set_cons_zero, List.set_cons_succ]
      refine wpAnyH_ready (rs := [9]) (by kernel_rfl) (by simp) ?_
      refine AllReadyH.cons rfl (fun K hK => ?_) AllReadyH.nil
      rw [if_pos (by kernel_rfl)]
      refine wp_store_row 37 (.tmp 9) (.tmp 61) rfl X #[.int .i64 s3.self, .int .i64 s3.qh, .int .i64 s3.qb, .int .i64 s3.qg, .int .i64 s3.epoch, vU', vL', .int .i64 s3.qg, vK'] rfl (by rfl) 37 _ hX6 (by kernel_rfl) rfl (rs_onev _ _ _ _ _ _ o1 o2 o3) ?_
      simp only [Act.put, List.getElem_toArray, List.getElem_cons_succ, List.getElem_cons_zero, List.setIfInBounds_toArray, List.set_cons_zero, List.set_cons_succ]
      have BN := HBd.out.next b3.out l3.out r6.out k6.out k36
      simp only [rsv, rsc] at BN
      obtain ⟨V7, hV7⟩ : ∃ V, w6.setRow X #[.int .i64 s3.self, .int .i64 s3.qh, .int .i64 s3.qb, .int .i64 s3.qg, .int .i64 s3.epoch, vU', vL', .int .i64 s3.qg, vK'] = V := ⟨_, rfl⟩
      rw [hV7] at BN ⊢
      clear hV7
      refine hK.out _ _ (BN.below) (fun hHeld => ?_)
      clear hK K
      refine wpAnyH_done (by kernel_rfl) ?_ _
      have BN := Lib.hid BN
      clear hHeld hX6 hb6 k36 S0 o1 o2 o3
      go_wp2
      go_roundw
      case rel => exact ⟨j + 1, _, s3, m + 1, K', vU', vL', vK', P', by go_num, by omega, BN⟩
      case measure => simp [intOf]; omega
    · obtain rfl : j = L := by omega
      have hjI : ¬ (j : Int) < (j : Int) := by omega
      have HXr : Hid (wr.heap[X]? = some (.cells #[.int .i64 s.self, .int .i64 s.qh, .int .i64 s.qb, .int .i64 s.qg, .int .i64 s.epoch, vU, vL, .int .i64 s.qg, vK] 37 (0, 0))) := HBd.out.box
      have HRr : Hid (wr.heap[w.heap.size + 1]? = some (.cells rs0 37 (0, 0))) := HBd.out.res
      have HXl : Hid (w.heap.size + 1 < X) := HBd.out.gt
      have Hone := Lib.hid HBd.out.rf.oneU
      have BF : Hid (Dn w D (wr.drew.setRow (w.heap.size + 1) #[.int .i64 s.self, .int .i64 s.qh, .int .i64 s.qb, .int .i64 s.qg, .int .i64 s.epoch, vU, vL, .int .i64 s.qg, vK]) O s m K vU vL vK P) := (HBd.out.go (Below.refl _ _).drew).fin (by omega) _
      go_wp2
      have S0 : wr.drew.heap[X]? = some (.cells #[.int .i64 s.self, .int .i64 s.qh, .int .i64 s.qb, .int .i64 s.qg, .int .i64 s.epoch, vU, vL, .int .i64 s.qg, vK] 37 (0, 0)) := HXr.out
      refine wp_region_held_drew (S := fun W => W.heap[X]? = some (.cells #[.int .i64 s.self, .int .i64 s.qh, .int .i64 s.qb, .int .i64 s.qg, .int .i64 s.epoch, vU, vL, .int .i64 s.qg, vK] 37 (0, 0))) (by kernel_rfl) S0 (fun hHeld => ?_)
      refine wpAnyH_take (i := 0) (v := .pointer (some ⟨D, 0, none⟩)) rfl (by kernel_rfl) (by kernel_rfl) (by kernel_rfl) (fun _ _ _ h => h) (Or.inl ⟨by rfl, ?_⟩) (by first | assumption | exact trivial) ?_
      · intro W hSW; go_simp; try (with_reducible rfl)
      simp only [Act.put, List.getElem_toArray, List.getElem_cons_succ, List.getElem_cons_zero, List.setIfInBounds_toArray, List.set_cons_zero, List.set_cons_succ]
      refine wpAnyH_take (i := 1) (v := .agg #[.int .i64 s.self, .int .i64 s.qh, .int .i64 s.qb, .int .i64 s.qg, .int .i64 s.epoch, vU, vL, .int .i64 s.qg, vK]) rfl (by kernel_rfl) (by kernel_rfl) (by kernel_rfl) (fun _ _ _ h => h) (Or.inl ⟨by rfl, ?_⟩) (by first | assumption | exact trivial) ?_
      · intro W hSW; obtain ⟨q0, q1, q2, q3, q4, q5, q6, q7, q8⟩ := rs_cells hSW; go_simp; try (with_reducible rfl)
      simp only [Act.put, List.getElem_toArray, List.getElem_cons_succ, List.getElem_cons_zero, List.setIfInBounds_toArray, List.set_cons_zero, List.set_cons_succ]
      refine wpAnyH_take (i := 2) (v := .pointer (some ⟨D, 0, none⟩)) rfl (by kernel_rfl) (by kernel_rfl) (by kernel_rfl) (fun _ _ _ h => h) (Or.inl ⟨by rfl, ?_⟩) (by first | assumption | exact trivial) ?_
      · intro W hSW; go_simp; try (with_reducible rfl)
      simp only [Act.put, List.getElem_toArray, List.getElem_cons_succ, List.getElem_cons_zero, List.setIfInBounds_toArray, List.set_cons_zero, List.set_cons_succ]
      refine wpAnyH_ready (rs := [3]) (by kernel_rfl) (by simp) ?_
      refine AllReadyH.cons rfl (fun K hK => ?_) AllReadyH.nil
      rw [if_pos (by kernel_rfl)]
      refine wp_store_row 37 (.tmp 5) (.tmp 64) rfl (w.heap.size + 1) #[.int .i64 s.self, .int .i64 s.qh, .int .i64 s.qb, .int .i64 s.qg, .int .i64 s.epoch, vU, vL, .int .i64 s.qg, vK] rfl (by rfl) 37 _ HRr.out (by kernel_rfl) rfl (rs_onev _ _ _ _ _ _ Hone.out.1 Hone.out.2.1 Hone.out.2.2) ?_
      simp only [Act.put, List.getElem_toArray, List.getElem_cons_succ, List.getElem_cons_zero, List.setIfInBounds_toArray, List.set_cons_zero, List.set_cons_succ]
      have hD3 : (wr.drew.setRow (w.heap.size + 1) #[.int .i64 s.self, .int .i64 s.qh, .int .i64 s.qb, .int .i64 s.qg, .int .i64 s.epoch, vU, vL, .int .i64 s.qg, vK]).heap[w.heap.size + 1]? = some (.cells #[.int .i64 s.self, .int .i64 s.qh, .int .i64 s.qb, .int .i64 s.qg, .int .i64 s.epoch, vU, vL, .int .i64 s.qg, vK] 37 (0, 0)) := setRow_heap _ _ _ _ _ _ HRr.out
      have hS3 : (wr.drew.setRow (w.heap.size + 1) #[.int .i64 s.self, .int .i64 s.qh, .int .i64 s.qb, .int .i64 s.qg, .int .i64 s.epoch, vU, vL, .int .i64 s.qg, vK]).heap[X]? = some (.cells #[.int .i64 s.self, .int .i64 s.qh, .int .i64 s.qb, .int .i64 s.qg, .int .i64 s.epoch, vU, vL, .int .i64 s.qg, vK] 37 (0, 0)) := (setRow_other _ _ _ _ (by have := HXl.out; omega)).trans HXr.out
      obtain ⟨V3, hV3⟩ : ∃ Y, wr.drew.setRow (w.heap.size + 1) #[.int .i64 s.self, .int .i64 s.qh, .int .i64 s.qb, .int .i64 s.qg, .int .i64 s.epoch, vU, vL, .int .i64 s.qg, vK] = Y := ⟨_, rfl⟩
      rw [hV3] at hD3 hS3 BF ⊢
      clear hV3
      refine hK.out _ _ (hS3) (fun hHeld => ?_)
      clear hK K
      refine wpAnyH_take (i := 4) (v := .bool true) rfl (by kernel_rfl) (by kernel_rfl) (by kernel_rfl) (fun _ _ _ h => h) (Or.inl ⟨by rfl, ?_⟩) (by first | assumption | exact trivial) ?_
      · intro W hSW; go_simp; try (with_reducible rfl)
      simp only [Act.put, List.getElem_toArray, List.getElem_cons_succ, List.getElem_cons_zero, List.setIfInBounds_toArray, List.set_cons_zero, List.set_cons_succ]
      refine wpAnyH_done (by kernel_rfl) ?_ _
      go_wp2
      exact ret_box3 (g := w.heap.size + 1) rfl (by rfl) hD3 rfl Tryz.underlying37 (by kernel_rfl) rfl ⟨D, s, vU, vL, vK, rfl, O, m, K, P, BF⟩
end Go.Proofs.YtfnlhfelpdkieaaGreat.So
