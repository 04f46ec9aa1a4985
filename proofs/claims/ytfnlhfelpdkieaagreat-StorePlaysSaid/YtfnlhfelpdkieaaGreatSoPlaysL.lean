/- The law of plays: any events of both stores, and all that they tell behind each. -/
import Derived.Test.YtfnlhfelpdkieaaGreatZ32
namespace Go.Proofs.YtfnlhfelpdkieaaGreat.So
open Go.RowKit
open Go.Proofs.YtfnlhfelpdkieaaGreat.Me Go.Proofs.YtfnlhfelpdkieaaGreat.Sb
set_option linter.unusedVariables false
set_option linter.unusedSimpArgs false

theorem one_new (w : World) (cs : Array Value) (T : TypeId) : Below w.heap.size w (w.alloc (.cells cs T)) ∧ (w.alloc (.cells cs T)).heap[w.heap.size]? = some (.cells cs T (0, 0)) := ⟨Me.below_alloc (Below.refl _ _), heap_alloc_new w _⟩
theorem Dat.one {w w' : World} {B : Nat} {A : Option Addr} {n : Nat} (h : Dat w B A n) (hk : ∀ q, A = some ⟨q, 0, none⟩ → w'.heap[q]? = w.heap[q]?) : Dat w' B A n := by
  rcases h with h | ⟨g, cs, h1, h2, h3, h4⟩
  · exact .inl h
  · exact .inr ⟨g, cs, h1, h2, (hk g h1).trans h3, h4⟩
set_option maxRecDepth 100000 in
set_option maxHeartbeats 16000000 in
theorem storePlays_no (me qh qb qg : Int) (v1 : Value) (w : World) (h : ¬ NewOk me qh qb qg) : Calls Tryz.prog 3 #[.agg #[.int .i64 me, .int .i64 qh, .int .i64 qb, .int .i64 qg], v1] w fun e w' => e = .returned (.bool true) ∧ Below w.heap.size w w' := by
  have HN := Lib.hid (fun W => New_no me qh qb qg h W)
  have HR := Lib.hid (fun W => RNew_no me qh qb qg W h)
  have HAw := Lib.hid (fun W => awake_any W)
  unfold rs0 at HR
  obtain ⟨hB, hX⟩ := one_new w #[.int .i64 me, .int .i64 qh, .int .i64 qb, .int .i64 qg] 25
  have HX := Lib.hid hX
  have HB := Lib.hid hB
  obtain ⟨x0, x1, x2, x3⟩ := set_cells HX.out
  clear h hB hX
  go_enter Tryz.func3, Tryz.ntmps3
  go_wp2_with (first
    | (go_at_call 7; refine (HN.out _).mono ?_; rintro e w1 ⟨rfl, b1⟩; have HX1 := Lib.hid ((b1.out.block _ (Array.getElem?_eq_some_iff.1 HX.out).1).trans HX.out); obtain ⟨y0, y1, y2, y3⟩ := set_cells HX1.out)
    | (go_at_call 8; refine (HR.out _).mono ?_; rintro e w2 ⟨rfl, b2⟩; have HB2 := Lib.hid (go_on (go_on HB.out b1.out) b2.out))
    | (go_at_call 9; refine (HAw.out _).mono ?_; rintro e w3 ⟨rfl, b3⟩))
  go_ret
  exact ⟨rfl, go_on (go_on HB2.out (Me.below_alloc (Below.refl _ _))) b3.out⟩
set_option maxRecDepth 100000 in
set_option maxHeartbeats 64000000 in
theorem storePlays_ok (me qh qb qg : Int) (A : Option Addr) (len cap : Nat) (ls : List Evt) (w : World) (h : NewOk me qh qb qg) (hl : len = ls.length ∧ len ≤ cap ∧ cap ≤ 9223372036854775807 ∧ Evs w A ls) :
    Calls Tryz.prog 3 #[.agg #[.int .i64 me, .int .i64 qh, .int .i64 qb, .int .i64 qg], .slice A len cap] w fun e w' => e = .returned (.bool true) ∧ Below w.heap.size w w' := by
  obtain ⟨rfl, hc1, hc2, hev⟩ := hl
  obtain ⟨L, hL⟩ : ∃ L, (ls.take 50).length = L := ⟨_, rfl⟩
  have hL50 : L ≤ 50 ∧ L ≤ ls.length := by rw [← hL, List.length_take]; omega
  have HC := Lib.hid (fun W => cut_any A cap ls W hc1 hc2 L hL)
  have HN := Lib.hid (fun W (hW : w.heap.size ≤ W.heap.size) => New_l w.heap.size (fun _ => False) me qh qb qg h W hW fun k hk => hk.elim)
  have HR := Lib.hid (fun W => RNew_ok me qh qb qg W h)
  have HAw := Lib.hid (fun W => awake_any W)
  have HE : Hid (∀ j, j < L → ∃ b off R cr, A = some ⟨b, off, none⟩ ∧ (R = none → (evAt ls j).p.length = 0 ∧ cr = 0) ∧ (evAt ls j).p.length ≤ 140737488351232 ∧ ∀ W, Below w.heap.size w W → (W.cell? ⟨b, off + j * 6, none⟩ = some (.int .i64 (evAt ls j).k) ∧ W.cell? ⟨b, off + j * 6 + 1, none⟩ = some (.int .i64 (evAt ls j).i.o) ∧
    W.cell? ⟨b, off + j * 6 + 2, none⟩ = some (.int .i64 (evAt ls j).i.d) ∧ W.cell? ⟨b, off + j * 6 + 3, none⟩ = some (.int .i64 (evAt ls j).i.e) ∧ W.cell? ⟨b, off + j * 6 + 4, none⟩ = some (.int .i64 (evAt ls j).i.c) ∧
    W.cell? ⟨b, off + j * 6 + 5, none⟩ = some (.slice R (evAt ls j).p.length cr)) ∧ Me.Rd W W.heap.size R (evAt ls j).p) := fun j hj => by
    obtain ⟨b, off, R, cr, e1, e2, c0, c1, c2, c3, c4, c5, g1, g2, g3, g4⟩ := hev j (by omega)
    exact ⟨b, off, R, cr, e1, g4, by omega, fun W hW => ⟨⟨(hW.cell e2).trans c0, (hW.cell e2).trans c1, (hW.cell e2).trans c2, (hW.cell e2).trans c3, (hW.cell e2).trans c4, (hW.cell e2).trans c5⟩, Me.Rd.more (g3.below hW) hW.size⟩⟩
  obtain ⟨hB, hX⟩ := one_new w #[.int .i64 me, .int .i64 qh, .int .i64 qb, .int .i64 qg] 25
  unfold rsc at HR
  have HB := Lib.hid hB
  have HX := Lib.hid hX
  obtain ⟨x0, x1, x2, x3⟩ := set_cells hX
  obtain ⟨N1, hN1⟩ : ∃ n, ls.length = n := ⟨_, rfl⟩
  rw [hN1] at HC hL50 ⊢
  clear h hB hX hc1 hc2 hev hL hN1
  go_enter Tryz.func3, Tryz.ntmps3
  go_wp2_with (first
    | (go_at_call 7; refine (HN.out _ HB.out.size).mono ?_; rintro e w1 ⟨D, rfl, l1, b1⟩; have HX1 := Lib.hid ((b1.out.block _ (Array.getElem?_eq_some_iff.1 HX.out).1).trans HX.out); obtain ⟨y0, y1, y2, y3⟩ := set_cells HX1.out)
    | (go_at_call 8
       refine (HR.out _).mono ?_
       rintro e w2 ⟨rfl, b2⟩
       obtain ⟨V, hV⟩ : ∃ V, w2.alloc (.cells #[.int .i64 me, .int .i64 qh, .int .i64 qb, .int .i64 qg, .int .i64 0, .slice none 0 0, .slice none 0 0, .int .i64 qg, .slice none 0 0] 37) = V := ⟨_, rfl⟩
       have hVb : Below w2.heap.size w2 V := by rw [← hV]; exact Me.below_alloc (Below.refl _ _)
       have hV9 : V.heap[w2.heap.size]? = some (.cells #[.int .i64 me, .int .i64 qh, .int .i64 qb, .int .i64 qg, .int .i64 0, .slice none 0 0, .slice none 0 0, .int .i64 qg, .slice none 0 0] 37 (0, 0)) := by rw [← hV]; exact heap_alloc_new w2 _
       have hw2 := go_on (go_on HB.out b1.out) b2.out
       have B0 := Lib.hid (Bp.new (((l1.out.below b2.out).other (O' := fun k => k = w2.heap.size) fun k hk ho => by omega).below hVb) hV9 hw2.size (go_on hw2 hVb))
       have HV := Lib.hid hV
       clear hVb hV9 hw2 hV)
    | (go_at_call 10; rw [HV.out]; refine (HC.out _).mono ?_; rintro e w3 ⟨rfl, rfl⟩))
  obtain ⟨X, hXX⟩ : ∃ X, w2.heap.size = X := ⟨_, rfl⟩
  rw [hXX] at B0 ⊢
  clear HX HX1 HB x0 x1 x2 x3 y0 y1 y2 y3 HN HR b1 b2 l1 HC hXX HV
  go_loopw [9] (fun v9 wr => ∃ (j : Nat) (O : Nat → Prop) (s : Sto) (m : Nat) (K : Se.Ks) (vU vL vK : Value) (P : List Pq), v9 = .int .i64 (j : Int) ∧ j ≤ L ∧ Hid (Bp w D X j wr O s m K vU vL vK P)) (fun v9 _ => L - (intOf v9).toNat)
  case atStart => exact ⟨0, _, _, 0, [], _, _, _, [], rfl, Nat.zero_le _, B0⟩
  case round =>
    obtain ⟨j, O, s, m, K, vU, vL, vK, P, rfl, hj, HBp⟩ := hrel
    by_cases hlt : j < L
    · have hjI : (j : Int) < (L : Int) := by omega
      have hj50 : (j : Int) < 50 := by omega
      have hLN : (L : Int) ≤ (N1 : Int) := by omega
      obtain ⟨b, off, R, cr, rfl, hRn, hpl, hEv⟩ := HE.out j hlt
      obtain ⟨⟨ek, ⟨eo, ed, ee, ec⟩, ep⟩, hq⟩ : ∃ q, evAt ls j = q := ⟨_, rfl⟩
      rw [hq] at hRn hEv hpl
      simp only at hRn hEv hpl
      obtain ⟨w0, hw0⟩ : ∃ x, wr = x := ⟨_, rfl⟩
      rw [hw0] at HBp ⊢
      clear hw0
      have hbw := HBp.out.below
      have HCp := Lib.hid (copied_any ek ⟨eo, ed, ee, ec⟩ R cr ep w0 (hEv w0 hbw).2 hRn hpl)
      have HEc : Hid (∀ W, Below w.heap.size w W → W.cell? ⟨b, off + j * 6, none⟩ = some (.int .i64 ek) ∧ W.cell? ⟨b, off + j * 6 + 1, none⟩ = some (.int .i64 eo) ∧ W.cell? ⟨b, off + j * 6 + 2, none⟩ = some (.int .i64 ed) ∧ W.cell? ⟨b, off + j * 6 + 3, none⟩ = some (.int .i64 ee) ∧ W.cell? ⟨b, off + j * 6 + 4, none⟩ = some (.int .i64 ec) ∧ W.cell? ⟨b, off + j * 6 + 5, none⟩ = some (.slice R ep.length cr)) := fun W hW => (hEv W hW).1
      have HRA : Hid (∀ V3, Below w0.heap.size w0 V3 → ∀ W, Below V3.heap.size V3 W → Calls Tryz.prog 12 #[.agg (rsv s vU vL vK), .agg (evC ek ⟨eo, ed, ee, ec⟩ R ep.length cr)] W fun e w' => ∃ vU' vL' vK' P' K', e = .returned (.tuple #[.agg (rsv (appE s ek ⟨eo, ed, ee, ec⟩ ep) vU' vL' vK'), .int .i64 (mayE s ek ⟨eo, ed, ee, ec⟩ ep.length : Int)]) ∧ Hid (Rf (fun g => (O g ∧ g ≠ X) ∨ W.heap.size ≤ g) w' (appE s ek ⟨eo, ed, ee, ec⟩ ep) K' vU' vL' vK' P') ∧ Hid (K'.length ≤ K.length + 1) ∧ Hid (Below W.heap.size W w')) := fun V3 hb3 W hW => by
        obtain ⟨hrf, _, hbw⟩ := HBp.out.mid hb3
        refine (RApply_s _ W s K vU vL vK P ek ⟨eo, ed, ee, ec⟩ R cr ep (Lib.hid (hrf.below hW)) (by have := HBp.out.kj; omega) (hEv W (go_on hbw hW)).2 hRn).mono ?_
        rintro e w' ⟨vU', vL', vK', P', K', rfl, h1, h2, h3⟩
        exact ⟨vU', vL', vK', P', K', rfl, h1, h2, h3⟩
      have HLT8 : Hid (∀ z ∈ ep, z < 256) := (hEv w0 hbw).2.1
      obtain ⟨en, hen⟩ : ∃ n, ep.length = n := ⟨_, rfl⟩
      have HEn := Lib.hid hen
      rw [hen] at HCp HRA HEc
      obtain ⟨mN, hmN⟩ : ∃ n, mayE s ek ⟨eo, ed, ee, ec⟩ en = n := ⟨_, rfl⟩
      obtain ⟨s3, hs3⟩ : ∃ n, appE s ek ⟨eo, ed, ee, ec⟩ ep = n := ⟨_, rfl⟩
      have HMN : Hid (mayE s ek ⟨eo, ed, ee, ec⟩ ep.length = mN) := by show _ = _; rw [hen]; exact hmN
      have HS3 := Lib.hid hs3
      rw [hmN, hs3] at HRA
      simp only [rsv, rsc, evC] at HCp HRA
      obtain ⟨c0, c1, c2, c3, c4, c5⟩ := HEc.out w0 hbw
      clear hq hRn hEv hen hmN hs3 hbw
      go_wp2_with (go_at_call 11; (with_reducible refine HCp.out.mono ?_); rintro e w3 ⟨A3, p3, rfl, hp3, ho3, b3⟩)
      obtain ⟨V3, hV3⟩ : ∃ V, w3.alloc (.cells #[.int .i64 ek, .int .i64 eo, .int .i64 ed, .int .i64 ee, .int .i64 ec, .slice A3 en p3] 48) = V := ⟨_, rfl⟩
      have hb3 : Below w3.heap.size w3 V3 := by rw [← hV3]; exact Me.below_alloc (Below.refl _ _)
      have hE3 : V3.heap[w3.heap.size]? = some (.cells #[.int .i64 ek, .int .i64 eo, .int .i64 ed, .int .i64 ee, .int .i64 ec, .slice A3 en p3] 48 (0, 0)) := by rw [← hV3]; exact heap_alloc_new w3 _
      have HB3 : Hid (Below w0.heap.size w0 V3) := go_on b3.out hb3
      have HE3 := Lib.hid hE3
      have ho3 : Hid (Me.Own V3 w0.heap.size (.slice A3 en p3) ep) := own_same ho3.out fun k _ hk => hb3.block k hk
      have hE0 : w0.heap.size ≤ w3.heap.size := b3.out.size
      have HGA : Hid (∀ q, A3 = some ⟨q, 0, none⟩ → w0.heap.size ≤ q ∧ q < V3.heap.size ∧ q ≠ w3.heap.size ∧ ∃ cs, V3.heap[q]? = some (.cells cs 5 (0, 0))) := fun q hq => by
        have h1 := World.ownsRow.lt ho3.out q (by rw [hq]; rfl)
        obtain ⟨cs, hcs⟩ := own_type ho3.out q (by rw [hq]; rfl)
        exact ⟨h1.1, h1.2, fun e => (by rw [e, hE3] at hcs; simp at hcs), cs, hcs⟩
      have HDt : Hid (Dat V3 w0.heap.size A3 en) := by
        have h1 := ho3.out
        have h2 := HLT8.out
        rw [← HEn.out] at h1
        have := Dat.of_own h1 h2
        rw [HEn.out] at this
        exact this
      rw [hV3]
      obtain ⟨E, hEE⟩ : ∃ E, w3.heap.size = E := ⟨_, rfl⟩
      rw [hEE] at HE3 HGA hE0 ⊢
      have HE0 := Lib.hid hE0
      have HBd := Lib.hid (HBp.out.mid HB3.out).2.2
      clear hV3 hb3 hE3 b3 c0 c1 c2 c3 c4 c5 hE0 hEE HCp
      have S0 : Below w0.heap.size w0 V3.drew := HB3.out.drew
      refine wp_region_held_drew (S := fun W => Below w0.heap.size w0 W) (by kernel_rfl) S0 (fun hHeld => ?_)
      refine wpAnyH_take (i := 0) (v := .agg #[.int .i64 s.self, .int .i64 s.qh, .int .i64 s.qb, .int .i64 s.qg, .int .i64 s.epoch, vU, vL, .int .i64 s.qg, vK]) rfl (by kernel_rfl) (by kernel_rfl) (by kernel_rfl) (fun _ _ _ h => h) (Or.inl ⟨by rfl, ?_⟩) (by first | assumption | exact trivial) ?_
      · intro W hSW; obtain ⟨x0, x1, x2, x3, x4, x5, x6, x7, x8⟩ := rs_cells (HBp.out.mid hSW).2.1; go_simp; try (with_reducible rfl)
      simp only [Act.put, List.getElem_toArray, List.getElem_cons_succ, List.getElem_cons_zero, List.setIfInBounds_toArray, List.set_cons_zero, List.set_cons_succ]
      refine wpAnyH_take (i := 1) (v := .slice (some ⟨b, off, none⟩) L cap) rfl (by kernel_rfl) (by kernel_rfl) (by kernel_rfl) (fun _ _ _ h => h) (Or.inl ⟨by rfl, ?_⟩) (by first | assumption | exact trivial) ?_
      · intro W hSW; go_simp; try (with_reducible rfl)
      simp only [Act.put, List.getElem_toArray, List.getElem_cons_succ, List.getElem_cons_zero, List.setIfInBounds_toArray, List.set_cons_zero, List.set_cons_succ]
      refine wpAnyH_take (i := 2) (v := .int .i64 (j : Int)) rfl (by kernel_rfl) (by kernel_rfl) (by kernel_rfl) (fun _ _ _ h => h) (Or.inl ⟨by rfl, ?_⟩) (by first | assumption | exact trivial) ?_
      · intro W hSW; go_simp; try (with_reducible rfl)
      simp only [Act.put, List.getElem_toArray, List.getElem_cons_succ, List.getElem_cons_zero, List.setIfInBounds_toArray, List.set_cons_zero, List.set_cons_succ]
      refine wpAnyH_take (i := 3) (v := .pointer (some ⟨b, off + j * 6, none⟩)) rfl (by kernel_rfl) (by kernel_rfl) (by kernel_rfl) (fun _ _ _ h => h) (Or.inl ⟨by rfl, ?_⟩) (by first | assumption | exact trivial) ?_
      · intro W hSW; go_simp; try (with_reducible rfl)
      simp only [Act.put, List.getElem_toArray, List.getElem_cons_succ, List.getElem_cons_zero, List.setIfInBounds_toArray, List.set_cons_zero, List.set_cons_succ]
      refine wpAnyH_take (i := 4) (v := .agg #[.int .i64 ek, .int .i64 eo, .int .i64 ed, .int .i64 ee, .int .i64 ec, .slice R en cr]) rfl (by kernel_rfl) (by kernel_rfl) (by kernel_rfl) (fun _ _ _ h => h) (Or.inl ⟨by rfl, ?_⟩) (by first | assumption | exact trivial) ?_
      · intro W hSW; obtain ⟨c0, c1, c2, c3, c4, c5⟩ := HEc.out W (HBp.out.mid hSW).2.2; go_simp; try (with_reducible rfl)
      simp only [Act.put, List.getElem_toArray, List.getElem_cons_succ, List.getElem_cons_zero, List.setIfInBounds_toArray, List.set_cons_zero, List.set_cons_succ]
      refine wpAnyH_ready (rs := [5, 9]) (by kernel_rfl) (by simp) ?_
      refine AllReadyH.cons rfl (fun K hK => ?pa) (AllReadyH.cons rfl (fun K hK => ?pb) AllReadyH.nil)
      case' pa =>
        go_simp
        go_wp2_with (go_at_call 12; refine (HRA.out V3 HB3.out _ (Below.refl _ _).drew).mono ?_; rintro e w6 ⟨vU', vL', vK', P', K', rfl, r6, k6, b6⟩)
        have b36 : Below V3.heap.size V3 w6 := go_on (Below.refl _ _).drew b6.out
        obtain ⟨o1, o2, o3⟩ := r6.out.oneU
        refine hK.out _ _ (go_on HB3.out b36) (fun hHeld => ?_)
        clear hK K
        refine wpAnyH_take (i := 6) (v := .tuple #[.agg #[.int .i64 s3.self, .int .i64 s3.qh, .int .i64 s3.qb, .int .i64 s3.qg, .int .i64 s3.epoch, vU', vL', .int .i64 s3.qg, vK'], .int .i64 (mN : Int)]) rfl (by kernel_rfl) (by kernel_rfl) (by kernel_rfl) (fun _ _ _ h => h) (Or.inl ⟨by rfl, ?_⟩) (by first | assumption | exact trivial) ?_
        · intro W hSW; go_simp; try (with_reducible rfl)
        simp only [Act.put, List.getElem_toArray, List.getElem_cons_succ, List.getElem_cons_zero, List.setIfInBounds_toArray, List.set_cons_zero, List.set_cons_succ]
        refine wpAnyH_take (i := 7) (v := .agg #[.int .i64 s3.self, .int .i64 s3.qh, .int .i64 s3.qb, .int .i64 s3.qg, .int .i64 s3.epoch, vU', vL', .int .i64 s3.qg, vK']) rfl (by kernel_rfl) (by kernel_rfl) (by kernel_rfl) (fun _ _ _ h => h) (Or.inl ⟨by rfl, ?_⟩) (by first | assumption | exact trivial) ?_
        · intro W hSW; go_simp; try (with_reducible rfl)
        simp only [Act.put, List.getElem_toArray, List.getElem_cons_succ, List.getElem_cons_zero, List.setIfInBounds_toArray, List.set_cons_zero, List.set_cons_succ]
        refine wpAnyH_take (i := 8) (v := .int .i64 (mN : Int)) rfl (by kernel_rfl) (by kernel_rfl) (by kernel_rfl) (fun _ _ _ h => h) (Or.inl ⟨by rfl, ?_⟩) (by first | assumption | exact trivial) ?_
        · intro W hSW; go_simp; try (with_reducible rfl)
        simp only [Act.put, List.getElem_toArray, List.getElem_cons_succ, List.getElem_cons_zero, List.setIfInBounds_toArray, List.set_cons_zero, List.set_cons_succ]
        refine wpAnyH_ready (rs := [9]) (by kernel_rfl) (by simp) ?_
        refine AllReadyH.cons rfl (fun K hK => ?_) AllReadyH.nil
        go_simp
        obtain ⟨V6, hV6⟩ : ∃ V, w6.alloc (.cells #[.int .i64 0, .int .i64 0, .int .i64 0, .int .i64 0, .int .i64 0, .slice none 0 0, .slice none 0 0, .int .i64 0, .slice none 0 0] 37) = V := ⟨_, rfl⟩
        have hb6 : Below w6.heap.size w6 V6 := by rw [← hV6]; exact Me.below_alloc (Below.refl _ _)
        have hY6 : V6.heap[w6.heap.size]? = some (.cells #[.int .i64 0, .int .i64 0, .int .i64 0, .int .i64 0, .int .i64 0, .slice none 0 0, .slice none 0 0, .int .i64 0, .slice none 0 0] 37 (0, 0)) := by rw [← hV6]; exact heap_alloc_new w6 _
        obtain ⟨Y, hYY⟩ : ∃ Y, w6.heap.size = Y := ⟨_, rfl⟩
        rw [hV6]
        rw [hYY] at hY6 ⊢
        clear hV6
        refine hK.out _ _ (go_on (go_on HB3.out b36) hb6) (fun hHeld => ?_)
        clear hK K
        refine wpAnyH_ready (rs := [10]) (by kernel_rfl) (by simp) ?_
        refine AllReadyH.cons rfl (fun K hK => ?_) AllReadyH.nil
        rw [if_pos (by kernel_rfl)]
        refine wp_store_row 37 (.tmp 11) (.tmp 63) rfl Y #[.int .i64 s3.self, .int .i64 s3.qh, .int .i64 s3.qb, .int .i64 s3.qg, .int .i64 s3.epoch, vU', vL', .int .i64 s3.qg, vK'] rfl (by rfl) 37 _ hY6 (by kernel_rfl) rfl (rs_onev _ _ _ _ _ _ o1 o2 o3) ?_
        simp only [Act.put, List.getElem_toArray, List.getElem_cons_succ, List.getElem_cons_zero, List.setIfInBounds_toArray, List.set_cons_zero, List.set_cons_succ]
        obtain ⟨V7, hV7⟩ : ∃ V, V6.setRow Y #[.int .i64 s3.self, .int .i64 s3.qh, .int .i64 s3.qb, .int .i64 s3.qg, .int .i64 s3.epoch, vU', vL', .int .i64 s3.qg, vK'] = V := ⟨_, rfl⟩
        have hY7 : V7.heap[Y]? = some (.cells #[.int .i64 s3.self, .int .i64 s3.qh, .int .i64 s3.qb, .int .i64 s3.qg, .int .i64 s3.epoch, vU', vL', .int .i64 s3.qg, vK'] 37 (0, 0)) := by rw [← hV7]; exact setRow_heap _ _ _ _ _ _ hY6
        have hb7 : Below w6.heap.size w6 V7 := by rw [← hV7]; exact Sb.below_setRow _ hb6 (by omega)
        rw [hV7]
        clear hV7
        have b37 : Below V3.heap.size V3 V7 := go_on b36 hb7
        have r7 : Rf (fun g => (O g ∧ g ≠ X) ∨ V3.heap.size ≤ g) V7 s3 K' vU' vL' vK' P' := (r6.out.below hb7).mono fun g _ hg => hg.elim .inl fun q => .inr q
        refine hK.out _ _ (go_on HB3.out b37) (fun hHeld => ?_)
        clear hK K
        clear hb6 hY6 hb7 hYY r6 b36 b6
      case' pb =>
        go_simp
        obtain ⟨V4, hV4⟩ : ∃ V, (V3.alloc (.cells #[.int .i64 0, .int .i64 0, .int .i64 0, .int .i64 0, .int .i64 0, .slice none 0 0, .slice none 0 0, .int .i64 0, .slice none 0 0] 37)).drew = V := ⟨_, rfl⟩
        have hb4 : Below V3.heap.size V3 V4 := by rw [← hV4]; exact (Me.below_alloc (Below.refl _ _)).drew
        have hY4 : V4.heap[V3.heap.size]? = some (.cells #[.int .i64 0, .int .i64 0, .int .i64 0, .int .i64 0, .int .i64 0, .slice none 0 0, .slice none 0 0, .int .i64 0, .slice none 0 0] 37 (0, 0)) := by rw [← hV4]; exact heap_alloc_new V3 _
        obtain ⟨Y, hYY⟩ : ∃ Y, V3.heap.size = Y := ⟨_, rfl⟩
        rw [hV4]
        rw [hYY] at hY4 ⊢
        clear hV4
        refine hK.out _ _ (go_on HB3.out hb4) (fun hHeld => ?_)
        clear hK K
        refine wpAnyH_ready (rs := [5]) (by kernel_rfl) (by simp) ?_
        refine AllReadyH.cons rfl (fun K hK => ?_) AllReadyH.nil
        go_simp
        go_wp2_with (go_at_call 12; refine (HRA.out V3 HB3.out _ hb4).mono ?_; rintro e V6 ⟨vU', vL', vK', P', K', rfl, r6, k6, b6⟩)
        have b36 : Below V3.heap.size V3 V6 := go_on hb4 b6.out
        obtain ⟨o1, o2, o3⟩ := r6.out.oneU
        have hYl := (Array.getElem?_eq_some_iff.1 hY4).1
        have hY6 := (b6.out.block _ hYl).trans hY4
        refine hK.out _ _ (go_on HB3.out b36) (fun hHeld => ?_)
        clear hK K
        refine wpAnyH_take (i := 6) (v := .tuple #[.agg #[.int .i64 s3.self, .int .i64 s3.qh, .int .i64 s3.qb, .int .i64 s3.qg, .int .i64 s3.epoch, vU', vL', .int .i64 s3.qg, vK'], .int .i64 (mN : Int)]) rfl (by kernel_rfl) (by kernel_rfl) (by kernel_rfl) (fun _ _ _ h => h) (Or.inl ⟨by rfl, ?_⟩) (by first | assumption | exact trivial) ?_
        · intro W hSW; go_simp; try (with_reducible rfl)
        simp only [Act.put, List.getElem_toArray, List.getElem_cons_succ, List.getElem_cons_zero, List.setIfInBounds_toArray, List.set_cons_zero, List.set_cons_succ]
        refine wpAnyH_take (i := 7) (v := .agg #[.int .i64 s3.self, .int .i64 s3.qh, .int .i64 s3.qb, .int .i64 s3.qg, .int .i64 s3.epoch, vU', vL', .int .i64 s3.qg, vK']) rfl (by kernel_rfl) (by kernel_rfl) (by kernel_rfl) (fun _ _ _ h => h) (Or.inl ⟨by rfl, ?_⟩) (by first | assumption | exact trivial) ?_
        · intro W hSW; go_simp; try (with_reducible rfl)
        simp only [Act.put, List.getElem_toArray, List.getElem_cons_succ, List.getElem_cons_zero, List.setIfInBounds_toArray, List.set_cons_zero, List.set_cons_succ]
        refine wpAnyH_take (i := 8) (v := .int .i64 (mN : Int)) rfl (by kernel_rfl) (by kernel_rfl) (by kernel_rfl) (fun _ _ _ h => h) (Or.inl ⟨by rfl, ?_⟩) (by first | assumption | exact trivial) ?_
        · intro W hSW; go_simp; try (with_reducible rfl)
        simp only [Act.put, List.getElem_toArray, List.getElem_cons_succ, List.getElem_cons_zero, List.setIfInBounds_toArray, List.set_cons_zero, List.set_cons_succ]
        refine wpAnyH_ready (rs := [10]) (by kernel_rfl) (by simp) ?_
        refine AllReadyH.cons rfl (fun K hK => ?_) AllReadyH.nil
        rw [if_pos (by kernel_rfl)]
        refine wp_store_row 37 (.tmp 11) (.tmp 63) rfl Y #[.int .i64 s3.self, .int .i64 s3.qh, .int .i64 s3.qb, .int .i64 s3.qg, .int .i64 s3.epoch, vU', vL', .int .i64 s3.qg, vK'] rfl (by rfl) 37 _ hY6 (by kernel_rfl) rfl (rs_onev _ _ _ _ _ _ o1 o2 o3) ?_
        simp only [Act.put, List.getElem_toArray, List.getElem_cons_succ, List.getElem_cons_zero, List.setIfInBounds_toArray, List.set_cons_zero, List.set_cons_succ]
        obtain ⟨V7, hV7⟩ : ∃ V, V6.setRow Y #[.int .i64 s3.self, .int .i64 s3.qh, .int .i64 s3.qb, .int .i64 s3.qg, .int .i64 s3.epoch, vU', vL', .int .i64 s3.qg, vK'] = V := ⟨_, rfl⟩
        have hY7 : V7.heap[Y]? = some (.cells #[.int .i64 s3.self, .int .i64 s3.qh, .int .i64 s3.qb, .int .i64 s3.qg, .int .i64 s3.epoch, vU', vL', .int .i64 s3.qg, vK'] 37 (0, 0)) := by rw [← hV7]; exact setRow_heap _ _ _ _ _ _ hY6
        have b37 : Below V3.heap.size V3 V7 := by rw [← hV7]; exact Sb.below_setRow _ b36 (by omega)
        have hb7 : But (fun k => k = Y) V6 V7 := by rw [← hV7]; exact (But.refl (fun k => k = Y) V6).setRow (.inl rfl) _
        rw [hV7]
        clear hV7
        have r7 : Rf (fun g => (O g ∧ g ≠ X) ∨ V3.heap.size ≤ g) V7 s3 K' vU' vL' vK' P' := (r6.out.but hb7 fun k hk e => by
          rcases hk with hk | hk
          · have := (HBp.out.oge k hk.1).2; have := HB3.out.size; omega
          · omega).mono fun g _ hg => hg.elim .inl fun q => .inr (Nat.le_trans hb4.size q)
        refine hK.out _ _ (go_on HB3.out b37) (fun hHeld => ?_)
        clear hK K
        clear hb4 hY4 hYY r6 b36 b6 hYl hY6 hb7
      all_goals
        refine wpAnyH_take (i := 11) (v := .int .i64 (mN : Int)) rfl (by kernel_rfl) (by kernel_rfl) (by kernel_rfl) (fun _ _ _ h => h) (Or.inl ⟨by rfl, ?_⟩) (by first | assumption | exact trivial) ?_
        · intro W hSW; go_simp; try (with_reducible rfl)
        simp only [Act.put, List.getElem_toArray, List.getElem_cons_succ, List.getElem_cons_zero, List.setIfInBounds_toArray, List.set_cons_zero, List.set_cons_succ]
        refine wpAnyH_done (by kernel_rfl) ?_ _
        have BL := Lib.hid (HBp.out.laid HB3.out r7 b37)
        simp only [rsv, rsc] at BL
        have HX7 : Hid (V7.heap[X]? = some (.cells #[.int .i64 s.self, .int .i64 s.qh, .int .i64 s.qb, .int .i64 s.qg, .int .i64 s.epoch, vU, vL, .int .i64 s.qg, vK] 37 (0, 0))) := (HBp.out.mid (go_on HB3.out b37)).2.1
        have HB37 := Lib.hid b37
        have HO := Lib.hid (And.intro o1 (And.intro o2 o3))
        have HK6 := k6
        have hXl : X < w0.heap.size := (Array.getElem?_eq_some_iff.1 HBp.out.box).1
        have HXl := Lib.hid hXl
        obtain ⟨x0, x1, x2, x3, x4, x5, x6, x7, x8⟩ := rs_cells hY7
        clear hHeld S0 hY7 b37 o1 o2 o3 r7 k6 hXl HRA HEc
        go_wp2_with (first
          | (refine wpList_store_row rfl 37 (.tmp 7) (.tmp 65) rfl X #[.int .i64 s3.self, .int .i64 s3.qh, .int .i64 s3.qb, .int .i64 s3.qg, .int .i64 s3.epoch, vU', vL', .int .i64 s3.qg, vK'] rfl rfl 37 _ HX7.out (by kernel_rfl) rfl (rs_onev _ _ _ _ _ _ HO.out.1 HO.out.2.1 HO.out.2.2) ?_
             obtain ⟨V8, hV8⟩ : ∃ V, V7.setRow X #[.int .i64 s3.self, .int .i64 s3.qh, .int .i64 s3.qb, .int .i64 s3.qg, .int .i64 s3.epoch, vU', vL', .int .i64 s3.qg, vK'] = V := ⟨_, rfl⟩
             rw [hV8] at BL ⊢
             obtain ⟨L8, R8, X8, B8, Z8, T8⟩ := BL.out
             have HL8 := Lib.hid L8
             have HR8 := Lib.hid R8
             have HX8 := Lib.hid X8
             have HB8 := Lib.hid B8
             have HZ8 := Lib.hid Z8
             have HT8 := Lib.hid T8
             clear L8 R8 X8 B8 Z8 T8 hV8 x0 x1 x2 x3 x4 x5 x6 x7 x8
             have HT83 : Hid (∀ k, k ≠ X → k < V3.heap.size → V8.heap[k]? = V3.heap[k]?) := fun k h1 h2 => (HT8.out k h1).trans (HB37.out.block k h2)
             have HE8 : Hid (V8.heap[E]? = some (.cells #[.int .i64 ek, .int .i64 eo, .int .i64 ed, .int .i64 ee, .int .i64 ec, .slice A3 en p3] 48 (0, 0))) := (HT83.out E (by have := HE0.out; have := HXl.out; omega) (Array.getElem?_eq_some_iff.1 HE3.out).1).trans HE3.out
             obtain ⟨u0, u1, u2, u3, u4, u5⟩ := ev_cells HE8.out)
          | (go_at_call 13
             have hA8 : Me.Own V8 w0.heap.size (.slice A3 en p3) ep := own_same ho3.out fun k e hk => HT83.out k (by have := (World.ownsRow.lt ho3.out k e).1; have := HXl.out; omega) hk
             obtain ⟨A0, q0, e0, z7, z8, hd0⟩ := hA8.held HLT8.out
             clear z7 z8
             simp only [Value.slice.injEq] at e0
             obtain ⟨rfl, z9, rfl⟩ := e0
             clear z9
             have hApp := Apply_l w.heap.size (OW O w0.heap.size V7.heap.size) V8 m D s ek ⟨eo, ed, ee, ec⟩ A3 p3 ep (by have := HBp.out.mj; omega) hd0.rd hd0.2.2 HB8.out.size (fun k hk => by rw [HZ8.out]; exact hk.elim (fun q => by have := (HBp.out.oge k q).2; have := HB3.out.size; have := HB37.out.size; omega) fun q => q.2) HL8
             rw [HMN.out, HS3.out, HEn.out] at hApp
             simp only [evC] at hApp
             refine hApp.mono ?_
             clear hApp hd0 hA8
             rintro e w9 ⟨rfl, l9, b9⟩))
        have HPL := Lib.hid hpl
        have BS := Lib.hid (HBp.out.step HB3.out HB37.out.size HZ8.out HB8.out HR8.out HX8.out b9.out l9.out HK6.out)
        have hE8l : E < V8.heap.size := (Array.getElem?_eq_some_iff.1 HE8.out).1
        have HE9 : Hid (w9.heap[E]? = some (.cells #[.int .i64 ek, .int .i64 eo, .int .i64 ed, .int .i64 ee, .int .i64 ec, .slice A3 en p3] 48 (0, 0))) := (BS.out.2.2 E HE0.out (by have := HZ8.out; omega)).trans HE8.out
        have HG9 : Hid (∀ q, A3 = some ⟨q, 0, none⟩ → w0.heap.size ≤ q ∧ q < V3.heap.size ∧ q ≠ E ∧ w9.heap[q]? = V3.heap[q]? ∧ ∃ cs, w9.heap[q]? = some (.cells cs 5 (0, 0))) := fun q hq => by
          obtain ⟨h1, h2, h3, cs, hcs⟩ := HGA.out q hq
          have h4 : w9.heap[q]? = V3.heap[q]? := (BS.out.2.2 q h1 (by have := HB37.out.size; omega)).trans (HT83.out q (by have := HXl.out; omega) h2)
          exact ⟨h1, h2, h3, h4, cs, h4.trans hcs⟩
        have HD9 : Hid (Dat w9 w0.heap.size A3 en) := HDt.out.one fun q hq => (HG9.out q hq).2.2.2.1
        obtain ⟨w90, hw90⟩ : ∃ x, w9 = x := ⟨_, rfl⟩
        rw [hw90] at BS HE9 HG9 HD9 ⊢
        clear hw90 u0 u1 u2 u3 u4 u5 hE8l HE8 HT83 HT8 HZ8 HB8 HX8 HR8 HL8 hpl b9 l9 HDt HGA HE3 HX7 BL ho3
        go_loopw [13] (fun v13 wr => ∃ k : Nat, v13 = .int .i64 (k : Int) ∧ k ≤ en ∧ Hid (Dat wr w0.heap.size A3 en) ∧ Hid (wr.heap[E]? = some (.cells #[.int .i64 ek, .int .i64 eo, .int .i64 ed, .int .i64 ee, .int .i64 ec, .slice A3 en p3] 48 (0, 0))) ∧ Hid (But (fun q => A3 = some ⟨q, 0, none⟩) w90 wr)) (fun v13 _ => en - (intOf v13).toNat)
        case atStart => exact ⟨0, rfl, Nat.zero_le _, HD9, HE9, But.refl _ _⟩
        case round =>
          obtain ⟨k, rfl, hk, HDq, HEq, HBq⟩ := hrel
          obtain ⟨u0, u1, u2, u3, u4, u5⟩ := ev_cells HEq.out
          by_cases hlk : k < en
          · obtain ⟨gd, b8, cs, hA3, hgd, hb8, hcs, z0, z1⟩ := HDq.out.at_ hlk
            have HA3 := Lib.hid hA3
            have hgE := (HG9.out gd hA3).2.2.1
            rw [hA3] at u5
            have t1 : (k : Int) < (en : Int) := by omega
            have t2 : ¬ ((en : Int) ≤ (k : Int)) := by omega
            have t4 : (k : Int) < 140737488351233 := by have := HPL.out; have := HEn.out; omega
            obtain ⟨c, hc⟩ : ∃ c : Nat, 255 - b8 = c := ⟨_, rfl⟩
            have hcI : (255 : Int) - (b8 : Int) = (c : Int) := by omega
            have hc8 : c < 256 := by omega
            have HWr : Hid (IntKind.u8.wrap (255 - (b8 : Int)) = (c : Int)) := by show _ = _; rw [hcI]; exact Me.wrap8 (by unfold Me.U8; omega)
            have HC8 := Lib.hid hc8
            have HZ0 := Lib.hid z0
            have HZ1 := Lib.hid z1
            have HU5 := Lib.hid u5
            have HGE := Lib.hid hgE
            clear hgd hcs hb8 hc hcI hc8 z0 z1 hA3 hgE u0 u1 u2 u3 u4
            go_wp2
            have S0 : wr.drew.cell? ⟨E, 5, none⟩ = some (.slice (some ⟨gd, 0, none⟩) en p3) := HU5.out
            clear u5
            refine wp_region_held_drew (S := fun W : World => W.cell? ⟨E, 5, none⟩ = some (.slice (some ⟨gd, 0, none⟩) en p3)) (by kernel_rfl) S0 (fun hHeld => ?_)
            refine wpAnyH_take (i := 0) (v := .pointer (some ⟨E, 1, none⟩)) rfl (by kernel_rfl) (by kernel_rfl) (by kernel_rfl) (fun _ _ _ h => h) (Or.inl ⟨by rfl, ?_⟩) (by first | assumption | exact trivial) ?_
            · intro W hSW; go_simp; try (with_reducible rfl)
            simp only [Act.put, List.getElem_toArray, List.getElem_cons_succ, List.getElem_cons_zero, List.setIfInBounds_toArray, List.set_cons_zero, List.set_cons_succ]
            refine wpAnyH_take (i := 1) (v := .pointer (some ⟨E, 5, none⟩)) rfl (by kernel_rfl) (by kernel_rfl) (by kernel_rfl) (fun _ _ _ h => h) (Or.inl ⟨by rfl, ?_⟩) (by first | assumption | exact trivial) ?_
            · intro W hSW; go_simp; try (with_reducible rfl)
            simp only [Act.put, List.getElem_toArray, List.getElem_cons_succ, List.getElem_cons_zero, List.setIfInBounds_toArray, List.set_cons_zero, List.set_cons_succ]
            refine wpAnyH_take (i := 2) (v := .slice (some ⟨gd, 0, none⟩) en p3) rfl (by kernel_rfl) (by kernel_rfl) (by kernel_rfl) (fun _ _ _ h => h) (Or.inl ⟨by rfl, ?_⟩) (by first | assumption | exact trivial) ?_
            · intro W hSW; have q := hSW; go_simp; try (with_reducible rfl)
            simp only [Act.put, List.getElem_toArray, List.getElem_cons_succ, List.getElem_cons_zero, List.setIfInBounds_toArray, List.set_cons_zero, List.set_cons_succ]
            refine wpAnyH_take (i := 3) (v := .int .i64 (k : Int)) rfl (by kernel_rfl) (by kernel_rfl) (by kernel_rfl) (fun _ _ _ h => h) (Or.inl ⟨by rfl, ?_⟩) (by first | assumption | exact trivial) ?_
            · intro W hSW; go_simp; try (with_reducible rfl)
            simp only [Act.put, List.getElem_toArray, List.getElem_cons_succ, List.getElem_cons_zero, List.setIfInBounds_toArray, List.set_cons_zero, List.set_cons_succ]
            refine wpAnyH_take (i := 4) (v := .pointer (some ⟨E, 1, none⟩)) rfl (by kernel_rfl) (by kernel_rfl) (by kernel_rfl) (fun _ _ _ h => h) (Or.inl ⟨by rfl, ?_⟩) (by first | assumption | exact trivial) ?_
            · intro W hSW; go_simp; try (with_reducible rfl)
            simp only [Act.put, List.getElem_toArray, List.getElem_cons_succ, List.getElem_cons_zero, List.setIfInBounds_toArray, List.set_cons_zero, List.set_cons_succ]
            refine wpAnyH_take (i := 5) (v := .pointer (some ⟨E, 5, none⟩)) rfl (by kernel_rfl) (by kernel_rfl) (by kernel_rfl) (fun _ _ _ h => h) (Or.inl ⟨by rfl, ?_⟩) (by first | assumption | exact trivial) ?_
            · intro W hSW; go_simp; try (with_reducible rfl)
            simp only [Act.put, List.getElem_toArray, List.getElem_cons_succ, List.getElem_cons_zero, List.setIfInBounds_toArray, List.set_cons_zero, List.set_cons_succ]
            refine wpAnyH_take (i := 6) (v := .slice (some ⟨gd, 0, none⟩) en p3) rfl (by kernel_rfl) (by kernel_rfl) (by kernel_rfl) (fun _ _ _ h => h) (Or.inl ⟨by rfl, ?_⟩) (by first | assumption | exact trivial) ?_
            · intro W hSW; have q := hSW; go_simp; try (with_reducible rfl)
            simp only [Act.put, List.getElem_toArray, List.getElem_cons_succ, List.getElem_cons_zero, List.setIfInBounds_toArray, List.set_cons_zero, List.set_cons_succ]
            refine wpAnyH_take (i := 7) (v := .int .i64 (k : Int)) rfl (by kernel_rfl) (by kernel_rfl) (by kernel_rfl) (fun _ _ _ h => h) (Or.inl ⟨by rfl, ?_⟩) (by first | assumption | exact trivial) ?_
            · intro W hSW; go_simp; try (with_reducible rfl)
            simp only [Act.put, List.getElem_toArray, List.getElem_cons_succ, List.getElem_cons_zero, List.setIfInBounds_toArray, List.set_cons_zero, List.set_cons_succ]
            refine wpAnyH_take (i := 8) (v := .pointer (some ⟨gd, k, none⟩)) rfl (by kernel_rfl) (by kernel_rfl) (by kernel_rfl) (fun _ _ _ h => h) (Or.inl ⟨by rfl, ?_⟩) (by first | assumption | exact trivial) ?_
            · intro W hSW; go_simp; try (with_reducible rfl)
            simp only [Act.put, List.getElem_toArray, List.getElem_cons_succ, List.getElem_cons_zero, List.setIfInBounds_toArray, List.set_cons_zero, List.set_cons_succ]
            refine wpAnyH_ready (rs := [9]) (by kernel_rfl) (by simp) ?_
            refine AllReadyH.cons rfl (fun K hK => ?_) AllReadyH.nil
            have q0 : wr.drew.cell? ⟨gd, k, none⟩ = some (.int .u8 (b8 : Int)) := HZ0.out
            go_simp
            refine hK.out _ _ (S0) (fun hHeld => ?_)
            clear hK K
            refine wpAnyH_take (i := 10) (v := .int .u8 (c : Int)) rfl (by kernel_rfl) (by kernel_rfl) (by kernel_rfl) (fun _ _ _ h => h) (Or.inl ⟨by rfl, ?_⟩) (by first | assumption | exact trivial) ?_
            · intro W hSW; have q := HWr.out; go_simp; try (with_reducible rfl)
            simp only [Act.put, List.getElem_toArray, List.getElem_cons_succ, List.getElem_cons_zero, List.setIfInBounds_toArray, List.set_cons_zero, List.set_cons_succ]
            refine wpAnyH_take (i := 11) (v := .pointer (some ⟨gd, k, none⟩)) rfl (by kernel_rfl) (by kernel_rfl) (by kernel_rfl) (fun _ _ _ h => h) (Or.inl ⟨by rfl, ?_⟩) (by first | assumption | exact trivial) ?_
            · intro W hSW; go_simp; try (with_reducible rfl)
            simp only [Act.put, List.getElem_toArray, List.getElem_cons_succ, List.getElem_cons_zero, List.setIfInBounds_toArray, List.set_cons_zero, List.set_cons_succ]
            refine wpAnyH_ready (rs := [12]) (by kernel_rfl) (by simp) ?_
            refine AllReadyH.cons rfl (fun K hK => ?_) AllReadyH.nil
            have q1 : wr.drew.frozen? ⟨gd, k, none⟩ = false := HZ1.out
            go_simp
            obtain ⟨V6, hV6⟩ : ∃ V, (wr.setCell ⟨gd, k, none⟩ (.int .u8 (c : Int))).drew = V := ⟨_, rfl⟩
            have hD6 : Dat V6 w0.heap.size A3 en := by
              rw [← hV6]
              exact HDq.out.set gd k HC8.out
            have hE6 : V6.heap[E]? = some (.cells #[.int .i64 ek, .int .i64 eo, .int .i64 ed, .int .i64 ee, .int .i64 ec, .slice A3 en p3] 48 (0, 0)) := by
              rw [← hV6]
              exact (heap_setCell_other wr _ _ _ (fun e => HGE.out e.symm)).trans HEq.out
            have hB6 : But (fun q => A3 = some ⟨q, 0, none⟩) w90 V6 := by
              rw [← hV6]
              exact (HBq.out.set (p := ⟨gd, k, none⟩) (.inl HA3.out) _).trans (But.of_below (S := fun _ => False) (Below.refl _ _).drew) fun _ _ h => h.elim
            rw [hV6]
            clear hV6
            have hS6 : V6.cell? ⟨E, 5, none⟩ = some (.slice (some ⟨gd, 0, none⟩) en p3) := by
              have := (ev_cells hE6).2.2.2.2.2
              rw [HA3.out] at this
              exact this
            refine hK.out _ _ (hS6) (fun hHeld => ?_)
            clear hK K
            refine wpAnyH_done (by kernel_rfl) ?_ _
            have HD6 := Lib.hid hD6
            have HE6 := Lib.hid hE6
            have HB6 := Lib.hid hB6
            clear hHeld hS6 hD6 hE6 hB6 S0
            go_wp2
            go_roundw
            case rel => exact ⟨k + 1, by go_num, by omega, HD6, HE6, HB6⟩
            case measure => simp [intOf]; omega
          · obtain rfl : k = en := by omega
            have t1 : ¬ (k : Int) < (k : Int) := by omega
            have hX0 := HXl.out
            have h37 := HB37.out.size
            have h03 := HB3.out.size
            have HF := Lib.hid (BS.out.1.over (wq := wr) BS.out.2.1 (fun q hq => hq.elim (fun h => ⟨.inl h.1, h.2⟩) fun h => ⟨.inr ⟨by omega, h.2⟩, by omega⟩) HBq.out (fun q hq => by
              obtain ⟨h1, h2, _, _⟩ := HG9.out q hq
              refine ⟨.inr ⟨h1, by omega⟩, by omega, fun h => ?_⟩
              rcases h with h | h
              · have := (HBp.out.oge q h.1).2; omega
              · omega) fun q cs hq hc => by
              obtain ⟨_, _, _, _, cs', hcs'⟩ := HG9.out q hq
              rw [hcs'] at hc
              simp at hc)
            have hm50 := HF.out.mj
            have hk50 := HF.out.kj
            have HTold := Lib.hid (told_ok w.heap.size _ _ wr (m + 1) D s3 K' vU' vL' vK' P' (by omega) (Lib.hid HF.out.lv) (Lib.hid HF.out.rf) (by omega))
            simp only [rsv, rsc] at HTold
            obtain ⟨x0, x1, x2, x3, x4, x5, x6, x7, x8⟩ := rs_cells HF.out.box
            clear hX0 h37 h03 hm50 hk50 u0 u1 u2 u3 u4
            go_wp2_with (go_at_call 14; (refine HTold.out.mono ?_); rintro e w10 ⟨rfl, b10⟩)
            go_roundw
            case rel => exact ⟨j + 1, _, s3, m + 1, K', vU', vL', vK', P', by go_num, by omega, HF.out.go b10.out⟩
            case measure => simp [intOf]; omega
    · obtain rfl : j = L := by omega
      have hjI : ¬ (j : Int) < (j : Int) := by omega
      go_wp2_with (go_at_call 9; refine (HAw.out _).mono ?_; rintro e w9 ⟨rfl, b9⟩)
      go_ret
      exact ⟨rfl, go_on HBp.out.below b9.out⟩
theorem storePlays (me qh qb qg : Int) (A : Option Addr) (len cap : Nat) (ls : List Evt) (w : World) (w1 : len = ls.length ∧ len ≤ cap ∧ cap ≤ 9223372036854775807 ∧ Evs w A ls) :
    Calls Tryz.prog 3 #[.agg #[.int .i64 me, .int .i64 qh, .int .i64 qb, .int .i64 qg], .slice A len cap] w fun e w' => e = .returned (.bool true) ∧ Below w.heap.size w w' := by
  by_cases h : NewOk me qh qb qg
  · exact storePlays_ok me qh qb qg A len cap ls w h w1
  · exact storePlays_no me qh qb qg _ w h
end Go.Proofs.YtfnlhfelpdkieaaGreat.So
