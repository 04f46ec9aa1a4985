/- The law SeenNext. -/
import Derived.Test.YtjgdkpgkonnhnaaSeIds
import Derived.Test.YtjgdkpgkonnhnaaSeMarks
import Derived.Test.YtjgdkpgkonnhnaaSeHasM
import Derived.Test.YtjgdkpgkonnhnaaSeAddA
import Derived.Test.YtjgdkpgkonnhnaaSeWoke
namespace Go.Proofs.Ytjgdkpgkonnhnaa.Se
open Go.RowKit
open Go.Proofs.Ytjgdkpgkonnhnaa.Me Go.Proofs.Ytjgdkpgkonnhnaa.Sb
set_option linter.unusedVariables false
set_option linter.unusedSimpArgs false

theorem Mw.but {S : Nat → Prop} {w w' : World} {B : Nat} {v : Value} {P : List Pm} (h : Mw w B v P) (hb : But S w w') (hS : ∀ k, S k → k < B) : Mw w' B v P :=
  ⟨own_same h.own fun k hk hl => hb.same k hl fun hs => by have := (h.own.lt k hk).1; have := hS k hs; omega,
   fun p hp => (h.each p hp).same fun k hk hl => hb.same k hl fun hs => by have := ((h.each p hp).lt k hk).1; have := hS k hs; omega⟩
set_option maxRecDepth 100000 in
set_option maxHeartbeats 16000000 in
theorem seenNext_no (g : Int) (vl : Value) (w : World) (h : g < 0 ∨ 256 < g) : Calls Try.prog 7 #[.int .i64 g, vl] w fun e w' => e = .returned (.bool true) ∧ Below w.heap.size w w' := by
  have HN := Lib.hid (fun W => New_no g h W)
  have HA := Lib.hid (fun W => awake_any W)
  rcases h with h | h
  · have g1 : decide (g < 0) = true := by simpa using h
    go_enter Try.func7, Try.ntmps7
    go_wp2_with (first
      | (go_at_call 9; refine (HN.out _).mono ?_; rintro e w1 ⟨rfl, rfl⟩)
      | (go_at_call 11; refine (HA.out _).mono ?_; rintro e w7 ⟨rfl, b7⟩))
    go_ret
    exact ⟨rfl, b7.out⟩
  · have g1 : decide (g < 0) = false := by simp; omega
    have g2 : ¬ g < 0 := by omega
    go_enter Try.func7, Try.ntmps7
    go_wp2_with (first
      | (go_at_call 9; refine (HN.out _).mono ?_; rintro e w1 ⟨rfl, rfl⟩)
      | (go_at_call 11; refine (HA.out _).mono ?_; rintro e w7 ⟨rfl, b7⟩))
    go_ret
    exact ⟨rfl, b7.out⟩
/-- The next counter of a mark is never refused. -/
theorem may_next {s : St} {o e : Int} (hp : Pp o e) (hok : Okk s) (hu : (getM s.kept o e).up + 1 ≤ 65535) : mayN s ⟨o, (o + 1) % 64, e, (getM s.kept o e).up + 1⟩ = 0 ∧ hasS (addS s ⟨o, (o + 1) % 64, e, (getM s.kept o e).up + 1⟩) ⟨o, (o + 1) % 64, e, (getM s.kept o e).up + 1⟩ = true := by
  obtain ⟨h1, h2, h3, h4⟩ := hp
  have ho := hok.get o e
  have hr : Mg.Right ⟨o, (o + 1) % 64, e, (getM s.kept o e).up + 1⟩ := ⟨h1, by show o < 64; omega, by show 0 ≤ (o + 1) % 64; omega, by show (o + 1) % 64 < 64; omega, h3, h4, by have := ho.u0; show 1 ≤ (getM s.kept o e).up + 1; omega, hu, by show ¬ o = (o + 1) % 64; omega⟩
  have hc := Mg.right_iff.2 hr
  have hh : has (getM s.kept o e) ((getM s.kept o e).up + 1) = false := by
    cases h : has (getM s.kept o e) ((getM s.kept o e).up + 1)
    · rfl
    · rcases (has_iff _ _).1 h with h | h
      · omega
      · have := (ho.gap _ h).1
        omega
  have hm : mayN s ⟨o, (o + 1) % 64, e, (getM s.kept o e).up + 1⟩ = 0 := by
    unfold mayN
    rw [if_neg (by simp [hc])]
    simp [hh]
  refine ⟨hm, ?_⟩
  unfold hasS addS
  rw [if_neg (by simp [hm])]
  simp only [hc, get_set]
  simp
  exact (has_wth _ _ _).2 (.inr rfl)
theorem addS_other {s : St} {i : Mg.Id4} {o e : Int} (h : ¬ (o = i.o ∧ e = i.e)) : getM (addS s i).kept o e = getM s.kept o e := by
  unfold addS
  split
  · rfl
  · exact get_set_ne _ _ h
/-- What holds between the rounds of the second loop. -/
structure Nx (B D b : Nat) (g : Int) (s : St) (L : Pls) (v : Value) (P : List Pm) (w : World) (j : Nat) (wr : World) (s2 : St) : Prop where
  set : ∃ n, n ≤ 60 + j ∧ Set wr true D b n s2
  room : s2.room = g
  same : ∀ k p, j ≤ k → L[k]? = some p → getM s2.kept p.1 p.2 = getM s.kept p.1 p.2
  mw : Mw wr B v P
  below : Below w.heap.size w wr
  ge : B ≤ wr.heap.size
set_option maxRecDepth 100000 in
set_option maxHeartbeats 16000000 in
theorem seenNext_ok (g : Int) (A : Option Addr) (len cap : Nat) (ls : List Mg.Id4) (w : World) (h0 : 0 ≤ g) (h1 : g ≤ 256) (hl : len = ls.length ∧ len ≤ cap ∧ cap ≤ 9223372036854775807 ∧ Ids w A ls) : Calls Try.prog 7 #[.int .i64 g, .slice A len cap] w fun e w' => e = .returned (.bool true) ∧ Below w.heap.size w w' := by
  have HN := Lib.hid (fun W => New_ok g h0 h1 W)
  have HA := Lib.hid (fun W => awake_any W)
  obtain ⟨hl1, hl2, hl3, hids⟩ := hl
  have HCut := Lib.hid (fun W => cutL_any A len cap hl2 hl3 (fun hlt => by obtain ⟨b, off, e, _⟩ := hids 0 (by omega); exact ⟨b, off, e⟩) W)
  obtain ⟨N, hN⟩ : ∃ N, min len 60 = N := ⟨_, rfl⟩
  have hN2 : N ≤ len ∧ N ≤ 60 := by omega
  have HIds : Hid (∀ j, j < N → ∃ bl off, A = some ⟨bl, off, none⟩ ∧ bl < w.heap.size ∧ w.cell? ⟨bl, off + j * 4, none⟩ = some (.int .i64 (idAt ls j).o) ∧ w.cell? ⟨bl, off + j * 4 + 1, none⟩ = some (.int .i64 (idAt ls j).d) ∧ w.cell? ⟨bl, off + j * 4 + 2, none⟩ = some (.int .i64 (idAt ls j).e) ∧ w.cell? ⟨bl, off + j * 4 + 3, none⟩ = some (.int .i64 (idAt ls j).c)) := fun j hj => hids j (by omega)
  have hN3 : N ≤ 60 := hN2.2
  have hN4 : N ≤ cap := by omega
  clear hids hl1 hl2 hN2 h0 h1
  rw [hN] at HCut
  clear hN
  go_enter Try.func7, Try.ntmps7
  go_wp2_with (first
    | (go_at_call 9; refine (HN.out _).mono ?_; rintro e w1 ⟨D, b, rfl, hS, hD, hb, hb1⟩)
    | (go_at_call 12; refine (HCut.out _).mono ?_; rintro e w3 ⟨rfl, hw3⟩)
    | (go_at_call 11; refine (HA.out _).mono ?_; rintro e w7 ⟨rfl, b7⟩))
  have k3 : Below w1.heap.size w1 w3 := by rw [← hw3]; exact Below.refl _ _
  have HB3 : Hid (Below w.heap.size w w3) := go_on hb1.out k3
  have HS3 : Hid (Set w3 true D b 0 ⟨g, 0, fun _ _ => none⟩) := hS.below k3
  have HD := Lib.hid hD
  have HBb := Lib.hid hb
  clear hS hD hb hb1 hw3 k3 HN HCut
  go_loopw [7] (fun v7 wr => ∃ (j n : Nat) (s : St), v7 = .int .i64 (j : Int) ∧ j ≤ N ∧ Hid (n ≤ j) ∧ Hid (Set wr true D b n s) ∧ Hid (s.room = g) ∧ Hid (Below w.heap.size w wr)) (fun i _ => N - (intOf i).toNat)
  case atStart => exact ⟨0, 0, _, rfl, Nat.zero_le _, Nat.le_refl _, HS3, rfl, HB3⟩
  case round =>
    obtain ⟨j, n, s, rfl, hj, HNn, HS, HRm, HB⟩ := hrel
    by_cases hlt : j < N
    · obtain ⟨bl, off, rfl, hbl, c0, c1, c2, c3⟩ := HIds.out j hlt
      have g1 : (j : Int) < (N : Int) := by omega
      have g2 : ¬ ((N : Int) ≤ (j : Int)) := by omega
      obtain ⟨x, hx⟩ : ∃ x, idAt ls j = x := ⟨_, rfl⟩
      rw [hx] at c0 c1 c2 c3
      clear hx
      obtain ⟨p, q, r, t⟩ := x
      simp only at c0 c1 c2 c3
      have hb := HB.out.block bl hbl
      have e0 := (World.cell?_of_block (a := ⟨bl, off + j * 4, none⟩) hb).trans c0
      have e1 := (World.cell?_of_block (a := ⟨bl, off + j * 4 + 1, none⟩) hb).trans c1
      have e2 := (World.cell?_of_block (a := ⟨bl, off + j * 4 + 2, none⟩) hb).trans c2
      have e3 := (World.cell?_of_block (a := ⟨bl, off + j * 4 + 3, none⟩) hb).trans c3
      have HAdd : Hid (Calls Try.prog 18 #[.pointer (some ⟨D, 0, none⟩), .agg #[.int .i64 p, .int .i64 q, .int .i64 r, .int .i64 t]] wr (AddP D b n s ⟨p, q, r, t⟩ wr)) := Add_all D b n s ⟨p, q, r, t⟩ wr HS.out (by have := HNn.out; omega)
      have hgp : ¬ g < (addS s ⟨p, q, r, t⟩).gaps := by
        have h1 := (HS.out.ok.addS ⟨p, q, r, t⟩).g1
        rw [addS_room, HRm.out] at h1
        omega
      have HGa : Hid (∀ n4 W, Set W true D b n4 (addS s ⟨p, q, r, t⟩) → Calls Try.prog 21 #[.pointer (some ⟨D, 0, none⟩)] W fun e w' => e = .returned (.int .i64 (addS s ⟨p, q, r, t⟩).gaps) ∧ W = w') := fun n4 W hW => Gaps_any true D b n4 _ W hW
      obtain ⟨S2, hS2⟩ : ∃ S2, addS s ⟨p, q, r, t⟩ = S2 := ⟨_, rfl⟩
      have HRm2 : Hid (S2.room = g) := by rw [← hS2]; show _ = _; rw [addS_room]; exact HRm.out
      unfold AddP at HAdd
      rw [hS2] at HAdd HGa hgp
      obtain ⟨ga, hga⟩ : ∃ ga, S2.gaps = ga := ⟨_, rfl⟩
      rw [hga] at HGa hgp
      clear hS2 hga c0 c1 c2 c3 hb hbl
      go_wp2_with (first
        | (go_at_call 18; refine HAdd.out.mono ?_; rintro e w4 ⟨rfl, n4, hn4, hS4, hB4⟩)
        | (go_at_call 21; refine (HGa.out _ _ hS4.out).mono ?_; rintro e w5 ⟨rfl, rfl⟩))
      go_roundw
      case rel => exact ⟨j + 1, n4, S2, by go_num, hlt, (by have := HNn.out; show _ ≤ _; omega), hS4, HRm2, HB.out.trans (hB4.out.below HB.out.size fun k hk => by have := HD.out; have := HBb.out; rcases hk with rfl | rfl <;> omega)⟩
      case measure => simp [intOf]; omega
    · obtain rfl : j = N := by omega
      have g1 : ¬ (j : Int) < (j : Int) := by omega
      have HMk := Lib.hid (Marks_any true D b n s wr HS (by have := HNn.out; omega))
      go_wp2_with (go_at_call 20; refine HMk.out.mono ?_; rintro e w5 ⟨v, P, L, rfl, hM5, hB5, hO, hP⟩; obtain ⟨Am, cm, rfl, _, _⟩ := hM5.out.form)
      obtain ⟨N2, hN2⟩ : ∃ N2, P.length = N2 := ⟨_, rfl⟩
      have hL2 : L.length = N2 := by rw [← hN2]; have := congrArg List.length hP.out; simpa using this.symm
      have hL3 : N2 ≤ 60 := by have := hO.out.le; have := HNn.out; omega
      rw [hN2] at hM5 ⊢
      have HN2 : Hid (P.length = N2 ∧ L.length = N2) := ⟨hN2, hL2⟩
      have HNx : Hid (Nx wr.heap.size D b g s L (.slice Am N2 cm) P w 0 w5 s) := ⟨⟨n, by have := HNn.out; omega, HS.out.below hB5.out⟩, HRm.out, fun k p _ _ => rfl, hM5.out, go_on HB.out hB5.out, hB5.out.size⟩
      have hlt' := HS.out.lt
      have HDl : Hid (D < wr.heap.size ∧ b < wr.heap.size) := hlt'
      clear hN2 hL2 HMk hlt' hM5 hB5 HNn
      obtain ⟨w0, hw0⟩ : ∃ w0, wr = w0 := ⟨_, rfl⟩
      rw [hw0] at HNx HDl HB
      clear HS hw0
      go_loopw [9] (fun v9 wx => ∃ (k : Nat) (s2 : St), v9 = .int .i64 (k : Int) ∧ k ≤ N2 ∧ Hid (Nx w0.heap.size D b g s L (.slice Am N2 cm) P w k wx s2)) (fun i _ => N2 - (intOf i).toNat)
      case atStart => exact ⟨0, s, rfl, Nat.zero_le _, HNx⟩
      case round =>
        obtain ⟨k, s2, rfl, hk, HX⟩ := hrel
        by_cases hlt : k < N2
        · obtain ⟨⟨n9, hn9, hS9⟩, hr9, hsm, hmw, hb9, hge9⟩ := HX.out
          have HGe := Lib.hid hge9
          obtain ⟨x, hx⟩ : ∃ x, P[k]? = some x := ⟨_, List.getElem?_eq_getElem (by have := HN2.out.1; omega)⟩
          obtain ⟨p, hp⟩ : ∃ p, L[k]? = some p := ⟨_, List.getElem?_eq_getElem (by have := HN2.out.2; omega)⟩
          have hm : x.m = mrOf s.kept p := by
            have := congrArg (fun l => l[k]?) hP.out
            simpa [hx, hp] using this
          obtain ⟨gm, rfl, hgB, hglt, hgc⟩ := hmw.at_ hx
          have hpp := (hO.out.all p (List.mem_of_getElem? hp)).1
          have hk1 := hsm k p (Nat.le_refl _) hp
          have hltp : ∀ k' p', k < k' → L[k']? = some p' → ltP p p' := fun k' p' hkk hp' => by
            have h1 := List.pairwise_iff_getElem.1 hO.out.srt k k' (List.getElem?_eq_some_iff.1 hp).1 (List.getElem?_eq_some_iff.1 hp').1 hkk
            rwa [(List.getElem?_eq_some_iff.1 hp).2, (List.getElem?_eq_some_iff.1 hp').2] at h1
          obtain ⟨o, e⟩ := p
          obtain ⟨⟨xo, xe, u, xm⟩, xA, xc⟩ := x
          simp only [mrOf, Mr.mk.injEq] at hm
          obtain ⟨rfl, rfl, hu, _⟩ := hm
          simp only at hk1 hpp
          rw [← hk1] at hu
          have HCm : Hid (∀ W, Below wr.heap.size wr W → W.cell? ⟨gm, k * 4, none⟩ = some (.int .i64 xo) ∧ W.cell? ⟨gm, k * 4 + 1, none⟩ = some (.int .i64 xe) ∧ W.cell? ⟨gm, k * 4 + 2, none⟩ = some (.int .i64 u)) := fun W hW => by
            obtain ⟨z0, z1, z2, _⟩ := hgc W (hW.block gm hglt)
            exact ⟨z0, z1, z2⟩
          have hok := hS9.ok.get xo xe
          have hu0 := hok.u0
          have hu1 := hok.u1
          rw [← hu] at hu0 hu1
          obtain ⟨p1, p2, p3, p4⟩ := hpp
          obtain ⟨d2, hd2⟩ : ∃ d2, (xo + 1) % 64 = d2 := ⟨_, rfl⟩
          obtain ⟨c2, hc2⟩ : ∃ c2, u + 1 = c2 := ⟨_, rfl⟩
          have HW1 : Hid (IntKind.i64.wrap (xo + 1) = xo + 1) := Mi.fits' ⟨by omega, by omega⟩
          have HW2 : Hid (IntKind.i64.wrap (u + 1) = c2) := by rw [← hc2]; exact Mi.fits' ⟨by omega, by omega⟩
          have HW3 : Hid ((xo + 1).tmod 64 = d2) := by rw [← hd2]; exact Int.tmod_eq_emod_of_nonneg (by omega)
          have HW4 : Hid (0 ≤ d2 ∧ d2 < 64) := by show _ ∧ _; omega
          have HMN : Hid (c2 ≤ 65535 → mayN s2 ⟨xo, d2, xe, c2⟩ = 0 ∧ hasS (addS s2 ⟨xo, d2, xe, c2⟩) ⟨xo, d2, xe, c2⟩ = true) := fun hle => by
            have := may_next (s := s2) ⟨p1, p2, p3, p4⟩ hS9.ok (by omega)
            rw [← hu, hd2, hc2] at this
            exact this
          have HOT : Hid (∀ k' p', k + 1 ≤ k' → L[k']? = some p' → getM (addS s2 ⟨xo, d2, xe, c2⟩).kept p'.1 p'.2 = getM s.kept p'.1 p'.2) := fun k' p' hkk hp' => by
            have h1 := hltp k' p' (by omega) hp'
            rw [addS_other (fun h => by unfold ltP at h1; simp only at h1 h; omega)]
            exact hsm k' p' (by omega) hp'
          have HSm : Hid (∀ k' p', k + 1 ≤ k' → L[k']? = some p' → getM s2.kept p'.1 p'.2 = getM s.kept p'.1 p'.2) := fun k' p' hkk hp' => hsm k' p' (by omega) hp'
          have HS9 := Lib.hid hS9
          have HMw := Lib.hid hmw
          have HB9 := Lib.hid hb9
          have HR9 := Lib.hid hr9
          have HN9 := Lib.hid hn9
          have g1 : (k : Int) < (N2 : Int) := by omega
          have g2 : ¬ ((N2 : Int) ≤ (k : Int)) := by omega
          have HCc := Lib.hid (show 1 ≤ c2 by omega)
          clear hge9 hsm hmw hgc hx hp hgB hglt hk1 hltp hu hok hu0 hu1 p1 p2 p3 p4 hd2 hc2 hS9 hb9 hr9 hn9 HX
          go_wp2
          have S0 := (Below.refl wr.heap.size wr).drew
          refine wp_region_held_drew (S := fun W => Below wr.heap.size wr W) (by kernel_rfl) S0 (fun hHeld => ?_)
          refine wpAnyH_take (i := 0) (v := .slice (some ⟨gm, 0, none⟩) N2 cm) rfl (by kernel_rfl) (by kernel_rfl) (by kernel_rfl) (fun _ _ _ h => h) (Or.inl ⟨by rfl, ?_⟩) (by first | assumption | exact trivial) ?_
          · intro W hSW; go_simp; try (with_reducible rfl)
          simp only [Act.put, List.getElem_toArray, List.getElem_cons_succ, List.getElem_cons_zero, List.setIfInBounds_toArray, List.set_cons_zero, List.set_cons_succ]
          refine wpAnyH_take (i := 1) (v := .int .i64 (k : Int)) rfl (by kernel_rfl) (by kernel_rfl) (by kernel_rfl) (fun _ _ _ h => h) (Or.inl ⟨by rfl, ?_⟩) (by first | assumption | exact trivial) ?_
          · intro W hSW; go_simp; try (with_reducible rfl)
          simp only [Act.put, List.getElem_toArray, List.getElem_cons_succ, List.getElem_cons_zero, List.setIfInBounds_toArray, List.set_cons_zero, List.set_cons_succ]
          refine wpAnyH_take (i := 2) (v := .pointer (some ⟨gm, k * 4, none⟩)) rfl (by kernel_rfl) (by kernel_rfl) (by kernel_rfl) (fun _ _ _ h => h) (Or.inl ⟨by rfl, ?_⟩) (by first | assumption | exact trivial) ?_
          · intro W hSW; go_simp; try (with_reducible rfl)
          simp only [Act.put, List.getElem_toArray, List.getElem_cons_succ, List.getElem_cons_zero, List.setIfInBounds_toArray, List.set_cons_zero, List.set_cons_succ]
          refine wpAnyH_take (i := 3) (v := .pointer (some ⟨gm, k * 4, none⟩)) rfl (by kernel_rfl) (by kernel_rfl) (by kernel_rfl) (fun _ _ _ h => h) (Or.inl ⟨by rfl, ?_⟩) (by first | assumption | exact trivial) ?_
          · intro W hSW; go_simp; try (with_reducible rfl)
          simp only [Act.put, List.getElem_toArray, List.getElem_cons_succ, List.getElem_cons_zero, List.setIfInBounds_toArray, List.set_cons_zero, List.set_cons_succ]
          refine wpAnyH_take (i := 4) (v := .int .i64 xo) rfl (by kernel_rfl) (by kernel_rfl) (by kernel_rfl) (fun _ _ _ h => h) (Or.inl ⟨by rfl, ?_⟩) (by first | assumption | exact trivial) ?_
          · intro W hSW; obtain ⟨z0, z1, z2⟩ := HCm.out W hSW; go_simp; try (with_reducible rfl)
          simp only [Act.put, List.getElem_toArray, List.getElem_cons_succ, List.getElem_cons_zero, List.setIfInBounds_toArray, List.set_cons_zero, List.set_cons_succ]
          refine wpAnyH_take (i := 5) (v := .slice (some ⟨gm, 0, none⟩) N2 cm) rfl (by kernel_rfl) (by kernel_rfl) (by kernel_rfl) (fun _ _ _ h => h) (Or.inl ⟨by rfl, ?_⟩) (by first | assumption | exact trivial) ?_
          · intro W hSW; go_simp; try (with_reducible rfl)
          simp only [Act.put, List.getElem_toArray, List.getElem_cons_succ, List.getElem_cons_zero, List.setIfInBounds_toArray, List.set_cons_zero, List.set_cons_succ]
          refine wpAnyH_take (i := 6) (v := .int .i64 (k : Int)) rfl (by kernel_rfl) (by kernel_rfl) (by kernel_rfl) (fun _ _ _ h => h) (Or.inl ⟨by rfl, ?_⟩) (by first | assumption | exact trivial) ?_
          · intro W hSW; go_simp; try (with_reducible rfl)
          simp only [Act.put, List.getElem_toArray, List.getElem_cons_succ, List.getElem_cons_zero, List.setIfInBounds_toArray, List.set_cons_zero, List.set_cons_succ]
          refine wpAnyH_take (i := 7) (v := .pointer (some ⟨gm, k * 4, none⟩)) rfl (by kernel_rfl) (by kernel_rfl) (by kernel_rfl) (fun _ _ _ h => h) (Or.inl ⟨by rfl, ?_⟩) (by first | assumption | exact trivial) ?_
          · intro W hSW; go_simp; try (with_reducible rfl)
          simp only [Act.put, List.getElem_toArray, List.getElem_cons_succ, List.getElem_cons_zero, List.setIfInBounds_toArray, List.set_cons_zero, List.set_cons_succ]
          refine wpAnyH_take (i := 8) (v := .pointer (some ⟨gm, k * 4, none⟩)) rfl (by kernel_rfl) (by kernel_rfl) (by kernel_rfl) (fun _ _ _ h => h) (Or.inl ⟨by rfl, ?_⟩) (by first | assumption | exact trivial) ?_
          · intro W hSW; go_simp; try (with_reducible rfl)
          simp only [Act.put, List.getElem_toArray, List.getElem_cons_succ, List.getElem_cons_zero, List.setIfInBounds_toArray, List.set_cons_zero, List.set_cons_succ]
          refine wpAnyH_take (i := 9) (v := .int .i64 xo) rfl (by kernel_rfl) (by kernel_rfl) (by kernel_rfl) (fun _ _ _ h => h) (Or.inl ⟨by rfl, ?_⟩) (by first | assumption | exact trivial) ?_
          · intro W hSW; obtain ⟨z0, z1, z2⟩ := HCm.out W hSW; go_simp; try (with_reducible rfl)
          simp only [Act.put, List.getElem_toArray, List.getElem_cons_succ, List.getElem_cons_zero, List.setIfInBounds_toArray, List.set_cons_zero, List.set_cons_succ]
          refine wpAnyH_take (i := 10) (v := .int .i64 (xo + 1)) rfl (by kernel_rfl) (by kernel_rfl) (by kernel_rfl) (fun _ _ _ h => h) (Or.inl ⟨by rfl, ?_⟩) (by first | assumption | exact trivial) ?_
          · intro W hSW; have q := HW1.out; go_simp; try (with_reducible rfl)
          simp only [Act.put, List.getElem_toArray, List.getElem_cons_succ, List.getElem_cons_zero, List.setIfInBounds_toArray, List.set_cons_zero, List.set_cons_succ]
          refine wpAnyH_take (i := 11) (v := .int .i64 d2) rfl (by kernel_rfl) (by kernel_rfl) (by kernel_rfl) (fun _ _ _ h => h) (Or.inl ⟨by rfl, ?_⟩) (by first | assumption | exact trivial) ?_
          · intro W hSW; have q := HW3.out; go_simp; try (with_reducible rfl)
          simp only [Act.put, List.getElem_toArray, List.getElem_cons_succ, List.getElem_cons_zero, List.setIfInBounds_toArray, List.set_cons_zero, List.set_cons_succ]
          refine wpAnyH_take (i := 12) (v := .slice (some ⟨gm, 0, none⟩) N2 cm) rfl (by kernel_rfl) (by kernel_rfl) (by kernel_rfl) (fun _ _ _ h => h) (Or.inl ⟨by rfl, ?_⟩) (by first | assumption | exact trivial) ?_
          · intro W hSW; go_simp; try (with_reducible rfl)
          simp only [Act.put, List.getElem_toArray, List.getElem_cons_succ, List.getElem_cons_zero, List.setIfInBounds_toArray, List.set_cons_zero, List.set_cons_succ]
          refine wpAnyH_take (i := 13) (v := .int .i64 (k : Int)) rfl (by kernel_rfl) (by kernel_rfl) (by kernel_rfl) (fun _ _ _ h => h) (Or.inl ⟨by rfl, ?_⟩) (by first | assumption | exact trivial) ?_
          · intro W hSW; go_simp; try (with_reducible rfl)
          simp only [Act.put, List.getElem_toArray, List.getElem_cons_succ, List.getElem_cons_zero, List.setIfInBounds_toArray, List.set_cons_zero, List.set_cons_succ]
          refine wpAnyH_take (i := 14) (v := .pointer (some ⟨gm, k * 4, none⟩)) rfl (by kernel_rfl) (by kernel_rfl) (by kernel_rfl) (fun _ _ _ h => h) (Or.inl ⟨by rfl, ?_⟩) (by first | assumption | exact trivial) ?_
          · intro W hSW; go_simp; try (with_reducible rfl)
          simp only [Act.put, List.getElem_toArray, List.getElem_cons_succ, List.getElem_cons_zero, List.setIfInBounds_toArray, List.set_cons_zero, List.set_cons_succ]
          refine wpAnyH_take (i := 15) (v := .pointer (some ⟨gm, k * 4 + 1, none⟩)) rfl (by kernel_rfl) (by kernel_rfl) (by kernel_rfl) (fun _ _ _ h => h) (Or.inl ⟨by rfl, ?_⟩) (by first | assumption | exact trivial) ?_
          · intro W hSW; go_simp; try (with_reducible rfl)
          simp only [Act.put, List.getElem_toArray, List.getElem_cons_succ, List.getElem_cons_zero, List.setIfInBounds_toArray, List.set_cons_zero, List.set_cons_succ]
          refine wpAnyH_take (i := 16) (v := .int .i64 xe) rfl (by kernel_rfl) (by kernel_rfl) (by kernel_rfl) (fun _ _ _ h => h) (Or.inl ⟨by rfl, ?_⟩) (by first | assumption | exact trivial) ?_
          · intro W hSW; obtain ⟨z0, z1, z2⟩ := HCm.out W hSW; go_simp; try (with_reducible rfl)
          simp only [Act.put, List.getElem_toArray, List.getElem_cons_succ, List.getElem_cons_zero, List.setIfInBounds_toArray, List.set_cons_zero, List.set_cons_succ]
          refine wpAnyH_take (i := 17) (v := .slice (some ⟨gm, 0, none⟩) N2 cm) rfl (by kernel_rfl) (by kernel_rfl) (by kernel_rfl) (fun _ _ _ h => h) (Or.inl ⟨by rfl, ?_⟩) (by first | assumption | exact trivial) ?_
          · intro W hSW; go_simp; try (with_reducible rfl)
          simp only [Act.put, List.getElem_toArray, List.getElem_cons_succ, List.getElem_cons_zero, List.setIfInBounds_toArray, List.set_cons_zero, List.set_cons_succ]
          refine wpAnyH_take (i := 18) (v := .int .i64 (k : Int)) rfl (by kernel_rfl) (by kernel_rfl) (by kernel_rfl) (fun _ _ _ h => h) (Or.inl ⟨by rfl, ?_⟩) (by first | assumption | exact trivial) ?_
          · intro W hSW; go_simp; try (with_reducible rfl)
          simp only [Act.put, List.getElem_toArray, List.getElem_cons_succ, List.getElem_cons_zero, List.setIfInBounds_toArray, List.set_cons_zero, List.set_cons_succ]
          refine wpAnyH_take (i := 19) (v := .pointer (some ⟨gm, k * 4, none⟩)) rfl (by kernel_rfl) (by kernel_rfl) (by kernel_rfl) (fun _ _ _ h => h) (Or.inl ⟨by rfl, ?_⟩) (by first | assumption | exact trivial) ?_
          · intro W hSW; go_simp; try (with_reducible rfl)
          simp only [Act.put, List.getElem_toArray, List.getElem_cons_succ, List.getElem_cons_zero, List.setIfInBounds_toArray, List.set_cons_zero, List.set_cons_succ]
          refine wpAnyH_take (i := 20) (v := .pointer (some ⟨gm, k * 4 + 2, none⟩)) rfl (by kernel_rfl) (by kernel_rfl) (by kernel_rfl) (fun _ _ _ h => h) (Or.inl ⟨by rfl, ?_⟩) (by first | assumption | exact trivial) ?_
          · intro W hSW; go_simp; try (with_reducible rfl)
          simp only [Act.put, List.getElem_toArray, List.getElem_cons_succ, List.getElem_cons_zero, List.setIfInBounds_toArray, List.set_cons_zero, List.set_cons_succ]
          refine wpAnyH_take (i := 21) (v := .int .i64 u) rfl (by kernel_rfl) (by kernel_rfl) (by kernel_rfl) (fun _ _ _ h => h) (Or.inl ⟨by rfl, ?_⟩) (by first | assumption | exact trivial) ?_
          · intro W hSW; obtain ⟨z0, z1, z2⟩ := HCm.out W hSW; go_simp; try (with_reducible rfl)
          simp only [Act.put, List.getElem_toArray, List.getElem_cons_succ, List.getElem_cons_zero, List.setIfInBounds_toArray, List.set_cons_zero, List.set_cons_succ]
          refine wpAnyH_take (i := 22) (v := .int .i64 c2) rfl (by kernel_rfl) (by kernel_rfl) (by kernel_rfl) (fun _ _ _ h => h) (Or.inl ⟨by rfl, ?_⟩) (by first | assumption | exact trivial) ?_
          · intro W hSW; have q := HW2.out; go_simp; try (with_reducible rfl)
          simp only [Act.put, List.getElem_toArray, List.getElem_cons_succ, List.getElem_cons_zero, List.setIfInBounds_toArray, List.set_cons_zero, List.set_cons_succ]
          refine wpAnyH_take (i := 23) (v := .agg #[.int .i64 xo, .int .i64 d2, .int .i64 xe, .int .i64 c2]) rfl (by kernel_rfl) (by kernel_rfl) (by kernel_rfl) (fun _ _ _ h => h) (Or.inl ⟨by rfl, ?_⟩) (by first | assumption | exact trivial) ?_
          · intro W hSW; go_simp; try (with_reducible rfl)
          simp only [Act.put, List.getElem_toArray, List.getElem_cons_succ, List.getElem_cons_zero, List.setIfInBounds_toArray, List.set_cons_zero, List.set_cons_succ]
          refine wpAnyH_ready (rs := [24]) (by kernel_rfl) (by simp) ?_
          refine AllReadyH.cons rfl (fun K hK => ?_) AllReadyH.nil
          go_simp
          obtain ⟨V6, hV6⟩ : ∃ V, (wr.alloc (.cells #[.int .i64 0, .int .i64 0, .int .i64 0, .int .i64 0] 39)).drew = V := ⟨_, rfl⟩
          have hb6 : Below wr.heap.size wr V6 := by rw [← hV6]; exact (Me.below_alloc (Below.refl _ _)).drew
          have hD6 : V6.heap[wr.heap.size]? = some (.cells #[.int .i64 0, .int .i64 0, .int .i64 0, .int .i64 0] 39 (0, 0)) := by rw [← hV6]; exact heap_alloc_new wr _
          obtain ⟨X, hX⟩ : ∃ X, wr.heap.size = X := ⟨_, rfl⟩
          have hXX : wr.heap.size ≤ X := by omega
          have HXe := Lib.hid hX
          rw [hV6]
          rw [hX] at hD6 ⊢
          clear hV6 hX
          refine hK.out _ _ (hb6) (fun hHeld => ?_)
          clear hK K
          refine wpAnyH_ready (rs := [25]) (by kernel_rfl) (by simp) ?_
          refine AllReadyH.cons rfl (fun K hK => ?_) AllReadyH.nil
          rw [if_pos (by kernel_rfl)]
          refine wp_store_row 39 (.tmp 10) (.tmp 80) rfl X #[.int .i64 xo, .int .i64 d2, .int .i64 xe, .int .i64 c2] rfl (by rfl) 39 _ hD6 (by kernel_rfl) rfl (by simp [Value.oneCell']) ?_
          simp only [Act.put, List.getElem_toArray, List.getElem_cons_succ, List.getElem_cons_zero, List.setIfInBounds_toArray, List.set_cons_zero, List.set_cons_succ]
          obtain ⟨V9, hV9⟩ : ∃ V, V6.setRow X #[.int .i64 xo, .int .i64 d2, .int .i64 xe, .int .i64 c2] = V := ⟨_, rfl⟩
          have hb9 : Below wr.heap.size wr V9 := by rw [← hV9]; exact Sb.below_setRow _ hb6 hXX
          have hD9 : V9.heap[X]? = some (.cells #[.int .i64 xo, .int .i64 d2, .int .i64 xe, .int .i64 c2] 39 (0, 0)) := by rw [← hV9]; exact setRow_heap _ _ _ _ _ _ hD6
          rw [hV9]
          clear hV9
          refine hK.out _ _ (hb9) (fun hHeld => ?_)
          clear hK K
          refine wpAnyH_done (by kernel_rfl) ?_ _
          have HB6 := Lib.hid hb9
          have HS6 : Hid (Set V9 true D b n9 s2) := HS9.out.below hb9
          have hXl : X < V9.heap.size := (Array.getElem?_eq_some_iff.1 hD9).1
          have HXc : Hid (∀ W : World, W.heap[X]? = V9.heap[X]? → W.cell? ⟨X, 0, none⟩ = some (.int .i64 xo) ∧ W.cell? ⟨X, 1, none⟩ = some (.int .i64 d2) ∧ W.cell? ⟨X, 2, none⟩ = some (.int .i64 xe) ∧ W.cell? ⟨X, 3, none⟩ = some (.int .i64 c2)) := fun W hW => by
            have h := hW.trans hD9
            exact ⟨cell_of_row W X 0 _ _ (0, 0) h, cell_of_row W X 1 _ _ (0, 0) h, cell_of_row W X 2 _ _ (0, 0) h, cell_of_row W X 3 _ _ (0, 0) h⟩
          have HXl := Lib.hid hXl
          have hDb := HS6.out.lt
          have hne : ∀ k', (k' = D ∨ k' = b) → k' < w0.heap.size := fun k' hk' => by have := HDl.out; rcases hk' with rfl | rfl <;> omega
          have hw0 : w0.heap.size ≤ X := by
            have h1 := HXe.out
            have h2 := HGe.out
            omega
          have HGe6 : Hid (w0.heap.size ≤ V9.heap.size) := Nat.le_trans hw0 (Nat.le_of_lt hXl)
          have HNe := Lib.hid hne
          have HX0 := Lib.hid hw0
          obtain ⟨z0, z1, z2, z3⟩ := HXc.out V9 rfl
          clear hHeld hb6 hD6 hb9 hD9 S0 hXX hXl hDb hne hw0
          by_cases hcc : c2 ≤ 65535
          · obtain ⟨hm0, hh1⟩ := HMN.out hcc
            have HMay : Hid (Calls Try.prog 17 #[.pointer (some ⟨D, 0, none⟩), .agg #[.int .i64 xo, .int .i64 d2, .int .i64 xe, .int .i64 c2]] V9 fun e w' => e = .returned (.int .i64 0) ∧ Hid (Below V9.heap.size V9 w')) := by
              have := May_any true D b n9 s2 ⟨xo, d2, xe, c2⟩ V9 HS6
              rw [hm0] at this
              exact this
            have HAdd : Hid (∀ W, Below V9.heap.size V9 W → Calls Try.prog 18 #[.pointer (some ⟨D, 0, none⟩), .agg #[.int .i64 xo, .int .i64 d2, .int .i64 xe, .int .i64 c2]] W fun e w' => e = .returned (.int .i64 0) ∧ ∃ n', n' ≤ n9 + 1 ∧ Hid (Set w' true D b n' (addS s2 ⟨xo, d2, xe, c2⟩)) ∧ Hid (But (fun k => k = D ∨ k = b) W w')) := fun W hW => by
              have := Add_all D b n9 s2 ⟨xo, d2, xe, c2⟩ W (HS6.out.below hW) (by have := HN9.out; omega)
              unfold AddP at this
              rw [hm0] at this
              exact this
            have HHas : Hid (∀ n' W, Set W true D b n' (addS s2 ⟨xo, d2, xe, c2⟩) → Calls Try.prog 23 #[.pointer (some ⟨D, 0, none⟩), .agg #[.int .i64 xo, .int .i64 d2, .int .i64 xe, .int .i64 c2]] W fun e w' => e = .returned (.bool true) ∧ Hid (Below W.heap.size W w')) := fun n' W hW => by
              have := Has_any true D b n' _ ⟨xo, d2, xe, c2⟩ W hW
              rw [hh1] at this
              exact this
            clear hm0 hh1
            go_wp2_with (first
              | (go_at_call 17; refine HMay.out.mono ?_; rintro e w4 ⟨rfl, hb4⟩; obtain ⟨t0, t1, t2, t3⟩ := HXc.out w4 (hb4.out.block X HXl.out))
              | (go_at_call 18; refine (HAdd.out w4 hb4.out).mono ?_; rintro e w5 ⟨rfl, n5, hn5, hS5, hB5⟩; obtain ⟨r0, r1, r2, r3⟩ := HXc.out w5 ((hB5.out.same X (Nat.lt_of_lt_of_le HXl.out hb4.out.size) (fun hk => by have h1 := HNe.out X hk; have h2 := HX0.out; omega)).trans (hb4.out.block X HXl.out)))
              | (go_at_call 23; refine (HHas.out _ _ hS5.out).mono ?_; rintro e w6 ⟨rfl, hb6⟩))
            go_roundw
            case rel =>
              refine ⟨k + 1, addS s2 ⟨xo, d2, xe, c2⟩, by go_num, hlt, ⟨⟨n5, by have := HN9.out; omega, hS5.out.below hb6.out⟩, ?_, HOT.out, ?_, ?_, ?_⟩⟩
              · rw [addS_room]; exact HR9.out
              · exact (((HMw.out.below HB6.out).below hb4.out).but hB5.out HNe.out).below hb6.out
              · exact go_on ((go_on (go_on HB9.out HB6.out) hb4.out).trans (hB5.out.below (go_on (go_on HB9.out HB6.out) hb4.out).size fun k' hk' => by have := HD.out; have := HBb.out; rcases hk' with rfl | rfl <;> omega)) hb6.out
              · exact Nat.le_trans HGe6.out (Nat.le_trans hb4.out.size (Nat.le_trans hB5.out.size hb6.out.size))
            case measure => simp [intOf]; omega
          · have gc : ¬ c2 ≤ 65535 := hcc
            go_wp2
            go_roundw
            case rel => exact ⟨k + 1, s2, by go_num, hlt, ⟨⟨n9, by have := HN9.out; omega, HS6.out⟩, HR9.out, HSm.out, HMw.out.below HB6.out, go_on HB9.out HB6.out, HGe6.out⟩⟩
            case measure => simp [intOf]; omega
        · obtain rfl : k = N2 := by omega
          have g1 : ¬ (k : Int) < (k : Int) := by omega
          obtain ⟨⟨n9, hn9, hS9⟩, hr9, _, _, hb9, _⟩ := HX.out
          have HGa := Lib.hid (Gaps_any true D b n9 s2 _ hS9)
          have hgp : s2.gaps ≤ g := by have := hS9.ok.g1; omega
          have HB9 := Lib.hid hb9
          obtain ⟨ga, hga⟩ : ∃ ga, s2.gaps = ga := ⟨_, rfl⟩
          rw [hga] at HGa hgp
          clear hga hS9 hr9 hn9 hb9
          go_wp2_with (first
            | (go_at_call 21; refine HGa.out.mono ?_; rintro e w5 ⟨rfl, rfl⟩)
            | (go_at_call 11; refine (HA.out _).mono ?_; rintro e w7 ⟨rfl, b7⟩))
          go_ret
          exact ⟨rfl, go_on HB9.out b7.out⟩

theorem seenNext (g : Int) (A : Option Addr) (len cap : Nat) (ls : List Mg.Id4) (w : World) (w0 : (Lit.int .i64 g).wf = true) (w1 : len = ls.length ∧ len ≤ cap ∧ cap ≤ 9223372036854775807 ∧ Ids w A ls) :
    Calls Try.prog 7 #[.int .i64 g, .slice A len cap] w fun e w' => e = .returned (.bool true) ∧ Below w.heap.size w w' := by
  by_cases h : g < 0 ∨ 256 < g
  · exact seenNext_no g _ w h
  · exact seenNext_ok g A len cap ls w (by omega) (by omega) w1
end Go.Proofs.Ytjgdkpgkonnhnaa.Se
