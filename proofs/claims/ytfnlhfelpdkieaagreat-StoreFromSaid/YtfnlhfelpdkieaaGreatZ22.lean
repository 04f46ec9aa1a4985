/- The messages that are held, told: Held. -/
import Derived.Test.YtfnlhfelpdkieaaGreatZ5
import Derived.Test.YtfnlhfelpdkieaaGreatZ17
import Derived.Test.YtfnlhfelpdkieaaGreatZ13
import Derived.Test.YtfnlhfelpdkieaaGreatZ21
import Derived.Test.YtfnlhfelpdkieaaGreatZ20
import Derived.Test.YtfnlhfelpdkieaaGreatZ6
namespace Go.Proofs.YtfnlhfelpdkieaaGreat.So
open Go.RowKit
open Go.Proofs.YtfnlhfelpdkieaaGreat.Me Go.Proofs.YtfnlhfelpdkieaaGreat.Sb
set_option linter.unusedVariables false
set_option linter.unusedSimpArgs false

theorem takeH_snoc {α : Type} {L : List α} {j : Nat} {p : α} (h : L[j]? = some p) : L.take (j + 1) = L.take j ++ [p] := by
  rw [List.take_add_one, h]; rfl
theorem own_ne_tyH {w : World} {B T T' s n x : Nat} {v : Value} {xs : List Value} {cs : Array Value} {fr : Nat × Nat} (h : w.ownsRow B T s v n xs) (hx : w.heap[x]? = some (.cells cs T' fr)) (hT : T ≠ T') : some x ≠ v.ownBlock := by
  rcases h.2 with ⟨rfl, _⟩ | ⟨g, cap, cur, rfl, _, h3, _⟩
  · simp [Value.ownBlock]
  · intro e
    obtain rfl : x = g := by simpa [Value.ownBlock] using e
    rw [h3] at hx
    simp at hx
    exact hT hx.2.1
section
variable {E : Nat → Prop} {D hb sd sb m : Nat} {v : Value} {s : Sto} {w : World}
set_option maxRecDepth 100000 in
set_option maxHeartbeats 16000000 in
theorem Held_any (hS : Hid (Sq E w D hb sd sb m v s)) : Calls Tryz.prog 16 #[.pointer (some ⟨D, 0, none⟩)] w fun e w' => ∃ vh P, e = .returned vh ∧ Hid (Ow w' w.heap.size vh P) ∧ Hid (P.map Pq.x = s.held) ∧ Hid (Below w.heap.size w w') := by
  obtain ⟨A, c, rfl, hc1, hc2, hnil, hids, hoff⟩ := hS.out.ord.form2
  have q70 := hS.out.box.ord
  have hlen : s.held.length ≤ 256 := by
    have h1 := hS.out.ok.len
    have h2 := hS.out.ok.h1
    omega
  rw [List.length_map] at q70 hc1
  have HD : Hid (∀ W, Below w.heap.size w W → W.cell? ⟨D, 69, none⟩ = some (.map (some hb))) := fun W hW => (hS.out.box.below hW).map
  have HIx : Hid (∀ j, j < s.held.length → ∃ g, A = some ⟨g, 0, none⟩ ∧ ∀ W, Below w.heap.size w W → W.cell? ⟨g, j * 4, none⟩ = some (.int .i64 (idAt (s.held.map It.i) j).o) ∧ W.cell? ⟨g, j * 4 + 1, none⟩ = some (.int .i64 (idAt (s.held.map It.i) j).d) ∧ W.cell? ⟨g, j * 4 + 2, none⟩ = some (.int .i64 (idAt (s.held.map It.i) j).e) ∧ W.cell? ⟨g, j * 4 + 3, none⟩ = some (.int .i64 (idAt (s.held.map It.i) j).c)) := fun k hk => by
    obtain ⟨b', off', e1, e2, q0, q1, q2, q3⟩ := hids k (by rw [List.length_map]; exact hk)
    obtain ⟨rfl, _⟩ := hoff b' off' e1
    rw [Nat.zero_add] at q0 q1 q2 q3
    exact ⟨b', e1, fun W hW => ⟨(hW.cell e2).trans q0, (hW.cell e2).trans q1, (hW.cell e2).trans q2, (hW.cell e2).trans q3⟩⟩
  have HEl : Hid (∀ x ∈ s.held, ∃ Ax cx, (∀ W, Below w.heap.size w W → (Instr.lookup 74 (.map (some hb)) (.agg (Mg.idC x.i)) false).run Tryz.prog W = .ok (.slice Ax x.p.length cx) W) ∧ Rd w w.heap.size Ax x.p ∧ (Ax = none → x.p.length = 0 ∧ cx = 0) ∧ x.p.length ≤ 48) := fun x hx => by
    have hf : findH s.held x.i = some x.p := findH_of_mem hS.out.ok.nod hx
    obtain ⟨hg, _, hpb⟩ := find_len hS.out.ok hf
    have hr := (msgN_zero hg)
    obtain ⟨y, hel, _, hl2⟩ := hS.out.map.yes (fit_right hr.1) hf
    obtain ⟨Ax, cx, rfl, hox, _⟩ := hel
    obtain ⟨r1, r2⟩ := (show Rd w w.heap.size Ax x.p ∧ (Ax = none → x.p.length = 0 ∧ cx = 0) from by
      obtain ⟨A', c', e, h1, h2, h3⟩ := hox.held hpb
      simp only [Value.slice.injEq] at e
      obtain ⟨rfl, _, rfl⟩ := e
      exact ⟨h3.rd, h3.2.2⟩)
    exact ⟨Ax, cx, fun W hW => hl2 W (hW.block hb hS.out.map.lt), r1, r2, hr.2.2⟩
  obtain ⟨H, hH⟩ : ∃ H, s.held = H := ⟨_, rfl⟩
  rw [hH] at HIx HEl hlen q70 hc1 ⊢
  obtain ⟨N, hN⟩ : ∃ N, H.length = N := ⟨_, rfl⟩
  rw [hN] at HIx hlen q70 hc1
  have HN := Lib.hid hN
  clear hids hoff hnil hH hN hS
  go_enter Tryz.func16, Tryz.ntmps16
  go_wp2
  go_loopw [3, 13] (fun v3 v13 wr => ∃ (j : Nat) (P : List Pq), j ≤ N ∧ v13 = .int .i64 (j : Int) ∧ Hid (Ow wr w.heap.size v3 P) ∧ Hid (P.map Pq.x = H.take j) ∧ Hid (P.length = j) ∧ Hid (Below w.heap.size w wr)) (fun _ v13 _ => N - (intOf v13).toNat)
  case atStart => exact ⟨0, [], by omega, rfl, Ow.nil _ _, (by show _ = _; simp), rfl, Below.refl _ _⟩
  case round =>
    obtain ⟨j, P, hj, rfl, HM, HP, HL, HBr⟩ := hrel
    by_cases hlt : j < N
    · obtain ⟨x, hx⟩ : ∃ x, H[j]? = some x := ⟨_, List.getElem?_eq_getElem (by have := HN.out; omega)⟩
      obtain ⟨g, rfl, hcl⟩ := HIx.out j hlt
      obtain ⟨Ax, cx, hlk, hrd, hAx, hp48⟩ := HEl.out x (List.mem_of_getElem? hx)
      have hid : idAt (H.map It.i) j = x.i := by unfold idAt; rw [List.getD_eq_getElem?_getD, List.getElem?_map, hx]; rfl
      have hc0 := hcl wr HBr.out
      rw [hid] at hc0
      have HTK := Lib.hid (takeH_snoc hx)
      obtain ⟨⟨o, d, ee, cc⟩, p⟩ := x
      simp only [Mg.idC] at hlk hc0 hrd hAx hp48
      obtain ⟨x0, x1, x2, x3⟩ := hc0
      have HCl : Hid (∀ W, Below w.heap.size w W → Calls Tryz.prog 43 #[.slice Ax p.length cx] W fun e w' => ∃ y, e = .returned y ∧ Hid (Me.Own w' W.heap.size y p) ∧ Hid (Below W.heap.size W w')) := fun W hW => Hd.BClone_any Ax cx w.heap.size p W (hrd.below hW) hAx hW.size (by omega)
      have HLk := Lib.hid hlk
      obtain ⟨pn, hpn⟩ : ∃ n, p.length = n := ⟨_, rfl⟩
      have HPn := Lib.hid hpn
      rw [hpn] at HCl HLk
      have hP1 : P.length ≤ 100000 := by have := HL.out; omega
      have HP1 := Lib.hid hP1
      have hX1 : Below wr.heap.size wr (wr.alloc (.cells #[.int .i64 o, .int .i64 d, .int .i64 ee, .int .i64 cc] 43)) := Me.below_alloc (Below.refl _ _)
      have hXp : (wr.alloc (.cells #[.int .i64 o, .int .i64 d, .int .i64 ee, .int .i64 cc] 43)).heap[wr.heap.size]? = some (.cells #[.int .i64 o, .int .i64 d, .int .i64 ee, .int .i64 cc] 43 (0, 0)) := heap_alloc_new wr _
      have HX1 := Lib.hid (go_on HBr.out hX1)
      have HXp := Lib.hid hXp
      have HM1 := Lib.hid (HM.out.below hX1)
      have hjn : (j : Int) < (N : Int) := by omega
      clear hx hlk hrd hAx hp48 hpn hX1 hXp hP1 hcl hid
      go_wp2
      obtain ⟨xp, hxp⟩ : ∃ xp, wr.heap.size = xp := ⟨_, rfl⟩
      obtain ⟨V9, hV9⟩ : ∃ V, wr.alloc (.cells #[.int .i64 o, .int .i64 d, .int .i64 ee, .int .i64 cc] 43) = V := ⟨_, rfl⟩
      rw [hV9, hxp]
      rw [hV9] at HX1 HM1 HXp
      rw [hxp] at HXp
      clear hV9 hxp x0 x1 x2 x3
      have S2 : Below w.heap.size w V9.drew ∧ V9.drew.heap[xp]? = some (.cells #[.int .i64 o, .int .i64 d, .int .i64 ee, .int .i64 cc] 43 (0, 0)) := ⟨HX1.out.drew, HXp.out⟩
      refine wp_region_held_drew (S := fun W => Below w.heap.size w W ∧ W.heap[xp]? = some (.cells #[.int .i64 o, .int .i64 d, .int .i64 ee, .int .i64 cc] 43 (0, 0))) (by kernel_rfl) S2 (fun hHeld => ?_)
      refine wpAnyH_take (i := 0) (v := u3) rfl (by kernel_rfl) (by kernel_rfl) (by kernel_rfl) (fun _ _ _ h => h) (Or.inl ⟨by rfl, ?_⟩) (by first | assumption | exact trivial) ?_
      · intro W hSW; go_simp; try (with_reducible rfl)
      simp only [Act.put, List.getElem_toArray, List.getElem_cons_succ, List.getElem_cons_zero, List.setIfInBounds_toArray, List.set_cons_zero, List.set_cons_succ]
      refine wpAnyH_take (i := 1) (v := .agg #[.int .i64 o, .int .i64 d, .int .i64 ee, .int .i64 cc]) rfl (by kernel_rfl) (by kernel_rfl) (by kernel_rfl) (fun _ _ _ h => h) (Or.inl ⟨by rfl, ?_⟩) (by first | assumption | exact trivial) ?_
      · intro W hSW; obtain ⟨y0, y1, y2, y3⟩ := id_cells hSW.2; go_simp; try (with_reducible rfl)
      simp only [Act.put, List.getElem_toArray, List.getElem_cons_succ, List.getElem_cons_zero, List.setIfInBounds_toArray, List.set_cons_zero, List.set_cons_succ]
      refine wpAnyH_take (i := 2) (v := .pointer (some ⟨D, 0, none⟩)) rfl (by kernel_rfl) (by kernel_rfl) (by kernel_rfl) (fun _ _ _ h => h) (Or.inl ⟨by rfl, ?_⟩) (by first | assumption | exact trivial) ?_
      · intro W hSW; go_simp; try (with_reducible rfl)
      simp only [Act.put, List.getElem_toArray, List.getElem_cons_succ, List.getElem_cons_zero, List.setIfInBounds_toArray, List.set_cons_zero, List.set_cons_succ]
      refine wpAnyH_take (i := 3) (v := .pointer (some ⟨D, 0, none⟩)) rfl (by kernel_rfl) (by kernel_rfl) (by kernel_rfl) (fun _ _ _ h => h) (Or.inl ⟨by rfl, ?_⟩) (by first | assumption | exact trivial) ?_
      · intro W hSW; go_simp; try (with_reducible rfl)
      simp only [Act.put, List.getElem_toArray, List.getElem_cons_succ, List.getElem_cons_zero, List.setIfInBounds_toArray, List.set_cons_zero, List.set_cons_succ]
      refine wpAnyH_take (i := 4) (v := .pointer (some ⟨D, 69, none⟩)) rfl (by kernel_rfl) (by kernel_rfl) (by kernel_rfl) (fun _ _ _ h => h) (Or.inl ⟨by rfl, ?_⟩) (by first | assumption | exact trivial) ?_
      · intro W hSW; go_simp; try (with_reducible rfl)
      simp only [Act.put, List.getElem_toArray, List.getElem_cons_succ, List.getElem_cons_zero, List.setIfInBounds_toArray, List.set_cons_zero, List.set_cons_succ]
      refine wpAnyH_take (i := 5) (v := .map (some hb)) rfl (by kernel_rfl) (by kernel_rfl) (by kernel_rfl) (fun _ _ _ h => h) (Or.inl ⟨by rfl, ?_⟩) (by first | assumption | exact trivial) ?_
      · intro W hSW; have q := HD.out W hSW.1; go_simp; try (with_reducible rfl)
      simp only [Act.put, List.getElem_toArray, List.getElem_cons_succ, List.getElem_cons_zero, List.setIfInBounds_toArray, List.set_cons_zero, List.set_cons_succ]
      refine wpAnyH_take (i := 6) (v := .agg #[.int .i64 o, .int .i64 d, .int .i64 ee, .int .i64 cc]) rfl (by kernel_rfl) (by kernel_rfl) (by kernel_rfl) (fun _ _ _ h => h) (Or.inl ⟨by rfl, ?_⟩) (by first | assumption | exact trivial) ?_
      · intro W hSW; obtain ⟨y0, y1, y2, y3⟩ := id_cells hSW.2; go_simp; try (with_reducible rfl)
      simp only [Act.put, List.getElem_toArray, List.getElem_cons_succ, List.getElem_cons_zero, List.setIfInBounds_toArray, List.set_cons_zero, List.set_cons_succ]
      refine wpAnyH_take (i := 7) (v := .slice Ax pn cx) rfl (by kernel_rfl) (by kernel_rfl) (by kernel_rfl) (fun _ _ _ h => h) (Or.inl ⟨by rfl, ?_⟩) (by first | assumption | exact trivial) ?_
      · intro W hSW; have q := HLk.out W hSW.1; go_simp; try (with_reducible rfl)
      simp only [Act.put, List.getElem_toArray, List.getElem_cons_succ, List.getElem_cons_zero, List.setIfInBounds_toArray, List.set_cons_zero, List.set_cons_succ]
      refine wpAnyH_ready (rs := [8]) (by kernel_rfl) (by simp) ?_
      refine AllReadyH.cons rfl (fun K hK => ?_) AllReadyH.nil
      go_simp
      have hMd := HM1.out.below (Below.refl V9.heap.size V9).drew
      go_wp2_with (go_at_call 43; refine (HCl.out _ S2.1).mono ?_; rintro e' w3 ⟨vc, rfl, ho3, hb3⟩)
      have hform : ∃ Ac cc', vc = .slice Ac pn cc' := by
        rw [← HPn.out]
        rcases ho3.out.2 with ⟨h1, h2⟩ | ⟨g', cap, cur, h1, _⟩
        · have : p = [] := by simpa using h2
          subst this
          exact ⟨none, 0, h1⟩
        · exact ⟨_, cap, h1⟩
      obtain ⟨Ac, c3, rfl⟩ := hform
      have hM3 := hMd.below hb3.out
      have S3 : Below w.heap.size w w3 ∧ w3.heap[xp]? = some (.cells #[.int .i64 o, .int .i64 d, .int .i64 ee, .int .i64 cc] 43 (0, 0)) :=
        ⟨S2.1.trans (hb3.out.mono S2.1.size), (hb3.out.block _ (Array.getElem?_eq_some_iff.1 S2.2).1).trans S2.2⟩
      have ho3' : Me.Own w3 w.heap.size (.slice Ac pn c3) p := own_base ho3.out fun k hk => Nat.le_trans S2.1.size (World.ownsRow.lt ho3.out k hk).1
      refine hK.out _ _ (S3) (fun hHeld => ?_)
      clear hK K
      refine wpAnyH_take (i := 9) (v := .agg #[.int .i64 o, .int .i64 d, .int .i64 ee, .int .i64 cc, .slice Ac pn c3]) rfl (by kernel_rfl) (by kernel_rfl) (by kernel_rfl) (fun _ _ _ h => h) (Or.inl ⟨by rfl, ?_⟩) (by first | assumption | exact trivial) ?_
      · intro W hSW; go_simp; try (with_reducible rfl)
      simp only [Act.put, List.getElem_toArray, List.getElem_cons_succ, List.getElem_cons_zero, List.setIfInBounds_toArray, List.set_cons_zero, List.set_cons_succ]
      refine wpAnyH_ready (rs := [10]) (by kernel_rfl) (by simp) ?_
      refine AllReadyH.cons rfl (fun K hK => ?_) AllReadyH.nil
      go_simp
      obtain ⟨W9, hW9⟩ : ∃ V, w3.alloc (.cells #[.int .i64 o, .int .i64 d, .int .i64 ee, .int .i64 cc, .slice Ac pn c3] 46) = V := ⟨_, rfl⟩
      have hb9 : Below w3.heap.size w3 W9 := by rw [← hW9]; exact Me.below_alloc (Below.refl _ _)
      have hz9 : W9.heap[w3.heap.size]? = some (.cells #[.int .i64 o, .int .i64 d, .int .i64 ee, .int .i64 cc, .slice Ac pn c3] 46 (0, 0)) := by rw [← hW9]; exact heap_alloc_new w3 _
      rw [hW9]
      clear hW9
      have hM9 := hM3.below hb9
      have ho9 : Me.Own W9 w.heap.size (.slice Ac pn c3) p := own_same ho3' fun k _ hk => hb9.block k hk
      have S9 : Below w.heap.size w W9 ∧ W9.heap[xp]? = some (.cells #[.int .i64 o, .int .i64 d, .int .i64 ee, .int .i64 cc] 43 (0, 0)) :=
        ⟨S3.1.trans (hb9.mono S3.1.size), (hb9.block _ (Array.getElem?_eq_some_iff.1 S3.2).1).trans S3.2⟩
      refine hK.out _ _ (S9) (fun hHeld => ?_)
      clear hK K
      refine wpAnyH_ready (rs := [11]) (by kernel_rfl) (by simp) ?_
      refine AllReadyH.cons rfl (fun K hK => ?_) AllReadyH.nil
      rw [if_pos (by kernel_rfl)]
      refine appMsg (.tmp 17) (.tmp 27) rfl w.heap.size u3 P ⟨⟨⟨o, d, ee, cc⟩, p⟩, Ac, c3⟩ w3.heap.size rfl hM9 (by show Me.Own W9 _ (.slice Ac p.length c3) p; rw [HPn.out]; exact ho9) rfl (fun j' u' hj' => ?_) HP1.out S9.1.size ?_
      · rw [cell_of_row W9 w3.heap.size j' _ _ (0, 0) hz9]
        have e9 : qV ⟨⟨⟨o, d, ee, cc⟩, p⟩, Ac, c3⟩ = [.int .i64 o, .int .i64 d, .int .i64 ee, .int .i64 cc, .slice Ac pn c3] := by simp only [qV, Pq.v, HPn.out]
        rw [e9] at hj'
        simpa using hj'
      intro v7 W7 hM7 hg7 hk7
      simp only [Act.put, List.getElem_toArray, List.getElem_cons_succ, List.getElem_cons_zero, List.setIfInBounds_toArray, List.set_cons_zero, List.set_cons_succ]
      have S7 : Below w.heap.size w W7 ∧ W7.heap[xp]? = some (.cells #[.int .i64 o, .int .i64 d, .int .i64 ee, .int .i64 cc] 43 (0, 0)) :=
        ⟨S9.1.grown hg7 S9.1.size hk7, (hg7.block _ (Array.getElem?_eq_some_iff.1 S9.2).1 (own_ne_tyH hM9.own S9.2 (by decide))).trans S9.2⟩
      refine hK.out _ _ (S7) (fun hHeld => ?_)
      clear hK K
      refine wpAnyH_take (i := 12) (v := v7) rfl (by kernel_rfl) (by kernel_rfl) (by kernel_rfl) (fun _ _ _ h => h) (Or.inl ⟨by rfl, ?_⟩) (by first | assumption | exact trivial) ?_
      · intro W hSW; go_simp; try (with_reducible rfl)
      simp only [Act.put, List.getElem_toArray, List.getElem_cons_succ, List.getElem_cons_zero, List.setIfInBounds_toArray, List.set_cons_zero, List.set_cons_succ]
      refine wpAnyH_done (by kernel_rfl) ?_ _
      have HM7 := Lib.hid hM7
      have HB7 : Hid (Below w.heap.size w W7) := S7.1
      have HPx : Hid ((P ++ [(⟨⟨⟨o, d, ee, cc⟩, p⟩, Ac, c3⟩ : Pq)]).map Pq.x = H.take (j + 1)) := by show _ = _; rw [List.map_append, HP.out, HTK.out]; rfl
      clear hHeld S2 S3 S7 S9 hM7 hg7 hk7 hM9 hM3 hMd ho9 ho3' ho3 hb3 hb9 hz9
      go_wp2
      go_roundw
      case rel => exact ⟨j + 1, _, by omega, by go_num, HM7, HPx, (by show (P ++ [_]).length = _; rw [List.length_append, HL.out]; rfl), HB7⟩
      case measure => simp [intOf]; omega
    · obtain rfl : j = N := by omega
      have HF : Hid (P.map Pq.x = H) := by show _ = _; rw [HP.out, ← HN.out, List.take_length]
      have g1 : ¬ (j : Int) < (j : Int) := by omega
      go_wp2
      go_ret
      exact ⟨_, rfl, P, HM, HF, HBr⟩
end
end Go.Proofs.YtfnlhfelpdkieaaGreat.So
/- All that a store has, told: State. -/
namespace Go.Proofs.YtfnlhfelpdkieaaGreat.So
open Go.RowKit
open Go.Proofs.YtfnlhfelpdkieaaGreat.Me Go.Proofs.YtfnlhfelpdkieaaGreat.Sb
open Go.Proofs.YtfnlhfelpdkieaaGreat.Se (Mw Pm Pls mrOf Ord)
set_option linter.unusedVariables false
set_option linter.unusedSimpArgs false

theorem Box.range {w : World} {D hb sd : Nat} {v : Value} {n : Int} {s : Sto} (h : Box w D s hb sd v n) : w.rangeAt D 5 (lastV s.last).toList := fun j u hj => by
  have hj' : j < 64 := by
    have := (List.getElem?_eq_some_iff.1 hj).1
    rw [Array.length_toList, lastV_size] at this
    exact this
  rw [h.last hj', ← hj, Array.getElem?_toList, lastV_at _ hj']
/-- What State answers. -/
def StT (s : Sto) (m : Nat) (w : World) (e : Ending) (w' : World) : Prop :=
  ∃ vU vH vM PH PM L, e = .returned (.agg #[.int .i64 s.self, .int .i64 s.epoch, vU, vH, vM]) ∧ Hid (Kn w' w.heap.size vU (usedTo s.last 64)) ∧ Hid (Ow w' w.heap.size vH PH) ∧ Hid (PH.map Pq.x = s.held) ∧ Hid (Mw w' w.heap.size vM PM) ∧ Hid (Ord s.seen.kept m L) ∧ Hid (PM.map Pm.m = L.map (mrOf s.seen.kept)) ∧ Hid (Below w.heap.size w w')
theorem st_one (a b : Int) (A B C : Option Addr) (n1 n2 n3 c1 c2 c3 : Nat) : (#[.int .i64 a, .int .i64 b, .slice A n1 c1, .slice B n2 c2, .slice C n3 c3] : Array Value).all (·.oneCell') = true := by simp [Value.oneCell']
theorem mw_base {w : World} {B B' : Nat} {v : Value} {P : List Pm} (h : Mw w B v P) (hB : B' ≤ B) : Mw w B' v P := h.base hB
theorem mw_butP {S : Nat → Prop} {w w' : World} {B : Nat} {v : Value} {P : List Pm} (h : Mw w B v P) (hb : But S w w') (hS : ∀ k, S k → k < B) : Mw w' B v P :=
  ⟨own_same h.own fun k e hk => hb.same k hk fun hs => by have := (h.own.lt k e).1; have := hS k hs; omega, fun p hp => own_same (h.each p hp) fun k e hk => hb.same k hk fun hs => by have := (World.ownsRow.lt (h.each p hp) k e).1; have := hS k hs; omega⟩
theorem kn_butP {S : Nat → Prop} {w w' : World} {B : Nat} {v : Value} {l : Nx} (h : Kn w B v l) (hb : But S w w') (hS : ∀ k, S k → k < B) : Kn w' B v l :=
  own_same h fun k e hk => hb.same k hk fun hs => by have := (World.ownsRow.lt h k e).1; have := hS k hs; omega
section
variable {E : Nat → Prop} {D hb sd sb m : Nat} {v : Value} {s : Sto} {w : World}
set_option maxRecDepth 100000 in
set_option maxHeartbeats 16000000 in
theorem State_any (hm : m ≤ 5000000) (hS : Hid (Sq E w D hb sd sb m v s)) : Calls Tryz.prog 17 #[.pointer (some ⟨D, 0, none⟩)] w (StT s m w) := by
  have HU : Hid (∀ W, Calls Tryz.prog 44 #[.agg (lastV s.last)] W fun e w' => ∃ v, e = .returned v ∧ Hid (Kn w' W.heap.size v (usedTo s.last 64)) ∧ Hid (Below W.heap.size W w')) := fun W => used_any s.last W
  have HH : Hid (∀ W, Below w.heap.size w W → Calls Tryz.prog 16 #[.pointer (some ⟨D, 0, none⟩)] W fun e w' => ∃ vh P, e = .returned vh ∧ Hid (Ow w' W.heap.size vh P) ∧ Hid (P.map Pq.x = s.held) ∧ Hid (Below W.heap.size W w')) := fun W hW => Held_any (hS.out.below hW)
  have HMk : Hid (∀ W, Below w.heap.size w W → Calls Tryz.prog 45 #[.pointer (some ⟨sd, 0, none⟩)] W fun e w' => ∃ v P L, e = .returned v ∧ Hid (Mw w' W.heap.size v P) ∧ Hid (Below W.heap.size W w') ∧ Hid (Ord s.seen.kept m L) ∧ Hid (P.map Pm.m = L.map (mrOf s.seen.kept))) := fun W hW => Se.Marks_any false sd sb m s.seen W (hS.out.below hW).set.set hm
  have HR : Hid (∀ W, Below w.heap.size w W → W.rangeAt D 5 (lastV s.last).toList) := fun W hW => (hS.out.below hW).box.range
  have HC : Hid (∀ W, Below w.heap.size w W → W.cell? ⟨D, 0, none⟩ = some (.int .i64 s.self) ∧ W.cell? ⟨D, 4, none⟩ = some (.int .i64 s.epoch) ∧ W.cell? ⟨D, 72, none⟩ = some (.pointer (some ⟨sd, 0, none⟩))) := fun W hW => ⟨(hS.out.below hW).box.self, (hS.out.below hW).box.epoch, (hS.out.below hW).box.set⟩
  have HSz := Lib.hid (size64 s.last)
  unfold StT
  obtain ⟨UL, hUL⟩ : ∃ x, usedTo s.last 64 = x := ⟨_, rfl⟩
  obtain ⟨HL, hHL⟩ : ∃ x, s.held = x := ⟨_, rfl⟩
  obtain ⟨me, hme⟩ : ∃ x, s.self = x := ⟨_, rfl⟩
  obtain ⟨ep, hep⟩ : ∃ x, s.epoch = x := ⟨_, rfl⟩
  obtain ⟨ke, hke⟩ : ∃ x, s.seen.kept = x := ⟨_, rfl⟩
  obtain ⟨V, hV⟩ : ∃ x, lastV s.last = x := ⟨_, rfl⟩
  rw [hUL, hV] at HU
  rw [hHL] at HH
  rw [hke] at HMk
  rw [hV] at HR HSz
  rw [hme, hep] at HC
  rw [hUL, hHL, hme, hep, hke]
  clear hUL hHL hme hep hke hV hS
  obtain ⟨V0, hV0⟩ : ∃ x, w.alloc (.cells #[.int .i64 0, .int .i64 0, .slice none 0 0, .slice none 0 0, .slice none 0 0] 59) = x := ⟨_, rfl⟩
  have hX : V0.heap[w.heap.size]? = some (.cells #[.int .i64 0, .int .i64 0, .slice none 0 0, .slice none 0 0, .slice none 0 0] 59 (0, 0)) := by rw [← hV0]; exact heap_alloc_new w _
  have hB : Below w.heap.size w V0 := by rw [← hV0]; exact Me.below_alloc (Below.refl _ _)
  have hl0 : w.heap.size < V0.heap.size := (Array.getElem?_eq_some_iff.1 hX).1
  have HX := Lib.hid hX
  have HB := Lib.hid hB
  have HL0 := Lib.hid hl0
  have HV0 := Lib.hid hV0
  clear hV0 hX hB hl0
  go_enter Tryz.func17, Tryz.ntmps17
  go_wp2
  rw [HV0.out]
  have S0 : Below w.heap.size w V0.drew := HB.out.drew
  refine wp_region_held_drew (S := fun W => Below w.heap.size w W) (by kernel_rfl) S0 (fun hHeld => ?_)
  refine wpAnyH_take (i := 0) (v := .pointer (some ⟨D, 0, none⟩)) rfl (by kernel_rfl) (by kernel_rfl) (by kernel_rfl) (fun _ _ _ h => h) (Or.inl ⟨by rfl, ?_⟩) (by first | assumption | exact trivial) ?_
  · intro W hSW; go_simp; try (with_reducible rfl)
  simp only [Act.put, List.getElem_toArray, List.getElem_cons_succ, List.getElem_cons_zero, List.setIfInBounds_toArray, List.set_cons_zero, List.set_cons_succ]
  refine wpAnyH_take (i := 1) (v := .pointer (some ⟨D, 0, none⟩)) rfl (by kernel_rfl) (by kernel_rfl) (by kernel_rfl) (fun _ _ _ h => h) (Or.inl ⟨by rfl, ?_⟩) (by first | assumption | exact trivial) ?_
  · intro W hSW; go_simp; try (with_reducible rfl)
  simp only [Act.put, List.getElem_toArray, List.getElem_cons_succ, List.getElem_cons_zero, List.setIfInBounds_toArray, List.set_cons_zero, List.set_cons_succ]
  refine wpAnyH_take (i := 2) (v := .pointer (some ⟨D, 0, none⟩)) rfl (by kernel_rfl) (by kernel_rfl) (by kernel_rfl) (fun _ _ _ h => h) (Or.inl ⟨by rfl, ?_⟩) (by first | assumption | exact trivial) ?_
  · intro W hSW; go_simp; try (with_reducible rfl)
  simp only [Act.put, List.getElem_toArray, List.getElem_cons_succ, List.getElem_cons_zero, List.setIfInBounds_toArray, List.set_cons_zero, List.set_cons_succ]
  refine wpAnyH_take (i := 3) (v := .int .i64 me) rfl (by kernel_rfl) (by kernel_rfl) (by kernel_rfl) (fun _ _ _ h => h) (Or.inl ⟨by rfl, ?_⟩) (by first | assumption | exact trivial) ?_
  · intro W hSW; have q := (HC.out W hSW).1; go_simp; try (with_reducible rfl)
  simp only [Act.put, List.getElem_toArray, List.getElem_cons_succ, List.getElem_cons_zero, List.setIfInBounds_toArray, List.set_cons_zero, List.set_cons_succ]
  refine wpAnyH_take (i := 4) (v := .pointer (some ⟨D, 0, none⟩)) rfl (by kernel_rfl) (by kernel_rfl) (by kernel_rfl) (fun _ _ _ h => h) (Or.inl ⟨by rfl, ?_⟩) (by first | assumption | exact trivial) ?_
  · intro W hSW; go_simp; try (with_reducible rfl)
  simp only [Act.put, List.getElem_toArray, List.getElem_cons_succ, List.getElem_cons_zero, List.setIfInBounds_toArray, List.set_cons_zero, List.set_cons_succ]
  refine wpAnyH_take (i := 5) (v := .pointer (some ⟨D, 0, none⟩)) rfl (by kernel_rfl) (by kernel_rfl) (by kernel_rfl) (fun _ _ _ h => h) (Or.inl ⟨by rfl, ?_⟩) (by first | assumption | exact trivial) ?_
  · intro W hSW; go_simp; try (with_reducible rfl)
  simp only [Act.put, List.getElem_toArray, List.getElem_cons_succ, List.getElem_cons_zero, List.setIfInBounds_toArray, List.set_cons_zero, List.set_cons_succ]
  refine wpAnyH_take (i := 6) (v := .pointer (some ⟨D, 4, none⟩)) rfl (by kernel_rfl) (by kernel_rfl) (by kernel_rfl) (fun _ _ _ h => h) (Or.inl ⟨by rfl, ?_⟩) (by first | assumption | exact trivial) ?_
  · intro W hSW; go_simp; try (with_reducible rfl)
  simp only [Act.put, List.getElem_toArray, List.getElem_cons_succ, List.getElem_cons_zero, List.setIfInBounds_toArray, List.set_cons_zero, List.set_cons_succ]
  refine wpAnyH_take (i := 7) (v := .int .i64 ep) rfl (by kernel_rfl) (by kernel_rfl) (by kernel_rfl) (fun _ _ _ h => h) (Or.inl ⟨by rfl, ?_⟩) (by first | assumption | exact trivial) ?_
  · intro W hSW; have q := (HC.out W hSW).2.1; go_simp; try (with_reducible rfl)
  simp only [Act.put, List.getElem_toArray, List.getElem_cons_succ, List.getElem_cons_zero, List.setIfInBounds_toArray, List.set_cons_zero, List.set_cons_succ]
  refine wpAnyH_take (i := 8) (v := .pointer (some ⟨D, 0, none⟩)) rfl (by kernel_rfl) (by kernel_rfl) (by kernel_rfl) (fun _ _ _ h => h) (Or.inl ⟨by rfl, ?_⟩) (by first | assumption | exact trivial) ?_
  · intro W hSW; go_simp; try (with_reducible rfl)
  simp only [Act.put, List.getElem_toArray, List.getElem_cons_succ, List.getElem_cons_zero, List.setIfInBounds_toArray, List.set_cons_zero, List.set_cons_succ]
  refine wpAnyH_take (i := 9) (v := .pointer (some ⟨D, 0, none⟩)) rfl (by kernel_rfl) (by kernel_rfl) (by kernel_rfl) (fun _ _ _ h => h) (Or.inl ⟨by rfl, ?_⟩) (by first | assumption | exact trivial) ?_
  · intro W hSW; go_simp; try (with_reducible rfl)
  simp only [Act.put, List.getElem_toArray, List.getElem_cons_succ, List.getElem_cons_zero, List.setIfInBounds_toArray, List.set_cons_zero, List.set_cons_succ]
  refine wpAnyH_take (i := 10) (v := .pointer (some ⟨D, 5, none⟩)) rfl (by kernel_rfl) (by kernel_rfl) (by kernel_rfl) (fun _ _ _ h => h) (Or.inl ⟨by rfl, ?_⟩) (by first | assumption | exact trivial) ?_
  · intro W hSW; go_simp; try (with_reducible rfl)
  simp only [Act.put, List.getElem_toArray, List.getElem_cons_succ, List.getElem_cons_zero, List.setIfInBounds_toArray, List.set_cons_zero, List.set_cons_succ]
  refine wpAnyH_take (i := 11) (v := .agg V) rfl (by kernel_rfl) (by kernel_rfl) (by kernel_rfl) (fun _ _ _ h => h) (yieldsIf_load_mid (by rfl) 76 (.tmp 16) rfl D 5 rfl V.toList _ (fun W hW => HR.out W hW) Tryz.underlying76 rfl HSz.out) (by first | assumption | exact trivial) ?_
  simp only [Act.put, List.getElem_toArray, List.getElem_cons_succ, List.getElem_cons_zero, List.setIfInBounds_toArray, List.set_cons_zero, List.set_cons_succ]
  refine wpAnyH_take (i := 13) (v := .pointer (some ⟨D, 0, none⟩)) rfl (by kernel_rfl) (by kernel_rfl) (by kernel_rfl) (fun _ _ _ h => h) (Or.inl ⟨by rfl, ?_⟩) (by first | assumption | exact trivial) ?_
  · intro W hSW; go_simp; try (with_reducible rfl)
  simp only [Act.put, List.getElem_toArray, List.getElem_cons_succ, List.getElem_cons_zero, List.setIfInBounds_toArray, List.set_cons_zero, List.set_cons_succ]
  refine wpAnyH_take (i := 15) (v := .pointer (some ⟨D, 0, none⟩)) rfl (by kernel_rfl) (by kernel_rfl) (by kernel_rfl) (fun _ _ _ h => h) (Or.inl ⟨by rfl, ?_⟩) (by first | assumption | exact trivial) ?_
  · intro W hSW; go_simp; try (with_reducible rfl)
  simp only [Act.put, List.getElem_toArray, List.getElem_cons_succ, List.getElem_cons_zero, List.setIfInBounds_toArray, List.set_cons_zero, List.set_cons_succ]
  refine wpAnyH_take (i := 16) (v := .pointer (some ⟨D, 0, none⟩)) rfl (by kernel_rfl) (by kernel_rfl) (by kernel_rfl) (fun _ _ _ h => h) (Or.inl ⟨by rfl, ?_⟩) (by first | assumption | exact trivial) ?_
  · intro W hSW; go_simp; try (with_reducible rfl)
  simp only [Act.put, List.getElem_toArray, List.getElem_cons_succ, List.getElem_cons_zero, List.setIfInBounds_toArray, List.set_cons_zero, List.set_cons_succ]
  refine wpAnyH_take (i := 17) (v := .pointer (some ⟨D, 72, none⟩)) rfl (by kernel_rfl) (by kernel_rfl) (by kernel_rfl) (fun _ _ _ h => h) (Or.inl ⟨by rfl, ?_⟩) (by first | assumption | exact trivial) ?_
  · intro W hSW; go_simp; try (with_reducible rfl)
  simp only [Act.put, List.getElem_toArray, List.getElem_cons_succ, List.getElem_cons_zero, List.setIfInBounds_toArray, List.set_cons_zero, List.set_cons_succ]
  refine wpAnyH_take (i := 18) (v := .pointer (some ⟨sd, 0, none⟩)) rfl (by kernel_rfl) (by kernel_rfl) (by kernel_rfl) (fun _ _ _ h => h) (Or.inl ⟨by rfl, ?_⟩) (by first | assumption | exact trivial) ?_
  · intro W hSW; have q := (HC.out W hSW).2.2; go_simp; try (with_reducible rfl)
  simp only [Act.put, List.getElem_toArray, List.getElem_cons_succ, List.getElem_cons_zero, List.setIfInBounds_toArray, List.set_cons_zero, List.set_cons_succ]
  refine wpAnyH_ready (rs := [12]) (by kernel_rfl) (by simp) ?_
  refine AllReadyH.cons rfl (fun K hK => ?_) AllReadyH.nil
  go_simp
  go_wp2_with (go_at_call 44; refine (HU.out _).mono ?_; rintro e w1 ⟨vU, rfl, hk1, hb1⟩)
  have k1 : Below w.heap.size w w1 := go_on S0 hb1.out
  refine hK.out _ _ (k1) (fun hHeld => ?_)
  clear hK K
  refine wpAnyH_ready (rs := [14]) (by kernel_rfl) (by simp) ?_
  refine AllReadyH.cons rfl (fun K hK => ?_) AllReadyH.nil
  go_simp
  go_wp2_with (go_at_call 16; refine (HH.out _ k1).mono ?_; rintro e w2 ⟨vH, PH, rfl, ho2, hp2, hb2⟩)
  have k2 : Below w.heap.size w w2 := go_on k1 hb2.out
  refine hK.out _ _ (k2) (fun hHeld => ?_)
  clear hK K
  refine wpAnyH_ready (rs := [19]) (by kernel_rfl) (by simp) ?_
  refine AllReadyH.cons rfl (fun K hK => ?_) AllReadyH.nil
  go_simp
  go_wp2_with (go_at_call 45; refine (HMk.out _ k2).mono ?_; rintro e w3 ⟨vM, PM, L, rfl, hm3, hb3, hO3, hP3⟩)
  have k3 : Below w.heap.size w w3 := go_on k2 hb3.out
  have K3 : Kn w3 (w.heap.size + 1) vU UL := ((hk1.out.base (show w.heap.size + 1 ≤ _ from Nat.le_trans HL0.out (Nat.le_refl _))).below hb2.out).below hb3.out
  have O3 : Ow w3 (w.heap.size + 1) vH PH := (ho2.out.base (Nat.le_trans HL0.out hb1.out.size)).below hb3.out
  have M3 : Mw w3 (w.heap.size + 1) vM PM := hm3.out.base (Nat.le_trans HL0.out (Nat.le_trans hb1.out.size hb2.out.size))
  obtain ⟨aU, cU, rfl, _⟩ := K3.form
  obtain ⟨aH, cH, rfl, _⟩ := O3.form
  obtain ⟨aM, cM, rfl, _⟩ := M3.form
  obtain ⟨nU, hnU⟩ : ∃ n, UL.length = n := ⟨_, rfl⟩
  obtain ⟨nH, hnH⟩ : ∃ n, PH.length = n := ⟨_, rfl⟩
  obtain ⟨nM, hnM⟩ : ∃ n, PM.length = n := ⟨_, rfl⟩
  rw [hnU] at K3 ⊢
  rw [hnH] at O3 ⊢
  rw [hnM] at M3 ⊢
  have hX3 := (hb3.out.block _ (Nat.lt_of_lt_of_le HL0.out (Nat.le_trans hb1.out.size hb2.out.size))).trans ((hb2.out.block _ (Nat.lt_of_lt_of_le HL0.out hb1.out.size)).trans ((hb1.out.block _ HL0.out).trans HX.out))
  refine hK.out _ _ (k3) (fun hHeld => ?_)
  clear hK K
  refine wpAnyH_take (i := 20) (v := .agg #[.int .i64 me, .int .i64 ep, .slice aU nU cU, .slice aH nH cH, .slice aM nM cM]) rfl (by kernel_rfl) (by kernel_rfl) (by kernel_rfl) (fun _ _ _ h => h) (Or.inl ⟨by rfl, ?_⟩) (by first | assumption | exact trivial) ?_
  · intro W hSW; go_simp; try (with_reducible rfl)
  simp only [Act.put, List.getElem_toArray, List.getElem_cons_succ, List.getElem_cons_zero, List.setIfInBounds_toArray, List.set_cons_zero, List.set_cons_succ]
  refine wpAnyH_ready (rs := [21]) (by kernel_rfl) (by simp) ?_
  refine AllReadyH.cons rfl (fun K hK => ?_) AllReadyH.nil
  rw [if_pos (by kernel_rfl)]
  refine wp_store_row 59 (.tmp 2) (.tmp 26) rfl w.heap.size #[.int .i64 me, .int .i64 ep, .slice aU nU cU, .slice aH nH cH, .slice aM nM cM] rfl (by rfl) 59 _ hX3 (by kernel_rfl) rfl (st_one _ _ _ _ _ _ _ _ _ _ _) ?_
  simp only [Act.put, List.getElem_toArray, List.getElem_cons_succ, List.getElem_cons_zero, List.setIfInBounds_toArray, List.set_cons_zero, List.set_cons_succ]
  obtain ⟨V9, hV9⟩ : ∃ x, w3.setRow w.heap.size #[.int .i64 me, .int .i64 ep, .slice aU nU cU, .slice aH nH cH, .slice aM nM cM] = x := ⟨_, rfl⟩
  have hb9 : But (fun k => k = w.heap.size) w3 V9 := by rw [← hV9]; exact (But.refl (fun k => k = w.heap.size) w3).setRow (.inl rfl) _
  have hX9 : V9.heap[w.heap.size]? = some (.cells #[.int .i64 me, .int .i64 ep, .slice aU nU cU, .slice aH nH cH, .slice aM nM cM] 59 (0, 0)) := by rw [← hV9]; exact setRow_heap _ _ _ _ _ _ hX3
  have hB9 : Below w.heap.size w V9 := by rw [← hV9]; exact Sb.below_setRow _ k3 (Nat.le_refl _)
  rw [hV9]
  clear hV9
  refine hK.out _ _ (hB9) (fun hHeld => ?_)
  clear hK K
  refine wpAnyH_done (by kernel_rfl) ?_ _
  go_wp2
  exact Sb.ret_box (g := w.heap.size) rfl (by rfl) hX9 rfl Tryz.underlying59 (by kernel_rfl) rfl ⟨_, _, _, PH, PM, L, rfl, (kn_butP K3 hb9 fun k e => by omega).base (Nat.le_succ _), (O3.butP hb9 fun k e => by omega).base (Nat.le_succ _), hp2, (mw_butP M3 hb9 fun k e => by omega).base (Nat.le_succ _), hO3, hP3, hB9⟩
end
end Go.Proofs.YtfnlhfelpdkieaaGreat.So
/- The law StoreQuotas. -/
namespace Go.Proofs.YtfnlhfelpdkieaaGreat.So
open Go.RowKit
open Go.Proofs.YtfnlhfelpdkieaaGreat.Me Go.Proofs.YtfnlhfelpdkieaaGreat.Sb
open Go.Proofs.YtfnlhfelpdkieaaGreat.Se (Mw Pm Pls mrOf Ord)
set_option linter.unusedVariables false
set_option linter.unusedSimpArgs false

theorem State_l (M : Nat) (O : Nat → Prop) (w : World) (m D : Nat) (s : Sto) (hm : m ≤ 1000000) (h : Hid (Lv M O w m D s)) : Calls Tryz.prog 17 #[.pointer (some ⟨D, 0, none⟩)] w fun e w' => ∃ n, n ≤ m ∧ StT s n w e w' := by
  obtain ⟨hb, sd, sb, m', v, hm', h1, h2⟩ := h.out
  exact (State_any (by omega) h1).mono fun e w' q => ⟨_, hm', q⟩
theorem Bytes_l (M : Nat) (O : Nat → Prop) (w : World) (m D : Nat) (s : Sto) (h : Hid (Lv M O w m D s)) : Calls Tryz.prog 40 #[.pointer (some ⟨D, 0, none⟩)] w fun e w' => e = .returned (.int .i64 (bytesOf s.held)) ∧ w = w' := by
  obtain ⟨hb, sd, sb, m', v, hm', h1, h2⟩ := h.out
  have q := h1.box.byt
  clear h
  go_enter Tryz.func40, Tryz.ntmps40
  go_wp2
  go_ret
  exact ⟨rfl, rfl⟩
theorem state_cells {W : World} {D : Nat} {a b : Int} {x y z : Value} (h : W.heap[D]? = some (.cells #[.int .i64 a, .int .i64 b, x, y, z] 59 (0, 0))) : W.cell? ⟨D, 0, none⟩ = some (.int .i64 a) ∧ W.cell? ⟨D, 1, none⟩ = some (.int .i64 b) ∧ W.cell? ⟨D, 2, none⟩ = some x ∧ W.cell? ⟨D, 3, none⟩ = some y ∧ W.cell? ⟨D, 4, none⟩ = some z := by
  refine ⟨?_, ?_, ?_, ?_, ?_⟩
  all_goals
    rw [cell_of_row _ D _ _ _ (0, 0) h]
    rfl
section
variable (me qh qb qg : Int) (w : World)
end
end Go.Proofs.YtfnlhfelpdkieaaGreat.So
/- From's helpers: sizeOf, nextIsRight. -/
namespace Go.Proofs.YtfnlhfelpdkieaaGreat.So
open Go.RowKit
open Go.Proofs.YtfnlhfelpdkieaaGreat.Me Go.Proofs.YtfnlhfelpdkieaaGreat.Sb
set_option linter.unusedVariables false
set_option linter.unusedSimpArgs false

theorem bytesOf_le {H : List It} (h : ∀ x ∈ H, x.p.length ≤ 48) : bytesOf H ≤ 48 * (H.length : Int) := by
  induction H with
  | nil => simp [bytesOf]
  | cons x r ih =>
    have h1 := h x (by simp)
    have h2 := ih fun y hy => h y (List.mem_cons_of_mem _ hy)
    simp only [bytesOf, List.length_cons]
    omega
set_option maxRecDepth 100000 in
set_option maxHeartbeats 4000000 in
theorem sizeOf_any (A : Option Addr) (c : Nat) (H : List It) (w : World) (hr : Hid (Mq w A H)) (h48 : Hid (∀ x ∈ H, x.p.length ≤ 48)) (hN : H.length ≤ 256) : Calls Tryz.prog 55 #[.slice A H.length c] w fun e w' => e = .returned (.int .i64 (bytesOf H)) ∧ Hid (Below w.heap.size w w') := by
  have HLe : Hid (∀ j, bytesOf (H.take j) ≤ 20000 ∧ 0 ≤ bytesOf (H.take j)) := fun j => by
    have h1 := bytesOf_le (H := H.take j) fun x hx => h48.out x (List.mem_of_mem_take hx)
    have h2 : (H.take j).length ≤ H.length := by rw [List.length_take]; omega
    have h3 := bytesOf_nonneg (H.take j)
    omega
  obtain ⟨L, hL⟩ : ∃ L, H.length = L := ⟨_, rfl⟩
  have HL := Lib.hid hL
  rw [hL] at hN ⊢
  clear hL
  go_enter Tryz.func55, Tryz.ntmps55
  go_wp2
  go_loopw [3, 8] (fun v3 v8 wr => ∃ i : Nat, i ≤ L ∧ v8 = .int .i64 i ∧ v3 = .int .i64 (bytesOf (H.take i)) ∧ Hid (Below w.heap.size w wr)) (fun _ k _ => L - (intOf k).toNat)
  case atStart => exact ⟨0, Nat.zero_le _, rfl, rfl, Below.refl _ _⟩
  case round =>
    obtain ⟨i, hi, rfl, rfl, HB⟩ := hrel
    by_cases hlt : i < L
    · obtain ⟨x, hx⟩ : ∃ x, H[i]? = some x := ⟨_, List.getElem?_eq_getElem (by have := HL.out; omega)⟩
      obtain ⟨g, off, R, cr, rfl, hg, ⟨c0, c1, c2, c3, c4⟩, _⟩ := hr.out i x hx
      have y0 := (HB.out.cell (p := ⟨g, off + i * 5, none⟩) hg).trans c0
      have y1 := (HB.out.cell (p := ⟨g, off + i * 5 + 1, none⟩) hg).trans c1
      have y2 := (HB.out.cell (p := ⟨g, off + i * 5 + 2, none⟩) hg).trans c2
      have y3 := (HB.out.cell (p := ⟨g, off + i * 5 + 3, none⟩) hg).trans c3
      have y4 := (HB.out.cell (p := ⟨g, off + i * 5 + 4, none⟩) hg).trans c4
      have ht : H.take (i + 1) = H.take i ++ [x] := by rw [List.take_add_one, hx]; rfl
      obtain ⟨n, hn⟩ : ∃ n, x.p.length = n := ⟨_, rfl⟩
      have hn48 : n ≤ 48 := by rw [← hn]; exact h48.out x (List.mem_of_getElem? hx)
      have HS : Hid (bytesOf (H.take (i + 1)) = bytesOf (H.take i) + (n : Int)) := by
        show _ = _
        rw [ht, bytesOf_app]
        simp [bytesOf, hn]
      rw [hn] at y4
      obtain ⟨h1, h2⟩ := HLe.out i
      obtain ⟨S, hS⟩ : ∃ S, bytesOf (H.take i) = S := ⟨_, rfl⟩
      rw [hS] at HS h1 h2 ⊢
      have g1 : (i : Int) < (L : Int) := by omega
      have g2 : ¬ ((L : Int) ≤ (i : Int)) := by omega
      have g3 : (i : Int) < 1000 := by omega
      have hbv : Below wr.heap.size wr (wr.alloc (.cells #[.int .i64 x.i.o, .int .i64 x.i.d, .int .i64 x.i.e, .int .i64 x.i.c, .slice R n cr] 46)) := Me.below_alloc (Below.refl _ _)
      have HBv := Lib.hid (go_on HB.out hbv)
      clear c0 c1 c2 c3 c4 hg ht hx hn hS hbv
      go_wp2
      go_roundw
      case rel => exact ⟨i + 1, by omega, by go_num, by rw [HS.out], HBv⟩
      case measure => simp [intOf]; omega
    · obtain rfl : i = L := by omega
      have hall : H.take i = H := List.take_of_length_le (by have := HL.out; omega)
      have g1 : ¬ (i : Int) < (i : Int) := by omega
      rw [hall]
      clear hall
      go_wp2
      go_ret
      exact ⟨rfl, HB⟩
/-- A state's value. -/
theorem nxB_step {me l : Int} {N : Ns} {j : Nat} {p : Int × Int} (h : N[j]? = some p) : nxB me l (N.drop j) = if p.1 < 0 ∨ 64 ≤ p.1 ∨ p.1 < l ∨ p.1 = me ∨ p.2 < 1 ∨ 65535 < p.2 then false else nxB me (p.1 + 1) (N.drop (j + 1)) := by
  have hj := (List.getElem?_eq_some_iff.1 h).1
  have e : N[j] = p := (List.getElem?_eq_some_iff.1 h).2
  rw [List.drop_eq_getElem_cons hj, e]
  rfl
def nxOk (me ep : Int) (N : Ns) : Bool := nxB me 0 N && decide (0 < ep ∨ N = [])
set_option maxRecDepth 100000 in
set_option maxHeartbeats 8000000 in
theorem nextIsRight_any (me ep : Int) (A : Option Addr) (c : Nat) (N : Ns) (vH vM : Value) (w : World) (hr : Hid (Nq w A N)) (hN : N.length ≤ 100000000000000) : Calls Tryz.prog 81 #[.agg #[.int .i64 me, .int .i64 ep, .slice A N.length c, vH, vM]] w fun e w' => e = .returned (.bool (nxOk me ep N)) ∧ Hid (Below w.heap.size w w') := by
  have HI := Lib.hid (fun n W => isNode_any n W)
  have hB : Below w.heap.size w (w.alloc (.cells #[.int .i64 me, .int .i64 ep, .slice A N.length c, vH, vM] 59)) := Me.below_alloc (Below.refl _ _)
  have hX : (w.alloc (.cells #[.int .i64 me, .int .i64 ep, .slice A N.length c, vH, vM] 59)).heap[w.heap.size]? = some (.cells #[.int .i64 me, .int .i64 ep, .slice A N.length c, vH, vM] 59 (0, 0)) := heap_alloc_new w _
  obtain ⟨r, hrr⟩ : ∃ r, nxOk me ep N = r := ⟨_, rfl⟩
  have HR : Hid (nxOk me ep N = r) := hrr
  obtain ⟨L, hL⟩ : ∃ L, N.length = L := ⟨_, rfl⟩
  have HL := Lib.hid hL
  rw [hrr]
  rw [hL] at hN hB hX ⊢
  have HB := Lib.hid hB
  have HX := Lib.hid hX
  obtain ⟨x0, x1, x2, x3, x4⟩ := state_cells hX
  clear hL hB hX hrr
  go_enter Tryz.func81, Tryz.ntmps81
  go_wp2
  go_loopw [3, 9] (fun v3 v9 wr => ∃ (i : Nat) (l : Int), i ≤ L ∧ v9 = .int .i64 i ∧ v3 = .int .i64 l ∧ 0 ≤ l ∧ l ≤ 64 ∧ Hid (nxB me 0 N = nxB me l (N.drop i)) ∧ Hid (wr.heap[w.heap.size]? = some (.cells #[.int .i64 me, .int .i64 ep, .slice A L c, vH, vM] 59 (0, 0))) ∧ Hid (Below w.heap.size w wr)) (fun _ k _ => L - (intOf k).toNat)
  case atStart => exact ⟨0, 0, Nat.zero_le _, rfl, rfl, by omega, by omega, rfl, HX, HB⟩
  case round =>
    clear x0 x1 x2 x3 x4
    obtain ⟨i, l, hi, rfl, rfl, hl0, hl1, HN, HXr, HBr⟩ := hrel
    by_cases hlt : i < L
    · obtain ⟨p, hp⟩ : ∃ p, N[i]? = some p := ⟨_, List.getElem?_eq_getElem (by have := HL.out; omega)⟩
      obtain ⟨g, off, rfl, hg, c0, c1⟩ := hr.out i p hp
      have y0 := (HBr.out.cell (p := ⟨g, off + i * 2, none⟩) hg).trans c0
      have y1 := (HBr.out.cell (p := ⟨g, off + i * 2 + 1, none⟩) hg).trans c1
      have hst := nxB_step (me := me) (l := l) hp
      obtain ⟨d, cc⟩ := p
      simp only at y0 y1 hst
      have g1 : (i : Int) < (L : Int) := by omega
      have g2 : ¬ ((L : Int) ≤ (i : Int)) := by omega
      have g3 : (i : Int) ≤ 9223372036854775806 := by omega
      obtain ⟨V, hV⟩ : ∃ V, wr.alloc (.cells #[.int .i64 d, .int .i64 cc] 62) = V := ⟨_, rfl⟩
      have hbv : Below wr.heap.size wr V := by rw [← hV]; exact Me.below_alloc (Below.refl _ _)
      have hxv : V.heap[wr.heap.size]? = some (.cells #[.int .i64 d, .int .i64 cc] 62 (0, 0)) := by rw [← hV]; exact heap_alloc_new wr _
      have hxs := (hbv.block _ (Array.getElem?_eq_some_iff.1 HXr.out).1).trans HXr.out
      have z0 := cell_of_row V wr.heap.size 0 _ _ (0, 0) hxv
      have z1 := cell_of_row V wr.heap.size 1 _ _ (0, 0) hxv
      simp at z0 z1
      obtain ⟨x0, x1, x2, x3, x4⟩ := state_cells hxs
      have HXs := Lib.hid hxs
      have HBV := Lib.hid (go_on HBr.out hbv)
      have HV := Lib.hid hV
      have HId := Lib.hid (fun W => HI.out d W)
      by_cases hbad : d < 0 ∨ 64 ≤ d ∨ d < l ∨ d = me ∨ cc < 1 ∨ 65535 < cc
      · rw [if_pos hbad] at hst
        have HF : Hid (r = false) := by
          show _ = _
          rw [← HR.out]
          unfold nxOk
          rw [HN.out, hst]; rfl
        have hcase : Mg.nodeB d = false ∨ (Mg.nodeB d = true ∧ (d < l ∨ (¬ d < l ∧ ((d == me) = true ∨ ((d == me) = false ∧ (cc < 1 ∨ (¬ cc < 1 ∧ 65535 < cc))))))) := by
          by_cases n1 : Mg.nodeB d = true
          · right
            refine ⟨n1, ?_⟩
            have hn := Mg.nodeB_iff.1 n1
            by_cases n2 : d < l
            · exact .inl n2
            · right
              refine ⟨n2, ?_⟩
              by_cases n3 : d = me
              · left; simpa using n3
              · right
                refine ⟨by simpa using n3, ?_⟩
                by_cases n4 : cc < 1
                · exact .inl n4
                · refine .inr ⟨n4, ?_⟩
                  rcases hbad with h | h | h | h | h | h
                  · omega
                  · omega
                  · exact absurd h n2
                  · exact absurd h n3
                  · exact absurd h n4
                  · exact h
          · left; simpa using n1
        clear hst hbad c0 c1 hp hg hV hbv hxv hxs HN HR HXr HI
        rcases hcase with n1 | ⟨n1, n2 | ⟨n2, n3 | ⟨n3, n4 | ⟨n4, n5⟩⟩⟩⟩
        all_goals
          rw [n1] at HId
          clear n1
          go_wp2_with (first
            | (rw [HV.out])
            | (go_at_call 23; refine (HId.out _).mono ?_; rintro e w2 ⟨rfl, rfl⟩))
          go_ret
          exact ⟨by rw [HF.out]; rfl, HBV⟩
      · rw [if_neg hbad] at hst
        have HN2 : Hid (nxB me 0 N = nxB me (d + 1) (N.drop (i + 1))) := HN.out.trans hst
        have n1 : Mg.nodeB d = true := Mg.nodeB_iff.2 (by omega)
        have n2 : ¬ d < l := by omega
        have n3 : (d == me) = false := by simpa using fun e : d = me => hbad (.inr (.inr (.inr (.inl e))))
        have n4 : ¬ cc < 1 := by omega
        have n5 : ¬ 65535 < cc := by omega
        have n6 : d ≤ 63 := by omega
        have n7 : 0 ≤ d := by omega
        rw [n1] at HId
        clear hst hbad c0 c1 hp hg hV hbv hxv hxs HN HR HXr HI n1
        go_wp2_with (first
          | (rw [HV.out])
          | (go_at_call 23; refine (HId.out _).mono ?_; rintro e w2 ⟨rfl, rfl⟩))
        go_roundw
        case rel => exact ⟨i + 1, d + 1, by omega, by go_num, by go_num, by omega, by omega, HN2, HXs, HBV⟩
        case measure => simp [intOf]; omega
    · obtain rfl : i = L := by omega
      have g1 : ¬ (i : Int) < (i : Int) := by omega
      have hnil : N.drop i = [] := List.drop_eq_nil_of_le (by have := HL.out; omega)
      rw [hnil] at HN
      have hr2 : r = decide (0 < ep ∨ N = []) := by
        rw [← HR.out]
        unfold nxOk
        rw [HN.out]
        rfl
      obtain ⟨x0, x1, x2, x3, x4⟩ := state_cells HXr.out
      clear HR HXr HN hnil HI
      by_cases h1 : 0 < ep
      · have HF : Hid (r = true) := by show _ = _; rw [hr2]; exact decide_eq_true (.inl h1)
        clear hr2
        go_wp2
        go_ret
        exact ⟨by rw [HF.out]; rfl, HBr⟩
      · by_cases h2 : i = 0
        · subst h2
          have hN0 : N = [] := List.eq_nil_of_length_eq_zero HL.out
          have HF : Hid (r = true) := by show _ = _; rw [hr2]; exact decide_eq_true (.inr hN0)
          clear hr2 hN0
          go_wp2
          go_ret
          exact ⟨by rw [HF.out]; rfl, HBr⟩
        · have h3 : ((i : Int) == 0) = false := by simpa using fun e : (i : Int) = 0 => h2 (by omega)
          have HF : Hid (r = false) := by
            show _ = _
            rw [hr2]
            refine decide_eq_false fun h => h.elim h1 fun e => h2 ?_
            rw [e] at HL
            exact HL.out.symm
          clear hr2 h2
          go_wp2
          go_ret
          exact ⟨by rw [HF.out]; rfl, HBr⟩
end Go.Proofs.YtfnlhfelpdkieaaGreat.So
