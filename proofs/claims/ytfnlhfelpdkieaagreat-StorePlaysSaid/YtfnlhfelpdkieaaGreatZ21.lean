/- The messages that are held, told: Held. -/
import Derived.Test.YtfnlhfelpdkieaaGreatZ5
import Derived.Test.YtfnlhfelpdkieaaGreatZ16
import Derived.Test.YtfnlhfelpdkieaaGreatZ19
import Derived.Test.YtfnlhfelpdkieaaGreatZ20
namespace Go.Proofs.YtfnlhfelpdkieaaGreat.So
open Go.RowKit
open Go.Proofs.YtfnlhfelpdkieaaGreat.Me Go.Proofs.YtfnlhfelpdkieaaGreat.Sb
set_option linter.unusedVariables false
set_option linter.unusedSimpArgs false

theorem takeH_snoc {α : Type} {L : List α} {j : Nat} {p : α} (h : L[j]? = some p) : L.take (j + 1) = L.take j ++ [p] := by
  rw [List.take_add_one, h]; rfl
theorem own_ne_tyH {w : World} {B T T' s n x : Nat} {v : Value} {xs : List Value} {cs : Array Value} {fr : Nat × Nat} (h : w.ownsRow B T s v n xs) (hx : w.heap[x]? = some (.cells cs T' fr)) (hT : T ≠ T') : some x ≠ v.ownBlock := by
  rcases h.2 with ⟨rfl, _⟩ | ⟨g, cap, cur, rfl, _, h3, _⟩
  · simp [Value.ownBlock]
  · intro e
    obtain rfl : x = g := by simpa [Value.ownBlock] using e
    rw [h3] at hx
    simp at hx
    exact hT hx.2.1
section
variable {E : Nat → Prop} {D hb sd sb m : Nat} {v : Value} {s : Sto} {w : World}
set_option maxRecDepth 100000 in
set_option maxHeartbeats 16000000 in
theorem Held_any (hS : Hid (Sq E w D hb sd sb m v s)) : Calls Tryz.prog 16 #[.pointer (some ⟨D, 0, none⟩)] w fun e w' => ∃ vh P, e = .returned vh ∧ Hid (Ow w' w.heap.size vh P) ∧ Hid (P.map Pq.x = s.held) ∧ Hid (Below w.heap.size w w') := by
  obtain ⟨A, c, rfl, hc1, hc2, hnil, hids, hoff⟩ := hS.out.ord.form2
  have q70 := hS.out.box.ord
  have hlen : s.held.length ≤ 256 := by
    have h1 := hS.out.ok.len
    have h2 := hS.out.ok.h1
    omega
  rw [List.length_map] at q70 hc1
  have HD : Hid (∀ W, Below w.heap.size w W → W.cell? ⟨D, 69, none⟩ = some (.map (some hb))) := fun W hW => (hS.out.box.below hW).map
  have HIx : Hid (∀ j, j < s.held.length → ∃ g, A = some ⟨g, 0, none⟩ ∧ ∀ W, Below w.heap.size w W → W.cell? ⟨g, j * 4, none⟩ = some (.int .i64 (idAt (s.held.map It.i) j).o) ∧ W.cell? ⟨g, j * 4 + 1, none⟩ = some (.int .i64 (idAt (s.held.map It.i) j).d) ∧ W.cell? ⟨g, j * 4 + 2, none⟩ = some (.int .i64 (idAt (s.held.map It.i) j).e) ∧ W.cell? ⟨g, j * 4 + 3, none⟩ = some (.int .i64 (idAt (s.held.map It.i) j).c)) := fun k hk => by
    obtain ⟨b', off', e1, e2, q0, q1, q2, q3⟩ := hids k (by rw [List.length_map]; exact hk)
    obtain ⟨rfl, _⟩ := hoff b' off' e1
    rw [Nat.zero_add] at q0 q1 q2 q3
    exact ⟨b', e1, fun W hW => ⟨(hW.cell e2).trans q0, (hW.cell e2).trans q1, (hW.cell e2).trans q2, (hW.cell e2).trans q3⟩⟩
  have HEl : Hid (∀ x ∈ s.held, ∃ Ax cx, (∀ W, Below w.heap.size w W → (Instr.lookup 74 (.map (some hb)) (.agg (Mg.idC x.i)) false).run Tryz.prog W = .ok (.slice Ax x.p.length cx) W) ∧ Rd w w.heap.size Ax x.p ∧ (Ax = none → x.p.length = 0 ∧ cx = 0) ∧ x.p.length ≤ 48) := fun x hx => by
    have hf : findH s.held x.i = some x.p := findH_of_mem hS.out.ok.nod hx
    obtain ⟨hg, _, hpb⟩ := find_len hS.out.ok hf
    have hr := (msgN_zero hg)
    obtain ⟨y, hel, _, hl2⟩ := hS.out.map.yes (fit_right hr.1) hf
    obtain ⟨Ax, cx, rfl, hox, _⟩ := hel
    obtain ⟨r1, r2⟩ := (show Rd w w.heap.size Ax x.p ∧ (Ax = none → x.p.length = 0 ∧ cx = 0) from by
      obtain ⟨A', c', e, h1, h2, h3⟩ := hox.held hpb
      simp only [Value.slice.injEq] at e
      obtain ⟨rfl, _, rfl⟩ := e
      exact ⟨h3.rd, h3.2.2⟩)
    exact ⟨Ax, cx, fun W hW => hl2 W (hW.block hb hS.out.map.lt), r1, r2, hr.2.2⟩
  obtain ⟨H, hH⟩ : ∃ H, s.held = H := ⟨_, rfl⟩
  rw [hH] at HIx HEl hlen q70 hc1 ⊢
  obtain ⟨N, hN⟩ : ∃ N, H.length = N := ⟨_, rfl⟩
  rw [hN] at HIx hlen q70 hc1
  have HN := Lib.hid hN
  clear hids hoff hnil hH hN hS
  go_enter Tryz.func16, Tryz.ntmps16
  go_wp2
  go_loopw [3, 13] (fun v3 v13 wr => ∃ (j : Nat) (P : List Pq), j ≤ N ∧ v13 = .int .i64 (j : Int) ∧ Hid (Ow wr w.heap.size v3 P) ∧ Hid (P.map Pq.x = H.take j) ∧ Hid (P.length = j) ∧ Hid (Below w.heap.size w wr)) (fun _ v13 _ => N - (intOf v13).toNat)
  case atStart => exact ⟨0, [], by omega, rfl, Ow.nil _ _, (by show _ = _; simp), rfl, Below.refl _ _⟩
  case round =>
    obtain ⟨j, P, hj, rfl, HM, HP, HL, HBr⟩ := hrel
    by_cases hlt : j < N
    · obtain ⟨x, hx⟩ : ∃ x, H[j]? = some x := ⟨_, List.getElem?_eq_getElem (by have := HN.out; omega)⟩
      obtain ⟨g, rfl, hcl⟩ := HIx.out j hlt
      obtain ⟨Ax, cx, hlk, hrd, hAx, hp48⟩ := HEl.out x (List.mem_of_getElem? hx)
      have hid : idAt (H.map It.i) j = x.i := by unfold idAt; rw [List.getD_eq_getElem?_getD, List.getElem?_map, hx]; rfl
      have hc0 := hcl wr HBr.out
      rw [hid] at hc0
      have HTK := Lib.hid (takeH_snoc hx)
      obtain ⟨⟨o, d, ee, cc⟩, p⟩ := x
      simp only [Mg.idC] at hlk hc0 hrd hAx hp48
      obtain ⟨x0, x1, x2, x3⟩ := hc0
      have HCl : Hid (∀ W, Below w.heap.size w W → Calls Tryz.prog 43 #[.slice Ax p.length cx] W fun e w' => ∃ y, e = .returned y ∧ Hid (Me.Own w' W.heap.size y p) ∧ Hid (Below W.heap.size W w')) := fun W hW => Hd.BClone_any Ax cx w.heap.size p W (hrd.below hW) hAx hW.size (by omega)
      have HLk := Lib.hid hlk
      obtain ⟨pn, hpn⟩ : ∃ n, p.length = n := ⟨_, rfl⟩
      have HPn := Lib.hid hpn
      rw [hpn] at HCl HLk
      have hP1 : P.length ≤ 100000 := by have := HL.out; omega
      have HP1 := Lib.hid hP1
      have hX1 : Below wr.heap.size wr (wr.alloc (.cells #[.int .i64 o, .int .i64 d, .int .i64 ee, .int .i64 cc] 43)) := Me.below_alloc (Below.refl _ _)
      have hXp : (wr.alloc (.cells #[.int .i64 o, .int .i64 d, .int .i64 ee, .int .i64 cc] 43)).heap[wr.heap.size]? = some (.cells #[.int .i64 o, .int .i64 d, .int .i64 ee, .int .i64 cc] 43 (0, 0)) := heap_alloc_new wr _
      have HX1 := Lib.hid (go_on HBr.out hX1)
      have HXp := Lib.hid hXp
      have HM1 := Lib.hid (HM.out.below hX1)
      have hjn : (j : Int) < (N : Int) := by omega
      clear hx hlk hrd hAx hp48 hpn hX1 hXp hP1 hcl hid
      go_wp2
      obtain ⟨xp, hxp⟩ : ∃ xp, wr.heap.size = xp := ⟨_, rfl⟩
      obtain ⟨V9, hV9⟩ : ∃ V, wr.alloc (.cells #[.int .i64 o, .int .i64 d, .int .i64 ee, .int .i64 cc] 43) = V := ⟨_, rfl⟩
      rw [hV9, hxp]
      rw [hV9] at HX1 HM1 HXp
      rw [hxp] at HXp
      clear hV9 hxp x0 x1 x2 x3
      have S2 : Below w.heap.size w V9.drew ∧ V9.drew.heap[xp]? = some (.cells #[.int .i64 o, .int .i64 d, .int .i64 ee, .int .i64 cc] 43 (0, 0)) := ⟨HX1.out.drew, HXp.out⟩
      refine wp_region_held_drew (S := fun W => Below w.heap.size w W ∧ W.heap[xp]? = some (.cells #[.int .i64 o, .int .i64 d, .int .i64 ee, .int .i64 cc] 43 (0, 0))) (by kernel_rfl) S2 (fun hHeld => ?_)
      refine wpAnyH_take (i := 0) (v := u3) rfl (by kernel_rfl) (by kernel_rfl) (by kernel_rfl) (fun _ _ _ h => h) (Or.inl ⟨by rfl, ?_⟩) (by first | assumption | exact trivial) ?_
      · intro W hSW; go_simp; try (with_reducible rfl)
      simp only [Act.put, List.getElem_toArray, List.getElem_cons_succ, List.getElem_cons_zero, List.setIfInBounds_toArray, List.set_cons_zero, List.set_cons_succ]
      refine wpAnyH_take (i := 1) (v := .agg #[.int .i64 o, .int .i64 d, .int .i64 ee, .int .i64 cc]) rfl (by kernel_rfl) (by kernel_rfl) (by kernel_rfl) (fun _ _ _ h => h) (Or.inl ⟨by rfl, ?_⟩) (by first | assumption | exact trivial) ?_
      · intro W hSW; obtain ⟨y0, y1, y2, y3⟩ := id_cells hSW.2; go_simp; try (with_reducible rfl)
      simp only [Act.put, List.getElem_toArray, List.getElem_cons_succ, List.getElem_cons_zero, List.setIfInBounds_toArray, List.set_cons_zero, List.set_cons_succ]
      refine wpAnyH_take (i := 2) (v := .pointer (some ⟨D, 0, none⟩)) rfl (by kernel_rfl) (by kernel_rfl) (by kernel_rfl) (fun _ _ _ h => h) (Or.inl ⟨by rfl, ?_⟩) (by first | assumption | exact trivial) ?_
      · intro W hSW; go_simp; try (with_reducible rfl)
      simp only [Act.put, List.getElem_toArray, List.getElem_cons_succ, List.getElem_cons_zero, List.setIfInBounds_toArray, List.set_cons_zero, List.set_cons_succ]
      refine wpAnyH_take (i := 3) (v := .pointer (some ⟨D, 0, none⟩)) rfl (by kernel_rfl) (by kernel_rfl) (by kernel_rfl) (fun _ _ _ h => h) (Or.inl ⟨by rfl, ?_⟩) (by first | assumption | exact trivial) ?_
      · intro W hSW; go_simp; try (with_reducible rfl)
      simp only [Act.put, List.getElem_toArray, List.getElem_cons_succ, List.getElem_cons_zero, List.setIfInBounds_toArray, List.set_cons_zero, List.set_cons_succ]
      refine wpAnyH_take (i := 4) (v := .pointer (some ⟨D, 69, none⟩)) rfl (by kernel_rfl) (by kernel_rfl) (by kernel_rfl) (fun _ _ _ h => h) (Or.inl ⟨by rfl, ?_⟩) (by first | assumption | exact trivial) ?_
      · intro W hSW; go_simp; try (with_reducible rfl)
      simp only [Act.put, List.getElem_toArray, List.getElem_cons_succ, List.getElem_cons_zero, List.setIfInBounds_toArray, List.set_cons_zero, List.set_cons_succ]
      refine wpAnyH_take (i := 5) (v := .map (some hb)) rfl (by kernel_rfl) (by kernel_rfl) (by kernel_rfl) (fun _ _ _ h => h) (Or.inl ⟨by rfl, ?_⟩) (by first | assumption | exact trivial) ?_
      · intro W hSW; have q := HD.out W hSW.1; go_simp; try (with_reducible rfl)
      simp only [Act.put, List.getElem_toArray, List.getElem_cons_succ, List.getElem_cons_zero, List.setIfInBounds_toArray, List.set_cons_zero, List.set_cons_succ]
      refine wpAnyH_take (i := 6) (v := .agg #[.int .i64 o, .int .i64 d, .int .i64 ee, .int .i64 cc]) rfl (by kernel_rfl) (by kernel_rfl) (by kernel_rfl) (fun _ _ _ h => h) (Or.inl ⟨by rfl, ?_⟩) (by first | assumption | exact trivial) ?_
      · intro W hSW; obtain ⟨y0, y1, y2, y3⟩ := id_cells hSW.2; go_simp; try (with_reducible rfl)
      simp only [Act.put, List.getElem_toArray, List.getElem_cons_succ, List.getElem_cons_zero, List.setIfInBounds_toArray, List.set_cons_zero, List.set_cons_succ]
      refine wpAnyH_take (i := 7) (v := .slice Ax pn cx) rfl (by kernel_rfl) (by kernel_rfl) (by kernel_rfl) (fun _ _ _ h => h) (Or.inl ⟨by rfl, ?_⟩) (by first | assumption | exact trivial) ?_
      · intro W hSW; have q := HLk.out W hSW.1; go_simp; try (with_reducible rfl)
      simp only [Act.put, List.getElem_toArray, List.getElem_cons_succ, List.getElem_cons_zero, List.setIfInBounds_toArray, List.set_cons_zero, List.set_cons_succ]
      refine wpAnyH_ready (rs := [8]) (by kernel_rfl) (by simp) ?_
      refine AllReadyH.cons rfl (fun K hK => ?_) AllReadyH.nil
      go_simp
      have hMd := HM1.out.below (Below.refl V9.heap.size V9).drew
      go_wp2_with (go_at_call 43; refine (HCl.out _ S2.1).mono ?_; rintro e' w3 ⟨vc, rfl, ho3, hb3⟩)
      have hform : ∃ Ac cc', vc = .slice Ac pn cc' := by
        rw [← HPn.out]
        rcases ho3.out.2 with ⟨h1, h2⟩ | ⟨g', cap, cur, h1, _⟩
        · have : p = [] := by simpa using h2
          subst this
          exact ⟨none, 0, h1⟩
        · exact ⟨_, cap, h1⟩
      obtain ⟨Ac, c3, rfl⟩ := hform
      have hM3 := hMd.below hb3.out
      have S3 : Below w.heap.size w w3 ∧ w3.heap[xp]? = some (.cells #[.int .i64 o, .int .i64 d, .int .i64 ee, .int .i64 cc] 43 (0, 0)) :=
        ⟨S2.1.trans (hb3.out.mono S2.1.size), (hb3.out.block _ (Array.getElem?_eq_some_iff.1 S2.2).1).trans S2.2⟩
      have ho3' : Me.Own w3 w.heap.size (.slice Ac pn c3) p := own_base ho3.out fun k hk => Nat.le_trans S2.1.size (World.ownsRow.lt ho3.out k hk).1
      refine hK.out _ _ (S3) (fun hHeld => ?_)
      clear hK K
      refine wpAnyH_take (i := 9) (v := .agg #[.int .i64 o, .int .i64 d, .int .i64 ee, .int .i64 cc, .slice Ac pn c3]) rfl (by kernel_rfl) (by kernel_rfl) (by kernel_rfl) (fun _ _ _ h => h) (Or.inl ⟨by rfl, ?_⟩) (by first | assumption | exact trivial) ?_
      · intro W hSW; go_simp; try (with_reducible rfl)
      simp only [Act.put, List.getElem_toArray, List.getElem_cons_succ, List.getElem_cons_zero, List.setIfInBounds_toArray, List.set_cons_zero, List.set_cons_succ]
      refine wpAnyH_ready (rs := [10]) (by kernel_rfl) (by simp) ?_
      refine AllReadyH.cons rfl (fun K hK => ?_) AllReadyH.nil
      go_simp
      obtain ⟨W9, hW9⟩ : ∃ V, w3.alloc (.cells #[.int .i64 o, .int .i64 d, .int .i64 ee, .int .i64 cc, .slice Ac pn c3] 46) = V := ⟨_, rfl⟩
      have hb9 : Below w3.heap.size w3 W9 := by rw [← hW9]; exact Me.below_alloc (Below.refl _ _)
      have hz9 : W9.heap[w3.heap.size]? = some (.cells #[.int .i64 o, .int .i64 d, .int .i64 ee, .int .i64 cc, .slice Ac pn c3] 46 (0, 0)) := by rw [← hW9]; exact heap_alloc_new w3 _
      rw [hW9]
      clear hW9
      have hM9 := hM3.below hb9
      have ho9 : Me.Own W9 w.heap.size (.slice Ac pn c3) p := own_same ho3' fun k _ hk => hb9.block k hk
      have S9 : Below w.heap.size w W9 ∧ W9.heap[xp]? = some (.cells #[.int .i64 o, .int .i64 d, .int .i64 ee, .int .i64 cc] 43 (0, 0)) :=
        ⟨S3.1.trans (hb9.mono S3.1.size), (hb9.block _ (Array.getElem?_eq_some_iff.1 S3.2).1).trans S3.2⟩
      refine hK.out _ _ (S9) (fun hHeld => ?_)
      clear hK K
      refine wpAnyH_ready (rs := [11]) (by kernel_rfl) (by simp) ?_
      refine AllReadyH.cons rfl (fun K hK => ?_) AllReadyH.nil
      rw [if_pos (by kernel_rfl)]
      refine appMsg (.tmp 17) (.tmp 27) rfl w.heap.size u3 P ⟨⟨⟨o, d, ee, cc⟩, p⟩, Ac, c3⟩ w3.heap.size rfl hM9 (by show Me.Own W9 _ (.slice Ac p.length c3) p; rw [HPn.out]; exact ho9) rfl (fun j' u' hj' => ?_) HP1.out S9.1.size ?_
      · rw [cell_of_row W9 w3.heap.size j' _ _ (0, 0) hz9]
        have e9 : qV ⟨⟨⟨o, d, ee, cc⟩, p⟩, Ac, c3⟩ = [.int .i64 o, .int .i64 d, .int .i64 ee, .int .i64 cc, .slice Ac pn c3] := by simp only [qV, Pq.v, HPn.out]
        rw [e9] at hj'
        simpa using hj'
      intro v7 W7 hM7 hg7 hk7
      simp only [Act.put, List.getElem_toArray, List.getElem_cons_succ, List.getElem_cons_zero, List.setIfInBounds_toArray, List.set_cons_zero, List.set_cons_succ]
      have S7 : Below w.heap.size w W7 ∧ W7.heap[xp]? = some (.cells #[.int .i64 o, .int .i64 d, .int .i64 ee, .int .i64 cc] 43 (0, 0)) :=
        ⟨S9.1.grown hg7 S9.1.size hk7, (hg7.block _ (Array.getElem?_eq_some_iff.1 S9.2).1 (own_ne_tyH hM9.own S9.2 (by decide))).trans S9.2⟩
      refine hK.out _ _ (S7) (fun hHeld => ?_)
      clear hK K
      refine wpAnyH_take (i := 12) (v := v7) rfl (by kernel_rfl) (by kernel_rfl) (by kernel_rfl) (fun _ _ _ h => h) (Or.inl ⟨by rfl, ?_⟩) (by first | assumption | exact trivial) ?_
      · intro W hSW; go_simp; try (with_reducible rfl)
      simp only [Act.put, List.getElem_toArray, List.getElem_cons_succ, List.getElem_cons_zero, List.setIfInBounds_toArray, List.set_cons_zero, List.set_cons_succ]
      refine wpAnyH_done (by kernel_rfl) ?_ _
      have HM7 := Lib.hid hM7
      have HB7 : Hid (Below w.heap.size w W7) := S7.1
      have HPx : Hid ((P ++ [(⟨⟨⟨o, d, ee, cc⟩, p⟩, Ac, c3⟩ : Pq)]).map Pq.x = H.take (j + 1)) := by show _ = _; rw [List.map_append, HP.out, HTK.out]; rfl
      clear hHeld S2 S3 S7 S9 hM7 hg7 hk7 hM9 hM3 hMd ho9 ho3' ho3 hb3 hb9 hz9
      go_wp2
      go_roundw
      case rel => exact ⟨j + 1, _, by omega, by go_num, HM7, HPx, (by show (P ++ [_]).length = _; rw [List.length_append, HL.out]; rfl), HB7⟩
      case measure => simp [intOf]; omega
    · obtain rfl : j = N := by omega
      have HF : Hid (P.map Pq.x = H) := by show _ = _; rw [HP.out, ← HN.out, List.take_length]
      have g1 : ¬ (j : Int) < (j : Int) := by omega
      go_wp2
      go_ret
      exact ⟨_, rfl, P, HM, HF, HBr⟩
end
end Go.Proofs.YtfnlhfelpdkieaaGreat.So
/- The document's list of messages: Bytes, without. -/
namespace Go.Proofs.YtfnlhfelpdkieaaGreat.So
open Go.RowKit Go.Deep
open Go.Proofs.YtfnlhfelpdkieaaGreat.Me Go.Proofs.YtfnlhfelpdkieaaGreat.Sb
set_option linter.unusedVariables false
set_option linter.unusedSimpArgs false

set_option maxRecDepth 100000 in
set_option maxHeartbeats 16000000 in
theorem RBytes_any (Q : Nat → Prop) (a b c d e r : Int) (vU vK v : Value) (P : List Pq) (w : World) (hv : Hid (Rl Q w 0 v P)) (hL : P.length ≤ 1000) (hb : bytesOf (P.map Pq.x) ≤ 1048576) : Calls Tryz.prog 41 #[.agg (rsc a b c d e vU v r vK)] w fun e w' => e = .returned (.int .i64 (bytesOf (P.map Pq.x))) ∧ Hid (Below w.heap.size w w') := by
  obtain ⟨A, cc, rfl, _, _, _⟩ := hv.out.form
  have HA := Lib.hid (rl_cells hv.out)
  unfold rsc
  have HX : Hid ((w.alloc (.cells #[.int .i64 a, .int .i64 b, .int .i64 c, .int .i64 d, .int .i64 e, vU, .slice A P.length cc, .int .i64 r, vK] 37)).heap[w.heap.size]? = some (.cells #[.int .i64 a, .int .i64 b, .int .i64 c, .int .i64 d, .int .i64 e, vU, .slice A P.length cc, .int .i64 r, vK] 37 (0, 0))) := heap_alloc_new w _
  have HB : Hid (Below w.heap.size w (w.alloc (.cells #[.int .i64 a, .int .i64 b, .int .i64 c, .int .i64 d, .int .i64 e, vU, .slice A P.length cc, .int .i64 r, vK] 37))) := Me.below_alloc (Below.refl _ _)
  have hs := bytes_sum P
  rw [hs]
  rw [hs] at hb
  obtain ⟨BT, hBT⟩ : ∃ x, (P.map fun q => q.x.p.length).sum = x := ⟨_, rfl⟩
  have HBN : Hid (∀ k, natS (fun q : Pq => q.x.p.length) P k ≤ BT) := fun k => by rw [← hBT]; exact natS_le _ P k
  have HBA : Hid (natS (fun q : Pq => q.x.p.length) P P.length = BT) := by show _ = _; rw [← hBT]; exact natS_all _ P
  rw [hBT] at hb ⊢
  have HB1 := Lib.hid hb
  obtain ⟨N, hN⟩ : ∃ N, P.length = N := ⟨_, rfl⟩
  rw [hN] at HA HBA hL HX HB ⊢
  obtain ⟨W0, hW0⟩ : ∃ W, w.alloc (.cells #[.int .i64 a, .int .i64 b, .int .i64 c, .int .i64 d, .int .i64 e, vU, .slice A N cc, .int .i64 r, vK] 37) = W := ⟨_, rfl⟩
  rw [hW0] at HX HB
  have HW0 := Lib.hid hW0
  clear hW0 hv hN hs hBT hb
  go_enter Tryz.func41, Tryz.ntmps41
  go_wp2
  rw [HW0.out]
  obtain ⟨y0, y1, y2, y3, y4, y5, y6, y7, y8⟩ := rs_cells HX.out
  go_loopw [3, 4] (fun v3 v4 wr => ∃ k : Nat, v4 = .int .i64 (k : Int) ∧ k ≤ N ∧ v3 = .int .i64 ((natS (fun q : Pq => q.x.p.length) P k : Nat) : Int) ∧ W0 = wr) (fun _ v4 _ => N - (intOf v4).toNat)
  case atStart => exact ⟨0, rfl, Nat.zero_le _, by rw [natS_zero]; rfl, rfl⟩
  case round =>
    obtain ⟨k, rfl, hk, rfl, rfl⟩ := hrel
    by_cases hlt : k < N
    · obtain ⟨g, q, rfl, hq, hc⟩ := HA.out k hlt
      obtain ⟨_, _, _, _, q0⟩ := hc W0 HB.out
      have hsu := natS_succ (f := fun q : Pq => q.x.p.length) hq
      have hle := HBN.out (k + 1)
      have hg256 := HB1.out
      rw [hsu] at hle
      unfold Pq.v at q0
      try simp only at hsu hle
      obtain ⟨y, hy⟩ : ∃ y, q.x.p.length = y := ⟨_, rfl⟩
      rw [hy] at q0 hsu hle
      obtain ⟨G0, hG0⟩ : ∃ y, natS (fun q : Pq => q.x.p.length) P k = y := ⟨_, rfl⟩
      rw [hG0] at hsu hle ⊢
      have HSU := Lib.hid hsu
      have g1 : (k : Int) < (N : Int) := by omega
      have g2 : (k : Int) < 1000 := by omega
      have hwr : wrap64 ((G0 : Int) + (y : Int)) = ((G0 + y : Nat) : Int) := by unfold wrap64; omega
      clear hc hq hsu hle hg256 hy hG0
      go_wp2
      go_roundw
      case rel => exact ⟨k + 1, by go_num, by omega, by rw [HSU.out, hwr], trivial⟩
      case measure => simp [intOf]; omega
    · obtain rfl : k = N := by omega
      rw [HBA.out]
      clear HA
      have g1 : ¬ (k : Int) < (k : Int) := by omega
      go_wp2
      go_ret
      exact ⟨rfl, HB.out⟩
theorem idne_b {o d e c o' d' e' c' : Int} (h : ¬ (⟨o, d, e, c⟩ : Mg.Id4) = ⟨o', d', e', c'⟩) : (o == o') = false ∨ ((o == o') = true ∧ (d == d') = false) ∨ ((o == o') = true ∧ (d == d') = true ∧ (e == e') = false) ∨ ((o == o') = true ∧ (d == d') = true ∧ (e == e') = true ∧ (c == c') = false) := by
  rcases idne_cases h with q | ⟨rfl, q⟩ | ⟨rfl, rfl, q⟩ | ⟨rfl, rfl, rfl, q⟩
  · exact .inl q
  · exact .inr (.inl ⟨by simp, q⟩)
  · exact .inr (.inr (.inl ⟨by simp, by simp, q⟩))
  · exact .inr (.inr (.inr ⟨by simp, by simp, by simp, q⟩))
theorem without_take {P : List Pq} {i : Mg.Id4} {j : Nat} {q : Pq} (h : P[j]? = some q) : (P.take (j + 1)).filter (fun z => decide (z.x.i ≠ i)) = if q.x.i = i then (P.take j).filter (fun z => decide (z.x.i ≠ i)) else (P.take j).filter (fun z => decide (z.x.i ≠ i)) ++ [q] := by
  rw [List.take_add_one, h, List.filter_append]
  by_cases e : q.x.i = i
  · rw [if_pos e]; simp [e]
  · rw [if_neg e]; simp [e]
theorem without_map (P : List Pq) (i : Mg.Id4) : (P.filter (fun z => decide (z.x.i ≠ i))).map Pq.x = without (P.map Pq.x) i := by
  unfold without
  induction P with
  | nil => rfl
  | cons x r ih =>
    simp only [List.map_cons, List.filter_cons]
    by_cases e : x.x.i = i
    · simp [e]; simpa using ih
    · simp [e]; simpa using ih
set_option maxRecDepth 100000 in
set_option maxHeartbeats 16000000 in
theorem Rwithout_any (Q : Nat → Prop) (v : Value) (P : List Pq) (i : Mg.Id4) (w : World) (hv : Hid (Rl Q w 0 v P)) (hL : P.length ≤ 1000) : Calls Tryz.prog 32 #[v, .agg (Mg.idC i)] w fun e w' => ∃ v', e = .returned v' ∧ Hid (Rl Q w' w.heap.size v' (P.filter fun z => decide (z.x.i ≠ i))) ∧ Hid (Below w.heap.size w w') := by
  obtain ⟨A, c, rfl, _, _, _⟩ := hv.out.form
  have HA := Lib.hid (rl_cells hv.out)
  have HEa : Hid (∀ j (q : Pq), P[j]? = some q → ∀ W, Below w.heap.size w W → Me.Own W 0 q.v q.x.p ∧ ∀ k, q.v.ownBlock = some k → Q k) := fun j q hq W hW => by
    obtain ⟨e1, e2⟩ := hv.out.each q (List.mem_of_getElem? hq)
    exact ⟨own_same e1 fun k _ hk => hW.block k hk, e2⟩
  have HX : Hid ((w.alloc (.cells (Mg.idC i) 43)).heap[w.heap.size]? = some (.cells (Mg.idC i) 43 (0, 0))) := heap_alloc_new w _
  have HB : Hid (Below w.heap.size w (w.alloc (.cells (Mg.idC i) 43))) := Me.below_alloc (Below.refl _ _)
  have HT : Hid (∀ j (q : Pq), P[j]? = some q → (P.take (j + 1)).filter (fun z => decide (z.x.i ≠ i)) = if q.x.i = i then (P.take j).filter (fun z => decide (z.x.i ≠ i)) else (P.take j).filter (fun z => decide (z.x.i ≠ i)) ++ [q]) := fun j q h => without_take h
  have HAll : Hid (P.take P.length = P) := List.take_length
  obtain ⟨F, hF⟩ : ∃ F : List Pq → List Pq, F = fun l => l.filter fun z => decide (z.x.i ≠ i) := ⟨_, rfl⟩
  have hFl : ∀ l, (F l).length ≤ l.length := fun l => by rw [hF]; exact List.length_filter_le _ _
  have hF0 : F [] = [] := by rw [hF]; rfl
  have HT2 : Hid (∀ j (q : Pq), P[j]? = some q → F (P.take (j + 1)) = if q.x.i = i then F (P.take j) else F (P.take j) ++ [q]) := by rw [hF]; exact HT
  have hFP : (P.filter fun z => decide (z.x.i ≠ i)) = F P := by rw [hF]
  rw [hFP]
  have HFl := Lib.hid hFl
  have HF0 := Lib.hid hF0
  obtain ⟨N, hN⟩ : ∃ N, P.length = N := ⟨_, rfl⟩
  rw [hN] at HA HAll hL ⊢
  have HN := Lib.hid hN
  obtain ⟨o, d, ee, cc⟩ := i
  simp only [Mg.idC] at HX HB ⊢
  clear hv hN HT hF hFl hF0 hFP
  obtain ⟨W0, hW0⟩ : ∃ W, w.alloc (.cells #[.int .i64 o, .int .i64 d, .int .i64 ee, .int .i64 cc] 43) = W := ⟨_, rfl⟩
  rw [hW0] at HX HB
  have HW0 := Lib.hid hW0
  clear hW0
  go_enter Tryz.func32, Tryz.ntmps32
  go_wp2
  rw [HW0.out]
  have hz0 : W0.heap.size = w.heap.size + 1 := by rw [← HW0.out, World.size_alloc]
  have hR0 : Rl Q (W0.alloc (.cells #[] 46)) w.heap.size (.slice (some ⟨w.heap.size + 1, 0, none⟩) 0 0) [] := by rw [← hz0]; exact Rl.lit HB.out.size
  have hB0 : Below W0.heap.size W0 (W0.alloc (.cells #[] 46)) := Me.below_alloc (Below.refl _ _)
  obtain ⟨W1, hW1⟩ : ∃ W, W0.alloc (.cells #[] 46) = W := ⟨_, rfl⟩
  rw [hW1] at hR0 hB0 ⊢
  have HR0 := Lib.hid hR0
  have HB0 := Lib.hid hB0
  have HBw := Lib.hid (go_on HB.out hB0)
  have HX1 : Hid (W1.heap[w.heap.size]? = some (.cells #[.int .i64 o, .int .i64 d, .int .i64 ee, .int .i64 cc] 43 (0, 0))) := (hB0.block _ (Array.getElem?_eq_some_iff.1 HX.out).1).trans HX.out
  have HIx : Hid (∀ k, (Value.slice (some ⟨w.heap.size + 1, 0, none⟩) 0 0).ownBlock = some k → k ≠ w.heap.size) := fun k e => by
    have e' : w.heap.size + 1 = k := by simpa [Value.ownBlock] using e
    omega
  clear hz0 hR0 hB0 hW1
  go_loopw [5, 6] (fun v5 v6 wr => ∃ j : Nat, v6 = .int .i64 (j : Int) ∧ j ≤ N ∧ Hid (Rl Q wr w.heap.size v5 (F (P.take j))) ∧ Hid (wr.heap[w.heap.size]? = some (.cells #[.int .i64 o, .int .i64 d, .int .i64 ee, .int .i64 cc] 43 (0, 0))) ∧ Hid (Below w.heap.size w wr)) (fun _ v6 _ => N - (intOf v6).toNat)
  case atStart => exact ⟨0, rfl, Nat.zero_le _, (by show Rl _ _ _ _ _; rw [List.take_zero, HF0.out]; exact HR0), HX1, HBw⟩
  case round =>
    obtain ⟨j, rfl, hj, HR, HXr, HBr⟩ := hrel
    obtain ⟨y0, y1, y2, y3⟩ := id_cells HXr.out
    by_cases hlt : j < N
    · obtain ⟨g, q, rfl, hq, hc⟩ := HA.out j hlt
      obtain ⟨z0, z1, z2, z3, z4⟩ := hc wr HBr.out
      have hEa := HEa.out j q hq
      have HTq := Lib.hid (HT2.out j q hq)
      have g1 : (j : Int) < (N : Int) := by omega
      have g2 : (j : Int) < 1000 := by omega
      have HC := Lib.hid hc
      have HEq := Lib.hid hEa
      clear hc hq hEa
      by_cases he : q.x.i = ⟨o, d, ee, cc⟩
      · have HFe : Hid (F (P.take (j + 1)) = F (P.take j)) := by show _ = _; rw [HTq.out, if_pos he]
        rw [he] at z0 z1 z2 z3
        simp only at z0 z1 z2 z3
        clear he z4
        go_wp2
        go_quiet (fail)
        go_wp2
        go_roundw
        case rel => exact ⟨j + 1, by go_num, by omega, (by show Rl _ _ _ _ _; rw [HFe.out]; exact HR.out.below (Me.below_drewN (Below.refl _ _) _)), HXr.out, Me.below_drewN HBr.out _⟩
        case measure => simp [intOf]; omega
      · have HFe : Hid (F (P.take (j + 1)) = F (P.take j) ++ [q]) := by show _ = _; rw [HTq.out, if_neg he]
        have hlen : (F (P.take j)).length ≤ 100000 := by
          have h1 := HFl.out (P.take j)
          rw [List.length_take] at h1
          omega
        have HLe := Lib.hid hlen
        obtain ⟨⟨xo, xd, xe, xc⟩, hxi⟩ : ∃ x, q.x.i = x := ⟨_, rfl⟩
        obtain ⟨qa, hqa⟩ : ∃ x, q.A = x := ⟨_, rfl⟩
        obtain ⟨qn, hqn⟩ : ∃ x, q.x.p.length = x := ⟨_, rfl⟩
        obtain ⟨qc, hqc⟩ : ∃ x, q.c = x := ⟨_, rfl⟩
        have hqv : q.v = .slice qa qn qc := by unfold Pq.v; rw [hqa, hqn, hqc]
        have HQv : Hid (qV q = [.int .i64 xo, .int .i64 xd, .int .i64 xe, .int .i64 xc, .slice qa qn qc]) := by show _ = _; unfold qV; rw [hxi, hqv]
        rw [hxi, hqv] at HC
        rw [hxi] at z0 z1 z2 z3 he
        simp only at HC z0 z1 z2 z3
        clear hlen z4 hxi hqa hqn hqc hqv
        rcases idne_b he with g3 | ⟨g3, g4⟩ | ⟨g3, g4, g5⟩ | ⟨g3, g4, g5, g6⟩
        all_goals
          clear he
          go_wp2
          go_quiet (fail)
          have hbx : Below wr.heap.size wr (wr.drewN nq) := Me.below_drewN (Below.refl _ _) nq
          obtain ⟨wx, hwx⟩ : ∃ x, wr.drewN nq = x := ⟨_, rfl⟩
          rw [hwx] at hbx ⊢
          have hBx := go_on HBr.out hbx
          have HXx := Lib.hid ((hbx.block _ (Array.getElem?_eq_some_iff.1 HXr.out).1).trans HXr.out)
          obtain ⟨u0, u1, u2, u3, u4⟩ := HC.out wx hBx
          have Rx := Lib.hid (HR.out.below hbx)
          have BX := Lib.hid hBx
          have hEa := HEq.out wx hBx
          have HEa2 : Hid (∀ o, Me.Own (wx.alloc o) 0 q.v q.x.p ∧ ∀ k, q.v.ownBlock = some k → Q k) := fun o => ⟨own_same hEa.1 fun k _ hk => (Me.below_alloc (o := o) (Below.refl wx.heap.size wx)).block k hk, hEa.2⟩
          obtain ⟨V6, hV6⟩ : ∃ x, wx.alloc (.cells #[.int .i64 xo, .int .i64 xd, .int .i64 xe, .int .i64 xc, .slice qa qn qc] 46) = x := ⟨_, rfl⟩
          have hb6 : Below wx.heap.size wx V6 := by rw [← hV6]; exact Me.below_alloc (Below.refl _ _)
          have hx6 : V6.heap[wx.heap.size]? = some (.cells #[.int .i64 xo, .int .i64 xd, .int .i64 xe, .int .i64 xc, .slice qa qn qc] 46 (0, 0)) := by rw [← hV6]; exact heap_alloc_new wx _
          have HZ6 : Hid (∀ i u, (qV q)[i]? = some u → V6.cell? ⟨wx.heap.size, i, none⟩ = some u) := fun i u hu => by
            rw [HQv.out] at hu
            rw [cell_of_row V6 wx.heap.size i _ _ (0, 0) hx6]
            simpa using hu
          have R6 := Lib.hid (Rx.out.below hb6)
          have B6 := Lib.hid (go_on BX.out hb6)
          have X6 := Lib.hid ((hb6.block _ (Array.getElem?_eq_some_iff.1 HXx.out).1).trans HXx.out)
          have E6 := HEa2.out (.cells #[.int .i64 xo, .int .i64 xd, .int .i64 xe, .int .i64 xc, .slice qa qn qc] 46)
          rw [hV6] at E6
          have HE6 := Lib.hid E6
          have HV6 := Lib.hid hV6
          clear hV6 hb6 hx6 E6 hwx hbx hBx hEa z0 z1 z2 z3 y0 y1 y2 y3 HC
          go_wp2_with (rw [HV6.out]; refine wpList_plain rfl fun _ hK => ?_; refine appRl (.tmp 21) (.tmp 26) rfl w.heap.size u5 (F (P.take j)) q wx.heap.size rfl R6.out HE6.out rfl HZ6.out HLe.out B6.out.size ?_; intro v' w7 ho7 hg7 hlt7; refine hK _ _ ?_; have HO7 := Lib.hid ho7; have HB7 : Hid (Below w.heap.size w w7) := (B6.out.trans (((But.refl (fun k => u5.ownBlock = some k) V6).grown hg7 fun r e => .inl e).below B6.out.size hlt7)); have HX7 := Lib.hid ((hg7.block _ (Array.getElem?_eq_some_iff.1 X6.out).1 (own_ne_tyH R6.out.own X6.out (by decide))).trans X6.out); clear ho7 hg7 hlt7)
          go_roundw
          case rel => exact ⟨j + 1, by go_num, by omega, (by show Rl _ _ _ _ _; rw [HFe.out]; exact HO7), HX7, HB7⟩
          case measure => simp [intOf]; omega
    · obtain rfl : j = N := by omega
      have HFN : Hid (F (P.take j) = F P) := by show _ = _; rw [HAll.out]
      rw [HFN.out] at HR
      have g1 : ¬ (j : Int) < (j : Int) := by omega
      go_wp2
      go_ret
      exact ⟨_, rfl, HR, HBr⟩
end Go.Proofs.YtfnlhfelpdkieaaGreat.So
