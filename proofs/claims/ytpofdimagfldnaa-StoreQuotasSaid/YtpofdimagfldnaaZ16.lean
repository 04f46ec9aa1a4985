/- The messages that are held, told: Held. -/
import Derived.Test.YtpofdimagfldnaaZ15
import Derived.Test.YtpofdimagfldnaaZ11
import Derived.Test.YtpofdimagfldnaaZ19
namespace Go.Proofs.Ytpofdimagfldnaa.So
open Go.RowKit
open Go.Proofs.Ytpofdimagfldnaa.Me Go.Proofs.Ytpofdimagfldnaa.Sb
set_option linter.unusedVariables false
set_option linter.unusedSimpArgs false

theorem takeH_snoc {α : Type} {L : List α} {j : Nat} {p : α} (h : L[j]? = some p) : L.take (j + 1) = L.take j ++ [p] := by
  rw [List.take_add_one, h]; rfl
theorem own_ne_tyH {w : World} {B T T' s n x : Nat} {v : Value} {xs : List Value} {cs : Array Value} {fr : Nat × Nat} (h : w.ownsRow B T s v n xs) (hx : w.heap[x]? = some (.cells cs T' fr)) (hT : T ≠ T') : some x ≠ v.ownBlock := by
  rcases h.2 with ⟨rfl, _⟩ | ⟨g, cap, cur, rfl, _, h3, _⟩
  · simp [Value.ownBlock]
  · intro e
    obtain rfl : x = g := by simpa [Value.ownBlock] using e
    rw [h3] at hx
    simp at hx
    exact hT hx.2.1
section
variable {E : Nat → Prop} {D hb sd sb m : Nat} {v : Value} {s : Sto} {w : World}
set_option maxRecDepth 100000 in
set_option maxHeartbeats 16000000 in
theorem Held_any (hS : Hid (Sq E w D hb sd sb m v s)) : Calls Try.prog 30 #[.pointer (some ⟨D, 0, none⟩)] w fun e w' => ∃ vh P, e = .returned vh ∧ Hid (Ow w' w.heap.size vh P) ∧ Hid (P.map Pq.x = s.held) ∧ Hid (Below w.heap.size w w') := by
  obtain ⟨A, c, rfl, hc1, hc2, hnil, hids, hoff⟩ := hS.out.ord.form2
  have q70 := hS.out.box.ord
  have hlen : s.held.length ≤ 256 := by
    have h1 := hS.out.ok.len
    have h2 := hS.out.ok.h1
    omega
  rw [List.length_map] at q70 hc1
  have HD : Hid (∀ W, Below w.heap.size w W → W.cell? ⟨D, 69, none⟩ = some (.map (some hb))) := fun W hW => (hS.out.box.below hW).map
  have HIx : Hid (∀ j, j < s.held.length → ∃ g, A = some ⟨g, 0, none⟩ ∧ ∀ W, Below w.heap.size w W → W.cell? ⟨g, j * 4, none⟩ = some (.int .i64 (idAt (s.held.map It.i) j).o) ∧ W.cell? ⟨g, j * 4 + 1, none⟩ = some (.int .i64 (idAt (s.held.map It.i) j).d) ∧ W.cell? ⟨g, j * 4 + 2, none⟩ = some (.int .i64 (idAt (s.held.map It.i) j).e) ∧ W.cell? ⟨g, j * 4 + 3, none⟩ = some (.int .i64 (idAt (s.held.map It.i) j).c)) := fun k hk => by
    obtain ⟨b', off', e1, e2, q0, q1, q2, q3⟩ := hids k (by rw [List.length_map]; exact hk)
    obtain ⟨rfl, _⟩ := hoff b' off' e1
    rw [Nat.zero_add] at q0 q1 q2 q3
    exact ⟨b', e1, fun W hW => ⟨(hW.cell e2).trans q0, (hW.cell e2).trans q1, (hW.cell e2).trans q2, (hW.cell e2).trans q3⟩⟩
  have HEl : Hid (∀ x ∈ s.held, ∃ Ax cx, (∀ W, Below w.heap.size w W → (Instr.lookup 86 (.map (some hb)) (.agg (Mg.idC x.i)) false).run Try.prog W = .ok (.slice Ax x.p.length cx) W) ∧ Rd w w.heap.size Ax x.p ∧ (Ax = none → x.p.length = 0 ∧ cx = 0) ∧ x.p.length ≤ 48) := fun x hx => by
    have hf : findH s.held x.i = some x.p := findH_of_mem hS.out.ok.nod hx
    obtain ⟨hg, _, hpb⟩ := find_len hS.out.ok hf
    have hr := (msgN_zero hg)
    obtain ⟨y, hel, _, hl2⟩ := hS.out.map.yes (fit_right hr.1) hf
    obtain ⟨Ax, cx, rfl, hox, _⟩ := hel
    obtain ⟨r1, r2⟩ := (show Rd w w.heap.size Ax x.p ∧ (Ax = none → x.p.length = 0 ∧ cx = 0) from by
      obtain ⟨A', c', e, h1, h2, h3⟩ := hox.held hpb
      simp only [Value.slice.injEq] at e
      obtain ⟨rfl, _, rfl⟩ := e
      exact ⟨h3.rd, h3.2.2⟩)
    exact ⟨Ax, cx, fun W hW => hl2 W (hW.block hb hS.out.map.lt), r1, r2, hr.2.2⟩
  obtain ⟨H, hH⟩ : ∃ H, s.held = H := ⟨_, rfl⟩
  rw [hH] at HIx HEl hlen q70 hc1 ⊢
  obtain ⟨N, hN⟩ : ∃ N, H.length = N := ⟨_, rfl⟩
  rw [hN] at HIx hlen q70 hc1
  have HN := Lib.hid hN
  clear hids hoff hnil hH hN hS
  go_enter Try.func30, Try.ntmps30
  go_wp2
  go_loopw [3, 13] (fun v3 v13 wr => ∃ (j : Nat) (P : List Pq), j ≤ N ∧ v13 = .int .i64 (j : Int) ∧ Hid (Ow wr w.heap.size v3 P) ∧ Hid (P.map Pq.x = H.take j) ∧ Hid (P.length = j) ∧ Hid (Below w.heap.size w wr)) (fun _ v13 _ => N - (intOf v13).toNat)
  case atStart => exact ⟨0, [], by omega, rfl, Ow.nil _ _, (by show _ = _; simp), rfl, Below.refl _ _⟩
  case round =>
    obtain ⟨j, P, hj, rfl, HM, HP, HL, HBr⟩ := hrel
    by_cases hlt : j < N
    · obtain ⟨x, hx⟩ : ∃ x, H[j]? = some x := ⟨_, List.getElem?_eq_getElem (by have := HN.out; omega)⟩
      obtain ⟨g, rfl, hcl⟩ := HIx.out j hlt
      obtain ⟨Ax, cx, hlk, hrd, hAx, hp48⟩ := HEl.out x (List.mem_of_getElem? hx)
      have hid : idAt (H.map It.i) j = x.i := by unfold idAt; rw [List.getD_eq_getElem?_getD, List.getElem?_map, hx]; rfl
      have hc0 := hcl wr HBr.out
      rw [hid] at hc0
      have HTK := Lib.hid (takeH_snoc hx)
      obtain ⟨⟨o, d, ee, cc⟩, p⟩ := x
      simp only [Mg.idC] at hlk hc0 hrd hAx hp48
      obtain ⟨x0, x1, x2, x3⟩ := hc0
      have HCl : Hid (∀ W, Below w.heap.size w W → Calls Try.prog 38 #[.slice Ax p.length cx] W fun e w' => ∃ y, e = .returned y ∧ Hid (Me.Own w' W.heap.size y p) ∧ Hid (Below W.heap.size W w')) := fun W hW => Hd.BClone_any Ax cx w.heap.size p W (hrd.below hW) hAx hW.size (by omega)
      have HLk := Lib.hid hlk
      obtain ⟨pn, hpn⟩ : ∃ n, p.length = n := ⟨_, rfl⟩
      have HPn := Lib.hid hpn
      rw [hpn] at HCl HLk
      have hP1 : P.length ≤ 100000 := by have := HL.out; omega
      have HP1 := Lib.hid hP1
      have hX1 : Below wr.heap.size wr (wr.alloc (.cells #[.int .i64 o, .int .i64 d, .int .i64 ee, .int .i64 cc] 28)) := Me.below_alloc (Below.refl _ _)
      have hXp : (wr.alloc (.cells #[.int .i64 o, .int .i64 d, .int .i64 ee, .int .i64 cc] 28)).heap[wr.heap.size]? = some (.cells #[.int .i64 o, .int .i64 d, .int .i64 ee, .int .i64 cc] 28 (0, 0)) := heap_alloc_new wr _
      have HX1 := Lib.hid (go_on HBr.out hX1)
      have HXp := Lib.hid hXp
      have HM1 := Lib.hid (HM.out.below hX1)
      have hjn : (j : Int) < (N : Int) := by omega
      clear hx hlk hrd hAx hp48 hpn hX1 hXp hP1 hcl hid
      go_wp2
      obtain ⟨xp, hxp⟩ : ∃ xp, wr.heap.size = xp := ⟨_, rfl⟩
      obtain ⟨V9, hV9⟩ : ∃ V, wr.alloc (.cells #[.int .i64 o, .int .i64 d, .int .i64 ee, .int .i64 cc] 28) = V := ⟨_, rfl⟩
      rw [hV9, hxp]
      rw [hV9] at HX1 HM1 HXp
      rw [hxp] at HXp
      clear hV9 hxp x0 x1 x2 x3
      have S2 : Below w.heap.size w V9.drew ∧ V9.drew.heap[xp]? = some (.cells #[.int .i64 o, .int .i64 d, .int .i64 ee, .int .i64 cc] 28 (0, 0)) := ⟨HX1.out.drew, HXp.out⟩
      refine wp_region_held_drew (S := fun W => Below w.heap.size w W ∧ W.heap[xp]? = some (.cells #[.int .i64 o, .int .i64 d, .int .i64 ee, .int .i64 cc] 28 (0, 0))) (by kernel_rfl) S2 (fun hHeld => ?_)
      refine wpAnyH_take (i := 0) (v := u3) rfl (by kernel_rfl) (by kernel_rfl) (by kernel_rfl) (fun _ _ _ h => h) (Or.inl ⟨by rfl, ?_⟩) (by first | assumption | exact trivial) ?_
      · intro W hSW; go_simp; try (with_reducible rfl)
      simp only [Act.put, List.getElem_toArray, List.getElem_cons_succ, List.getElem_cons_zero, List.setIfInBounds_toArray, List.set_cons_zero, List.set_cons_succ]
      refine wpAnyH_take (i := 1) (v := .agg #[.int .i64 o, .int .i64 d, .int .i64 ee, .int .i64 cc]) rfl (by kernel_rfl) (by kernel_rfl) (by kernel_rfl) (fun _ _ _ h => h) (Or.inl ⟨by rfl, ?_⟩) (by first | assumption | exact trivial) ?_
      · intro W hSW; obtain ⟨y0, y1, y2, y3⟩ := id_cells hSW.2; go_simp; try (with_reducible rfl)
      simp only [Act.put, List.getElem_toArray, List.getElem_cons_succ, List.getElem_cons_zero, List.setIfInBounds_toArray, List.set_cons_zero, List.set_cons_succ]
      refine wpAnyH_take (i := 2) (v := .pointer (some ⟨D, 0, none⟩)) rfl (by kernel_rfl) (by kernel_rfl) (by kernel_rfl) (fun _ _ _ h => h) (Or.inl ⟨by rfl, ?_⟩) (by first | assumption | exact trivial) ?_
      · intro W hSW; go_simp; try (with_reducible rfl)
      simp only [Act.put, List.getElem_toArray, List.getElem_cons_succ, List.getElem_cons_zero, List.setIfInBounds_toArray, List.set_cons_zero, List.set_cons_succ]
      refine wpAnyH_take (i := 3) (v := .pointer (some ⟨D, 0, none⟩)) rfl (by kernel_rfl) (by kernel_rfl) (by kernel_rfl) (fun _ _ _ h => h) (Or.inl ⟨by rfl, ?_⟩) (by first | assumption | exact trivial) ?_
      · intro W hSW; go_simp; try (with_reducible rfl)
      simp only [Act.put, List.getElem_toArray, List.getElem_cons_succ, List.getElem_cons_zero, List.setIfInBounds_toArray, List.set_cons_zero, List.set_cons_succ]
      refine wpAnyH_take (i := 4) (v := .pointer (some ⟨D, 69, none⟩)) rfl (by kernel_rfl) (by kernel_rfl) (by kernel_rfl) (fun _ _ _ h => h) (Or.inl ⟨by rfl, ?_⟩) (by first | assumption | exact trivial) ?_
      · intro W hSW; go_simp; try (with_reducible rfl)
      simp only [Act.put, List.getElem_toArray, List.getElem_cons_succ, List.getElem_cons_zero, List.setIfInBounds_toArray, List.set_cons_zero, List.set_cons_succ]
      refine wpAnyH_take (i := 5) (v := .map (some hb)) rfl (by kernel_rfl) (by kernel_rfl) (by kernel_rfl) (fun _ _ _ h => h) (Or.inl ⟨by rfl, ?_⟩) (by first | assumption | exact trivial) ?_
      · intro W hSW; have q := HD.out W hSW.1; go_simp; try (with_reducible rfl)
      simp only [Act.put, List.getElem_toArray, List.getElem_cons_succ, List.getElem_cons_zero, List.setIfInBounds_toArray, List.set_cons_zero, List.set_cons_succ]
      refine wpAnyH_take (i := 6) (v := .agg #[.int .i64 o, .int .i64 d, .int .i64 ee, .int .i64 cc]) rfl (by kernel_rfl) (by kernel_rfl) (by kernel_rfl) (fun _ _ _ h => h) (Or.inl ⟨by rfl, ?_⟩) (by first | assumption | exact trivial) ?_
      · intro W hSW; obtain ⟨y0, y1, y2, y3⟩ := id_cells hSW.2; go_simp; try (with_reducible rfl)
      simp only [Act.put, List.getElem_toArray, List.getElem_cons_succ, List.getElem_cons_zero, List.setIfInBounds_toArray, List.set_cons_zero, List.set_cons_succ]
      refine wpAnyH_take (i := 7) (v := .slice Ax pn cx) rfl (by kernel_rfl) (by kernel_rfl) (by kernel_rfl) (fun _ _ _ h => h) (Or.inl ⟨by rfl, ?_⟩) (by first | assumption | exact trivial) ?_
      · intro W hSW; have q := HLk.out W hSW.1; go_simp; try (with_reducible rfl)
      simp only [Act.put, List.getElem_toArray, List.getElem_cons_succ, List.getElem_cons_zero, List.setIfInBounds_toArray, List.set_cons_zero, List.set_cons_succ]
      refine wpAnyH_ready (rs := [8]) (by kernel_rfl) (by simp) ?_
      refine AllReadyH.cons rfl (fun K hK => ?_) AllReadyH.nil
      go_simp
      have hMd := HM1.out.below (Below.refl V9.heap.size V9).drew
      go_wp2_with (go_at_call 38; refine (HCl.out _ S2.1).mono ?_; rintro e' w3 ⟨vc, rfl, ho3, hb3⟩)
      have hform : ∃ Ac cc', vc = .slice Ac pn cc' := by
        rw [← HPn.out]
        rcases ho3.out.2 with ⟨h1, h2⟩ | ⟨g', cap, cur, h1, _⟩
        · have : p = [] := by simpa using h2
          subst this
          exact ⟨none, 0, h1⟩
        · exact ⟨_, cap, h1⟩
      obtain ⟨Ac, c3, rfl⟩ := hform
      have hM3 := hMd.below hb3.out
      have S3 : Below w.heap.size w w3 ∧ w3.heap[xp]? = some (.cells #[.int .i64 o, .int .i64 d, .int .i64 ee, .int .i64 cc] 28 (0, 0)) :=
        ⟨S2.1.trans (hb3.out.mono S2.1.size), (hb3.out.block _ (Array.getElem?_eq_some_iff.1 S2.2).1).trans S2.2⟩
      have ho3' : Me.Own w3 w.heap.size (.slice Ac pn c3) p := own_base ho3.out fun k hk => Nat.le_trans S2.1.size (World.ownsRow.lt ho3.out k hk).1
      refine hK.out _ _ (S3) (fun hHeld => ?_)
      clear hK K
      refine wpAnyH_take (i := 9) (v := .agg #[.int .i64 o, .int .i64 d, .int .i64 ee, .int .i64 cc, .slice Ac pn c3]) rfl (by kernel_rfl) (by kernel_rfl) (by kernel_rfl) (fun _ _ _ h => h) (Or.inl ⟨by rfl, ?_⟩) (by first | assumption | exact trivial) ?_
      · intro W hSW; go_simp; try (with_reducible rfl)
      simp only [Act.put, List.getElem_toArray, List.getElem_cons_succ, List.getElem_cons_zero, List.setIfInBounds_toArray, List.set_cons_zero, List.set_cons_succ]
      refine wpAnyH_ready (rs := [10]) (by kernel_rfl) (by simp) ?_
      refine AllReadyH.cons rfl (fun K hK => ?_) AllReadyH.nil
      go_simp
      obtain ⟨W9, hW9⟩ : ∃ V, w3.alloc (.cells #[.int .i64 o, .int .i64 d, .int .i64 ee, .int .i64 cc, .slice Ac pn c3] 46) = V := ⟨_, rfl⟩
      have hb9 : Below w3.heap.size w3 W9 := by rw [← hW9]; exact Me.below_alloc (Below.refl _ _)
      have hz9 : W9.heap[w3.heap.size]? = some (.cells #[.int .i64 o, .int .i64 d, .int .i64 ee, .int .i64 cc, .slice Ac pn c3] 46 (0, 0)) := by rw [← hW9]; exact heap_alloc_new w3 _
      rw [hW9]
      clear hW9
      have hM9 := hM3.below hb9
      have ho9 : Me.Own W9 w.heap.size (.slice Ac pn c3) p := own_same ho3' fun k _ hk => hb9.block k hk
      have S9 : Below w.heap.size w W9 ∧ W9.heap[xp]? = some (.cells #[.int .i64 o, .int .i64 d, .int .i64 ee, .int .i64 cc] 28 (0, 0)) :=
        ⟨S3.1.trans (hb9.mono S3.1.size), (hb9.block _ (Array.getElem?_eq_some_iff.1 S3.2).1).trans S3.2⟩
      refine hK.out _ _ (S9) (fun hHeld => ?_)
      clear hK K
      refine wpAnyH_ready (rs := [11]) (by kernel_rfl) (by simp) ?_
      refine AllReadyH.cons rfl (fun K hK => ?_) AllReadyH.nil
      rw [if_pos (by kernel_rfl)]
      refine appMsg (.tmp 17) (.tmp 27) rfl w.heap.size u3 P ⟨⟨⟨o, d, ee, cc⟩, p⟩, Ac, c3⟩ w3.heap.size rfl hM9 (by show Me.Own W9 _ (.slice Ac p.length c3) p; rw [HPn.out]; exact ho9) rfl (fun j' u' hj' => ?_) HP1.out S9.1.size ?_
      · rw [cell_of_row W9 w3.heap.size j' _ _ (0, 0) hz9]
        have e9 : qV ⟨⟨⟨o, d, ee, cc⟩, p⟩, Ac, c3⟩ = [.int .i64 o, .int .i64 d, .int .i64 ee, .int .i64 cc, .slice Ac pn c3] := by simp only [qV, Pq.v, HPn.out]
        rw [e9] at hj'
        simpa using hj'
      intro v7 W7 hM7 hg7 hk7
      simp only [Act.put, List.getElem_toArray, List.getElem_cons_succ, List.getElem_cons_zero, List.setIfInBounds_toArray, List.set_cons_zero, List.set_cons_succ]
      have S7 : Below w.heap.size w W7 ∧ W7.heap[xp]? = some (.cells #[.int .i64 o, .int .i64 d, .int .i64 ee, .int .i64 cc] 28 (0, 0)) :=
        ⟨S9.1.grown hg7 S9.1.size hk7, (hg7.block _ (Array.getElem?_eq_some_iff.1 S9.2).1 (own_ne_tyH hM9.own S9.2 (by decide))).trans S9.2⟩
      refine hK.out _ _ (S7) (fun hHeld => ?_)
      clear hK K
      refine wpAnyH_take (i := 12) (v := v7) rfl (by kernel_rfl) (by kernel_rfl) (by kernel_rfl) (fun _ _ _ h => h) (Or.inl ⟨by rfl, ?_⟩) (by first | assumption | exact trivial) ?_
      · intro W hSW; go_simp; try (with_reducible rfl)
      simp only [Act.put, List.getElem_toArray, List.getElem_cons_succ, List.getElem_cons_zero, List.setIfInBounds_toArray, List.set_cons_zero, List.set_cons_succ]
      refine wpAnyH_done (by kernel_rfl) ?_ _
      have HM7 := Lib.hid hM7
      have HB7 : Hid (Below w.heap.size w W7) := S7.1
      have HPx : Hid ((P ++ [(⟨⟨⟨o, d, ee, cc⟩, p⟩, Ac, c3⟩ : Pq)]).map Pq.x = H.take (j + 1)) := by show _ = _; rw [List.map_append, HP.out, HTK.out]; rfl
      clear hHeld S2 S3 S7 S9 hM7 hg7 hk7 hM9 hM3 hMd ho9 ho3' ho3 hb3 hb9 hz9
      go_wp2
      go_roundw
      case rel => exact ⟨j + 1, _, by omega, by go_num, HM7, HPx, (by show (P ++ [_]).length = _; rw [List.length_append, HL.out]; rfl), HB7⟩
      case measure => simp [intOf]; omega
    · obtain rfl : j = N := by omega
      have HF : Hid (P.map Pq.x = H) := by show _ = _; rw [HP.out, ← HN.out, List.take_length]
      have g1 : ¬ (j : Int) < (j : Int) := by omega
      go_wp2
      go_ret
      exact ⟨_, rfl, P, HM, HF, HBr⟩
end
end Go.Proofs.Ytpofdimagfldnaa.So
/- All that a store has, told: State. -/
namespace Go.Proofs.Ytpofdimagfldnaa.So
open Go.RowKit
open Go.Proofs.Ytpofdimagfldnaa.Me Go.Proofs.Ytpofdimagfldnaa.Sb
open Go.Proofs.Ytpofdimagfldnaa.Se (Mw Pm Pls mrOf Ord)
set_option linter.unusedVariables false
set_option linter.unusedSimpArgs false

theorem Box.range {w : World} {D hb sd : Nat} {v : Value} {n : Int} {s : Sto} (h : Box w D s hb sd v n) : w.rangeAt D 5 (lastV s.last).toList := fun j u hj => by
  have hj' : j < 64 := by
    have := (List.getElem?_eq_some_iff.1 hj).1
    rw [Array.length_toList, lastV_size] at this
    exact this
  rw [h.last hj', ← hj, Array.getElem?_toList, lastV_at _ hj']
/-- What State answers. -/
def StT (s : Sto) (m : Nat) (w : World) (e : Ending) (w' : World) : Prop :=
  ∃ vU vH vM PH PM L, e = .returned (.agg #[.int .i64 s.self, .int .i64 s.epoch, vU, vH, vM]) ∧ Hid (Kn w' w.heap.size vU (usedTo s.last 64)) ∧ Hid (Ow w' w.heap.size vH PH) ∧ Hid (PH.map Pq.x = s.held) ∧ Hid (Mw w' w.heap.size vM PM) ∧ Hid (Ord s.seen.kept m L) ∧ Hid (PM.map Pm.m = L.map (mrOf s.seen.kept)) ∧ Hid (Below w.heap.size w w')
theorem st_one (a b : Int) (A B C : Option Addr) (n1 n2 n3 c1 c2 c3 : Nat) : (#[.int .i64 a, .int .i64 b, .slice A n1 c1, .slice B n2 c2, .slice C n3 c3] : Array Value).all (·.oneCell') = true := by simp [Value.oneCell']
theorem mw_base {w : World} {B B' : Nat} {v : Value} {P : List Pm} (h : Mw w B v P) (hB : B' ≤ B) : Mw w B' v P := h.base hB
theorem mw_butP {S : Nat → Prop} {w w' : World} {B : Nat} {v : Value} {P : List Pm} (h : Mw w B v P) (hb : But S w w') (hS : ∀ k, S k → k < B) : Mw w' B v P :=
  ⟨own_same h.own fun k e hk => hb.same k hk fun hs => by have := (h.own.lt k e).1; have := hS k hs; omega, fun p hp => own_same (h.each p hp) fun k e hk => hb.same k hk fun hs => by have := (World.ownsRow.lt (h.each p hp) k e).1; have := hS k hs; omega⟩
theorem kn_butP {S : Nat → Prop} {w w' : World} {B : Nat} {v : Value} {l : Nx} (h : Kn w B v l) (hb : But S w w') (hS : ∀ k, S k → k < B) : Kn w' B v l :=
  own_same h fun k e hk => hb.same k hk fun hs => by have := (World.ownsRow.lt h k e).1; have := hS k hs; omega
section
variable {E : Nat → Prop} {D hb sd sb m : Nat} {v : Value} {s : Sto} {w : World}
set_option maxRecDepth 100000 in
set_option maxHeartbeats 16000000 in
theorem State_any (hm : m ≤ 5000000) (hS : Hid (Sq E w D hb sd sb m v s)) : Calls Try.prog 22 #[.pointer (some ⟨D, 0, none⟩)] w (StT s m w) := by
  have HU : Hid (∀ W, Calls Try.prog 46 #[.agg (lastV s.last)] W fun e w' => ∃ v, e = .returned v ∧ Hid (Kn w' W.heap.size v (usedTo s.last 64)) ∧ Hid (Below W.heap.size W w')) := fun W => used_any s.last W
  have HH : Hid (∀ W, Below w.heap.size w W → Calls Try.prog 30 #[.pointer (some ⟨D, 0, none⟩)] W fun e w' => ∃ vh P, e = .returned vh ∧ Hid (Ow w' W.heap.size vh P) ∧ Hid (P.map Pq.x = s.held) ∧ Hid (Below W.heap.size W w')) := fun W hW => Held_any (hS.out.below hW)
  have HMk : Hid (∀ W, Below w.heap.size w W → Calls Try.prog 47 #[.pointer (some ⟨sd, 0, none⟩)] W fun e w' => ∃ v P L, e = .returned v ∧ Hid (Mw w' W.heap.size v P) ∧ Hid (Below W.heap.size W w') ∧ Hid (Ord s.seen.kept m L) ∧ Hid (P.map Pm.m = L.map (mrOf s.seen.kept))) := fun W hW => Se.Marks_any true sd sb m s.seen W (hS.out.below hW).set hm
  have HR : Hid (∀ W, Below w.heap.size w W → W.rangeAt D 5 (lastV s.last).toList) := fun W hW => (hS.out.below hW).box.range
  have HC : Hid (∀ W, Below w.heap.size w W → W.cell? ⟨D, 0, none⟩ = some (.int .i64 s.self) ∧ W.cell? ⟨D, 4, none⟩ = some (.int .i64 s.epoch) ∧ W.cell? ⟨D, 72, none⟩ = some (.pointer (some ⟨sd, 0, none⟩))) := fun W hW => ⟨(hS.out.below hW).box.self, (hS.out.below hW).box.epoch, (hS.out.below hW).box.set⟩
  have HSz := Lib.hid (size64 s.last)
  unfold StT
  obtain ⟨UL, hUL⟩ : ∃ x, usedTo s.last 64 = x := ⟨_, rfl⟩
  obtain ⟨HL, hHL⟩ : ∃ x, s.held = x := ⟨_, rfl⟩
  obtain ⟨me, hme⟩ : ∃ x, s.self = x := ⟨_, rfl⟩
  obtain ⟨ep, hep⟩ : ∃ x, s.epoch = x := ⟨_, rfl⟩
  obtain ⟨ke, hke⟩ : ∃ x, s.seen.kept = x := ⟨_, rfl⟩
  obtain ⟨V, hV⟩ : ∃ x, lastV s.last = x := ⟨_, rfl⟩
  rw [hUL, hV] at HU
  rw [hHL] at HH
  rw [hke] at HMk
  rw [hV] at HR HSz
  rw [hme, hep] at HC
  rw [hUL, hHL, hme, hep, hke]
  clear hUL hHL hme hep hke hV hS
  obtain ⟨V0, hV0⟩ : ∃ x, w.alloc (.cells #[.int .i64 0, .int .i64 0, .slice none 0 0, .slice none 0 0, .slice none 0 0] 68) = x := ⟨_, rfl⟩
  have hX : V0.heap[w.heap.size]? = some (.cells #[.int .i64 0, .int .i64 0, .slice none 0 0, .slice none 0 0, .slice none 0 0] 68 (0, 0)) := by rw [← hV0]; exact heap_alloc_new w _
  have hB : Below w.heap.size w V0 := by rw [← hV0]; exact Me.below_alloc (Below.refl _ _)
  have hl0 : w.heap.size < V0.heap.size := (Array.getElem?_eq_some_iff.1 hX).1
  have HX := Lib.hid hX
  have HB := Lib.hid hB
  have HL0 := Lib.hid hl0
  have HV0 := Lib.hid hV0
  clear hV0 hX hB hl0
  go_enter Try.func22, Try.ntmps22
  go_wp2
  rw [HV0.out]
  have S0 : Below w.heap.size w V0.drew := HB.out.drew
  refine wp_region_held_drew (S := fun W => Below w.heap.size w W) (by kernel_rfl) S0 (fun hHeld => ?_)
  refine wpAnyH_take (i := 0) (v := .pointer (some ⟨D, 0, none⟩)) rfl (by kernel_rfl) (by kernel_rfl) (by kernel_rfl) (fun _ _ _ h => h) (Or.inl ⟨by rfl, ?_⟩) (by first | assumption | exact trivial) ?_
  · intro W hSW; go_simp; try (with_reducible rfl)
  simp only [Act.put, List.getElem_toArray, List.getElem_cons_succ, List.getElem_cons_zero, List.setIfInBounds_toArray, List.set_cons_zero, List.set_cons_succ]
  refine wpAnyH_take (i := 1) (v := .pointer (some ⟨D, 0, none⟩)) rfl (by kernel_rfl) (by kernel_rfl) (by kernel_rfl) (fun _ _ _ h => h) (Or.inl ⟨by rfl, ?_⟩) (by first | assumption | exact trivial) ?_
  · intro W hSW; go_simp; try (with_reducible rfl)
  simp only [Act.put, List.getElem_toArray, List.getElem_cons_succ, List.getElem_cons_zero, List.setIfInBounds_toArray, List.set_cons_zero, List.set_cons_succ]
  refine wpAnyH_take (i := 2) (v := .pointer (some ⟨D, 0, none⟩)) rfl (by kernel_rfl) (by kernel_rfl) (by kernel_rfl) (fun _ _ _ h => h) (Or.inl ⟨by rfl, ?_⟩) (by first | assumption | exact trivial) ?_
  · intro W hSW; go_simp; try (with_reducible rfl)
  simp only [Act.put, List.getElem_toArray, List.getElem_cons_succ, List.getElem_cons_zero, List.setIfInBounds_toArray, List.set_cons_zero, List.set_cons_succ]
  refine wpAnyH_take (i := 3) (v := .int .i64 me) rfl (by kernel_rfl) (by kernel_rfl) (by kernel_rfl) (fun _ _ _ h => h) (Or.inl ⟨by rfl, ?_⟩) (by first | assumption | exact trivial) ?_
  · intro W hSW; have q := (HC.out W hSW).1; go_simp; try (with_reducible rfl)
  simp only [Act.put, List.getElem_toArray, List.getElem_cons_succ, List.getElem_cons_zero, List.setIfInBounds_toArray, List.set_cons_zero, List.set_cons_succ]
  refine wpAnyH_take (i := 4) (v := .pointer (some ⟨D, 0, none⟩)) rfl (by kernel_rfl) (by kernel_rfl) (by kernel_rfl) (fun _ _ _ h => h) (Or.inl ⟨by rfl, ?_⟩) (by first | assumption | exact trivial) ?_
  · intro W hSW; go_simp; try (with_reducible rfl)
  simp only [Act.put, List.getElem_toArray, List.getElem_cons_succ, List.getElem_cons_zero, List.setIfInBounds_toArray, List.set_cons_zero, List.set_cons_succ]
  refine wpAnyH_take (i := 5) (v := .pointer (some ⟨D, 0, none⟩)) rfl (by kernel_rfl) (by kernel_rfl) (by kernel_rfl) (fun _ _ _ h => h) (Or.inl ⟨by rfl, ?_⟩) (by first | assumption | exact trivial) ?_
  · intro W hSW; go_simp; try (with_reducible rfl)
  simp only [Act.put, List.getElem_toArray, List.getElem_cons_succ, List.getElem_cons_zero, List.setIfInBounds_toArray, List.set_cons_zero, List.set_cons_succ]
  refine wpAnyH_take (i := 6) (v := .pointer (some ⟨D, 4, none⟩)) rfl (by kernel_rfl) (by kernel_rfl) (by kernel_rfl) (fun _ _ _ h => h) (Or.inl ⟨by rfl, ?_⟩) (by first | assumption | exact trivial) ?_
  · intro W hSW; go_simp; try (with_reducible rfl)
  simp only [Act.put, List.getElem_toArray, List.getElem_cons_succ, List.getElem_cons_zero, List.setIfInBounds_toArray, List.set_cons_zero, List.set_cons_succ]
  refine wpAnyH_take (i := 7) (v := .int .i64 ep) rfl (by kernel_rfl) (by kernel_rfl) (by kernel_rfl) (fun _ _ _ h => h) (Or.inl ⟨by rfl, ?_⟩) (by first | assumption | exact trivial) ?_
  · intro W hSW; have q := (HC.out W hSW).2.1; go_simp; try (with_reducible rfl)
  simp only [Act.put, List.getElem_toArray, List.getElem_cons_succ, List.getElem_cons_zero, List.setIfInBounds_toArray, List.set_cons_zero, List.set_cons_succ]
  refine wpAnyH_take (i := 8) (v := .pointer (some ⟨D, 0, none⟩)) rfl (by kernel_rfl) (by kernel_rfl) (by kernel_rfl) (fun _ _ _ h => h) (Or.inl ⟨by rfl, ?_⟩) (by first | assumption | exact trivial) ?_
  · intro W hSW; go_simp; try (with_reducible rfl)
  simp only [Act.put, List.getElem_toArray, List.getElem_cons_succ, List.getElem_cons_zero, List.setIfInBounds_toArray, List.set_cons_zero, List.set_cons_succ]
  refine wpAnyH_take (i := 9) (v := .pointer (some ⟨D, 0, none⟩)) rfl (by kernel_rfl) (by kernel_rfl) (by kernel_rfl) (fun _ _ _ h => h) (Or.inl ⟨by rfl, ?_⟩) (by first | assumption | exact trivial) ?_
  · intro W hSW; go_simp; try (with_reducible rfl)
  simp only [Act.put, List.getElem_toArray, List.getElem_cons_succ, List.getElem_cons_zero, List.setIfInBounds_toArray, List.set_cons_zero, List.set_cons_succ]
  refine wpAnyH_take (i := 10) (v := .pointer (some ⟨D, 5, none⟩)) rfl (by kernel_rfl) (by kernel_rfl) (by kernel_rfl) (fun _ _ _ h => h) (Or.inl ⟨by rfl, ?_⟩) (by first | assumption | exact trivial) ?_
  · intro W hSW; go_simp; try (with_reducible rfl)
  simp only [Act.put, List.getElem_toArray, List.getElem_cons_succ, List.getElem_cons_zero, List.setIfInBounds_toArray, List.set_cons_zero, List.set_cons_succ]
  refine wpAnyH_take (i := 11) (v := .agg V) rfl (by kernel_rfl) (by kernel_rfl) (by kernel_rfl) (fun _ _ _ h => h) (yieldsIf_load_mid (by rfl) 85 (.tmp 16) rfl D 5 rfl V.toList _ (fun W hW => HR.out W hW) Try.underlying85 rfl HSz.out) (by first | assumption | exact trivial) ?_
  simp only [Act.put, List.getElem_toArray, List.getElem_cons_succ, List.getElem_cons_zero, List.setIfInBounds_toArray, List.set_cons_zero, List.set_cons_succ]
  refine wpAnyH_take (i := 13) (v := .pointer (some ⟨D, 0, none⟩)) rfl (by kernel_rfl) (by kernel_rfl) (by kernel_rfl) (fun _ _ _ h => h) (Or.inl ⟨by rfl, ?_⟩) (by first | assumption | exact trivial) ?_
  · intro W hSW; go_simp; try (with_reducible rfl)
  simp only [Act.put, List.getElem_toArray, List.getElem_cons_succ, List.getElem_cons_zero, List.setIfInBounds_toArray, List.set_cons_zero, List.set_cons_succ]
  refine wpAnyH_take (i := 15) (v := .pointer (some ⟨D, 0, none⟩)) rfl (by kernel_rfl) (by kernel_rfl) (by kernel_rfl) (fun _ _ _ h => h) (Or.inl ⟨by rfl, ?_⟩) (by first | assumption | exact trivial) ?_
  · intro W hSW; go_simp; try (with_reducible rfl)
  simp only [Act.put, List.getElem_toArray, List.getElem_cons_succ, List.getElem_cons_zero, List.setIfInBounds_toArray, List.set_cons_zero, List.set_cons_succ]
  refine wpAnyH_take (i := 16) (v := .pointer (some ⟨D, 0, none⟩)) rfl (by kernel_rfl) (by kernel_rfl) (by kernel_rfl) (fun _ _ _ h => h) (Or.inl ⟨by rfl, ?_⟩) (by first | assumption | exact trivial) ?_
  · intro W hSW; go_simp; try (with_reducible rfl)
  simp only [Act.put, List.getElem_toArray, List.getElem_cons_succ, List.getElem_cons_zero, List.setIfInBounds_toArray, List.set_cons_zero, List.set_cons_succ]
  refine wpAnyH_take (i := 17) (v := .pointer (some ⟨D, 72, none⟩)) rfl (by kernel_rfl) (by kernel_rfl) (by kernel_rfl) (fun _ _ _ h => h) (Or.inl ⟨by rfl, ?_⟩) (by first | assumption | exact trivial) ?_
  · intro W hSW; go_simp; try (with_reducible rfl)
  simp only [Act.put, List.getElem_toArray, List.getElem_cons_succ, List.getElem_cons_zero, List.setIfInBounds_toArray, List.set_cons_zero, List.set_cons_succ]
  refine wpAnyH_take (i := 18) (v := .pointer (some ⟨sd, 0, none⟩)) rfl (by kernel_rfl) (by kernel_rfl) (by kernel_rfl) (fun _ _ _ h => h) (Or.inl ⟨by rfl, ?_⟩) (by first | assumption | exact trivial) ?_
  · intro W hSW; have q := (HC.out W hSW).2.2; go_simp; try (with_reducible rfl)
  simp only [Act.put, List.getElem_toArray, List.getElem_cons_succ, List.getElem_cons_zero, List.setIfInBounds_toArray, List.set_cons_zero, List.set_cons_succ]
  refine wpAnyH_ready (rs := [12]) (by kernel_rfl) (by simp) ?_
  refine AllReadyH.cons rfl (fun K hK => ?_) AllReadyH.nil
  go_simp
  go_wp2_with (go_at_call 46; refine (HU.out _).mono ?_; rintro e w1 ⟨vU, rfl, hk1, hb1⟩)
  have k1 : Below w.heap.size w w1 := go_on S0 hb1.out
  refine hK.out _ _ (k1) (fun hHeld => ?_)
  clear hK K
  refine wpAnyH_ready (rs := [14]) (by kernel_rfl) (by simp) ?_
  refine AllReadyH.cons rfl (fun K hK => ?_) AllReadyH.nil
  go_simp
  go_wp2_with (go_at_call 30; refine (HH.out _ k1).mono ?_; rintro e w2 ⟨vH, PH, rfl, ho2, hp2, hb2⟩)
  have k2 : Below w.heap.size w w2 := go_on k1 hb2.out
  refine hK.out _ _ (k2) (fun hHeld => ?_)
  clear hK K
  refine wpAnyH_ready (rs := [19]) (by kernel_rfl) (by simp) ?_
  refine AllReadyH.cons rfl (fun K hK => ?_) AllReadyH.nil
  go_simp
  go_wp2_with (go_at_call 47; refine (HMk.out _ k2).mono ?_; rintro e w3 ⟨vM, PM, L, rfl, hm3, hb3, hO3, hP3⟩)
  have k3 : Below w.heap.size w w3 := go_on k2 hb3.out
  have K3 : Kn w3 (w.heap.size + 1) vU UL := ((hk1.out.base (show w.heap.size + 1 ≤ _ from Nat.le_trans HL0.out (Nat.le_refl _))).below hb2.out).below hb3.out
  have O3 : Ow w3 (w.heap.size + 1) vH PH := (ho2.out.base (Nat.le_trans HL0.out hb1.out.size)).below hb3.out
  have M3 : Mw w3 (w.heap.size + 1) vM PM := hm3.out.base (Nat.le_trans HL0.out (Nat.le_trans hb1.out.size hb2.out.size))
  obtain ⟨aU, cU, rfl, _⟩ := K3.form
  obtain ⟨aH, cH, rfl, _⟩ := O3.form
  obtain ⟨aM, cM, rfl, _⟩ := M3.form
  obtain ⟨nU, hnU⟩ : ∃ n, UL.length = n := ⟨_, rfl⟩
  obtain ⟨nH, hnH⟩ : ∃ n, PH.length = n := ⟨_, rfl⟩
  obtain ⟨nM, hnM⟩ : ∃ n, PM.length = n := ⟨_, rfl⟩
  rw [hnU] at K3 ⊢
  rw [hnH] at O3 ⊢
  rw [hnM] at M3 ⊢
  have hX3 := (hb3.out.block _ (Nat.lt_of_lt_of_le HL0.out (Nat.le_trans hb1.out.size hb2.out.size))).trans ((hb2.out.block _ (Nat.lt_of_lt_of_le HL0.out hb1.out.size)).trans ((hb1.out.block _ HL0.out).trans HX.out))
  refine hK.out _ _ (k3) (fun hHeld => ?_)
  clear hK K
  refine wpAnyH_take (i := 20) (v := .agg #[.int .i64 me, .int .i64 ep, .slice aU nU cU, .slice aH nH cH, .slice aM nM cM]) rfl (by kernel_rfl) (by kernel_rfl) (by kernel_rfl) (fun _ _ _ h => h) (Or.inl ⟨by rfl, ?_⟩) (by first | assumption | exact trivial) ?_
  · intro W hSW; go_simp; try (with_reducible rfl)
  simp only [Act.put, List.getElem_toArray, List.getElem_cons_succ, List.getElem_cons_zero, List.setIfInBounds_toArray, List.set_cons_zero, List.set_cons_succ]
  refine wpAnyH_ready (rs := [21]) (by kernel_rfl) (by simp) ?_
  refine AllReadyH.cons rfl (fun K hK => ?_) AllReadyH.nil
  rw [if_pos (by kernel_rfl)]
  refine wp_store_row 68 (.tmp 2) (.tmp 26) rfl w.heap.size #[.int .i64 me, .int .i64 ep, .slice aU nU cU, .slice aH nH cH, .slice aM nM cM] rfl (by rfl) 68 _ hX3 (by kernel_rfl) rfl (st_one _ _ _ _ _ _ _ _ _ _ _) ?_
  simp only [Act.put, List.getElem_toArray, List.getElem_cons_succ, List.getElem_cons_zero, List.setIfInBounds_toArray, List.set_cons_zero, List.set_cons_succ]
  obtain ⟨V9, hV9⟩ : ∃ x, w3.setRow w.heap.size #[.int .i64 me, .int .i64 ep, .slice aU nU cU, .slice aH nH cH, .slice aM nM cM] = x := ⟨_, rfl⟩
  have hb9 : But (fun k => k = w.heap.size) w3 V9 := by rw [← hV9]; exact (But.refl (fun k => k = w.heap.size) w3).setRow (.inl rfl) _
  have hX9 : V9.heap[w.heap.size]? = some (.cells #[.int .i64 me, .int .i64 ep, .slice aU nU cU, .slice aH nH cH, .slice aM nM cM] 68 (0, 0)) := by rw [← hV9]; exact setRow_heap _ _ _ _ _ _ hX3
  have hB9 : Below w.heap.size w V9 := by rw [← hV9]; exact Sb.below_setRow _ k3 (Nat.le_refl _)
  rw [hV9]
  clear hV9
  refine hK.out _ _ (hB9) (fun hHeld => ?_)
  clear hK K
  refine wpAnyH_done (by kernel_rfl) ?_ _
  go_wp2
  exact Sb.ret_box (g := w.heap.size) rfl (by rfl) hX9 rfl Try.underlying68 (by kernel_rfl) rfl ⟨_, _, _, PH, PM, L, rfl, (kn_butP K3 hb9 fun k e => by omega).base (Nat.le_succ _), (O3.butP hb9 fun k e => by omega).base (Nat.le_succ _), hp2, (mw_butP M3 hb9 fun k e => by omega).base (Nat.le_succ _), hO3, hP3, hB9⟩
end
end Go.Proofs.Ytpofdimagfldnaa.So
