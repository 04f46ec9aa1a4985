/- The law SeenPlays. -/
import Derived.Test.YtjgdkpgkonnhnaaSeIds
import Derived.Test.YtjgdkpgkonnhnaaSeTieC
import Derived.Test.YtjgdkpgkonnhnaaSeClone
import Derived.Test.YtjgdkpgkonnhnaaSeSame
import Derived.Test.YtjgdkpgkonnhnaaSeHasM
import Derived.Test.YtjgdkpgkonnhnaaSeAddA
import Derived.Test.YtjgdkpgkonnhnaaSeWoke
namespace Go.Proofs.Ytjgdkpgkonnhnaa.Se
open Go.RowKit
open Go.Proofs.Ytjgdkpgkonnhnaa.Me Go.Proofs.Ytjgdkpgkonnhnaa.Sb
set_option linter.unusedVariables false
set_option linter.unusedSimpArgs false

theorem Mw.butP {S : Nat → Prop} {w w' : World} {B : Nat} {v : Value} {P : List Pm} (h : Mw w B v P) (hb : But S w w') (hS : ∀ k, S k → k < B) : Mw w' B v P :=
  ⟨own_same h.own fun k hk hl => hb.same k hl fun hs => by have := (h.own.lt k hk).1; have := hS k hs; omega,
   fun p hp => (h.each p hp).same fun k hk hl => hb.same k hl fun hs => by have := ((h.each p hp).lt k hk).1; have := hS k hs; omega⟩
theorem Set.but {S : Nat → Prop} {w w' : World} {t : Bool} {D b n : Nat} {s : St} (h : Set w t D b n s) (hb : But S w w') (hD : ¬ S D) (hB : ¬ S b) (hI : ∀ (k : Nat) (cs : Array Value), w.heap[k]? = some (.cells cs 3 (0, 0)) → ¬ S k) : Set w' t D b n s :=
  h.keep (hb.same _ h.lt.1 hD) (hb.same _ h.lt.2 hB) (Ints.but hb hI)
theorem Set.notInt {w : World} {t : Bool} {D b n : Nat} {s : St} (h : Set w t D b n s) (k : Nat) (cs : Array Value) (hk : w.heap[k]? = some (.cells cs 3 (0, 0))) : ¬ (k = D ∨ k = b) := by
  rintro (rfl | rfl)
  · rw [h.box] at hk
    injection hk with hk
    injection hk with _ hT _
    exact absurd hT (by decide)
  · obtain ⟨es, c, hm⟩ := h.map.isMap
    rw [hm] at hk; cases hk
theorem box_notInt {w : World} {gb : Nat} {cs : Array Value} (hx : w.heap[gb]? = some (.cells cs 29 (0, 0))) (k : Nat) (cs' : Array Value) (hk : w.heap[k]? = some (.cells cs' 3 (0, 0))) : ¬ k = gb := by
  rintro rfl
  rw [hx] at hk
  injection hk with hk
  injection hk with _ hT _
  exact absurd hT (by decide)
theorem RAdd_all (Q : Nat → Prop) (room : Int) (v : Value) (L : Ks) (i : Mg.Id4) (w : World) (hv : Hid (Kv Q w v L)) (hQ : ∀ k, w.heap.size ≤ k → Q k) (hL : L.length ≤ 900) : Calls Try.prog 16 #[.agg #[.int .i64 room, v], .agg (Mg.idC i)] w fun e w' => ∃ v', e = .returned (.tuple #[.agg #[.int .i64 room, v'], .int .i64 (rmayN room L i : Nat)]) ∧ Hid (Kv Q w' v' (raddL room L i)) ∧ Hid (Below w.heap.size w w') := by
  by_cases hm : rmayN room L i = 0
  · refine (RAdd_ok Q room v L i w hv hL hm).mono ?_
    rintro e w' ⟨v', rfl, h1, h2⟩
    refine ⟨v', by rw [hm]; rfl, ?_, h2⟩
    have e : raddL room L i = putL L ⟨i.o, i.e, i.c⟩ := by unfold raddL; rw [if_pos hm]
    rw [e]
    exact h1.out.mono fun k _ hk => hQ k hk
  · refine (RAdd_no Q room v L i w hv hL hm).mono ?_
    rintro e w' ⟨rfl, h2⟩
    refine ⟨v, rfl, ?_, h2⟩
    have e : raddL room L i = L := by unfold raddL; rw [if_neg hm]
    rw [e]
    exact hv.out.below h2.out
set_option maxRecDepth 100000 in
set_option maxHeartbeats 16000000 in
theorem seenPlays_no (g : Int) (vl : Value) (w : World) (h : g < 0 ∨ 256 < g) : Calls Try.prog 3 #[.int .i64 g, vl] w fun e w' => e = .returned (.bool true) ∧ Below w.heap.size w w' := by
  have HN := Lib.hid (fun W => New_no g h W)
  have HR := Lib.hid (fun W => RNew_no g h W)
  have HA := Lib.hid (fun W => awake_any W)
  clear h
  go_enter Try.func3, Try.ntmps3
  go_wp2_with (first
    | (go_at_call 9; refine (HN.out _).mono ?_; rintro e w1 ⟨rfl, rfl⟩)
    | (go_at_call 10; refine (HR.out _).mono ?_; rintro e w2 ⟨rfl, b2⟩)
    | (go_at_call 11; refine (HA.out _).mono ?_; rintro e w7 ⟨rfl, b7⟩))
  go_ret
  exact ⟨rfl, go_on (Me.below_alloc b2.out) b7.out⟩
/-- What holds between rounds. -/
structure Bp (w : World) (D b gb : Nat) (g : Int) (j : Nat) (wr : World) (v : Value) (s : St) (L : Ks) : Prop where
  set : ∃ n, n ≤ j ∧ Set wr true D b n s
  kv : Kv (fun k => ¬ (k = D ∨ k = b ∨ k = gb)) wr v L
  box : wr.heap[gb]? = some (.cells #[.int .i64 g, v] 29 (0, 0))
  rel : Rel s L
  room : s.room = g
  len : L.length ≤ j
  below : Below w.heap.size w wr
  ge : w.heap.size ≤ D ∧ w.heap.size ≤ b ∧ w.heap.size ≤ gb ∧ D ≠ gb ∧ b ≠ gb
set_option maxRecDepth 100000 in
set_option maxHeartbeats 16000000 in
theorem seenPlays_ok (g : Int) (A : Option Addr) (len cap : Nat) (ls : List Mg.Id4) (w : World) (h0 : 0 ≤ g) (h1 : g ≤ 256) (hl : len = ls.length ∧ len ≤ cap ∧ cap ≤ 9223372036854775807 ∧ Ids w A ls) : Calls Try.prog 3 #[.int .i64 g, .slice A len cap] w fun e w' => e = .returned (.bool true) ∧ Below w.heap.size w w' := by
  have HN := Lib.hid (fun W => New_ok g h0 h1 W)
  have HR := Lib.hid (fun W => RNew_ok g h0 h1 W)
  have HA := Lib.hid (fun W => awake_any W)
  obtain ⟨hl1, hl2, hl3, hids⟩ := hl
  have HCut := Lib.hid (fun W => cutL_any A len cap hl2 hl3 (fun hlt => by obtain ⟨b, off, e, _⟩ := hids 0 (by omega); exact ⟨b, off, e⟩) W)
  obtain ⟨N, hN⟩ : ∃ N, min len 60 = N := ⟨_, rfl⟩
  have hN2 : N ≤ len ∧ N ≤ 60 := by omega
  have HIds : Hid (∀ j, j < N → ∃ bl off, A = some ⟨bl, off, none⟩ ∧ bl < w.heap.size ∧ w.cell? ⟨bl, off + j * 4, none⟩ = some (.int .i64 (idAt ls j).o) ∧ w.cell? ⟨bl, off + j * 4 + 1, none⟩ = some (.int .i64 (idAt ls j).d) ∧ w.cell? ⟨bl, off + j * 4 + 2, none⟩ = some (.int .i64 (idAt ls j).e) ∧ w.cell? ⟨bl, off + j * 4 + 3, none⟩ = some (.int .i64 (idAt ls j).c)) := fun j hj => hids j (by omega)
  have hN3 : N ≤ 60 := hN2.2
  have hN4 : N ≤ cap := by omega
  clear hids hl1 hl2 hN2 h0 h1
  rw [hN] at HCut
  clear hN
  go_enter Try.func3, Try.ntmps3
  go_wp2_with (first
    | (go_at_call 9; refine (HN.out _).mono ?_; rintro e w1 ⟨D, b, rfl, hS, hD, hb, hb1⟩)
    | (go_at_call 10; refine (HR.out _).mono ?_; rintro e w2 ⟨rfl, b2⟩)
    | (go_at_call 12; refine (HCut.out _).mono ?_; rintro e w3 ⟨rfl, hw3⟩)
    | (go_at_call 11; refine (HA.out _).mono ?_; rintro e w7 ⟨rfl, b7⟩))
  obtain ⟨gb, hgb⟩ : ∃ x, w2.heap.size = x := ⟨_, rfl⟩
  have hlt := hS.lt
  have hs1 := hb1.out.size
  have hs2 := b2.out.size
  have k3 : Below w2.heap.size w2 w3 := by rw [← hw3]; exact Me.below_alloc (Below.refl _ _)
  have k23 := go_on b2.out k3
  have hbox : w3.heap[w2.heap.size]? = some (.cells #[.int .i64 g, .slice none 0 0] 29 (0, 0)) := by rw [← hw3]; exact heap_alloc_new w2 _
  rw [hgb] at hbox hs2 ⊢
  have B0 : Bp w D b gb g 0 w3 (.slice none 0 0) ⟨g, 0, fun _ _ => none⟩ [] :=
    ⟨⟨0, Nat.le_refl _, hS.below k23⟩, Kv.nil _ _, hbox, Rel.nil hS.ok (fun _ _ => rfl), rfl, Nat.le_refl _, go_on hb1.out k23, by omega, by omega, by omega, by omega, by omega⟩
  have HB0 := Lib.hid B0
  clear hgb hlt hs1 hs2 k3 k23 hbox B0 hS hD hb hb1 b2 hw3 HN HR HCut
  go_loopw [9] (fun v9 wr => ∃ (j : Nat) (v : Value) (s : St) (L : Ks), v9 = .int .i64 (j : Int) ∧ j ≤ N ∧ Hid (Bp w D b gb g j wr v s L)) (fun i _ => N - (intOf i).toNat)
  case atStart => exact ⟨0, _, _, _, rfl, Nat.zero_le _, HB0.out⟩
  case round =>
    obtain ⟨j, v, s, L, rfl, hj, HBo⟩ := hrel
    by_cases hlt : j < N
    · obtain ⟨⟨n, hn, hSet⟩, hkv, hbox, hrl, hroom, hlen, hbel, hge⟩ := HBo.out
      obtain ⟨A5, c5, rfl, _, _⟩ := hkv.form
      obtain ⟨bl, off, rfl, hbl, c0, c1, c2, c3⟩ := HIds.out j hlt
      have g1 : (j : Int) < (N : Int) := by omega
      have g2 : ¬ ((N : Int) ≤ (j : Int)) := by omega
      obtain ⟨x, hx⟩ : ∃ x, idAt ls j = x := ⟨_, rfl⟩
      rw [hx] at c0 c1 c2 c3
      clear hx
      obtain ⟨p, q, r, t⟩ := x
      simp only at c0 c1 c2 c3
      obtain ⟨iD, hiD⟩ : ∃ iD : Mg.Id4, (⟨p, q, r, t⟩ : Mg.Id4) = iD := ⟨_, rfl⟩
      have HiD : Hid (Mg.idC iD = #[.int .i64 p, .int .i64 q, .int .i64 r, .int .i64 t]) := by rw [← hiD]; rfl
      have HXc : Hid (∀ W, Below w.heap.size w W → W.cell? ⟨bl, off + j * 4, none⟩ = some (.int .i64 p) ∧ W.cell? ⟨bl, off + j * 4 + 1, none⟩ = some (.int .i64 q) ∧ W.cell? ⟨bl, off + j * 4 + 2, none⟩ = some (.int .i64 r) ∧ W.cell? ⟨bl, off + j * 4 + 3, none⟩ = some (.int .i64 t)) := fun W hW => by
        have hb := hW.block bl hbl
        exact ⟨(World.cell?_of_block hb).trans c0, (World.cell?_of_block hb).trans c1, (World.cell?_of_block hb).trans c2, (World.cell?_of_block hb).trans c3⟩
      have hSl := hSet.lt
      have hgl : gb < wr.heap.size := (Array.getElem?_eq_some_iff.1 hbox).1
      -- the calls
      have HCl : Hid (Calls Try.prog 13 #[.pointer (some ⟨D, 0, none⟩)] wr fun e w' => ∃ D' b' n', e = .returned (.pointer (some ⟨D', 0, none⟩)) ∧ n' ≤ n ∧ Hid (Set w' false D' b' n' s) ∧ wr.heap.size ≤ D' ∧ wr.heap.size ≤ b' ∧ Hid (Below wr.heap.size wr w')) := Clone_any true D b n s wr hSet (by omega)
      have HRM : Hid (∀ W, Below wr.heap.size wr W → Calls Try.prog 14 #[.agg #[.int .i64 g, .slice A5 L.length c5]] W fun e w' => ∃ v' P, e = .returned v' ∧ Hid (Mo w' W.heap.size v' P) ∧ msP P = marksL L ∧ Sm P L.length ∧ Hid (Below W.heap.size W w')) := fun W hW => RMarks_any _ g _ L W (hkv.below hW) (by omega)
      have HRY : Hid (∀ W, Below wr.heap.size wr W → Calls Try.prog 15 #[.agg #[.int .i64 g, .slice A5 L.length c5], .agg (Mg.idC iD)] W fun e w' => e = .returned (.int .i64 (mayN s iD : Nat)) ∧ Hid (Below W.heap.size W w')) := fun W hW => by
        have h := RMay_any _ g _ L iD W (hkv.below hW) (by omega)
        have h2 := hrl.may iD
        rw [hroom] at h2
        rw [h2] at h
        exact h
      have HRA : Hid (∀ (W : World) (Q : Nat → Prop), Below wr.heap.size wr W → (∀ k, k < wr.heap.size → ¬ (k = D ∨ k = b ∨ k = gb) → Q k) → (∀ k, W.heap.size ≤ k → Q k) → Calls Try.prog 16 #[.agg #[.int .i64 g, .slice A5 L.length c5], .agg (Mg.idC iD)] W fun e w' => ∃ v', e = .returned (.tuple #[.agg #[.int .i64 g, v'], .int .i64 (mayN s iD : Nat)]) ∧ Hid (Kv Q w' v' (raddL g L iD)) ∧ Hid (Below W.heap.size W w')) := fun W Q hW hq1 hq2 => by
        have h := RAdd_all Q g _ L iD W ((hkv.mono hq1).below hW) hq2 (by omega)
        have h2 := hrl.may iD
        rw [hroom] at h2
        rw [h2] at h
        exact h
      have hRel2 : Rel (addS s iD) (raddL g L iD) := by
        have h := hrl.add iD
        rw [hroom] at h
        exact h
      have hL2 : (raddL g L iD).length ≤ j + 1 := by have := radd_len g L iD; omega
      obtain ⟨s2, hs2⟩ : ∃ s2, addS s iD = s2 := ⟨_, rfl⟩
      obtain ⟨L2, hL2e⟩ : ∃ L2, raddL g L iD = L2 := ⟨_, rfl⟩
      obtain ⟨my, hmy⟩ : ∃ my, mayN s iD = my := ⟨_, rfl⟩
      have hroom2 : s2.room = g := by rw [← hs2, addS_room]; exact hroom
      have HMay : Hid (∀ W n', Set W true D b n' s → Calls Try.prog 17 #[.pointer (some ⟨D, 0, none⟩), .agg (Mg.idC iD)] W fun e w' => e = .returned (.int .i64 (my : Nat)) ∧ Hid (Below W.heap.size W w')) := fun W n' hW => by
        rw [← hmy]
        exact May_any true D b n' s iD W hW
      have HAdd : Hid (∀ W n', n' ≤ 60 → Set W true D b n' s → Calls Try.prog 18 #[.pointer (some ⟨D, 0, none⟩), .agg (Mg.idC iD)] W fun e w' => e = .returned (.int .i64 (my : Nat)) ∧ ∃ n2, n2 ≤ n' + 1 ∧ Hid (Set w' true D b n2 s2) ∧ Hid (But (fun k => k = D ∨ k = b) W w')) := fun W n' hn' hW => by
        rw [← hmy, ← hs2]
        exact Add_all D b n' s iD W hW (by omega)
      rw [hs2, hL2e] at hRel2
      rw [hL2e] at HRA hL2
      rw [hmy] at HRY HRA
      have HRel := Lib.hid hrl
      have HRel2 := Lib.hid hRel2
      have HL2 := Lib.hid hL2
      have HRoom2 := Lib.hid hroom2
      have HSet := Lib.hid hSet
      have HBox := Lib.hid hbox
      have HBel := Lib.hid hbel
      have HGe := Lib.hid hge
      have HLl := Lib.hid (show L.length ≤ 60 by omega)
      have HN60 := Lib.hid (show n ≤ 59 by omega)
      have HNj := Lib.hid hn
      have HSl := Lib.hid hSl
      have HGl := Lib.hid hgl
      rw [HiD.out] at HRY HRA HMay HAdd
      have y0 : wr.cell? ⟨gb, 0, none⟩ = some (.int .i64 g) := cell_of_row wr gb 0 _ _ (0, 0) hbox
      have y1 : wr.cell? ⟨gb, 1, none⟩ = some (.slice A5 L.length c5) := cell_of_row wr gb 1 _ _ (0, 0) hbox
      have HBX : Hid (∀ W, Below wr.heap.size wr W → W.cell? ⟨gb, 0, none⟩ = some (.int .i64 g) ∧ W.cell? ⟨gb, 1, none⟩ = some (.slice A5 L.length c5)) := fun W hW => ⟨(hW.cell hgl).trans y0, (hW.cell hgl).trans y1⟩
      clear hkv hbox hrl hroom hlen hbel hge hSet hSl hgl c0 c1 c2 c3 hbl hRel2 hL2 hs2 hL2e hmy hroom2 hiD hn y0 y1
      go_wp2_with (first
        | (go_at_call 13; refine HCl.out.mono ?_; rintro e w4 ⟨D', b', n', rfl, hn', hS4, hD', hb', hb4⟩; obtain ⟨y0, y1⟩ := HBX.out w4 hb4.out)
        | (go_at_call 14; refine (HRM.out w4 hb4.out).mono ?_; rintro e w5 ⟨v5, P5, rfl, hM5, hP5, _, hb5⟩))
      have k5 : Below wr.heap.size wr w5 := go_on hb4.out hb5.out
      have HK5 := Lib.hid k5
      have S0 : Below w5.heap.size w5 w5.drew := (Below.refl _ _).drew
      refine wp_region_held_drew (S := fun W => Below w5.heap.size w5 W) (by kernel_rfl) S0 (fun hHeld => ?_)
      refine wpAnyH_take (i := 0) (v := .agg #[.int .i64 g, .slice A5 L.length c5]) rfl (by kernel_rfl) (by kernel_rfl) (by kernel_rfl) (fun _ _ _ h => h) (Or.inl ⟨by rfl, ?_⟩) (by first | assumption | exact trivial) ?_
      · intro W hSW; obtain ⟨y0, y1⟩ := HBX.out W (go_on HK5.out hSW); go_simp; try (with_reducible rfl)
      simp only [Act.put, List.getElem_toArray, List.getElem_cons_succ, List.getElem_cons_zero, List.setIfInBounds_toArray, List.set_cons_zero, List.set_cons_succ]
      refine wpAnyH_take (i := 1) (v := .slice (some ⟨bl, off, none⟩) N cap) rfl (by kernel_rfl) (by kernel_rfl) (by kernel_rfl) (fun _ _ _ h => h) (Or.inl ⟨by rfl, ?_⟩) (by first | assumption | exact trivial) ?_
      · intro W hSW; go_simp; try (with_reducible rfl)
      simp only [Act.put, List.getElem_toArray, List.getElem_cons_succ, List.getElem_cons_zero, List.setIfInBounds_toArray, List.set_cons_zero, List.set_cons_succ]
      refine wpAnyH_take (i := 2) (v := .int .i64 (j : Int)) rfl (by kernel_rfl) (by kernel_rfl) (by kernel_rfl) (fun _ _ _ h => h) (Or.inl ⟨by rfl, ?_⟩) (by first | assumption | exact trivial) ?_
      · intro W hSW; go_simp; try (with_reducible rfl)
      simp only [Act.put, List.getElem_toArray, List.getElem_cons_succ, List.getElem_cons_zero, List.setIfInBounds_toArray, List.set_cons_zero, List.set_cons_succ]
      refine wpAnyH_take (i := 3) (v := .pointer (some ⟨bl, off + j * 4, none⟩)) rfl (by kernel_rfl) (by kernel_rfl) (by kernel_rfl) (fun _ _ _ h => h) (Or.inl ⟨by rfl, ?_⟩) (by first | assumption | exact trivial) ?_
      · intro W hSW; go_simp; try (with_reducible rfl)
      simp only [Act.put, List.getElem_toArray, List.getElem_cons_succ, List.getElem_cons_zero, List.setIfInBounds_toArray, List.set_cons_zero, List.set_cons_succ]
      refine wpAnyH_take (i := 4) (v := .agg #[.int .i64 p, .int .i64 q, .int .i64 r, .int .i64 t]) rfl (by kernel_rfl) (by kernel_rfl) (by kernel_rfl) (fun _ _ _ h => h) (Or.inl ⟨by rfl, ?_⟩) (by first | assumption | exact trivial) ?_
      · intro W hSW; obtain ⟨e0, e1, e2, e3⟩ := HXc.out W (go_on HBel.out (go_on HK5.out hSW)); go_simp; try (with_reducible rfl)
      simp only [Act.put, List.getElem_toArray, List.getElem_cons_succ, List.getElem_cons_zero, List.setIfInBounds_toArray, List.set_cons_zero, List.set_cons_succ]
      refine wpAnyH_ready (rs := [5]) (by kernel_rfl) (by simp) ?_
      refine AllReadyH.cons rfl (fun K hK => ?_) AllReadyH.nil
      go_simp
      go_wp2_with (go_at_call 15; refine (HRY.out _ (go_on HK5.out S0)).mono ?_; rintro e w6 ⟨rfl, hb6⟩)
      have k6 : Below w5.heap.size w5 w6 := go_on S0 hb6.out
      refine hK.out _ _ (k6) (fun hHeld => ?_)
      clear hK K
      refine wpAnyH_take (i := 6) (v := .int .i64 (my : Nat)) rfl (by kernel_rfl) (by kernel_rfl) (by kernel_rfl) (fun _ _ _ h => h) (Or.inl ⟨by rfl, ?_⟩) (by first | assumption | exact trivial) ?_
      · intro W hSW; go_simp; try (with_reducible rfl)
      simp only [Act.put, List.getElem_toArray, List.getElem_cons_succ, List.getElem_cons_zero, List.setIfInBounds_toArray, List.set_cons_zero, List.set_cons_succ]
      refine wpAnyH_done (by kernel_rfl) ?_ _
      clear hHeld
      go_wp2
      have S1 : Below w5.heap.size w5 w6.drew := k6.drew
      have HW5 : Hid (wr.heap.size ≤ w5.heap.size) := HK5.out.size
      refine wp_region_held_drew (S := fun W => Below w5.heap.size w5 W) (by kernel_rfl) S1 (fun hHeld => ?_)
      refine wpAnyH_take (i := 0) (v := .agg #[.int .i64 g, .slice A5 L.length c5]) rfl (by kernel_rfl) (by kernel_rfl) (by kernel_rfl) (fun _ _ _ h => h) (Or.inl ⟨by rfl, ?_⟩) (by first | assumption | exact trivial) ?_
      · intro W hSW; obtain ⟨y0, y1⟩ := HBX.out W (go_on HK5.out hSW); go_simp; try (with_reducible rfl)
      simp only [Act.put, List.getElem_toArray, List.getElem_cons_succ, List.getElem_cons_zero, List.setIfInBounds_toArray, List.set_cons_zero, List.set_cons_succ]
      refine wpAnyH_take (i := 1) (v := .slice (some ⟨bl, off, none⟩) N cap) rfl (by kernel_rfl) (by kernel_rfl) (by kernel_rfl) (fun _ _ _ h => h) (Or.inl ⟨by rfl, ?_⟩) (by first | assumption | exact trivial) ?_
      · intro W hSW; go_simp; try (with_reducible rfl)
      simp only [Act.put, List.getElem_toArray, List.getElem_cons_succ, List.getElem_cons_zero, List.setIfInBounds_toArray, List.set_cons_zero, List.set_cons_succ]
      refine wpAnyH_take (i := 2) (v := .int .i64 (j : Int)) rfl (by kernel_rfl) (by kernel_rfl) (by kernel_rfl) (fun _ _ _ h => h) (Or.inl ⟨by rfl, ?_⟩) (by first | assumption | exact trivial) ?_
      · intro W hSW; go_simp; try (with_reducible rfl)
      simp only [Act.put, List.getElem_toArray, List.getElem_cons_succ, List.getElem_cons_zero, List.setIfInBounds_toArray, List.set_cons_zero, List.set_cons_succ]
      refine wpAnyH_take (i := 3) (v := .pointer (some ⟨bl, off + j * 4, none⟩)) rfl (by kernel_rfl) (by kernel_rfl) (by kernel_rfl) (fun _ _ _ h => h) (Or.inl ⟨by rfl, ?_⟩) (by first | assumption | exact trivial) ?_
      · intro W hSW; go_simp; try (with_reducible rfl)
      simp only [Act.put, List.getElem_toArray, List.getElem_cons_succ, List.getElem_cons_zero, List.setIfInBounds_toArray, List.set_cons_zero, List.set_cons_succ]
      refine wpAnyH_take (i := 4) (v := .agg #[.int .i64 p, .int .i64 q, .int .i64 r, .int .i64 t]) rfl (by kernel_rfl) (by kernel_rfl) (by kernel_rfl) (fun _ _ _ h => h) (Or.inl ⟨by rfl, ?_⟩) (by first | assumption | exact trivial) ?_
      · intro W hSW; obtain ⟨e0, e1, e2, e3⟩ := HXc.out W (go_on HBel.out (go_on HK5.out hSW)); go_simp; try (with_reducible rfl)
      simp only [Act.put, List.getElem_toArray, List.getElem_cons_succ, List.getElem_cons_zero, List.setIfInBounds_toArray, List.set_cons_zero, List.set_cons_succ]
      refine wpAnyH_ready (rs := [5, 9]) (by kernel_rfl) (by simp) ?_
      refine AllReadyH.cons rfl (fun K hK => ?pa) (AllReadyH.cons rfl (fun K hK => ?pb) AllReadyH.nil)
      case' pa =>
        go_simp
        go_wp2_with (go_at_call 16; refine (HRA.out _ (fun k => ¬ (k = D ∨ k = b ∨ k = gb)) (go_on HK5.out S1) (fun _ _ h => h) (fun k hk => by have h1 := (go_on HK5.out S1).size; have h2 := HSl.out; have h3 := HGl.out; rintro (h4 | h4 | h4) <;> omega)).mono ?_; rintro e w7 ⟨v7, rfl, hk7, hb7⟩)
        obtain ⟨A7, c7, rfl, _, _⟩ := hk7.out.form
        have k7 : Below w5.heap.size w5 w7 := go_on S1 hb7.out
        refine hK.out _ _ (k7) (fun hHeld => ?_)
        clear hK K
        refine wpAnyH_take (i := 6) (v := .tuple #[.agg #[.int .i64 g, .slice A7 L2.length c7], .int .i64 (my : Nat)]) rfl (by kernel_rfl) (by kernel_rfl) (by kernel_rfl) (fun _ _ _ h => h) (Or.inl ⟨by rfl, ?_⟩) (by first | assumption | exact trivial) ?_
        · intro W hSW; go_simp; try (with_reducible rfl)
        simp only [Act.put, List.getElem_toArray, List.getElem_cons_succ, List.getElem_cons_zero, List.setIfInBounds_toArray, List.set_cons_zero, List.set_cons_succ]
        refine wpAnyH_take (i := 7) (v := .agg #[.int .i64 g, .slice A7 L2.length c7]) rfl (by kernel_rfl) (by kernel_rfl) (by kernel_rfl) (fun _ _ _ h => h) (Or.inl ⟨by rfl, ?_⟩) (by first | assumption | exact trivial) ?_
        · intro W hSW; go_simp; try (with_reducible rfl)
        simp only [Act.put, List.getElem_toArray, List.getElem_cons_succ, List.getElem_cons_zero, List.setIfInBounds_toArray, List.set_cons_zero, List.set_cons_succ]
        refine wpAnyH_take (i := 8) (v := .int .i64 (my : Nat)) rfl (by kernel_rfl) (by kernel_rfl) (by kernel_rfl) (fun _ _ _ h => h) (Or.inl ⟨by rfl, ?_⟩) (by first | assumption | exact trivial) ?_
        · intro W hSW; go_simp; try (with_reducible rfl)
        simp only [Act.put, List.getElem_toArray, List.getElem_cons_succ, List.getElem_cons_zero, List.setIfInBounds_toArray, List.set_cons_zero, List.set_cons_succ]
        refine wpAnyH_ready (rs := [9]) (by kernel_rfl) (by simp) ?_
        refine AllReadyH.cons rfl (fun K hK => ?_) AllReadyH.nil
        go_simp
        obtain ⟨V6, hV6⟩ : ∃ V, w7.alloc (.cells #[.int .i64 0, .slice none 0 0] 29) = V := ⟨_, rfl⟩
        have hb6 : Below w5.heap.size w5 V6 := by rw [← hV6]; exact Me.below_alloc k7
        have hk6 : Kv (fun k => ¬ (k = D ∨ k = b ∨ k = gb) ∧ k ≠ w7.heap.size) V6 (.slice A7 L2.length c7) L2 := by
          rw [← hV6]
          exact (hk7.out.mono fun k hk hq => ⟨hq, by omega⟩).below (Me.below_alloc (Below.refl _ _))
        have hD6 : V6.heap[w7.heap.size]? = some (.cells #[.int .i64 0, .slice none 0 0] 29 (0, 0)) := by rw [← hV6]; exact heap_alloc_new w7 _
        obtain ⟨X, hX⟩ : ∃ X, w7.heap.size = X := ⟨_, rfl⟩
        have hXX : w5.heap.size ≤ X := by have := k7.size; omega
        rw [hV6]
        rw [hX] at hD6 hk6 ⊢
        clear hV6 hX
        refine hK.out _ _ (hb6) (fun hHeld => ?_)
        clear hK K
      case' pb =>
        go_simp
        obtain ⟨V5, hV5⟩ : ∃ V, (w6.alloc (.cells #[.int .i64 0, .slice none 0 0] 29)).drew = V := ⟨_, rfl⟩
        have hb5' : Below w5.heap.size w5 V5 := by rw [← hV5]; exact (Me.below_alloc k6).drew
        have hD5 : V5.heap[w6.heap.size]? = some (.cells #[.int .i64 0, .slice none 0 0] 29 (0, 0)) := by rw [← hV5]; exact heap_alloc_new w6 _
        obtain ⟨X, hX⟩ : ∃ X, w6.heap.size = X := ⟨_, rfl⟩
        have hXX : w5.heap.size ≤ X := by have := k6.size; omega
        rw [hV5]
        rw [hX] at hD5 ⊢
        clear hV5 hX
        have hXl : X < V5.heap.size := (Array.getElem?_eq_some_iff.1 hD5).1
        refine hK.out _ _ (hb5') (fun hHeld => ?_)
        clear hK K
        refine wpAnyH_ready (rs := [5]) (by kernel_rfl) (by simp) ?_
        refine AllReadyH.cons rfl (fun K hK => ?_) AllReadyH.nil
        go_simp
        go_wp2_with (go_at_call 16; refine (HRA.out _ (fun k => ¬ (k = D ∨ k = b ∨ k = gb) ∧ k ≠ X) (go_on HK5.out hb5') (fun k hk h => ⟨h, by have := HW5.out; omega⟩) (fun k hk => by have h1 := (go_on HK5.out hb5').size; have h2 := HSl.out; have h3 := HGl.out; exact ⟨by rintro (h4 | h4 | h4) <;> omega, by omega⟩)).mono ?_; rintro e V6 ⟨v7, rfl, hk7, hb7⟩)
        obtain ⟨A7, c7, rfl, _, _⟩ := hk7.out.form
        have hb6 : Below w5.heap.size w5 V6 := go_on hb5' hb7.out
        have hk6 := hk7.out
        have hD6 := (hb7.out.block _ hXl).trans hD5
        refine hK.out _ _ (hb6) (fun hHeld => ?_)
        clear hK K
        refine wpAnyH_take (i := 6) (v := .tuple #[.agg #[.int .i64 g, .slice A7 L2.length c7], .int .i64 (my : Nat)]) rfl (by kernel_rfl) (by kernel_rfl) (by kernel_rfl) (fun _ _ _ h => h) (Or.inl ⟨by rfl, ?_⟩) (by first | assumption | exact trivial) ?_
        · intro W hSW; go_simp; try (with_reducible rfl)
        simp only [Act.put, List.getElem_toArray, List.getElem_cons_succ, List.getElem_cons_zero, List.setIfInBounds_toArray, List.set_cons_zero, List.set_cons_succ]
        refine wpAnyH_take (i := 7) (v := .agg #[.int .i64 g, .slice A7 L2.length c7]) rfl (by kernel_rfl) (by kernel_rfl) (by kernel_rfl) (fun _ _ _ h => h) (Or.inl ⟨by rfl, ?_⟩) (by first | assumption | exact trivial) ?_
        · intro W hSW; go_simp; try (with_reducible rfl)
        simp only [Act.put, List.getElem_toArray, List.getElem_cons_succ, List.getElem_cons_zero, List.setIfInBounds_toArray, List.set_cons_zero, List.set_cons_succ]
        refine wpAnyH_take (i := 8) (v := .int .i64 (my : Nat)) rfl (by kernel_rfl) (by kernel_rfl) (by kernel_rfl) (fun _ _ _ h => h) (Or.inl ⟨by rfl, ?_⟩) (by first | assumption | exact trivial) ?_
        · intro W hSW; go_simp; try (with_reducible rfl)
        simp only [Act.put, List.getElem_toArray, List.getElem_cons_succ, List.getElem_cons_zero, List.setIfInBounds_toArray, List.set_cons_zero, List.set_cons_succ]
      all_goals
        refine wpAnyH_ready (rs := [10]) (by kernel_rfl) (by simp) ?_
        refine AllReadyH.cons rfl (fun K hK => ?_) AllReadyH.nil
        rw [if_pos (by kernel_rfl)]
        refine wp_store_row 29 (.tmp 13) (.tmp 63) rfl X #[.int .i64 g, .slice A7 L2.length c7] rfl (by rfl) 29 _ hD6 (by kernel_rfl) rfl (set_one g _ rfl) ?_
        simp only [Act.put, List.getElem_toArray, List.getElem_cons_succ, List.getElem_cons_zero, List.setIfInBounds_toArray, List.set_cons_zero, List.set_cons_succ]
        obtain ⟨V9, hV9⟩ : ∃ V, V6.setRow X #[.int .i64 g, .slice A7 L2.length c7] = V := ⟨_, rfl⟩
        have hb9 : Below w5.heap.size w5 V9 := by rw [← hV9]; exact Sb.below_setRow _ hb6 hXX
        have hD9 : V9.heap[X]? = some (.cells #[.int .i64 g, .slice A7 L2.length c7] 29 (0, 0)) := by rw [← hV9]; exact setRow_heap _ _ _ _ _ _ hD6
        have hk9 : Kv (fun k => ¬ (k = D ∨ k = b ∨ k = gb)) V9 (.slice A7 L2.length c7) L2 := by
          rw [← hV9]
          exact (hk6.but (S := fun k => k = X) (But.setRow (S := fun k => k = X) (D := X) (But.refl _ _) (.inl rfl) _) fun k hk => hk.2).mono fun _ _ h => h.1
        rw [hV9]
        clear hV9
        refine hK.out _ _ (hb9) (fun hHeld => ?_)
        clear hK K
        refine wpAnyH_take (i := 11) (v := .int .i64 (my : Nat)) rfl (by kernel_rfl) (by kernel_rfl) (by kernel_rfl) (fun _ _ _ h => h) (Or.inl ⟨by rfl, ?_⟩) (by first | assumption | exact trivial) ?_
        · intro W hSW; go_simp; try (with_reducible rfl)
        simp only [Act.put, List.getElem_toArray, List.getElem_cons_succ, List.getElem_cons_zero, List.setIfInBounds_toArray, List.set_cons_zero, List.set_cons_succ]
        refine wpAnyH_done (by kernel_rfl) ?_ _
        have z0 : V9.cell? ⟨X, 0, none⟩ = some (.int .i64 g) := cell_of_row V9 X 0 _ _ (0, 0) hD9
        have z1 : V9.cell? ⟨X, 1, none⟩ = some (.slice A7 L2.length c7) := cell_of_row V9 X 1 _ _ (0, 0) hD9
        have hx9 : V9.heap[gb]? = some (.cells #[.int .i64 g, .slice A5 L.length c5] 29 (0, 0)) := ((go_on HK5.out hb9).block gb HGl.out).trans HBox.out
        have HX9 := Lib.hid hx9
        have HB9 := Lib.hid hb9
        have HK9 := Lib.hid hk9
        clear hHeld hb6 hk6 hD6 hXX hb9 hk9 hD9 hx9
        go_wp2_with (refine wpList_store_row rfl 29 (.tmp 7) (.tmp 65) rfl gb #[.int .i64 g, .slice A7 L2.length c7] rfl rfl 29 _ HX9.out (by kernel_rfl) rfl (set_one g _ rfl) ?_; obtain ⟨V, hV⟩ : ∃ V, V9.setRow gb #[.int .i64 g, .slice A7 L2.length c7] = V := ⟨_, rfl⟩; have hB10 : But (fun k => k = gb) V9 V := (by rw [← hV]; exact But.setRow (S := fun k => k = gb) (D := gb) (But.refl _ _) (.inl rfl) _); have hx10 : V.heap[gb]? = some (.cells #[.int .i64 g, .slice A7 L2.length c7] 29 (0, 0)) := (by rw [← hV]; exact setRow_heap _ _ _ _ _ _ HX9.out); rw [hV]; clear hV)
        have hge := HGe.out
        have hSw9 : Set V9 true D b n s := HSet.out.below (go_on HK5.out HB9.out)
        have hS10 : Set V true D b n s := hSw9.but hB10 (fun h => by omega) (fun h => by omega) (box_notInt HX9.out)
        have hgC : gb < D' ∧ gb < b' := by have := HGl.out; omega
        have hC9 : Set V9 false D' b' n' s := (hS4.out.below hb5.out).below HB9.out
        have hC10 : Set V false D' b' n' s := hC9.but hB10 (fun h => by omega) (fun h => by omega) (box_notInt HX9.out)
        have hM10 : Mw V w4.heap.size v5 P5 := (hM5.out.mw.below HB9.out).butP hB10 fun k hk => by have h1 := hb4.out.size; have h2 := HGl.out; omega
        have hk10 : Kv (fun k => ¬ (k = D ∨ k = b ∨ k = gb)) V (.slice A7 L2.length c7) L2 := HK9.out.but hB10 fun k h1 h2 => h1 (by simp [h2])
        have hw10 : Below w.heap.size w V := (go_on HBel.out (go_on HK5.out HB9.out)).trans (hB10.below (go_on HBel.out (go_on HK5.out HB9.out)).size fun k hk => by omega)
        have HS10 := Lib.hid hS10
        have HC10 := Lib.hid hC10
        have HM10 := Lib.hid hM10
        have HK10 := Lib.hid hk10
        have HW10 := Lib.hid hw10
        have HX10 := Lib.hid hx10
        have HDp : Hid (D < wr.heap.size ∧ b < wr.heap.size ∧ gb < wr.heap.size ∧ wr.heap.size ≤ D' ∧ wr.heap.size ≤ b' ∧ wr.heap.size ≤ w4.heap.size) := ⟨HSl.out.1, HSl.out.2, HGl.out, hD', hb', hb4.out.size⟩
        have HN' := Lib.hid (show n' ≤ 60 by have := HN60.out; omega)
        have HP5 := Lib.hid hP5
        clear hSw9 hS10 hgC hC9 hC10 hM10 hk10 hw10 hx10 hB10 hge hM5 hb5 hb4 hS4 hD' hb' hn' hP5 hb7 hk7 S1 S0 k6 k5 hb6 y0 y1 z0 z1
        have HGB : Hid (∀ W, But (fun k => k = D ∨ k = b) V W → W.cell? ⟨gb, 0, none⟩ = some (.int .i64 g) ∧ W.cell? ⟨gb, 1, none⟩ = some (.slice A7 L2.length c7)) := fun W hW => by
          have h := hW.at_ HX10.out (by have := HGe.out; omega)
          exact ⟨cell_of_row W gb 0 _ _ (0, 0) h, cell_of_row W gb 1 _ _ (0, 0) h⟩
        have HIC : Hid (∀ W, But (fun k => k = D ∨ k = b) V W → W.cell? ⟨bl, off + j * 4, none⟩ = some (.int .i64 p) ∧ W.cell? ⟨bl, off + j * 4 + 1, none⟩ = some (.int .i64 q) ∧ W.cell? ⟨bl, off + j * 4 + 2, none⟩ = some (.int .i64 r) ∧ W.cell? ⟨bl, off + j * 4 + 3, none⟩ = some (.int .i64 t)) := fun W hW => HXc.out W (HW10.out.trans (hW.below HW10.out.size fun k hk => by have := HGe.out; omega))
        have T0 : But (fun k => k = D ∨ k = b) V V.drew := But.of_below (Below.refl _ _).drew
        go_wp2
        refine wp_region_held_drew (S := fun W => But (fun k => k = D ∨ k = b) V W) (by kernel_rfl) T0 (fun hHeld => ?_)
        refine wpAnyH_take (i := 0) (v := .pointer (some ⟨D', 0, none⟩)) rfl (by kernel_rfl) (by kernel_rfl) (by kernel_rfl) (fun _ _ _ h => h) (Or.inl ⟨by rfl, ?_⟩) (by first | assumption | exact trivial) ?_
        · intro W hSW; go_simp; try (with_reducible rfl)
        simp only [Act.put, List.getElem_toArray, List.getElem_cons_succ, List.getElem_cons_zero, List.setIfInBounds_toArray, List.set_cons_zero, List.set_cons_succ]
        refine wpAnyH_take (i := 1) (v := .bool false) rfl (by kernel_rfl) (by kernel_rfl) (by kernel_rfl) (fun _ _ _ h => h) (Or.inl ⟨by rfl, ?_⟩) (by first | assumption | exact trivial) ?_
        · intro W hSW; go_simp; try (with_reducible rfl)
        simp only [Act.put, List.getElem_toArray, List.getElem_cons_succ, List.getElem_cons_zero, List.setIfInBounds_toArray, List.set_cons_zero, List.set_cons_succ]
        refine wpAnyH_take (i := 2) (v := .bool false) rfl (by kernel_rfl) (by kernel_rfl) (by kernel_rfl) (fun _ _ _ h => h) (Or.inl ⟨by rfl, ?_⟩) (by first | assumption | exact trivial) ?_
        · intro W hSW; go_simp; try (with_reducible rfl)
        simp only [Act.put, List.getElem_toArray, List.getElem_cons_succ, List.getElem_cons_zero, List.setIfInBounds_toArray, List.set_cons_zero, List.set_cons_succ]
        refine wpAnyH_take (i := 3) (v := .pointer (some ⟨D, 0, none⟩)) rfl (by kernel_rfl) (by kernel_rfl) (by kernel_rfl) (fun _ _ _ h => h) (Or.inl ⟨by rfl, ?_⟩) (by first | assumption | exact trivial) ?_
        · intro W hSW; go_simp; try (with_reducible rfl)
        simp only [Act.put, List.getElem_toArray, List.getElem_cons_succ, List.getElem_cons_zero, List.setIfInBounds_toArray, List.set_cons_zero, List.set_cons_succ]
        refine wpAnyH_take (i := 4) (v := .slice (some ⟨bl, off, none⟩) N cap) rfl (by kernel_rfl) (by kernel_rfl) (by kernel_rfl) (fun _ _ _ h => h) (Or.inl ⟨by rfl, ?_⟩) (by first | assumption | exact trivial) ?_
        · intro W hSW; go_simp; try (with_reducible rfl)
        simp only [Act.put, List.getElem_toArray, List.getElem_cons_succ, List.getElem_cons_zero, List.setIfInBounds_toArray, List.set_cons_zero, List.set_cons_succ]
        refine wpAnyH_take (i := 5) (v := .int .i64 (j : Int)) rfl (by kernel_rfl) (by kernel_rfl) (by kernel_rfl) (fun _ _ _ h => h) (Or.inl ⟨by rfl, ?_⟩) (by first | assumption | exact trivial) ?_
        · intro W hSW; go_simp; try (with_reducible rfl)
        simp only [Act.put, List.getElem_toArray, List.getElem_cons_succ, List.getElem_cons_zero, List.setIfInBounds_toArray, List.set_cons_zero, List.set_cons_succ]
        refine wpAnyH_take (i := 6) (v := .pointer (some ⟨bl, off + j * 4, none⟩)) rfl (by kernel_rfl) (by kernel_rfl) (by kernel_rfl) (fun _ _ _ h => h) (Or.inl ⟨by rfl, ?_⟩) (by first | assumption | exact trivial) ?_
        · intro W hSW; go_simp; try (with_reducible rfl)
        simp only [Act.put, List.getElem_toArray, List.getElem_cons_succ, List.getElem_cons_zero, List.setIfInBounds_toArray, List.set_cons_zero, List.set_cons_succ]
        refine wpAnyH_take (i := 7) (v := .agg #[.int .i64 p, .int .i64 q, .int .i64 r, .int .i64 t]) rfl (by kernel_rfl) (by kernel_rfl) (by kernel_rfl) (fun _ _ _ h => h) (Or.inl ⟨by rfl, ?_⟩) (by first | assumption | exact trivial) ?_
        · intro W hSW; obtain ⟨e0, e1, e2, e3⟩ := HIC.out W hSW; go_simp; try (with_reducible rfl)
        simp only [Act.put, List.getElem_toArray, List.getElem_cons_succ, List.getElem_cons_zero, List.setIfInBounds_toArray, List.set_cons_zero, List.set_cons_succ]
        refine wpAnyH_take (i := 9) (v := .int .i64 (my : Nat)) rfl (by kernel_rfl) (by kernel_rfl) (by kernel_rfl) (fun _ _ _ h => h) (Or.inl ⟨by rfl, ?_⟩) (by first | assumption | exact trivial) ?_
        · intro W hSW; go_simp; try (with_reducible rfl)
        simp only [Act.put, List.getElem_toArray, List.getElem_cons_succ, List.getElem_cons_zero, List.setIfInBounds_toArray, List.set_cons_zero, List.set_cons_succ]
        refine wpAnyH_ready (rs := [8]) (by kernel_rfl) (by simp) ?_
        refine AllReadyH.cons rfl (fun K hK => ?_) AllReadyH.nil
        go_simp
        go_wp2_with (go_at_call 17; refine (HMay.out _ n (HS10.out.below (Below.refl _ _).drew)).mono ?_; rintro e w9 ⟨rfl, hb9⟩)
        have j9 : Below V.heap.size V w9 := go_on (Below.refl _ _).drew hb9.out
        have T9 : But (fun k => k = D ∨ k = b) V w9 := But.of_below j9
        refine hK.out _ _ (T9) (fun hHeld => ?_)
        clear hK K
        refine wpAnyH_take (i := 10) (v := .bool false) rfl (by kernel_rfl) (by kernel_rfl) (by kernel_rfl) (fun _ _ _ h => h) (Or.inl ⟨by rfl, ?_⟩) (by first | assumption | exact trivial) ?_
        · intro W hSW; go_simp; try (with_reducible rfl)
        simp only [Act.put, List.getElem_toArray, List.getElem_cons_succ, List.getElem_cons_zero, List.setIfInBounds_toArray, List.set_cons_zero, List.set_cons_succ]
        refine wpAnyH_take (i := 11) (v := .bool false) rfl (by kernel_rfl) (by kernel_rfl) (by kernel_rfl) (fun _ _ _ h => h) (Or.inl ⟨by rfl, ?_⟩) (by first | assumption | exact trivial) ?_
        · intro W hSW; go_simp; try (with_reducible rfl)
        simp only [Act.put, List.getElem_toArray, List.getElem_cons_succ, List.getElem_cons_zero, List.setIfInBounds_toArray, List.set_cons_zero, List.set_cons_succ]
        refine wpAnyH_take (i := 12) (v := .bool false) rfl (by kernel_rfl) (by kernel_rfl) (by kernel_rfl) (fun _ _ _ h => h) (Or.inl ⟨by rfl, ?_⟩) (by first | assumption | exact trivial) ?_
        · intro W hSW; go_simp; try (with_reducible rfl)
        simp only [Act.put, List.getElem_toArray, List.getElem_cons_succ, List.getElem_cons_zero, List.setIfInBounds_toArray, List.set_cons_zero, List.set_cons_succ]
        refine wpAnyH_take (i := 13) (v := .pointer (some ⟨D, 0, none⟩)) rfl (by kernel_rfl) (by kernel_rfl) (by kernel_rfl) (fun _ _ _ h => h) (Or.inl ⟨by rfl, ?_⟩) (by first | assumption | exact trivial) ?_
        · intro W hSW; go_simp; try (with_reducible rfl)
        simp only [Act.put, List.getElem_toArray, List.getElem_cons_succ, List.getElem_cons_zero, List.setIfInBounds_toArray, List.set_cons_zero, List.set_cons_succ]
        refine wpAnyH_take (i := 14) (v := .slice (some ⟨bl, off, none⟩) N cap) rfl (by kernel_rfl) (by kernel_rfl) (by kernel_rfl) (fun _ _ _ h => h) (Or.inl ⟨by rfl, ?_⟩) (by first | assumption | exact trivial) ?_
        · intro W hSW; go_simp; try (with_reducible rfl)
        simp only [Act.put, List.getElem_toArray, List.getElem_cons_succ, List.getElem_cons_zero, List.setIfInBounds_toArray, List.set_cons_zero, List.set_cons_succ]
        refine wpAnyH_take (i := 15) (v := .int .i64 (j : Int)) rfl (by kernel_rfl) (by kernel_rfl) (by kernel_rfl) (fun _ _ _ h => h) (Or.inl ⟨by rfl, ?_⟩) (by first | assumption | exact trivial) ?_
        · intro W hSW; go_simp; try (with_reducible rfl)
        simp only [Act.put, List.getElem_toArray, List.getElem_cons_succ, List.getElem_cons_zero, List.setIfInBounds_toArray, List.set_cons_zero, List.set_cons_succ]
        refine wpAnyH_take (i := 16) (v := .pointer (some ⟨bl, off + j * 4, none⟩)) rfl (by kernel_rfl) (by kernel_rfl) (by kernel_rfl) (fun _ _ _ h => h) (Or.inl ⟨by rfl, ?_⟩) (by first | assumption | exact trivial) ?_
        · intro W hSW; go_simp; try (with_reducible rfl)
        simp only [Act.put, List.getElem_toArray, List.getElem_cons_succ, List.getElem_cons_zero, List.setIfInBounds_toArray, List.set_cons_zero, List.set_cons_succ]
        refine wpAnyH_take (i := 17) (v := .agg #[.int .i64 p, .int .i64 q, .int .i64 r, .int .i64 t]) rfl (by kernel_rfl) (by kernel_rfl) (by kernel_rfl) (fun _ _ _ h => h) (Or.inl ⟨by rfl, ?_⟩) (by first | assumption | exact trivial) ?_
        · intro W hSW; obtain ⟨e0, e1, e2, e3⟩ := HIC.out W hSW; go_simp; try (with_reducible rfl)
        simp only [Act.put, List.getElem_toArray, List.getElem_cons_succ, List.getElem_cons_zero, List.setIfInBounds_toArray, List.set_cons_zero, List.set_cons_succ]
        refine wpAnyH_take (i := 19) (v := .int .i64 (my : Nat)) rfl (by kernel_rfl) (by kernel_rfl) (by kernel_rfl) (fun _ _ _ h => h) (Or.inl ⟨by rfl, ?_⟩) (by first | assumption | exact trivial) ?_
        · intro W hSW; go_simp; try (with_reducible rfl)
        simp only [Act.put, List.getElem_toArray, List.getElem_cons_succ, List.getElem_cons_zero, List.setIfInBounds_toArray, List.set_cons_zero, List.set_cons_succ]
        refine wpAnyH_ready (rs := [18]) (by kernel_rfl) (by simp) ?_
        refine AllReadyH.cons rfl (fun K hK => ?_) AllReadyH.nil
        go_simp
        go_wp2_with (go_at_call 18; refine (HAdd.out _ n (by have := HN60.out; omega) (HS10.out.below j9)).mono ?_; rintro e w10 ⟨rfl, n2, hn2, hS2, hb10⟩)
        have T10 : But (fun k => k = D ∨ k = b) V w10 := T9.trans hb10.out (fun _ _ h => h)
        refine hK.out _ _ (T10) (fun hHeld => ?_)
        clear hK K
        have hn61 : n2 ≤ 61 := by have := HN60.out; omega
        have HN2j := Lib.hid (show n2 ≤ j + 1 by have := HNj.out; omega)
        have hC9' : Set w10 false D' b' n' s := (HC10.out.below j9).but hb10.out (fun h => by have := HDp.out; omega) (fun h => by have := HDp.out; omega) ((HS10.out.below j9).notInt)
        have hM9' : Mw w10 w4.heap.size v5 P5 := (HM10.out.below j9).butP hb10.out fun k hk => by have := HDp.out; omega
        have hk9' : Kv (fun k => ¬ (k = D ∨ k = b ∨ k = gb)) w10 (.slice A7 L2.length c7) L2 := (HK10.out.below j9).but hb10.out fun k h1 h2 => h1 (by rcases h2 with h2 | h2 <;> simp [h2])
        have HC9 := Lib.hid hC9'
        have HM9 := Lib.hid hM9'
        have HK9' := Lib.hid hk9'
        have HN61 := Lib.hid hn61
        clear hC9' hM9' hk9' hn61 hn2
        refine wpAnyH_take (i := 20) (v := .bool false) rfl (by kernel_rfl) (by kernel_rfl) (by kernel_rfl) (fun _ _ _ h => h) (Or.inl ⟨by rfl, ?_⟩) (by first | assumption | exact trivial) ?_
        · intro W hSW; go_simp; try (with_reducible rfl)
        simp only [Act.put, List.getElem_toArray, List.getElem_cons_succ, List.getElem_cons_zero, List.setIfInBounds_toArray, List.set_cons_zero, List.set_cons_succ]
        refine wpAnyH_take (i := 21) (v := .bool false) rfl (by kernel_rfl) (by kernel_rfl) (by kernel_rfl) (fun _ _ _ h => h) (Or.inl ⟨by rfl, ?_⟩) (by first | assumption | exact trivial) ?_
        · intro W hSW; go_simp; try (with_reducible rfl)
        simp only [Act.put, List.getElem_toArray, List.getElem_cons_succ, List.getElem_cons_zero, List.setIfInBounds_toArray, List.set_cons_zero, List.set_cons_succ]
        refine wpAnyH_take (i := 22) (v := .bool false) rfl (by kernel_rfl) (by kernel_rfl) (by kernel_rfl) (fun _ _ _ h => h) (Or.inl ⟨by rfl, ?_⟩) (by first | assumption | exact trivial) ?_
        · intro W hSW; go_simp; try (with_reducible rfl)
        simp only [Act.put, List.getElem_toArray, List.getElem_cons_succ, List.getElem_cons_zero, List.setIfInBounds_toArray, List.set_cons_zero, List.set_cons_succ]
        refine wpAnyH_take (i := 23) (v := .pointer (some ⟨D, 0, none⟩)) rfl (by kernel_rfl) (by kernel_rfl) (by kernel_rfl) (fun _ _ _ h => h) (Or.inl ⟨by rfl, ?_⟩) (by first | assumption | exact trivial) ?_
        · intro W hSW; go_simp; try (with_reducible rfl)
        simp only [Act.put, List.getElem_toArray, List.getElem_cons_succ, List.getElem_cons_zero, List.setIfInBounds_toArray, List.set_cons_zero, List.set_cons_succ]
        refine wpAnyH_take (i := 25) (v := .agg #[.int .i64 g, .slice A7 L2.length c7]) rfl (by kernel_rfl) (by kernel_rfl) (by kernel_rfl) (fun _ _ _ h => h) (Or.inl ⟨by rfl, ?_⟩) (by first | assumption | exact trivial) ?_
        · intro W hSW; obtain ⟨y0, y1⟩ := HGB.out W hSW; go_simp; try (with_reducible rfl)
        simp only [Act.put, List.getElem_toArray, List.getElem_cons_succ, List.getElem_cons_zero, List.setIfInBounds_toArray, List.set_cons_zero, List.set_cons_succ]
        refine wpAnyH_ready (rs := [24]) (by kernel_rfl) (by simp) ?_
        refine AllReadyH.cons rfl (fun K hK => ?_) AllReadyH.nil
        go_simp
        go_wp2_with (go_at_call 20; refine (Marks_any true D b n2 s2 w10 hS2 (by have := HN61.out; omega)).mono ?_; rintro e w11 ⟨v11, P11, L11, rfl, hM11, hb11, hO11, hP11⟩)
        have T11 : But (fun k => k = D ∨ k = b) V w11 := T10.trans (But.of_below (S := fun _ => False) hb11.out) (fun _ _ h => h.elim)
        refine hK.out _ _ (T11) (fun hHeld => ?_)
        clear hK K
        refine wpAnyH_ready (rs := [26]) (by kernel_rfl) (by simp) ?_
        refine AllReadyH.cons rfl (fun K hK => ?_) AllReadyH.nil
        go_simp
        go_wp2_with (go_at_call 14; refine (RMarks_any _ g _ L2 w11 (HK9'.out.below hb11.out) (by have := HL2.out; omega)).mono ?_; rintro e w12 ⟨v12, P12, rfl, hM12, hP12, _, hb12⟩)
        have T12 : But (fun k => k = D ∨ k = b) V w12 := T11.trans (But.of_below (S := fun _ => False) hb12.out) (fun _ _ h => h.elim)
        have hE1 : P11.map Pm.m = P12.map Pm.m := hP11.out.trans ((HRel2.out.marks hO11.out).trans hP12.symm)
        have hl11 : P11.length ≤ 100000 := by
          have h1 := hO11.out.le
          have h2 := congrArg List.length hP11.out
          have h3 := HN61.out
          simp at h2
          omega
        refine hK.out _ _ (T12) (fun hHeld => ?_)
        clear hK K
        refine wpAnyH_ready (rs := [27]) (by kernel_rfl) (by simp) ?_
        refine AllReadyH.cons rfl (fun K hK => ?_) AllReadyH.nil
        go_simp
        go_wp2_with (go_at_call 19; refine (Same_eq _ _ P11 P12 w12 (hM11.out.below hb12.out).mv hM12.out.mw.mv hE1 hl11).mono ?_; rintro e w13 ⟨rfl, hb13⟩)
        have j13 : Below w10.heap.size w10 w13 := go_on (go_on hb11.out hb12.out) hb13.out
        have T13 : But (fun k => k = D ∨ k = b) V w13 := T10.trans (But.of_below (S := fun _ => False) j13) (fun _ _ h => h.elim)
        clear hM11 hM12 hE1 hl11 hP11 hP12 hO11
        refine hK.out _ _ (T13) (fun hHeld => ?_)
        clear hK K
        refine wpAnyH_take (i := 28) (v := .bool false) rfl (by kernel_rfl) (by kernel_rfl) (by kernel_rfl) (fun _ _ _ h => h) (Or.inl ⟨by rfl, ?_⟩) (by first | assumption | exact trivial) ?_
        · intro W hSW; go_simp; try (with_reducible rfl)
        simp only [Act.put, List.getElem_toArray, List.getElem_cons_succ, List.getElem_cons_zero, List.setIfInBounds_toArray, List.set_cons_zero, List.set_cons_succ]
        refine wpAnyH_take (i := 29) (v := .bool false) rfl (by kernel_rfl) (by kernel_rfl) (by kernel_rfl) (fun _ _ _ h => h) (Or.inl ⟨by rfl, ?_⟩) (by first | assumption | exact trivial) ?_
        · intro W hSW; go_simp; try (with_reducible rfl)
        simp only [Act.put, List.getElem_toArray, List.getElem_cons_succ, List.getElem_cons_zero, List.setIfInBounds_toArray, List.set_cons_zero, List.set_cons_succ]
        refine wpAnyH_take (i := 30) (v := .bool false) rfl (by kernel_rfl) (by kernel_rfl) (by kernel_rfl) (fun _ _ _ h => h) (Or.inl ⟨by rfl, ?_⟩) (by first | assumption | exact trivial) ?_
        · intro W hSW; go_simp; try (with_reducible rfl)
        simp only [Act.put, List.getElem_toArray, List.getElem_cons_succ, List.getElem_cons_zero, List.setIfInBounds_toArray, List.set_cons_zero, List.set_cons_succ]
        refine wpAnyH_take (i := 31) (v := .pointer (some ⟨D, 0, none⟩)) rfl (by kernel_rfl) (by kernel_rfl) (by kernel_rfl) (fun _ _ _ h => h) (Or.inl ⟨by rfl, ?_⟩) (by first | assumption | exact trivial) ?_
        · intro W hSW; go_simp; try (with_reducible rfl)
        simp only [Act.put, List.getElem_toArray, List.getElem_cons_succ, List.getElem_cons_zero, List.setIfInBounds_toArray, List.set_cons_zero, List.set_cons_succ]
        refine wpAnyH_take (i := 33) (v := .agg #[.int .i64 g, .slice A7 L2.length c7]) rfl (by kernel_rfl) (by kernel_rfl) (by kernel_rfl) (fun _ _ _ h => h) (Or.inl ⟨by rfl, ?_⟩) (by first | assumption | exact trivial) ?_
        · intro W hSW; obtain ⟨y0, y1⟩ := HGB.out W hSW; go_simp; try (with_reducible rfl)
        simp only [Act.put, List.getElem_toArray, List.getElem_cons_succ, List.getElem_cons_zero, List.setIfInBounds_toArray, List.set_cons_zero, List.set_cons_succ]
        refine wpAnyH_ready (rs := [32]) (by kernel_rfl) (by simp) ?_
        refine AllReadyH.cons rfl (fun K hK => ?_) AllReadyH.nil
        go_simp
        go_wp2_with (go_at_call 21; refine (Gaps_any true D b n2 s2 w13 (hS2.out.below j13)).mono ?_; rintro e w14 ⟨rfl, rfl⟩)
        refine hK.out _ _ (T13) (fun hHeld => ?_)
        clear hK K
        refine wpAnyH_ready (rs := [34]) (by kernel_rfl) (by simp) ?_
        refine AllReadyH.cons rfl (fun K hK => ?_) AllReadyH.nil
        go_simp
        have hGG := RGaps_any _ g _ L2 w13 (HK9'.out.below j13) (by have := HL2.out; omega)
        rw [HRel2.out.gaps] at hGG
        go_wp2_with (go_at_call 22; refine hGG.mono ?_; rintro e w14 ⟨rfl, hb14⟩)
        clear hGG
        have j14 : Below w10.heap.size w10 w14 := go_on j13 hb14.out
        have T14 : But (fun k => k = D ∨ k = b) V w14 := T10.trans (But.of_below (S := fun _ => False) j14) (fun _ _ h => h.elim)
        refine hK.out _ _ (T14) (fun hHeld => ?_)
        clear hK K
        refine wpAnyH_take (i := 35) (v := .bool false) rfl (by kernel_rfl) (by kernel_rfl) (by kernel_rfl) (fun _ _ _ h => h) (Or.inl ⟨by rfl, ?_⟩) (by first | assumption | exact trivial) ?_
        · intro W hSW; go_simp; try (with_reducible rfl)
        simp only [Act.put, List.getElem_toArray, List.getElem_cons_succ, List.getElem_cons_zero, List.setIfInBounds_toArray, List.set_cons_zero, List.set_cons_succ]
        refine wpAnyH_take (i := 36) (v := .bool false) rfl (by kernel_rfl) (by kernel_rfl) (by kernel_rfl) (fun _ _ _ h => h) (Or.inl ⟨by rfl, ?_⟩) (by first | assumption | exact trivial) ?_
        · intro W hSW; go_simp; try (with_reducible rfl)
        simp only [Act.put, List.getElem_toArray, List.getElem_cons_succ, List.getElem_cons_zero, List.setIfInBounds_toArray, List.set_cons_zero, List.set_cons_succ]
        refine wpAnyH_take (i := 37) (v := .bool false) rfl (by kernel_rfl) (by kernel_rfl) (by kernel_rfl) (fun _ _ _ h => h) (Or.inl ⟨by rfl, ?_⟩) (by first | assumption | exact trivial) ?_
        · intro W hSW; go_simp; try (with_reducible rfl)
        simp only [Act.put, List.getElem_toArray, List.getElem_cons_succ, List.getElem_cons_zero, List.setIfInBounds_toArray, List.set_cons_zero, List.set_cons_succ]
        refine wpAnyH_take (i := 38) (v := .pointer (some ⟨D', 0, none⟩)) rfl (by kernel_rfl) (by kernel_rfl) (by kernel_rfl) (fun _ _ _ h => h) (Or.inl ⟨by rfl, ?_⟩) (by first | assumption | exact trivial) ?_
        · intro W hSW; go_simp; try (with_reducible rfl)
        simp only [Act.put, List.getElem_toArray, List.getElem_cons_succ, List.getElem_cons_zero, List.setIfInBounds_toArray, List.set_cons_zero, List.set_cons_succ]
        refine wpAnyH_take (i := 40) (v := v5) rfl (by kernel_rfl) (by kernel_rfl) (by kernel_rfl) (fun _ _ _ h => h) (Or.inl ⟨by rfl, ?_⟩) (by first | assumption | exact trivial) ?_
        · intro W hSW; go_simp; try (with_reducible rfl)
        simp only [Act.put, List.getElem_toArray, List.getElem_cons_succ, List.getElem_cons_zero, List.setIfInBounds_toArray, List.set_cons_zero, List.set_cons_succ]
        refine wpAnyH_ready (rs := [39]) (by kernel_rfl) (by simp) ?_
        refine AllReadyH.cons rfl (fun K hK => ?_) AllReadyH.nil
        go_simp
        go_wp2_with (go_at_call 20; refine (Marks_any false D' b' n' s w14 (HC9.out.below j14) (by have := HN'.out; omega)).mono ?_; rintro e w15 ⟨v15, P15, L15, rfl, hM15, hb15, hO15, hP15⟩)
        have T15 : But (fun k => k = D ∨ k = b) V w15 := T14.trans (But.of_below (S := fun _ => False) hb15.out) (fun _ _ h => h.elim)
        have hE2 : P15.map Pm.m = P5.map Pm.m := hP15.out.trans ((HRel.out.marks hO15.out).trans HP5.out.symm)
        have hl15 : P15.length ≤ 100000 := by
          have h1 := hO15.out.le
          have h2 := congrArg List.length hP15.out
          have h3 := HN'.out
          simp at h2
          omega
        refine hK.out _ _ (T15) (fun hHeld => ?_)
        clear hK K
        refine wpAnyH_ready (rs := [41]) (by kernel_rfl) (by simp) ?_
        refine AllReadyH.cons rfl (fun K hK => ?_) AllReadyH.nil
        go_simp
        go_wp2_with (go_at_call 19; refine (Same_eq _ _ P15 P5 w15 hM15.out.mv (HM9.out.below (go_on j14 hb15.out)).mv hE2 hl15).mono ?_; rintro e w16 ⟨rfl, hb16⟩)
        have j16 : Below w10.heap.size w10 w16 := go_on (go_on j14 hb15.out) hb16.out
        have T16 : But (fun k => k = D ∨ k = b) V w16 := T10.trans (But.of_below (S := fun _ => False) j16) (fun _ _ h => h.elim)
        refine hK.out _ _ (T16) (fun hHeld => ?_)
        clear hK K
        refine wpAnyH_take (i := 42) (v := .bool false) rfl (by kernel_rfl) (by kernel_rfl) (by kernel_rfl) (fun _ _ _ h => h) (Or.inl ⟨by rfl, ?_⟩) (by first | assumption | exact trivial) ?_
        · intro W hSW; go_simp; try (with_reducible rfl)
        simp only [Act.put, List.getElem_toArray, List.getElem_cons_succ, List.getElem_cons_zero, List.setIfInBounds_toArray, List.set_cons_zero, List.set_cons_succ]
        refine wpAnyH_take (i := 43) (v := .bool false) rfl (by kernel_rfl) (by kernel_rfl) (by kernel_rfl) (fun _ _ _ h => h) (Or.inl ⟨by rfl, ?_⟩) (by first | assumption | exact trivial) ?_
        · intro W hSW; go_simp; try (with_reducible rfl)
        simp only [Act.put, List.getElem_toArray, List.getElem_cons_succ, List.getElem_cons_zero, List.setIfInBounds_toArray, List.set_cons_zero, List.set_cons_succ]
        refine wpAnyH_done (by kernel_rfl) ?_ _
        have HF : Hid (Bp w D b gb g (j + 1) w16 (.slice A7 L2.length c7) s2 L2) := ⟨⟨n2, HN2j.out, hS2.out.below j16⟩, HK9'.out.below j16, T16.at_ HX10.out (by have := HGe.out; omega), HRel2.out, HRoom2.out, HL2.out, HW10.out.trans (T16.below HW10.out.size fun k hk => by have := HGe.out; omega), HGe.out⟩
        clear hHeld hM15 hO15 hP15 hE2 hl15 hb15 hb16 hb14 hb13 hb12 hb11 hb10 hb9 T0 T9 T10 T11 T12 T13 T14 T15 T16 j9 j13 j14 j16 hS2
        go_wp2
        go_roundw
        case rel => exact ⟨j + 1, _, _, _, by go_num, hlt, HF⟩
        case measure => simp [intOf]; omega
    · obtain rfl : j = N := by omega
      have g1 : ¬ (j : Int) < (j : Int) := by omega
      go_wp2_with (go_at_call 11; refine (HA.out _).mono ?_; rintro e w7 ⟨rfl, b7⟩)
      go_ret
      exact ⟨rfl, go_on HBo.out.below b7.out⟩
theorem seenPlays (g : Int) (A : Option Addr) (len cap : Nat) (ls : List Mg.Id4) (w : World) (w0 : (Lit.int .i64 g).wf = true) (w1 : len = ls.length ∧ len ≤ cap ∧ cap ≤ 9223372036854775807 ∧ Ids w A ls) :
    Calls Try.prog 3 #[.int .i64 g, .slice A len cap] w fun e w' => e = .returned (.bool true) ∧ Below w.heap.size w w' := by
  by_cases h : g < 0 ∨ 256 < g
  · exact seenPlays_no g _ w h
  · exact seenPlays_ok g A len cap ls w (by omega) (by omega) w1
end Go.Proofs.Ytjgdkpgkonnhnaa.Se
