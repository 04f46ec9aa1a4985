/- The contracts of a sender's calls. -/
import Derived.Test.YtnfjfcoonabmmaaSnDef
import Derived.Deep.RegionHeld
import Derived.Deep.RegionWith
import Derived.Handy
namespace Go.Proofs.Ytnfjfcoonabmmaa.Sn
open Go.RowKit
open Go.Proofs.Ytnfjfcoonabmmaa.Me Go.Proofs.Ytnfjfcoonabmmaa.Hd
set_option linter.unusedVariables false
set_option linter.unusedSimpArgs false

theorem isNumber_yes {n : Int} (h : 0 ≤ n ∧ n ≤ 127) (w : World) : Calls Try.prog 37 #[.int .i64 n] w fun e w' => e = .returned (.bool true) ∧ w = w' := by
  obtain ⟨h0, h1⟩ := h
  have h2 : n < 128 := by omega
  go_enter Try.func37, Try.ntmps37
  go_wp2
  go_ret
  exact ⟨rfl, rfl⟩
theorem isNumber_no {n : Int} (h : n < 0 ∨ 127 < n) (w : World) : Calls Try.prog 37 #[.int .i64 n] w fun e w' => e = .returned (.bool false) ∧ w = w' := by
  by_cases h0 : 0 ≤ n
  · have h2 : ¬ n < 128 := by omega
    clear h
    go_enter Try.func37, Try.ntmps37
    go_wp2
    go_ret
    exact ⟨rfl, rfl⟩
  · clear h
    go_enter Try.func37, Try.ntmps37
    go_wp2
    go_ret
    exact ⟨rfl, rfl⟩
theorem New_bad (n : Int) (h : n < 1 ∨ 63 < n) (w : World) : Calls Try.prog 31 #[.int .i64 n] w fun e w' => e = .returned (.tuple #[.pointer none, .int .i64 1]) ∧ w = w' := by
  by_cases h1 : n < 1
  · go_enter Try.func31, Try.ntmps31
    go_wp2
    go_returns
    exact ⟨rfl, rfl⟩
  · have h2 : 63 < n := by omega
    go_enter Try.func31, Try.ntmps31
    go_wp2
    go_returns
    exact ⟨rfl, rfl⟩
theorem New_ok (n : Nat) (h1 : 1 ≤ n) (h2 : n ≤ 63) (w : World) : Calls Try.prog 31 #[.int .i64 n] w fun e w' => e = .returned (.tuple #[.pointer (some ⟨w.heap.size, 0, none⟩), .int .i64 0]) ∧ Hid (Sq (fun k => k = w.heap.size) w' w.heap.size (newS n) none 0) ∧ Hid (Below w.heap.size w w') := by
  have g1 : ¬ (n : Int) < 1 := by omega
  have g2 : ¬ 63 < (n : Int) := by omega
  go_enter Try.func31, Try.ntmps31
  go_wp2
  go_returns
  exact ⟨rfl, ⟨heap_alloc_new w _, rfl, Ls.nil _ _⟩, below_alloc (Below.refl _ _)⟩
theorem Len_any {F : Nat → Prop} (w : World) (D : Nat) (s : Snd) (A : Option Addr) (c : Nat) (h : Hid (Sq F w D s A c)) : Calls Try.prog 15 #[.pointer (some ⟨D, 0, none⟩)] w fun e w' => e = .returned (.int .i64 (s.l.length : Int)) ∧ w = w' := by
  have c1 : w.cell? ⟨D, 3, none⟩ = some (.slice A s.l.length c) := h.out.cell 3
  obtain ⟨n, hn⟩ : ∃ n, s.l.length = n := ⟨_, rfl⟩
  rw [hn] at c1 ⊢
  go_enter Try.func15, Try.ntmps15
  go_wp2
  go_ret
  exact ⟨rfl, rfl⟩
/-- What cut makes of the sender's block. -/
theorem cut_any {F : Nat → Prop} (w : World) (D : Nat) (s : Snd) (A : Option Addr) (c n : Nat) (h : Hid (Sq F w D s A c)) (hn : n ≤ s.l.length) (A2 : Option Addr) (hA2 : (if c = n then A else A.map (fun x => x.add n)) = A2) :
    Calls Try.prog 46 #[.pointer (some ⟨D, 0, none⟩), .int .i64 n] w fun e w' => e = .returned (.slice A n n) ∧ w' = w.setCell ⟨D, 3, none⟩ (.slice A2 (s.l.length - n) (c - n)) := by
  have c1 : w.cell? ⟨D, 3, none⟩ = some (.slice A s.l.length c) := h.out.cell 3
  have f1 := h.out.frozen 3
  obtain ⟨hlc, hc63⟩ := h.out.ls.le
  obtain ⟨m, hm⟩ : ∃ m, s.l.length = m := ⟨_, rfl⟩
  rw [hm] at c1 hn hlc ⊢
  have g1 : (0 : Int) ≤ (n : Int) := by omega
  have g2 : (n : Int) ≤ (c : Int) := by omega
  have g3 : (n : Int) ≤ (m : Int) := by omega
  clear hm
  go_enter Try.func46, Try.ntmps46
  go_wp2
  go_ret
  exact ⟨rfl, rfl⟩
/-- Behind the append and the store of a push. -/
theorem push_done {F : Nat → Prop} {w w5 w7 : World} {D : Nat} {s : Snd} {A A' A5 : Option Addr} {c c' c5 : Nat} {p : List Nat} (h : Sq F w D s A c) (hb : Below w.heap.size w w5)
    (hl : Ls (fun k => (F k ∨ w.heap.size ≤ k) ∨ (w5.alloc (.cells #[.slice A5 p.length c5] 32)).heap.size ≤ k) w7 A' c' (s.l ++ [p])) (hbt : But (bk A) (w5.alloc (.cells #[.slice A5 p.length c5] 32)) w7) :
    After F w D ⟨s.size, s.base, s.under, s.l ++ [p]⟩ (w7.setCell ⟨D, 3, none⟩ (.slice A' (s.l.length + 1) c')) ∧ w7.cell? ⟨D, 3, none⟩ = some (.slice A s.l.length c) ∧ w7.frozen? ⟨D, 3, none⟩ = false := by
  have hlt := h.lt
  have hs5 := hb.size
  have hs6 : (w5.alloc (.cells #[.slice A5 p.length c5] 32)).heap.size = w5.heap.size + 1 := by simp
  have h6 : (w5.alloc (.cells #[.slice A5 p.length c5] 32)).heap[D]? = w.heap[D]? := (Below.heap_alloc _ _ _ (by omega)).trans (hb.block D hlt)
  have h7 : w7.heap[D]? = some (.cells (scells s A c) 73 (0, 0)) := ((hbt.same D (by omega) h.notbk).trans h6).trans h.blk
  have s7 := hbt.size
  have b7 : But F w w7 := (But.of_below (hb.alloc hs5 _)).trans hbt fun k _ hk => (h.ls.blk k hk).1
  refine ⟨⟨⟨A', c', ⟨?_, .inl h.f, ?_⟩⟩, b7.set (p := ⟨D, 3, none⟩) (.inl h.f) _⟩, cell_of_row w7 D 3 _ _ (0, 0) h7, frozen_of_row w7 D 3 _ _ h7⟩
  · rw [heap_setCell_same w7 D 3 _ _ _ h7]
    simp [scells]
  · have hl2 : Ls (fun k => F k ∨ w.heap.size ≤ k) w7 A' c' (s.l ++ [p]) := hl.mono fun k _ hk => by
      rcases hk with hk | hk
      · exact hk
      · exact .inr (by omega)
    rcases hl2 with e | ⟨g, off, cur, e1, e2, e3, e4⟩
    · exact .inl e
    · have hne : g ≠ D := fun e => by
        subst e
        rw [h7] at e3
        simp only [Option.some.injEq, Obj.cells.injEq] at e3
        exact absurd e3.2.1 (by decide)
      have hx : Ls (fun k => F k ∨ w.heap.size ≤ k) w7 A' c' (s.l ++ [p]) := .inr ⟨g, off, cur, e1, e2, e3, e4⟩
      refine .inr ⟨g, off, cur, e1, e2, (Below.heap_setCell w7 ⟨D, 3, none⟩ _ g hne).trans e3, e4.1, e4.2.1, e4.2.2.1, fun j hj => ?_⟩
      obtain ⟨u, u1, u2⟩ := e4.2.2.2 j hj
      refine ⟨u, u1, u2.kept fun k cs hF hc => ⟨Below.heap_setCell w7 ⟨D, 3, none⟩ _ k fun e => ?_, hF⟩⟩
      simp only at e
      subst e
      rw [h7] at hc
      simp only [Option.some.injEq, Obj.cells.injEq] at hc
      exact absurd hc.2.1 (by decide)
theorem push_mid {F : Nat → Prop} {w w5 : World} {D : Nat} {s : Snd} {A A5 : Option Addr} {c c5 : Nat} {p : List Nat} (h : Sq F w D s A c) (hp : 0 < p.length) (ho : Me.Own w5 w.heap.size (.slice A5 p.length c5) p) (hb : Below w.heap.size w w5) :
    w5.cell? ⟨D, 3, none⟩ = some (.slice A s.l.length c) ∧ (w5.alloc (.cells #[.slice A5 p.length c5] 32)).cell? ⟨D, 3, none⟩ = some (.slice A s.l.length c) ∧
    Ls (fun k => F k ∨ w.heap.size ≤ k) (w5.alloc (.cells #[.slice A5 p.length c5] 32)) A c s.l ∧
    (∀ j, j < [p].length → ∃ u, [Value.slice A5 p.length c5][j]? = some u ∧ El (fun k => F k ∨ w.heap.size ≤ k) (w5.alloc (.cells #[.slice A5 p.length c5] 32)) u (lsAt [p] j)) ∧ Below w.heap.size w w5 := by
  have hs := hb.size
  have hb6 := hb.alloc hs (.cells #[.slice A5 p.length c5] 32)
  refine ⟨(hb.cell (p := ⟨D, 3, none⟩) h.lt).trans (h.cell 3), (hb6.cell (p := ⟨D, 3, none⟩) h.lt).trans (h.cell 3), h.ls.kept fun k hk hF => ⟨hb6.block k hk, .inl hF⟩, fun j hj => ?_, hb⟩
  obtain rfl : j = 0 := by simpa using hj
  refine ⟨_, rfl, A5, c5, by simp [lsAt], ?_, fun a ea => .inr ?_⟩
  · simp only [lsAt, List.getD_cons_zero]
    exact own_base (B' := 0) (own_same ho fun k _ hk => Below.heap_alloc _ _ _ hk) fun _ _ => Nat.zero_le _
  · exact (ho.lt a.block (by rw [ea]; rfl)).1
set_option maxHeartbeats 2000000 in
theorem Push_any {F : Nat → Prop} (w : World) (D : Nat) (s : Snd) (A : Option Addr) (c : Nat) (h : Hid (Sq F w D s A c)) (ok : Hid s.Ok) (Ap : Option Addr) (cp : Nat) (p : List Nat) (hp : Hid (Me.Rd w w.heap.size Ap p)) (hA : Hid (Ap = none → p.length = 0 ∧ cp = 0)) (hl : p.length ≤ 140737488355328) :
    Calls Try.prog 32 #[.pointer (some ⟨D, 0, none⟩), .slice Ap p.length cp] w fun e w' => e = .returned (.int .i64 (pushE s p : Int)) ∧ Hid (After F w D (pushS s p) w') := by
  have c1 : w.cell? ⟨D, 3, none⟩ = some (.slice A s.l.length c) := h.out.cell 3
  by_cases h1 : p.length = 0
  · have HE : Hid (pushE s p = 2) := by show _ = _; unfold pushE; rw [if_pos h1]
    have HS : Hid (pushS s p = s) := by show _ = _; unfold pushS; rw [HE.out]; rfl
    rw [h1]
    go_enter Try.func32, Try.ntmps32
    go_wp2
    go_ret
    exact ⟨by rw [HE.out]; rfl, by rw [HS.out]; exact After.same h.out (Below.refl _ _)⟩
  · by_cases h2 : 121 < p.length
    · have HE : Hid (pushE s p = 3) := by show _ = _; unfold pushE; rw [if_neg h1, if_pos h2]
      have HS : Hid (pushS s p = s) := by show _ = _; unfold pushS; rw [HE.out]; rfl
      have g1 : ((p.length : Int) == 0) = false := beq_eq_false_iff_ne.mpr (by omega)
      have g2 : (121 : Int) < (p.length : Int) := by omega
      obtain ⟨n, hn⟩ : ∃ n, p.length = n := ⟨_, rfl⟩
      rw [hn] at g1 g2 ⊢
      clear h1 h2 hn hl
      go_enter Try.func32, Try.ntmps32
      go_wp2
      go_ret
      exact ⟨by rw [HE.out]; rfl, by rw [HS.out]; exact After.same h.out (Below.refl _ _)⟩
    · by_cases h3 : s.l.length = 64
      · have HE : Hid (pushE s p = 6) := by show _ = _; unfold pushE; rw [if_neg h1, if_neg h2, if_pos h3]
        have HS : Hid (pushS s p = s) := by show _ = _; unfold pushS; rw [HE.out]; rfl
        have g1 : ((p.length : Int) == 0) = false := beq_eq_false_iff_ne.mpr (by omega)
        have g2 : ¬ (121 : Int) < (p.length : Int) := by omega
        obtain ⟨n, hn⟩ : ∃ n, p.length = n := ⟨_, rfl⟩
        rw [hn] at g1 g2 ⊢
        rw [h3] at c1
        clear h1 h2 hn hl h3
        go_enter Try.func32, Try.ntmps32
        go_wp2
        go_ret
        exact ⟨by rw [HE.out]; rfl, by rw [HS.out]; exact After.same h.out (Below.refl _ _)⟩
      · have HE : Hid (pushE s p = 0) := by show _ = _; unfold pushE; rw [if_neg h1, if_neg h2, if_neg h3]
        have HS : Hid (pushS s p = ⟨s.size, s.base, s.under, s.l ++ [p]⟩) := by show _ = _; unfold pushS; rw [HE.out]; rfl
        have g1 : ((p.length : Int) == 0) = false := beq_eq_false_iff_ne.mpr (by omega)
        have g2 : ¬ (121 : Int) < (p.length : Int) := by omega
        have g3 : ((s.l.length : Int) == 64) = false := beq_eq_false_iff_ne.mpr (by omega)
        have hq := ok.out.q
        have HC := Lib.hid (fun (W : World) (hW : Hid (Below w.heap.size w W)) => BClone_any Ap cp w.heap.size p W (hp.out.below hW.out) hA hW.out.size hl)
        have HB := Lib.hid hp.out.1
        have HP := Lib.hid (show 0 < p.length by omega)
        have HQ := Lib.hid (show (s.l.length + [p].length) * 24 ≤ 140737488355328 by simp; omega)
        clear h1 h2 h3 hl hq
        go_enter Try.func32, Try.ntmps32
        go_wp2
        refine wp_region_held_drew (S := fun _ => True) (by kernel_rfl) trivial (fun hHeld => ?_)
        refine wpAnyH_take (i := 0) (v := ?vz1) rfl (by kernel_rfl) (by kernel_rfl) (by kernel_rfl) (fun _ _ _ h => h) (Or.inl ⟨by rfl, ?hyz1⟩) (by first | assumption | exact trivial) ?restz1
        case hyz1 => intro W hSW; go_simp; try (with_reducible rfl)
        simp only [Act.put, List.getElem_toArray, List.getElem_cons_succ, List.getElem_cons_zero, List.setIfInBounds_toArray, List.set_cons_zero, List.set_cons_succ]
        refine wpAnyH_take (i := 1) (v := ?vz2) rfl (by kernel_rfl) (by kernel_rfl) (by kernel_rfl) (fun _ _ _ h => h) (Or.inl ⟨by rfl, ?hyz2⟩) (by first | assumption | exact trivial) ?restz2
        case hyz2 => intro W hSW; go_simp; try (with_reducible rfl)
        simp only [Act.put, List.getElem_toArray, List.getElem_cons_succ, List.getElem_cons_zero, List.setIfInBounds_toArray, List.set_cons_zero, List.set_cons_succ]
        refine wpAnyH_take (i := 2) (v := ?vz3) rfl (by kernel_rfl) (by kernel_rfl) (by kernel_rfl) (fun _ _ _ h => h) (Or.inl ⟨by rfl, ?hyz3⟩) (by first | assumption | exact trivial) ?restz3
        case hyz3 => intro W hSW; go_simp; try (with_reducible rfl)
        simp only [Act.put, List.getElem_toArray, List.getElem_cons_succ, List.getElem_cons_zero, List.setIfInBounds_toArray, List.set_cons_zero, List.set_cons_succ]
        refine wpAnyH_take (i := 3) (v := ?vz4) rfl (by kernel_rfl) (by kernel_rfl) (by kernel_rfl) (fun _ _ _ h => h) (Or.inl ⟨by rfl, ?hyz4⟩) (by first | assumption | exact trivial) ?restz4
        case hyz4 => intro W hSW; go_simp; try (with_reducible rfl)
        simp only [Act.put, List.getElem_toArray, List.getElem_cons_succ, List.getElem_cons_zero, List.setIfInBounds_toArray, List.set_cons_zero, List.set_cons_succ]
        refine wpAnyH_take (i := 5) (v := ?vz5) rfl (by kernel_rfl) (by kernel_rfl) (by kernel_rfl) (fun _ _ _ h => h) (Or.inl ⟨by rfl, ?hyz5⟩) (by first | assumption | exact trivial) ?restz5
        case hyz5 => intro W hSW; go_simp; try (with_reducible rfl)
        simp only [Act.put, List.getElem_toArray, List.getElem_cons_succ, List.getElem_cons_zero, List.setIfInBounds_toArray, List.set_cons_zero, List.set_cons_succ]
        refine wpAnyH_ready (rs := [4, 6]) (by kernel_rfl) (by simp) ?_
        refine AllReadyH.cons rfl (fun K hK => ?pa) (AllReadyH.cons rfl (fun K hK => ?pb) AllReadyH.nil)
        case' pa =>
          go_simp
          refine hK.out _ _ (trivial) (fun hHeld => ?_)
          clear hK K
          refine wpAnyH_ready (rs := [6]) (by kernel_rfl) (by simp) ?_
          refine AllReadyH.cons rfl (fun K hK => ?_) AllReadyH.nil
          go_simp
          go_wp2_with (go_at_call 26; refine (HC.out _ ?_).mono ?_; (exact (Below.refl _ w).drew); rintro e w5 ⟨v5, rfl, ho5, hb5⟩; obtain ⟨A5, c5, rfl, _, _, _⟩ := ho5.out.held HB.out)
          refine hK.out _ _ (trivial) (fun hHeld => ?_)
          clear hK K
          refine wpAnyH_ready (rs := [7]) (by kernel_rfl) (by simp) ?_
          refine AllReadyH.cons rfl (fun K hK => ?_) AllReadyH.nil
          go_simp
          refine hK.out _ _ (trivial) (fun hHeld => ?_)
          clear hK K
        case' pb =>
          go_simp
          go_wp2_with (go_at_call 26; refine (HC.out _ ?_).mono ?_; (exact (Below.refl _ w).drew); rintro e w5 ⟨v5, rfl, ho5, hb5⟩; obtain ⟨A5, c5, rfl, _, _, _⟩ := ho5.out.held HB.out)
          obtain ⟨cx, cy, _⟩ := push_mid h.out HP.out ho5.out ((Below.refl w.heap.size w).drew.trans hb5.out)
          refine hK.out _ _ (trivial) (fun hHeld => ?_)
          clear hK K
          refine wpAnyH_ready (rs := [4, 7]) (by kernel_rfl) (by simp) ?_
          refine AllReadyH.cons rfl (fun K hK => ?qa) (AllReadyH.cons rfl (fun K hK => ?qb) AllReadyH.nil)
        case' qa =>
          go_simp
          refine hK.out _ _ (trivial) (fun hHeld => ?_)
          clear hK K
          refine wpAnyH_ready (rs := [7]) (by kernel_rfl) (by simp) ?_
          refine AllReadyH.cons rfl (fun K hK => ?_) AllReadyH.nil
          go_simp
          refine hK.out _ _ (trivial) (fun hHeld => ?_)
          clear hK K
        case' qb =>
          go_simp
          refine hK.out _ _ (trivial) (fun hHeld => ?_)
          clear hK K
          refine wpAnyH_ready (rs := [4]) (by kernel_rfl) (by simp) ?_
          refine AllReadyH.cons rfl (fun K hK => ?_) AllReadyH.nil
          go_simp
          refine hK.out _ _ (trivial) (fun hHeld => ?_)
          clear hK K
        all_goals
          obtain ⟨cx, cy, lx, ux, bx⟩ := push_mid h.out HP.out ho5.out ((Below.refl w.heap.size w).drew.trans hb5.out)
          have LX := Lib.hid lx
          have UX := Lib.hid ux
          have BX := Lib.hid bx
          clear ho5 hb5 lx ux bx
          refine wpAnyH_ready (rs := [8]) (by kernel_rfl) (by simp) ?_
          refine AllReadyH.cons rfl (fun K hK => ?_) AllReadyH.nil
          rw [if_pos (by kernel_rfl)]
          refine appLw (.tmp 27) (.tmp 30) rfl (fun k => F k ∨ w.heap.size ≤ k) A c s.l [p] rfl LX.out (.slice (some ⟨w5.heap.size, 0, none⟩) 1 1) [.slice A5 p.length c5] (by rfl) (src_one rfl) UX.out HQ.out ?_
          intro A7 c7 w7 hl7 hb7 _
          obtain ⟨d1, d2, d3⟩ := push_done h.out BX.out hl7 hb7
          have D1 := Lib.hid d1
          clear d1 hl7 hb7
          simp only [Act.put, List.getElem_toArray, List.getElem_cons_succ, List.getElem_cons_zero, List.setIfInBounds_toArray, List.set_cons_zero, List.set_cons_succ]
          refine hK.out _ _ (trivial) (fun hHeld => ?_)
          clear hK K
          refine wpAnyH_take (i := 9) (v := .pointer (some ⟨D, 0, none⟩)) rfl (by kernel_rfl) (by kernel_rfl) (by kernel_rfl) (fun _ _ _ h => h) (Or.inl ⟨by rfl, ?_⟩) (by first | assumption | exact trivial) ?_
          · intro W hSW; go_simp; try (with_reducible rfl)
          simp only [Act.put, List.getElem_toArray, List.getElem_cons_succ, List.getElem_cons_zero, List.setIfInBounds_toArray, List.set_cons_zero, List.set_cons_succ]
          refine wpAnyH_take (i := 10) (v := .pointer (some ⟨D, 3, none⟩)) rfl (by kernel_rfl) (by kernel_rfl) (by kernel_rfl) (fun _ _ _ h => h) (Or.inl ⟨by rfl, ?_⟩) (by first | assumption | exact trivial) ?_
          · intro W hSW; go_simp; try (with_reducible rfl)
          simp only [Act.put, List.getElem_toArray, List.getElem_cons_succ, List.getElem_cons_zero, List.setIfInBounds_toArray, List.set_cons_zero, List.set_cons_succ]
          refine wpAnyH_ready (rs := [11]) (by kernel_rfl) (by simp) ?_
          refine AllReadyH.cons rfl (fun K hK => ?_) AllReadyH.nil
          go_simp
          refine hK.out _ _ (trivial) (fun hHeld => ?_)
          clear hK K
          refine wpAnyH_done (by kernel_rfl) ?_ _
          go_wp2
          go_ret
          exact ⟨by rw [HE.out]; rfl, by rw [HS.out]; exact D1.out⟩
/-- Behind a call of a sender's that makes nothing its own: it is s now, in its old blocks; nothing else turned. -/
def AfterS (F : Nat → Prop) (w : World) (D : Nat) (s : Snd) (w' : World) : Prop := (∃ A c, Sq F w' D s A c) ∧ But F w w'
theorem AfterS.same {F : Nat → Prop} {w w' : World} {D : Nat} {s : Snd} {A : Option Addr} {c : Nat} (h : Sq F w D s A c) (hb : Below w.heap.size w w') : AfterS F w D s w' := ⟨⟨A, c, h.below hb⟩, But.of_below hb⟩
theorem AfterS.after {F : Nat → Prop} {w w' : World} {D : Nat} {s : Snd} (h : AfterS F w D s w') : After F w D s w' := by
  obtain ⟨⟨A, c, h1⟩, h2⟩ := h
  exact ⟨⟨A, c, h1.mono fun _ _ h => .inl h⟩, h2⟩
/-- Behind a store into the sender's block that leaves its list as it is. -/
theorem set_done {F : Nat → Prop} {w w' : World} {D i : Nat} {s s' : Snd} {A : Option Addr} {c : Nat} (h : Sq F w D s A c) (hb : Below w.heap.size w w') (u : Value) (hc : (scells s A c).setIfInBounds i u = scells s' A c) (hl : s'.l = s.l) :
    AfterS F w D s' (w'.setCell ⟨D, i, none⟩ u) := by
  have hlt := h.lt
  have hk : ∀ k, k < w.heap.size → k ≠ D → (w'.setCell ⟨D, i, none⟩ u).heap[k]? = w.heap[k]? := fun k hk hne => (Below.heap_setCell w' ⟨D, i, none⟩ u k hne).trans (hb.block k hk)
  refine ⟨⟨A, c, ⟨?_, h.f, ?_⟩⟩, (But.of_below hb).set (p := ⟨D, i, none⟩) (.inl h.f) _⟩
  · rw [heap_setCell_same w' D i _ _ _ ((hb.block D hlt).trans h.blk), hc]
  · rw [hl]
    rcases h.ls with e | ⟨g, off, cur, e1, e2, e3, e4, e5, e6, e7⟩
    · exact .inl e
    · refine .inr ⟨g, off, cur, e1, e2, (hk g (Array.getElem?_eq_some_iff.1 e3).1 fun e => ?_).trans e3, e4, e5, e6, fun j hj => ?_⟩
      · subst e
        rw [h.blk] at e3
        simp only [Option.some.injEq, Obj.cells.injEq] at e3
        exact absurd e3.2.1 (by decide)
      · obtain ⟨u', u1, u2⟩ := e7 j hj
        refine ⟨u', u1, u2.kept fun k cs hF hc' => ⟨hk k (Array.getElem?_eq_some_iff.1 hc').1 fun e => ?_, hF⟩⟩
        subst e
        rw [h.blk] at hc'
        simp only [Option.some.injEq, Obj.cells.injEq] at hc'
        exact absurd hc'.2.1 (by decide)
/-- All that was there stays. -/
def KeptN (w W : World) : Prop := Below w.heap.size w W
theorem KeptN.cell {w W : World} (h : KeptN w W) {k : Nat} (hk : k < w.heap.size) (i : Nat) : W.cell? ⟨k, i, none⟩ = w.cell? ⟨k, i, none⟩ := Below.cell h (p := ⟨k, i, none⟩) hk
theorem KeptN.frozen {w W : World} (h : KeptN w W) {k : Nat} (hk : k < w.heap.size) (i : Nat) : W.frozen? ⟨k, i, none⟩ = w.frozen? ⟨k, i, none⟩ := Below.frozen h (p := ⟨k, i, none⟩) hk
/-- What Send answers: the number, new bytes, whether there was one. -/
def SendP (F : Nat → Prop) (w : World) (D : Nat) (s : Snd) (e : Ending) (w' : World) : Prop :=
  ∃ A c, e = .returned (.tuple #[.int .i64 (sendN s : Int), .slice A (sendP s).length c, .bool (sendOk s)]) ∧ Hid (Me.Own w' w.heap.size (.slice A (sendP s).length c) (sendP s)) ∧ Hid (AfterS F w D (sendS s) w')
set_option maxHeartbeats 2000000 in
theorem Send_any {F : Nat → Prop} (w : World) (D : Nat) (s : Snd) (A : Option Addr) (c : Nat) (h : Hid (Sq F w D s A c)) (ok : Hid s.Ok) : Calls Try.prog 33 #[.pointer (some ⟨D, 0, none⟩)] w (SendP F w D s) := by
  have c0 : w.cell? ⟨D, 0, none⟩ = some (.int .i64 (s.size : Int)) := h.out.cell 0
  have c1 : w.cell? ⟨D, 1, none⟩ = some (.int .i64 (s.base : Int)) := h.out.cell 1
  have c2 : w.cell? ⟨D, 2, none⟩ = some (.int .i64 (s.under : Int)) := h.out.cell 2
  have c3 : w.cell? ⟨D, 3, none⟩ = some (.slice A s.l.length c) := h.out.cell 3
  have hu := ok.out.u
  have hul := ok.out.ul
  have h63 := ok.out.s63
  have hbb := ok.out.b
  by_cases h1 : s.under < s.size
  · by_cases h2 : s.under < s.l.length
    · have HO : Hid (sendOk s = true) := decide_eq_true ⟨h1, h2⟩
      obtain ⟨g, off, R, cr, rfl, hFg, hg, hcell, hown, hR⟩ := h.out.ls.elem h2
      obtain ⟨p1, p2, p3⟩ := ok.out.at_ h2
      obtain ⟨p, hp⟩ : ∃ p, lsAt s.l s.under = p := ⟨_, rfl⟩
      have HN : Hid (sendN s = (s.base + s.under) % 128) := by show _ = _; unfold sendN; rw [if_pos HO.out]
      have HP : Hid (sendP s = p) := by show _ = _; unfold sendP; rw [if_pos HO.out, hp]
      have HS : Hid (sendS s = ⟨s.size, s.base, s.under + 1, s.l⟩) := by show _ = _; unfold sendS; rw [if_pos HO.out]
      rw [hp] at hcell hown p1 p2 p3
      obtain ⟨r1, r2, r3, r4⟩ := own_rd hown p3
      have HC := Lib.hid (fun (W : World) (hW : Hid (Below w.heap.size w W)) => BClone_any R cr w.heap.size p W (r1.below hW.out) r2 hW.out.size (by omega))
      have HR := Lib.hid (fun W => Wn.Reduce_at (n := (s.base : Int) + (s.under : Int)) (m := (((s.base + s.under) % 128 : Nat) : Int)) (by omega) W)
      have HPB := Lib.hid p3
      have HD := Lib.hid h.out.lt
      have HG := Lib.hid hg
      have g1 : ((s.under : Int) == (s.size : Int)) = false := beq_eq_false_iff_ne.mpr (by omega)
      have g2 : ((s.under : Int) == (s.l.length : Int)) = false := beq_eq_false_iff_ne.mpr (by omega)
      have g3 : (s.under : Int) < (s.l.length : Int) := by omega
      have g4 : IntKind.i64.wrap ((s.base : Int) + (s.under : Int)) = (s.base : Int) + (s.under : Int) := IntWalk.i64_in _ (by omega)
      have g5 : IntKind.i64.wrap ((s.under : Int) + 1) = (s.under : Int) + 1 := IntWalk.i64_in _ (by omega)
      have f2 := h.out.frozen 2
      clear h1 h2 hu hul h63 hbb hFg hown hR p1 p2 p3 r1 r2 r3 r4 hp hg
      go_enter Try.func33, Try.ntmps33
      go_wp2
      go_quiet (fail)
      have HW1 : KeptN w (w.drewN nq) := below_drewN (Below.refl _ _) _
      generalize w.drewN nq = W1 at HW1 ⊢
      have d1 := (KeptN.cell HW1 HD.out 1).trans c1
      have d2 := (KeptN.cell HW1 HD.out 2).trans c2
      go_wp2
      go_quiet ((go_at_call 45; exact (HR.out _).mono fun _ _ h => ⟨h.1, _, h.2.symm⟩))
      go_wp2
      have HW0 : Hid (Below w.heap.size w (W1.drewN nq)) := below_drewN HW1 _
      generalize W1.drewN nq = W at HW0 ⊢
      have S0 : KeptN w W.drew := HW0.out.drew
      refine wp_region_held_drew (S := KeptN w) (by kernel_rfl) S0 (fun hHeld => ?_)
      refine wpAnyH_take (i := 0) (v := ?vz6) rfl (by kernel_rfl) (by kernel_rfl) (by kernel_rfl) (fun _ _ _ h => h) (Or.inl ⟨by rfl, ?hyz6⟩) (by first | assumption | exact trivial) ?restz6
      case hyz6 => intro W hSW; go_simp; try (with_reducible rfl)
      simp only [Act.put, List.getElem_toArray, List.getElem_cons_succ, List.getElem_cons_zero, List.setIfInBounds_toArray, List.set_cons_zero, List.set_cons_succ]
      refine wpAnyH_take (i := 1) (v := ?vz7) rfl (by kernel_rfl) (by kernel_rfl) (by kernel_rfl) (fun _ _ _ h => h) (Or.inl ⟨by rfl, ?hyz7⟩) (by first | assumption | exact trivial) ?restz7
      case hyz7 => intro W hSW; go_simp; try (with_reducible rfl)
      simp only [Act.put, List.getElem_toArray, List.getElem_cons_succ, List.getElem_cons_zero, List.setIfInBounds_toArray, List.set_cons_zero, List.set_cons_succ]
      refine wpAnyH_take (i := 2) (v := ?vz8) rfl (by kernel_rfl) (by kernel_rfl) (by kernel_rfl) (fun _ _ _ h => h) (Or.inl ⟨by rfl, ?hyz8⟩) (by first | assumption | exact trivial) ?restz8
      case hyz8 => intro W hSW; go_simp; try (with_reducible rfl)
      simp only [Act.put, List.getElem_toArray, List.getElem_cons_succ, List.getElem_cons_zero, List.setIfInBounds_toArray, List.set_cons_zero, List.set_cons_succ]
      refine wpAnyH_take (i := 3) (v := ?vz9) rfl (by kernel_rfl) (by kernel_rfl) (by kernel_rfl) (fun _ _ _ h => h) (Or.inl ⟨by rfl, ?hyz9⟩) (by first | assumption | exact trivial) ?restz9
      case hyz9 => intro W hSW; have q3 := (KeptN.cell hSW HD.out 3).trans c3; go_simp; try (with_reducible rfl)
      simp only [Act.put, List.getElem_toArray, List.getElem_cons_succ, List.getElem_cons_zero, List.setIfInBounds_toArray, List.set_cons_zero, List.set_cons_succ]
      refine wpAnyH_take (i := 4) (v := ?vz10) rfl (by kernel_rfl) (by kernel_rfl) (by kernel_rfl) (fun _ _ _ h => h) (Or.inl ⟨by rfl, ?hyz10⟩) (by first | assumption | exact trivial) ?restz10
      case hyz10 => intro W hSW; go_simp; try (with_reducible rfl)
      simp only [Act.put, List.getElem_toArray, List.getElem_cons_succ, List.getElem_cons_zero, List.setIfInBounds_toArray, List.set_cons_zero, List.set_cons_succ]
      refine wpAnyH_take (i := 5) (v := ?vz11) rfl (by kernel_rfl) (by kernel_rfl) (by kernel_rfl) (fun _ _ _ h => h) (Or.inl ⟨by rfl, ?hyz11⟩) (by first | assumption | exact trivial) ?restz11
      case hyz11 => intro W hSW; go_simp; try (with_reducible rfl)
      simp only [Act.put, List.getElem_toArray, List.getElem_cons_succ, List.getElem_cons_zero, List.setIfInBounds_toArray, List.set_cons_zero, List.set_cons_succ]
      refine wpAnyH_take (i := 6) (v := ?vz12) rfl (by kernel_rfl) (by kernel_rfl) (by kernel_rfl) (fun _ _ _ h => h) (Or.inl ⟨by rfl, ?hyz12⟩) (by first | assumption | exact trivial) ?restz12
      case hyz12 => intro W hSW; go_simp; try (with_reducible rfl)
      simp only [Act.put, List.getElem_toArray, List.getElem_cons_succ, List.getElem_cons_zero, List.setIfInBounds_toArray, List.set_cons_zero, List.set_cons_succ]
      refine wpAnyH_take (i := 7) (v := ?vz13) rfl (by kernel_rfl) (by kernel_rfl) (by kernel_rfl) (fun _ _ _ h => h) (Or.inl ⟨by rfl, ?hyz13⟩) (by first | assumption | exact trivial) ?restz13
      case hyz13 => intro W hSW; have q2 := (KeptN.cell hSW HD.out 2).trans c2; go_simp; try (with_reducible rfl)
      simp only [Act.put, List.getElem_toArray, List.getElem_cons_succ, List.getElem_cons_zero, List.setIfInBounds_toArray, List.set_cons_zero, List.set_cons_succ]
      refine wpAnyH_take (i := 8) (v := ?vz14) rfl (by kernel_rfl) (by kernel_rfl) (by kernel_rfl) (fun _ _ _ h => h) (Or.inl ⟨by rfl, ?hyz14⟩) (by first | assumption | exact trivial) ?restz14
      case hyz14 => intro W hSW; go_simp; try (with_reducible rfl)
      simp only [Act.put, List.getElem_toArray, List.getElem_cons_succ, List.getElem_cons_zero, List.setIfInBounds_toArray, List.set_cons_zero, List.set_cons_succ]
      refine wpAnyH_take (i := 9) (v := ?vz15) rfl (by kernel_rfl) (by kernel_rfl) (by kernel_rfl) (fun _ _ _ h => h) (Or.inl ⟨by rfl, ?hyz15⟩) (by first | assumption | exact trivial) ?restz15
      case hyz15 => intro W hSW; have q4 := (KeptN.cell hSW HG.out _).trans hcell; go_simp; try (with_reducible rfl)
      simp only [Act.put, List.getElem_toArray, List.getElem_cons_succ, List.getElem_cons_zero, List.setIfInBounds_toArray, List.set_cons_zero, List.set_cons_succ]
      refine wpAnyH_ready (rs := [10]) (by kernel_rfl) (by simp) ?_
      refine AllReadyH.cons rfl (fun K hK => ?_) AllReadyH.nil
      go_simp
      go_wp2_with (go_at_call 26; refine (HC.out _ ?_).mono ?_; (exact S0); rintro e w5 ⟨v5, rfl, ho5, hb5⟩; obtain ⟨A5, c5, rfl, _, _, _⟩ := ho5.out.held HPB.out)
      have S5 : KeptN w w5 := Below.trans S0 (hb5.out.mono (Below.size S0))
      refine hK.out _ _ (S5) (fun hHeld => ?_)
      clear hK K
      refine wpAnyH_take (i := 11) (v := ?vz16) rfl (by kernel_rfl) (by kernel_rfl) (by kernel_rfl) (fun _ _ _ h => h) (Or.inl ⟨by rfl, ?hyz16⟩) (by first | assumption | exact trivial) ?restz16
      case hyz16 => intro W hSW; go_simp; try (with_reducible rfl)
      simp only [Act.put, List.getElem_toArray, List.getElem_cons_succ, List.getElem_cons_zero, List.setIfInBounds_toArray, List.set_cons_zero, List.set_cons_succ]
      refine wpAnyH_done (by kernel_rfl) ?_ _
      have q2 := (KeptN.cell S5 HD.out 2).trans c2
      have qf := (KeptN.frozen S5 HD.out 2).trans f2
      have HO5 : Hid (Me.Own w5 w.heap.size (.slice A5 p.length c5) p) := own_base ho5.out fun k e => Nat.le_trans (Below.size S0) (ho5.out.lt k e).1
      have HA : Hid (AfterS F w D (sendS s) (w5.setCell ⟨D, 2, none⟩ (.int .i64 ((s.under : Int) + 1)))) := by
        rw [HS.out]
        exact set_done h.out S5 _ (by simp [scells]) rfl
      clear ho5 hb5
      go_wp2
      go_returns
      refine ⟨A5, c5, ?_, ?_, HA⟩
      · rw [HN.out, HP.out, HO.out]; rfl
      · rw [HP.out]
        exact own_same HO5.out fun k e hk => Below.heap_setCell _ _ _ _ (by have := (HO5.out.lt k e).1; have := HD.out; show k ≠ D; omega)
    · have HO : Hid (sendOk s = false) := decide_eq_false (by omega)
      have HN : Hid (sendN s = 0) := by show _ = _; unfold sendN; rw [HO.out]; rfl
      have HP : Hid (sendP s = []) := by show _ = _; unfold sendP; rw [HO.out]; rfl
      have HS : Hid (sendS s = s) := by show _ = _; unfold sendS; rw [HO.out]; rfl
      have g1 : ((s.under : Int) == (s.size : Int)) = false := beq_eq_false_iff_ne.mpr (by omega)
      have g2 : ((s.under : Int) == (s.l.length : Int)) = true := beq_iff_eq.mpr (by omega)
      clear h1 h2 hu hul h63 hbb
      go_enter Try.func33, Try.ntmps33
      go_wp2
      go_quiet (fail)
      go_wp2
      go_returns
      refine ⟨none, 0, ?_, ?_, ?_⟩
      · rw [HN.out, HP.out, HO.out]; rfl
      · rw [HP.out]; exact Me.Own.nil _ _
      · rw [HS.out]; exact AfterS.same h.out (below_drewN (Below.refl _ _) _)
  · have HO : Hid (sendOk s = false) := decide_eq_false (by omega)
    have HN : Hid (sendN s = 0) := by show _ = _; unfold sendN; rw [HO.out]; rfl
    have HP : Hid (sendP s = []) := by show _ = _; unfold sendP; rw [HO.out]; rfl
    have HS : Hid (sendS s = s) := by show _ = _; unfold sendS; rw [HO.out]; rfl
    have g1 : ((s.under : Int) == (s.size : Int)) = true := beq_iff_eq.mpr (by omega)
    clear h1 hu hul h63 hbb
    go_enter Try.func33, Try.ntmps33
    go_wp2
    go_quiet (fail)
    go_wp2
    go_returns
    refine ⟨none, 0, ?_, ?_, ?_⟩
    · rw [HN.out, HP.out, HO.out]; rfl
    · rw [HP.out]; exact Me.Own.nil _ _
    · rw [HS.out]; exact AfterS.same h.out (below_drewN (Below.refl _ _) _)
end Go.Proofs.Ytnfjfcoonabmmaa.Sn
