/- Clone of a set. -/
import Derived.Test.YtfnlhfelpdkieaaGreatZ9
import Derived.Test.YtfnlhfelpdkieaaGreatZ8
import Derived.Test.YtfnlhfelpdkieaaGreatZ13
import Derived.Test.YtfnlhfelpdkieaaGreatZ25
import Derived.Test.YtfnlhfelpdkieaaGreatZ11
import Derived.Test.YtfnlhfelpdkieaaGreatSeAddL
import Derived.Test.YtfnlhfelpdkieaaGreatZ23
import Derived.Maps.RangeWalk
namespace Go.Proofs.YtfnlhfelpdkieaaGreat.Se
open Go.RowKit Go.Maps
open Go.Proofs.YtfnlhfelpdkieaaGreat.Me Go.Proofs.YtfnlhfelpdkieaaGreat.Sb
set_option linter.unusedVariables false
set_option linter.unusedSimpArgs false

/-- What was handed out of a map. -/
def keptL (kept : Int → Int → Option Mk) (L : List (Int × Int)) : Int → Int → Option Mk := fun o e => if (o, e) ∈ L then kept o e else none
theorem keptL_nil (kept : Int → Int → Option Mk) : keptL kept [] = fun _ _ => none := by funext o e; unfold keptL; simp
theorem keptL_snoc (kept : Int → Int → Option Mk) (L : List (Int × Int)) (o e : Int) (m : Mk) (h : kept o e = some m) : keptL kept (L ++ [(o, e)]) = setM (keptL kept L) o e m := by
  funext a b
  unfold keptL setM
  by_cases he : a = o ∧ b = e
  · obtain ⟨rfl, rfl⟩ := he
    simp [h]
  · have : ¬ ((a, b) = (o, e)) := fun hh => he (by cases hh; exact ⟨rfl, rfl⟩)
    rw [if_neg he]
    simp [this]
theorem Own_sl {w : World} {B : Nat} {v : Value} {l : List Int} (h : Mi.Own w B v l) : ∃ A c, v = .slice A l.length c ∧ Sl w A c l := by
  obtain ⟨A, c, e, h1, h2, h3, h4, _⟩ := h.form
  refine ⟨A, c, e, h1, h2, ?_, fun a ha => ?_⟩
  · intro hA
    have := h4 hA
    exact ⟨List.eq_nil_of_length_eq_zero this.1, this.2⟩
  · subst ha
    rcases h.2 with ⟨h5, _⟩ | ⟨g, cap, cur, h5, _, h6, _⟩
    · rw [e] at h5; cases h5
    · rw [e] at h5
      cases h5
      refine ⟨g, 0, rfl, ⟨cur, h6⟩, fun i hi => ?_⟩
      obtain ⟨b, off, e1, _, e3⟩ := h3 (by omega)
      cases e1
      exact e3 i hi
end Go.Proofs.YtfnlhfelpdkieaaGreat.Se
/- The program's From: the set of marks. -/
namespace Go.Proofs.YtfnlhfelpdkieaaGreat.Se
open Go.RowKit
open Go.Proofs.YtfnlhfelpdkieaaGreat.Me Go.Proofs.YtfnlhfelpdkieaaGreat.Sb
set_option linter.unusedVariables false
set_option linter.unusedSimpArgs false

set_option maxHeartbeats 4000000 in
theorem New_noF (g : Int) (h : g < 0 ∨ 256 < g) (w : World) : Calls Tryz.prog 24 #[.int .i64 g] w fun e w' => e = .returned (.tuple #[.pointer none, .int .i64 1]) ∧ w = w' := by
  by_cases a0 : g < 0
  · clear h
    go_enter Tryz.func24, Tryz.ntmps24
    go_wp2
    go_ret2
    exact ⟨rfl, rfl⟩
  · have a1 : 256 < g := by omega
    clear h
    go_enter Tryz.func24, Tryz.ntmps24
    go_wp2
    go_ret2
    exact ⟨rfl, rfl⟩
/-- Mark j where it lies. -/
def RowsM (w : World) (A : Option Addr) (N : Nat) (ms : List Mr) : Prop := ∀ j, j < N → ∃ g' off pA pc, A = some ⟨g', off, none⟩ ∧ g' < w.heap.size ∧ (w.cell? ⟨g', off + j * 4, none⟩ = some (.int .i64 (mrAt ms j).o) ∧ w.cell? ⟨g', off + j * 4 + 1, none⟩ = some (.int .i64 (mrAt ms j).e) ∧ w.cell? ⟨g', off + j * 4 + 2, none⟩ = some (.int .i64 (mrAt ms j).up) ∧ w.cell? ⟨g', off + j * 4 + 3, none⟩ = some (.slice pA (mrAt ms j).more.length pc)) ∧ Mi.Rd w w.heap.size pA (mrAt ms j).more ∧ (pA = none → (mrAt ms j).more.length = 0 ∧ pc = 0)
theorem rowsM {A : Option Addr} {n c : Nat} {P : List Pm} {ms : List Mr} {w : World} (hv : Mv w (.slice A n c) P) (hz : Msn P) (hms : P.map Pm.m = ms) : n = P.length ∧ ms.length = P.length ∧ RowsM w A P.length ms := by
  obtain ⟨A0, c0, e0, hc1, hc2, hrows⟩ := hv
  injection e0 with e1 e2 e3
  subst e1 e2 e3
  refine ⟨rfl, by rw [← hms]; simp, fun j hj => ?_⟩
  obtain ⟨p, hp⟩ : ∃ p, P[j]? = some p := ⟨_, List.getElem?_eq_getElem hj⟩
  have e : mrAt ms j = p.m := by
    unfold mrAt
    rw [List.getD_eq_getElem?_getD, ← hms, List.getElem?_map, hp]; rfl
  obtain ⟨g', off, e1, e2, x, y1, y2, y3⟩ := hrows j p hp
  rw [e]
  exact ⟨g', off, p.A, p.c, e1, e2, x, y3, hz.each p (List.mem_of_getElem? hp)⟩
theorem Mw.msn {w : World} {B : Nat} {v : Value} {P : List Pm} (h : Mw w B v P) (hl : P.length ≤ 3000000000000) : Msn P := ⟨hl, fun p hp hA => by
  obtain ⟨A', c', e5, h3, h4, h5, h6, _⟩ := (h.each p hp).form
  unfold Pm.v at e5
  simp only [Value.slice.injEq] at e5
  rw [← e5.1, ← e5.2.2] at h6
  exact h6 hA⟩
set_option maxRecDepth 100000 in
set_option maxHeartbeats 8000000 in
/-- No room that can be, or marks that are not right: there is no set. -/
theorem From_bad (g : Int) (A : Option Addr) (n c : Nat) (P : List Pm) (ms : List Mr) (w : World) (hv : Hid (Mv w (.slice A n c) P)) (hz : Hid (Msn P)) (hms : Hid (P.map Pm.m = ms)) (hbad : (g < 0 ∨ 256 < g) ∨ ¬ okMs ms ms.length) :
    Calls Tryz.prog 53 #[.int .i64 g, .slice A n c] w fun e w' => e = .returned (.tuple #[.pointer none, .int .i64 (ckE g ms : Int)]) ∧ Hid (Below w.heap.size w w') := by
  obtain ⟨hn, hml, hR⟩ := rowsM hv.out hz.out hms.out
  have hcap := hz.out.len
  have hnc : P.length ≤ c := by
    obtain ⟨A0, c0, e0, hc1, _⟩ := hv.out
    injection e0 with e1 e2 e3
    omega
  by_cases hg : g < 0 ∨ 256 < g
  · have hk : ckE g ms = 1 := by unfold ckE; rw [if_pos hg]
    rw [hk]
    have HN := Lib.hid (fun W => New_noF g hg W)
    clear hg hR hk hn hml hcap hnc hbad
    go_enter Tryz.func53, Tryz.ntmps53
    go_wp2_with (go_at_call 24; refine (HN.out _).mono ?_; rintro e w1 ⟨rfl, rfl⟩)
    go_ret2
    exact ⟨rfl, Below.refl _ _⟩
  · have HN := Lib.hid (fun W => New_ok g (by omega) (by omega) W)
    have HO : Hid (∀ W, Below w.heap.size w W → Calls Tryz.prog 80 #[.slice A n c] W fun e w' => ∃ B : Bool, e = .returned (.bool B) ∧ Hid (B = true ↔ okMs ms ms.length) ∧ Hid (Below W.heap.size W w')) := fun W hW => inOrder_any A n c P ms W (hv.out.below hW) hms (by omega)
    have hok : ¬ okMs ms ms.length := by
      rcases hbad with h | h
      · exact absurd h hg
      · exact h
    have hk : ckE g ms = 2 := by unfold ckE; rw [if_neg hg, if_pos hok]
    rw [hk]
    have HNo := Lib.hid hok
    clear hg hR hk hok hn hml hcap hnc hbad
    go_enter Tryz.func53, Tryz.ntmps53
    go_wp2_with (first
      | (go_at_call 24; refine (HN.out _).mono ?_; rintro e w1 ⟨D, b, rfl, hS, hD, hb, hb1⟩)
      | (go_at_call 80; refine (HO.out w1 hb1.out).mono ?_; rintro e w2 ⟨B, rfl, hB, hb2⟩; obtain rfl : B = false := (by cases B; rfl; exact absurd (hB.out.1 rfl) HNo.out)))
    go_ret2
    exact ⟨rfl, go_on hb1.out hb2.out⟩
end Go.Proofs.YtfnlhfelpdkieaaGreat.Se
/- The program's From, marks that are right: the lists of its set lie apart. -/
namespace Go.Proofs.YtfnlhfelpdkieaaGreat.Se
open Go.RowKit
open Go.Proofs.YtfnlhfelpdkieaaGreat.Me Go.Proofs.YtfnlhfelpdkieaaGreat.Sb
set_option linter.unusedVariables false
set_option linter.unusedSimpArgs false

set_option maxRecDepth 100000 in
set_option maxHeartbeats 8000000 in
theorem From_goodL (F : Nat → Prop) (g : Int) (A : Option Addr) (n c : Nat) (P : List Pm) (ms : List Mr) (w : World) (hF : Hid (∀ k, w.heap.size ≤ k → F k)) (hv : Hid (Mv w (.slice A n c) P)) (hz : Hid (Msn P)) (hms : Hid (P.map Pm.m = ms)) (h0 : 0 ≤ g) (h1 : g ≤ 256) (hok : okMs ms ms.length) :
    Calls Tryz.prog 53 #[.int .i64 g, .slice A n c] w fun e w' => Hid (Below w.heap.size w w') ∧ ((g < gapsTo ms ms.length ∧ e = .returned (.tuple #[.pointer none, .int .i64 6])) ∨ (¬ g < gapsTo ms ms.length ∧ ∃ D b, e = .returned (.tuple #[.pointer (some ⟨D, 0, none⟩), .int .i64 0]) ∧ Hid (SetL F w' D b ms.length ⟨g, gapsTo ms ms.length, keptTo ms ms.length⟩) ∧ w.heap.size ≤ D ∧ w.heap.size ≤ b)) := by
  obtain ⟨hn, hml, hR⟩ := rowsM hv.out hz.out hms.out
  have hcap := hz.out.len
  have hnc : P.length ≤ c := by
    obtain ⟨A0, c0, e0, hc1, _⟩ := hv.out
    injection e0 with e1 e2 e3
    omega
  have HN := Lib.hid (fun W => New_ok g h0 h1 W)
  have HO : Hid (∀ W, Below w.heap.size w W → Calls Tryz.prog 80 #[.slice A n c] W fun e w' => ∃ B : Bool, e = .returned (.bool B) ∧ Hid (B = true ↔ okMs ms ms.length) ∧ Hid (Below W.heap.size W w')) := fun W hW => inOrder_any A n c P ms W (hv.out.below hW) hms (by omega)
  obtain ⟨N, hN⟩ : ∃ N, P.length = N := ⟨_, rfl⟩
  rw [hN] at hn hml hR
  rw [hn] at HO ⊢
  have hl := okMs_len hok
  have HOk := Lib.hid hok
  have HMl := Lib.hid hml
  have HR := Lib.hid hR
  have hN2 : N ≤ 4194304 := by omega
  rw [hml] at HO hl ⊢
  clear hN hn hml hR hcap hnc hok hl
  go_enter Tryz.func53, Tryz.ntmps53
  go_wp2_with (first
    | (go_at_call 24; refine (HN.out _).mono ?_; rintro e w1 ⟨D, b, rfl, hS, hD, hb, hb1⟩)
    | (go_at_call 80; refine (HO.out w1 hb1.out).mono ?_; rintro e w2 ⟨B, rfl, hB, hb2⟩; obtain rfl : B = true := hB.out.2 (by have := HOk.out; rwa [HMl.out] at this)))
  have hS2 := hS.below hb2.out
  have HM2 : Hid (MpL F w2 b 0 (keptTo ms 0)) := by
    obtain ⟨D0, q1, q2⟩ := hS2.map
    refine ⟨D0, q1, ⟨q2.keys, q2.no, fun o e m hp hk => (by cases hk), fun o e o' e' hp _ _ u A n c u' A' n' c' h1 _ => ?_⟩⟩
    have hno := q2.no o e hp rfl
    have := h1 (.held (.int .i64 0))
    rw [Go.Maps.atKey_of_not_has hno] at this
    cases this
  have HX2 : Hid (w2.heap[D]? = some (.cells #[.int .i64 g, .int .i64 (gapsTo ms 0), .map (some b)] 117 (0, 0))) := hS2.box
  have HB2 : Hid (Below w.heap.size w w2) := go_on hb1.out hb2.out
  have HDb : Hid (D ≠ b ∧ w.heap.size ≤ D ∧ w.heap.size ≤ b) := ⟨hS2.ne, hD, hb⟩
  clear hS hS2 hD hb hb1 hb2 hB HN HO
  go_loopw [25] (fun v25 wr => ∃ j : Nat, j ≤ N ∧ v25 = .int .i64 (j : Int) ∧ Hid (wr.heap[D]? = some (.cells #[.int .i64 g, .int .i64 (gapsTo ms j), .map (some b)] 117 (0, 0))) ∧ Hid (MpL F wr b 0 (keptTo ms 0)) ∧ Hid (Below w.heap.size w wr)) (fun v25 _ => N - (intOf v25).toNat)
  case atStart => exact ⟨0, Nat.zero_le _, rfl, HX2, HM2, HB2⟩
  case round =>
    obtain ⟨j, hj, rfl, HX, HM, HB⟩ := hrel
    by_cases hjl : j < N
    · obtain ⟨bl, off, pA, pc, rfl, hbl, ⟨c0, c1, c2, c3⟩, hrd, hnil⟩ := HR.out j hjl
      have x0 := (HB.out.cell (p := ⟨bl, off + j * 4, none⟩) hbl).trans c0
      have x1 := (HB.out.cell (p := ⟨bl, off + j * 4 + 1, none⟩) hbl).trans c1
      have x2 := (HB.out.cell (p := ⟨bl, off + j * 4 + 2, none⟩) hbl).trans c2
      have x3 := (HB.out.cell (p := ⟨bl, off + j * 4 + 3, none⟩) hbl).trans c3
      have hG := gapsTo_le (ms := ms) j (okMs_le HOk.out (by have := HMl.out; omega))
      have hG2 := hG.2 (by have := HMl.out; omega)
      have hGs := gapsTo_succ (ms := ms) (j := j) (by have := HMl.out; omega)
      have hM6 := rgt_len (HOk.out j (by have := HMl.out; omega)).1
      obtain ⟨⟨o, e, u, ml⟩, hm⟩ : ∃ m : Mr, mrAt ms j = m := ⟨_, rfl⟩
      rw [hm] at x0 x1 x2 x3 hGs hM6
      simp only at x0 x1 x2 x3 hGs hM6
      obtain ⟨M, hMl⟩ : ∃ M, ml.length = M := ⟨_, rfl⟩
      rw [hMl] at x3 hGs hM6
      obtain ⟨G, hGe⟩ : ∃ G, gapsTo ms j = G := ⟨_, rfl⟩
      rw [hGe] at hG hG2 hGs HX
      have HGs := Lib.hid hGs
      have q1 : 0 ≤ G := hG.1
      have q2 : G ≤ 1000000000000 := by omega
      have HWr : Hid (IntKind.i64.wrap (G + (M : Int)) = G + (M : Int)) := Mi.fits' ⟨by omega, by omega⟩
      have t1 : (j : Int) < (N : Int) := by omega
      have t2 : ¬ ((N : Int) ≤ (j : Int)) := by omega
      obtain ⟨V, hV⟩ : ∃ V, wr.alloc (.cells #[.int .i64 o, .int .i64 e, .int .i64 u, .slice pA M pc] 112) = V := ⟨_, rfl⟩
      have hbv : Below wr.heap.size wr V := by rw [← hV]; exact Me.below_alloc (Below.refl _ _)
      have hxv : V.heap[wr.heap.size]? = some (.cells #[.int .i64 o, .int .i64 e, .int .i64 u, .slice pA M pc] 112 (0, 0)) := by rw [← hV]; exact heap_alloc_new wr _
      have hDl : D < wr.heap.size := (Array.getElem?_eq_some_iff.1 HX.out).1
      have HV := Lib.hid hV
      have HBv := Lib.hid hbv
      have HXv := Lib.hid hxv
      have HXD : Hid (V.heap[D]? = some (.cells #[.int .i64 g, .int .i64 G, .map (some b)] 117 (0, 0))) := (hbv.block _ hDl).trans HX.out
      have HMv : Hid (MpL F V b 0 (keptTo ms 0)) := HM.out.keep (hbv.block _ HM.out.lt) (IntsF.below hbv) fun _ _ h => h
      have HBw : Hid (Below w.heap.size w V) := go_on HB.out hbv
      have HDX : Hid (D < wr.heap.size) := hDl
      clear hV hbv hxv hDl c0 c1 c2 c3 hrd hnil hbl hG hG2 hGs hGe hMl hm
      go_wp2
      rw [HV.out]
      have S0 : But (fun k => k = D) V V.drew := But.of_below (Below.refl _ _).drew
      refine wp_region_held_drew (S := fun W => But (fun k => k = D) V W) (by kernel_rfl) S0 (fun hHeld => ?_)
      refine wpAnyH_take (i := 0) (v := .pointer (some ⟨D, 0, none⟩)) rfl (by kernel_rfl) (by kernel_rfl) (by kernel_rfl) (fun _ _ _ h => h) (Or.inl ⟨by rfl, ?_⟩) (by first | assumption | exact trivial) ?_
      · intro W hSW; go_simp; try (with_reducible rfl)
      simp only [Act.put, List.getElem_toArray, List.getElem_cons_succ, List.getElem_cons_zero, List.setIfInBounds_toArray, List.set_cons_zero, List.set_cons_succ]
      refine wpAnyH_take (i := 1) (v := .pointer (some ⟨D, 0, none⟩)) rfl (by kernel_rfl) (by kernel_rfl) (by kernel_rfl) (fun _ _ _ h => h) (Or.inl ⟨by rfl, ?_⟩) (by first | assumption | exact trivial) ?_
      · intro W hSW; go_simp; try (with_reducible rfl)
      simp only [Act.put, List.getElem_toArray, List.getElem_cons_succ, List.getElem_cons_zero, List.setIfInBounds_toArray, List.set_cons_zero, List.set_cons_succ]
      refine wpAnyH_take (i := 2) (v := .pointer (some ⟨D, 1, none⟩)) rfl (by kernel_rfl) (by kernel_rfl) (by kernel_rfl) (fun _ _ _ h => h) (Or.inl ⟨by rfl, ?_⟩) (by first | assumption | exact trivial) ?_
      · intro W hSW; go_simp; try (with_reducible rfl)
      simp only [Act.put, List.getElem_toArray, List.getElem_cons_succ, List.getElem_cons_zero, List.setIfInBounds_toArray, List.set_cons_zero, List.set_cons_succ]
      refine wpAnyH_take (i := 4) (v := .pointer (some ⟨wr.heap.size, 3, none⟩)) rfl (by kernel_rfl) (by kernel_rfl) (by kernel_rfl) (fun _ _ _ h => h) (Or.inl ⟨by rfl, ?_⟩) (by first | assumption | exact trivial) ?_
      · intro W hSW; go_simp; try (with_reducible rfl)
      simp only [Act.put, List.getElem_toArray, List.getElem_cons_succ, List.getElem_cons_zero, List.setIfInBounds_toArray, List.set_cons_zero, List.set_cons_succ]
      refine wpAnyH_take (i := 5) (v := .slice pA M pc) rfl (by kernel_rfl) (by kernel_rfl) (by kernel_rfl) (fun _ _ _ h => h) (Or.inl ⟨by rfl, ?_⟩) (by first | assumption | exact trivial) ?_
      · intro W hSW; have y := cell_of_row W wr.heap.size 3 _ _ (0, 0) (hSW.at_ HXv.out (by have := HDX.out; omega)); go_simp; try (with_reducible rfl)
      simp only [Act.put, List.getElem_toArray, List.getElem_cons_succ, List.getElem_cons_zero, List.setIfInBounds_toArray, List.set_cons_zero, List.set_cons_succ]
      refine wpAnyH_take (i := 6) (v := .int .i64 (M : Int)) rfl (by kernel_rfl) (by kernel_rfl) (by kernel_rfl) (fun _ _ _ h => h) (Or.inl ⟨by rfl, ?_⟩) (by first | assumption | exact trivial) ?_
      · intro W hSW; go_simp; try (with_reducible rfl)
      simp only [Act.put, List.getElem_toArray, List.getElem_cons_succ, List.getElem_cons_zero, List.setIfInBounds_toArray, List.set_cons_zero, List.set_cons_succ]
      refine wpAnyH_ready (rs := [3]) (by kernel_rfl) (by simp) ?_
      refine AllReadyH.cons rfl (fun K hK => ?_) AllReadyH.nil
      have yD := cell_of_row V.drew D 1 _ _ (0, 0) HXD.out
      go_simp
      refine hK.out _ _ (S0) (fun hHeld => ?_)
      clear hK K
      refine wpAnyH_take (i := 7) (v := .int .i64 (G + M)) rfl (by kernel_rfl) (by kernel_rfl) (by kernel_rfl) (fun _ _ _ h => h) (Or.inl ⟨by rfl, ?_⟩) (by first | assumption | exact trivial) ?_
      · intro W hSW; have qw := HWr.out; go_simp; try (with_reducible rfl)
      simp only [Act.put, List.getElem_toArray, List.getElem_cons_succ, List.getElem_cons_zero, List.setIfInBounds_toArray, List.set_cons_zero, List.set_cons_succ]
      refine wpAnyH_take (i := 8) (v := .pointer (some ⟨D, 0, none⟩)) rfl (by kernel_rfl) (by kernel_rfl) (by kernel_rfl) (fun _ _ _ h => h) (Or.inl ⟨by rfl, ?_⟩) (by first | assumption | exact trivial) ?_
      · intro W hSW; go_simp; try (with_reducible rfl)
      simp only [Act.put, List.getElem_toArray, List.getElem_cons_succ, List.getElem_cons_zero, List.setIfInBounds_toArray, List.set_cons_zero, List.set_cons_succ]
      refine wpAnyH_take (i := 9) (v := .pointer (some ⟨D, 1, none⟩)) rfl (by kernel_rfl) (by kernel_rfl) (by kernel_rfl) (fun _ _ _ h => h) (Or.inl ⟨by rfl, ?_⟩) (by first | assumption | exact trivial) ?_
      · intro W hSW; go_simp; try (with_reducible rfl)
      simp only [Act.put, List.getElem_toArray, List.getElem_cons_succ, List.getElem_cons_zero, List.setIfInBounds_toArray, List.set_cons_zero, List.set_cons_succ]
      refine wpAnyH_ready (rs := [10]) (by kernel_rfl) (by simp) ?_
      refine AllReadyH.cons rfl (fun K hK => ?_) AllReadyH.nil
      have fD : V.drew.frozen? ⟨D, 1, none⟩ = false := frozen_of_row V.drew D 1 _ _ HXD.out
      go_simp
      obtain ⟨V3, hV3⟩ : ∃ V3, (V.setCell ⟨D, 1, none⟩ (.int .i64 (G + (M : Int)))).drew = V3 := ⟨_, rfl⟩
      have hB3 : But (fun k => k = D) V V3 := by
        rw [← hV3]
        exact ((But.refl (fun k => k = D) V).set (p := ⟨D, 1, none⟩) (.inl rfl) _).trans (But.of_below (S := fun _ => False) (Below.refl _ _).drew) (fun _ _ h => h.elim)
      have hX3 : V3.heap[D]? = some (.cells #[.int .i64 g, .int .i64 (G + (M : Int)), .map (some b)] 117 (0, 0)) := by
        rw [← hV3]
        have := heap_setCell_same V D 1 _ _ (.int .i64 (G + (M : Int))) HXD.out
        show (V.setCell ⟨D, 1, none⟩ (.int .i64 (G + (M : Int)))).heap[D]? = _
        simpa using this
      rw [hV3]
      clear hV3
      refine hK.out _ _ (hB3) (fun hHeld => ?_)
      clear hK K
      refine wpAnyH_done (by kernel_rfl) ?_ _
      have HX3 := Lib.hid hX3
      have HM3 : Hid (MpL F V3 b 0 (keptTo ms 0)) := HMv.out.keep (hB3.same b HMv.out.lt (fun h => HDb.out.1 h.symm)) (IntsF.but hB3 fun k cs _ hk hkD => by
        subst hkD
        rw [HXD.out] at hk
        injection hk with hk
        injection hk with _ hT _
        exact absurd hT (by decide)) fun _ _ h => h
      have HB3 : Hid (Below w.heap.size w V3) := HBw.out.trans (hB3.below HBw.out.size fun k hk => by have := HDb.out.2.1; omega)
      clear hHeld S0 hB3 hX3 yD fD
      go_wp2
      go_roundw
      case rel => exact ⟨j + 1, hjl, by go_num, by rw [HGs.out]; exact HX3.out, HM3, HB3⟩
      case measure => simp [intOf]; omega
    · obtain rfl : j = N := by omega
      have t1 : ¬ (j : Int) < (j : Int) := by omega
      have y0 := cell_of_row wr D 0 _ _ (0, 0) HX.out
      have y1 := cell_of_row wr D 1 _ _ (0, 0) HX.out
      simp at y0 y1
      by_cases hs : g < gapsTo ms j
      · have d1 : decide (g < gapsTo ms j) = true := by simpa using hs
        have HBq := Lib.hid HB.out
        have HS := Lib.hid hs
        obtain ⟨G, hGe⟩ : ∃ G, gapsTo ms j = G := ⟨_, rfl⟩
        rw [hGe] at y1 d1 hs
        clear hGe
        go_wp2
        go_quiet (fail)
        go_wp2
        go_ret2
        exact ⟨Me.below_drewN HBq.out _, .inl ⟨HS.out, rfl⟩⟩
      · have d1 : decide (g < gapsTo ms j) = false := by simpa using hs
        have HS := Lib.hid hs
        have HX0 : Hid (∀ n, (wr.drewN n).heap[D]? = some (.cells #[.int .i64 g, .int .i64 (gapsTo ms j), .map (some b)] 117 (0, 0))) := fun n => HX.out
        have HM0 : Hid (∀ n, MpL F (wr.drewN n) b 0 (keptTo ms 0)) := fun n => HM.out.keep ((Me.below_drewN (Below.refl wr.heap.size wr) n).block b HM.out.lt) (IntsF.below (Me.below_drewN (Below.refl _ _) n)) fun _ _ h => h
        have HB0 : Hid (∀ n, Below w.heap.size w (wr.drewN n)) := fun n => Me.below_drewN HB.out n
        obtain ⟨G, hGe⟩ : ∃ G, gapsTo ms j = G := ⟨_, rfl⟩
        have HGe := Lib.hid hGe
        rw [hGe] at y1 d1 hs HX0
        clear hGe HX HM HB hs
        go_wp2
        go_quiet (fail)
        have HXq := Lib.hid (HX0.out nq)
        have HMq := Lib.hid (HM0.out nq)
        have HBq := Lib.hid (HB0.out nq)
        obtain ⟨Wq, hWq⟩ : ∃ Wq, wr.drewN nq = Wq := ⟨_, rfl⟩
        rw [hWq] at HXq HMq HBq ⊢
        clear hWq HX0 HM0 HB0 y0 y1
        go_wp2
        go_loopw [51] (fun v51 wx => ∃ k : Nat, k ≤ j ∧ v51 = .int .i64 (k : Int) ∧ Hid (wx.heap[D]? = some (.cells #[.int .i64 g, .int .i64 G, .map (some b)] 117 (0, 0))) ∧ Hid (MpL F wx b k (keptTo ms k)) ∧ Hid (Below w.heap.size w wx)) (fun v51 _ => j - (intOf v51).toNat)
        case atStart => exact ⟨0, Nat.zero_le _, rfl, HXq, HMq, HBq⟩
        case round =>
          obtain ⟨k, hk, rfl, HX, HM, HB⟩ := hrel
          by_cases hkl : k < j
          · obtain ⟨bl, off, pA, pc, rfl, hbl, ⟨c0, c1, c2, c3⟩, hrd, hnil⟩ := HR.out k hkl
            have x0 := (HB.out.cell (p := ⟨bl, off + k * 4, none⟩) hbl).trans c0
            have x1 := (HB.out.cell (p := ⟨bl, off + k * 4 + 1, none⟩) hbl).trans c1
            have x2 := (HB.out.cell (p := ⟨bl, off + k * 4 + 2, none⟩) hbl).trans c2
            have x3 := (HB.out.cell (p := ⟨bl, off + k * 4 + 3, none⟩) hbl).trans c3
            have hrk := (HOk.out k (by have := HMl.out; omega)).1
            have hM6 := rgt_len hrk
            have hpp := rgt_pp hrk
            have HKs : Hid (keptTo ms (k + 1) = setM (keptTo ms k) (mrAt ms k).o (mrAt ms k).e ⟨(mrAt ms k).up, (mrAt ms k).more⟩) := rfl
            obtain ⟨⟨o, e, u, ml⟩, hm⟩ : ∃ m : Mr, mrAt ms k = m := ⟨_, rfl⟩
            rw [hm] at x0 x1 x2 x3 hM6 hpp HKs hrd hnil
            simp only at x0 x1 x2 x3 hM6 hpp HKs hrd hnil
            have HCl : Hid (∀ W, Below w.heap.size w W → Calls Tryz.prog 76 #[.slice pA ml.length pc] W fun e' w' => ∃ v, e' = .returned v ∧ Hid (Mi.Own w' W.heap.size v ml) ∧ Hid (Below W.heap.size W w')) := fun W hW => IClone_any pA pc w.heap.size ml W (hrd.below hW) hnil hW.size (by omega)
            obtain ⟨M, hMl⟩ : ∃ M, ml.length = M := ⟨_, rfl⟩
            rw [hMl] at x3 HCl
            have HMM := Lib.hid hMl
            have Hpp := Lib.hid hpp
            have t3 : (k : Int) < (j : Int) := by omega
            have t4 : ¬ ((j : Int) ≤ (k : Int)) := by omega
            obtain ⟨V, hV⟩ : ∃ V, wr.alloc (.cells #[.int .i64 o, .int .i64 e, .int .i64 u, .slice pA M pc] 112) = V := ⟨_, rfl⟩
            have hbv : Below wr.heap.size wr V := by rw [← hV]; exact Me.below_alloc (Below.refl _ _)
            have hxv : V.heap[wr.heap.size]? = some (.cells #[.int .i64 o, .int .i64 e, .int .i64 u, .slice pA M pc] 112 (0, 0)) := by rw [← hV]; exact heap_alloc_new wr _
            have HV := Lib.hid hV
            have HXv := Lib.hid hxv
            have HXD : Hid (V.heap[D]? = some (.cells #[.int .i64 g, .int .i64 G, .map (some b)] 117 (0, 0))) := (hbv.block _ (Array.getElem?_eq_some_iff.1 HX.out).1).trans HX.out
            have HMv : Hid (MpL F V b k (keptTo ms k)) := HM.out.keep (hbv.block _ HM.out.lt) (IntsF.below hbv) fun _ _ h => h
            have HBw : Hid (Below w.heap.size w V) := go_on HB.out hbv
            have HbX : Hid (b < wr.heap.size) := HM.out.lt
            clear hV hbv hxv c0 c1 c2 c3 hrd hnil hbl hMl hm hpp hrk hM6
            go_wp2
            rw [HV.out]
            have S0 : But (fun k => k = b) V V.drew := But.of_below (Below.refl _ _).drew
            refine wp_region_held_drew (S := fun W => But (fun k => k = b) V W) (by kernel_rfl) S0 (fun hHeld => ?_)
            refine wpAnyH_take (i := 0) (v := .pointer (some ⟨D, 0, none⟩)) rfl (by kernel_rfl) (by kernel_rfl) (by kernel_rfl) (fun _ _ _ h => h) (Or.inl ⟨by rfl, ?_⟩) (by first | assumption | exact trivial) ?_
            · intro W hSW; go_simp; try (with_reducible rfl)
            simp only [Act.put, List.getElem_toArray, List.getElem_cons_succ, List.getElem_cons_zero, List.setIfInBounds_toArray, List.set_cons_zero, List.set_cons_succ]
            refine wpAnyH_take (i := 1) (v := .pointer (some ⟨D, 0, none⟩)) rfl (by kernel_rfl) (by kernel_rfl) (by kernel_rfl) (fun _ _ _ h => h) (Or.inl ⟨by rfl, ?_⟩) (by first | assumption | exact trivial) ?_
            · intro W hSW; go_simp; try (with_reducible rfl)
            simp only [Act.put, List.getElem_toArray, List.getElem_cons_succ, List.getElem_cons_zero, List.setIfInBounds_toArray, List.set_cons_zero, List.set_cons_succ]
            refine wpAnyH_take (i := 2) (v := .pointer (some ⟨D, 2, none⟩)) rfl (by kernel_rfl) (by kernel_rfl) (by kernel_rfl) (fun _ _ _ h => h) (Or.inl ⟨by rfl, ?_⟩) (by first | assumption | exact trivial) ?_
            · intro W hSW; go_simp; try (with_reducible rfl)
            simp only [Act.put, List.getElem_toArray, List.getElem_cons_succ, List.getElem_cons_zero, List.setIfInBounds_toArray, List.set_cons_zero, List.set_cons_succ]
            refine wpAnyH_take (i := 3) (v := .map (some b)) rfl (by kernel_rfl) (by kernel_rfl) (by kernel_rfl) (fun _ _ _ h => h) (Or.inl ⟨by rfl, ?_⟩) (by first | assumption | exact trivial) ?_
            · intro W hSW; have y := cell_of_row W D 2 _ _ (0, 0) (hSW.at_ HXD.out HDb.out.1); go_simp; try (with_reducible rfl)
            simp only [Act.put, List.getElem_toArray, List.getElem_cons_succ, List.getElem_cons_zero, List.setIfInBounds_toArray, List.set_cons_zero, List.set_cons_succ]
            refine wpAnyH_take (i := 4) (v := .pointer (some ⟨wr.heap.size, 0, none⟩)) rfl (by kernel_rfl) (by kernel_rfl) (by kernel_rfl) (fun _ _ _ h => h) (Or.inl ⟨by rfl, ?_⟩) (by first | assumption | exact trivial) ?_
            · intro W hSW; go_simp; try (with_reducible rfl)
            simp only [Act.put, List.getElem_toArray, List.getElem_cons_succ, List.getElem_cons_zero, List.setIfInBounds_toArray, List.set_cons_zero, List.set_cons_succ]
            refine wpAnyH_take (i := 5) (v := .int .i64 o) rfl (by kernel_rfl) (by kernel_rfl) (by kernel_rfl) (fun _ _ _ h => h) (Or.inl ⟨by rfl, ?_⟩) (by first | assumption | exact trivial) ?_
            · intro W hSW; have y := cell_of_row W wr.heap.size 0 _ _ (0, 0) (hSW.at_ HXv.out (by have := HbX.out; omega)); go_simp; try (with_reducible rfl)
            simp only [Act.put, List.getElem_toArray, List.getElem_cons_succ, List.getElem_cons_zero, List.setIfInBounds_toArray, List.set_cons_zero, List.set_cons_succ]
            refine wpAnyH_take (i := 6) (v := .pointer (some ⟨wr.heap.size, 1, none⟩)) rfl (by kernel_rfl) (by kernel_rfl) (by kernel_rfl) (fun _ _ _ h => h) (Or.inl ⟨by rfl, ?_⟩) (by first | assumption | exact trivial) ?_
            · intro W hSW; go_simp; try (with_reducible rfl)
            simp only [Act.put, List.getElem_toArray, List.getElem_cons_succ, List.getElem_cons_zero, List.setIfInBounds_toArray, List.set_cons_zero, List.set_cons_succ]
            refine wpAnyH_take (i := 7) (v := .int .i64 e) rfl (by kernel_rfl) (by kernel_rfl) (by kernel_rfl) (fun _ _ _ h => h) (Or.inl ⟨by rfl, ?_⟩) (by first | assumption | exact trivial) ?_
            · intro W hSW; have y := cell_of_row W wr.heap.size 1 _ _ (0, 0) (hSW.at_ HXv.out (by have := HbX.out; omega)); go_simp; try (with_reducible rfl)
            simp only [Act.put, List.getElem_toArray, List.getElem_cons_succ, List.getElem_cons_zero, List.setIfInBounds_toArray, List.set_cons_zero, List.set_cons_succ]
            refine wpAnyH_take (i := 8) (v := .agg #[.int .i64 o, .int .i64 e]) rfl (by kernel_rfl) (by kernel_rfl) (by kernel_rfl) (fun _ _ _ h => h) (Or.inl ⟨by rfl, ?_⟩) (by first | assumption | exact trivial) ?_
            · intro W hSW; go_simp; try (with_reducible rfl)
            simp only [Act.put, List.getElem_toArray, List.getElem_cons_succ, List.getElem_cons_zero, List.setIfInBounds_toArray, List.set_cons_zero, List.set_cons_succ]
            refine wpAnyH_take (i := 9) (v := .pointer (some ⟨wr.heap.size, 2, none⟩)) rfl (by kernel_rfl) (by kernel_rfl) (by kernel_rfl) (fun _ _ _ h => h) (Or.inl ⟨by rfl, ?_⟩) (by first | assumption | exact trivial) ?_
            · intro W hSW; go_simp; try (with_reducible rfl)
            simp only [Act.put, List.getElem_toArray, List.getElem_cons_succ, List.getElem_cons_zero, List.setIfInBounds_toArray, List.set_cons_zero, List.set_cons_succ]
            refine wpAnyH_take (i := 10) (v := .int .i64 u) rfl (by kernel_rfl) (by kernel_rfl) (by kernel_rfl) (fun _ _ _ h => h) (Or.inl ⟨by rfl, ?_⟩) (by first | assumption | exact trivial) ?_
            · intro W hSW; have y := cell_of_row W wr.heap.size 2 _ _ (0, 0) (hSW.at_ HXv.out (by have := HbX.out; omega)); go_simp; try (with_reducible rfl)
            simp only [Act.put, List.getElem_toArray, List.getElem_cons_succ, List.getElem_cons_zero, List.setIfInBounds_toArray, List.set_cons_zero, List.set_cons_succ]
            refine wpAnyH_take (i := 11) (v := .pointer (some ⟨wr.heap.size, 3, none⟩)) rfl (by kernel_rfl) (by kernel_rfl) (by kernel_rfl) (fun _ _ _ h => h) (Or.inl ⟨by rfl, ?_⟩) (by first | assumption | exact trivial) ?_
            · intro W hSW; go_simp; try (with_reducible rfl)
            simp only [Act.put, List.getElem_toArray, List.getElem_cons_succ, List.getElem_cons_zero, List.setIfInBounds_toArray, List.set_cons_zero, List.set_cons_succ]
            refine wpAnyH_take (i := 12) (v := .slice pA M pc) rfl (by kernel_rfl) (by kernel_rfl) (by kernel_rfl) (fun _ _ _ h => h) (Or.inl ⟨by rfl, ?_⟩) (by first | assumption | exact trivial) ?_
            · intro W hSW; have y := cell_of_row W wr.heap.size 3 _ _ (0, 0) (hSW.at_ HXv.out (by have := HbX.out; omega)); go_simp; try (with_reducible rfl)
            simp only [Act.put, List.getElem_toArray, List.getElem_cons_succ, List.getElem_cons_zero, List.setIfInBounds_toArray, List.set_cons_zero, List.set_cons_succ]
            refine wpAnyH_ready (rs := [13]) (by kernel_rfl) (by simp) ?_
            refine AllReadyH.cons rfl (fun K hK => ?_) AllReadyH.nil
            go_simp
            go_wp2_with (go_at_call 76; refine (HCl.out _ HBw.out.drew).mono ?_; rintro e' w3 ⟨vc, rfl, ho3, hb3⟩)
            obtain ⟨Ac, cc, rfl, hsl3, hge3⟩ := Lw.of_own (F := F) ho3.out fun k hk _ => hF.out k (Nat.le_trans HBw.out.size hk)
            rw [HMM.out]
            have hb83 : Below V.heap.size V w3 := (Below.refl _ _).drew.trans hb3.out
            have S3 : But (fun k => k = b) V w3 := But.of_below hb83
            refine hK.out _ _ (S3) (fun hHeld => ?_)
            clear hK K
            refine wpAnyH_take (i := 14) (v := .agg #[.int .i64 u, .slice Ac M cc]) rfl (by kernel_rfl) (by kernel_rfl) (by kernel_rfl) (fun _ _ _ h => h) (Or.inl ⟨by rfl, ?_⟩) (by first | assumption | exact trivial) ?_
            · intro W hSW; go_simp; try (with_reducible rfl)
            simp only [Act.put, List.getElem_toArray, List.getElem_cons_succ, List.getElem_cons_zero, List.setIfInBounds_toArray, List.set_cons_zero, List.set_cons_succ]
            refine wpAnyH_ready (rs := [15]) (by kernel_rfl) (by simp) ?_
            refine AllReadyH.cons rfl (fun K hK => ?_) AllReadyH.nil
            rw [if_pos (by kernel_rfl)]
            obtain ⟨Aq, cq, _, _, hput⟩ := HMv.out.at_ (o := o) (e := e) Hpp.out
            obtain ⟨w4, hr4, hM4, hB4, hz4⟩ := hput w3 ⟨u, ml⟩ Ac cc (hb83.block _ HMv.out.lt) (fun k cs _ hk _ => hb83.block k (Array.getElem?_eq_some_iff.1 hk).1) hsl3 (fun a' ha' => .inr (hge3 a' ha')) (by omega)
            refine put_run (.tmp 58) (.tmp 63) (.tmp 69) rfl (.map (some b)) (.agg #[.int .i64 o, .int .i64 e]) (.agg #[.int .i64 u, .slice Ac M cc]) rfl rfl rfl (by rw [← HMM.out]; exact hr4) ?_
            simp only [Act.put, List.getElem_toArray, List.getElem_cons_succ, List.getElem_cons_zero, List.setIfInBounds_toArray, List.set_cons_zero, List.set_cons_succ]
            have S4 : But (fun k => k = b) V w4 := S3.trans hB4 (fun _ _ h => h)
            refine hK.out _ _ (S4) (fun hHeld => ?_)
            clear hK K
            refine wpAnyH_done (by kernel_rfl) ?_ _
            have HM4 : Hid (MpL F w4 b (k + 1) (keptTo ms (k + 1))) := by
              show MpL _ _ _ _ _
              rw [HKs.out]
              exact hM4
            have HD4 := Lib.hid (S4.at_ HXD.out HDb.out.1)
            have HB4 : Hid (Below w.heap.size w w4) := HBw.out.trans (S4.below HBw.out.size fun k' hk' => by have := HDb.out.2.2; omega)
            clear hHeld S0 S3 S4 hM4 hB4 hz4 hb83 ho3 hb3 hsl3 hge3 hput hr4
            go_wp2
            go_roundw
            case rel => exact ⟨k + 1, hkl, by go_num, HD4, HM4, HB4⟩
            case measure => simp [intOf]; omega
          · obtain rfl : k = j := by omega
            have t3 : ¬ (k : Int) < (k : Int) := by omega
            have HSet : Hid (SetL F wr D b k ⟨g, G, keptTo ms k⟩) := ⟨HX.out, HM.out, by
              have h2 := HS.out
              have h3 := okk_from (g := g) h0 h1 HOk.out (by rw [HMl.out]; omega)
              rw [HMl.out, HGe.out] at h3
              exact h3⟩
            go_wp2
            go_ret2
            refine ⟨HB.out, .inr ⟨HS.out, D, rfl, b, ?_, HDb.out.2.1, HDb.out.2.2⟩⟩
            rw [HGe.out]
            exact HSet.out
end Go.Proofs.YtfnlhfelpdkieaaGreat.Se
/- From's helper isRight. -/
namespace Go.Proofs.YtfnlhfelpdkieaaGreat.So
open Go.RowKit
open Go.Proofs.YtfnlhfelpdkieaaGreat.Me Go.Proofs.YtfnlhfelpdkieaaGreat.Sb
set_option linter.unusedVariables false
set_option linter.unusedSimpArgs false

theorem orig_any (X : Nat) (me : Int) (ep : Int) (vN vH vM : Value) (o e u : Int) (v : Value) (w : World) (hX : Hid (w.heap[X]? = some (.cells #[.int .i64 me, .int .i64 ep, vN, vH, vM] 59 (0, 0)))) : Calls Tryz.prog 84 #[.agg #[.int .i64 o, .int .i64 e, .int .i64 u, v], .pointer (some ⟨X, 0, none⟩)] w fun e w' => e = .returned (.bool (o == me)) ∧ Hid (Below w.heap.size w w') := by
  have HB : Hid (Below w.heap.size w (w.alloc (.cells #[.int .i64 o, .int .i64 e, .int .i64 u, v] 112))) := Me.below_alloc (Below.refl _ _)
  have hx := (HB.out.block X (Array.getElem?_eq_some_iff.1 hX.out).1).trans hX.out
  obtain ⟨x0, x1, x2, x3, x4⟩ := state_cells hx
  obtain ⟨r, hr⟩ : ∃ r, (o == me) = r := ⟨_, rfl⟩
  rw [hr]
  clear hx hX x1 x2 x3 x4
  go_enter Tryz.func84, Tryz.ntmps84
  go_wp2
  go_ret
  exact ⟨rfl, HB.out⟩
/-- Whether some mark speaks of a node's own messages. -/
def orgB (me : Int) (ms : List Se.Mr) : Bool := ms.any fun m => m.o == me
set_option maxRecDepth 100000 in
set_option maxHeartbeats 4000000 in
theorem IndexMk_any (X : Nat) (me ep : Int) (vN vH vM : Value) (A : Option Addr) (N c : Nat) (ms : List Se.Mr) (w : World) (hR : Hid (Se.RowsM w A N ms)) (hN : ms.length = N) (hl : N ≤ 3000000000000) (hX : Hid (w.heap[X]? = some (.cells #[.int .i64 me, .int .i64 ep, vN, vH, vM] 59 (0, 0)))) :
    Calls Tryz.prog 105 #[.slice A N c, .func (.func 84) #[] #[.pointer (some ⟨X, 0, none⟩)]] w fun e w' => ∃ r : Int, e = .returned (.int .i64 r) ∧ decide (0 ≤ r) = orgB me ms ∧ Hid (Below w.heap.size w w') := by
  have HF := Lib.hid (fun o e u v (W : World) hW => orig_any X me ep vN vH vM o e u v W hW)
  have HX : Hid (∀ W, Below w.heap.size w W → W.heap[X]? = some (.cells #[.int .i64 me, .int .i64 ep, vN, vH, vM] 59 (0, 0))) := fun W hW => (hW.block X (Array.getElem?_eq_some_iff.1 hX.out).1).trans hX.out
  have HL : Hid (ms.length = N) := hN
  clear hN hX
  have eg : ∀ args w, (callFunc 84 args).run Tryz.prog w = .ok (.enter 84 args) w := enters_of Tryz.func84 (by kernel_rfl) rfl
  go_enter Tryz.func105, Tryz.ntmps105
  go_wp2
  go_loopw [8] (fun i wr => ∃ k : Nat, k ≤ N ∧ i = .int .i64 k ∧ Hid (∀ j, j < k → ((Se.mrAt ms j).o == me) = false) ∧ Hid (Below w.heap.size w wr)) (fun i _ => N - (intOf i).toNat)
  case atStart => exact ⟨0, Nat.zero_le _, rfl, fun j hj => absurd hj (by omega), Below.refl _ _⟩
  case round =>
    obtain ⟨k, hk, rfl, hok, HB⟩ := hrel
    by_cases hlt : k < N
    · obtain ⟨g, off, pA, pc, rfl, hg, ⟨c0, c1, c2, c3⟩, _⟩ := hR.out k hlt
      have y0 := (HB.out.cell (p := ⟨g, off + k * 4, none⟩) hg).trans c0
      have y1 := (HB.out.cell (p := ⟨g, off + k * 4 + 1, none⟩) hg).trans c1
      have y2 := (HB.out.cell (p := ⟨g, off + k * 4 + 2, none⟩) hg).trans c2
      have y3 := (HB.out.cell (p := ⟨g, off + k * 4 + 3, none⟩) hg).trans c3
      obtain ⟨m, hm⟩ : ∃ m, Se.mrAt ms k = m := ⟨_, rfl⟩
      rw [hm] at y0 y1 y2 y3
      have HFk := Lib.hid (fun W hW => HF.out m.o m.e m.up (.slice pA m.more.length pc) W hW)
      have g1 : (k : Int) < (N : Int) := by omega
      have g2 : ¬ (N : Int) ≤ (k : Int) := by omega
      cases hmk : (m.o == me) with
      | false =>
        have HOK : Hid (∀ j, j < k + 1 → ((Se.mrAt ms j).o == me) = false) := fun j hj => by
          by_cases e : j = k
          · subst e; rw [hm]; exact hmk
          · exact hok.out j (by omega)
        rw [hmk] at HFk
        obtain ⟨o, e, u, ml⟩ := m
        obtain ⟨M, hM⟩ : ∃ M, ml.length = M := ⟨_, rfl⟩
        simp only at y0 y1 y2 y3 HFk
        rw [hM] at y3 HFk
        clear hmk hok hm hM c0 c1 c2 c3 hg
        go_wp2_with (go_at_call 84; refine (HFk.out _ (HX.out _ HB.out)).mono ?_; rintro e w2 ⟨rfl, hb2⟩)
        go_roundw
        case rel => exact ⟨k + 1, by omega, by go_num, HOK, HB.out.trans (hb2.out.mono HB.out.size)⟩
        case measure => simp [intOf]; omega
      | true =>
        have HA : Hid (orgB me ms = true) := by
          show _ = _
          unfold orgB
          refine List.any_eq_true.2 ⟨m, ?_, hmk⟩
          rw [← hm, Se.mrAt_get (by have := HL.out; omega)]
          exact List.getElem_mem _
        rw [hmk] at HFk
        obtain ⟨o, e, u, ml⟩ := m
        obtain ⟨M, hM⟩ : ∃ M, ml.length = M := ⟨_, rfl⟩
        simp only at y0 y1 y2 y3 HFk
        rw [hM] at y3 HFk
        clear hmk hok hm hM c0 c1 c2 c3 hg
        go_wp2_with (go_at_call 84; refine (HFk.out _ (HX.out _ HB.out)).mono ?_; rintro e w2 ⟨rfl, hb2⟩)
        go_ret
        refine ⟨_, rfl, ?_, HB.out.trans (hb2.out.mono HB.out.size)⟩
        rw [HA.out]
        simp
    · have HA : Hid (orgB me ms = false) := by
        show _ = _
        unfold orgB
        refine List.any_eq_false.2 fun m hm => ?_
        obtain ⟨j, hj, rfl⟩ := List.mem_iff_getElem.1 hm
        have := hok.out j (by have := HL.out; omega)
        rw [Se.mrAt_get hj] at this
        rw [this]; simp
      clear hok
      go_wp2
      go_ret
      exact ⟨_, rfl, by rw [HA.out]; rfl, HB⟩
set_option maxHeartbeats 4000000 in
theorem ContainsMk_any (X : Nat) (me ep : Int) (vN vH vM : Value) (A : Option Addr) (N c : Nat) (ms : List Se.Mr) (w : World) (hR : Hid (Se.RowsM w A N ms)) (hN : ms.length = N) (hl : N ≤ 3000000000000) (hX : Hid (w.heap[X]? = some (.cells #[.int .i64 me, .int .i64 ep, vN, vH, vM] 59 (0, 0)))) :
    Calls Tryz.prog 83 #[.slice A N c, .func (.func 84) #[] #[.pointer (some ⟨X, 0, none⟩)]] w fun e w' => e = .returned (.bool (orgB me ms)) ∧ Hid (Below w.heap.size w w') := by
  have HI := Lib.hid (IndexMk_any X me ep vN vH vM A N c ms w hR hN hl hX)
  clear hN hl hR hX
  go_enter Tryz.func83, Tryz.ntmps83
  go_wp2_with (go_at_call 105; refine HI.out.mono ?_; rintro e w1 ⟨r, rfl, hr, hb1⟩; have HR := Lib.hid hr; clear hr)
  go_ret
  exact ⟨by rw [← HR.out]; rfl, hb1⟩
/-- A state's right parts. -/
def rgB (me ep : Int) (N : Ns) (H : List It) (ms : List Se.Mr) : Bool := decide (0 ≤ ep ∧ ep ≤ 65535) && nxOk me ep N && hdOk me ep (cntOf N) H && !orgB me ms
set_option maxRecDepth 100000 in
set_option maxHeartbeats 16000000 in
theorem isRight_any (me ep : Int) (AN AH AM : Option Addr) (cN cH cM : Nat) (N : Ns) (H : List It) (P : List Se.Pm) (ms : List Se.Mr) (w : World) (hN : Hid (Nq w AN N)) (hNl : N.length ≤ 100000000000000) (hH : Hid (Mq w AH H)) (hHl : H.length ≤ 10000000000000) (hP : Hid (Se.Mv w (.slice AM P.length cM) P)) (hz : Hid (Se.Msn P)) (hms : Hid (P.map Se.Pm.m = ms)) :
    Calls Tryz.prog 54 #[.agg #[.int .i64 me, .int .i64 ep, .slice AN N.length cN, .slice AH H.length cH, .slice AM P.length cM]] w fun e w' => e = .returned (.bool (rgB me ep N H ms)) ∧ Hid (Below w.heap.size w w') := by
  obtain ⟨_, hml, hR⟩ := Se.rowsM hP.out hz.out hms.out
  have hPl := hz.out.len
  obtain ⟨PL, hPL⟩ : ∃ x, P.length = x := ⟨_, rfl⟩
  rw [hPL] at hml hR hPl ⊢
  obtain ⟨vM, hvM⟩ : ∃ v, Value.slice AM PL cM = v := ⟨_, rfl⟩
  have HNx : Hid (∀ W, Below w.heap.size w W → Calls Tryz.prog 81 #[.agg #[.int .i64 me, .int .i64 ep, .slice AN N.length cN, .slice AH H.length cH, .slice AM PL cM]] W fun e w' => e = .returned (.bool (nxOk me ep N)) ∧ Hid (Below W.heap.size W w')) := fun W hW => nextIsRight_any me ep AN cN N _ _ W (hN.out.below hW) hNl
  have HHd : Hid (nxOk me ep N = true → ∀ W, Below w.heap.size w W → Calls Tryz.prog 82 #[.agg #[.int .i64 me, .int .i64 ep, .slice AN N.length cN, .slice AH H.length cH, .slice AM PL cM]] W fun e w' => e = .returned (.bool (hdOk me ep (cntOf N) H)) ∧ Hid (Below W.heap.size W w')) := fun hx W hW => heldIsRight_any me ep AN AH cN cH N H _ W (hN.out.below hW) (fun p hp => by
    unfold nxOk at hx
    rw [Bool.and_eq_true] at hx
    have := ((nxB_iff.1 hx.1).1 p hp).1
    exact ⟨this.1, this.2.1⟩) (by
    unfold nxOk at hx
    rw [Bool.and_eq_true] at hx
    have := nxB_len (by omega) hx.1
    omega) (hH.out.below hW) hHl
  have HCo : Hid (∀ X W, Below w.heap.size w W → W.heap[X]? = some (.cells #[.int .i64 me, .int .i64 ep, .slice AN N.length cN, .slice AH H.length cH, .slice AM PL cM] 59 (0, 0)) → Calls Tryz.prog 83 #[.slice AM PL cM, .func (.func 84) #[] #[.pointer (some ⟨X, 0, none⟩)]] W fun e w' => e = .returned (.bool (orgB me ms)) ∧ Hid (Below W.heap.size W w')) := fun X W hW hX => ContainsMk_any X me ep _ _ _ AM PL cM ms W (by
      have h := hP.out.below hW
      have := (Se.rowsM h hz.out hms.out).2.2
      rw [hPL] at this
      exact this) hml hPl hX
  have hB : Below w.heap.size w (w.alloc (.cells #[.int .i64 me, .int .i64 ep, .slice AN N.length cN, .slice AH H.length cH, .slice AM PL cM] 59)) := Me.below_alloc (Below.refl _ _)
  have hX : (w.alloc (.cells #[.int .i64 me, .int .i64 ep, .slice AN N.length cN, .slice AH H.length cH, .slice AM PL cM] 59)).heap[w.heap.size]? = some (.cells #[.int .i64 me, .int .i64 ep, .slice AN N.length cN, .slice AH H.length cH, .slice AM PL cM] 59 (0, 0)) := heap_alloc_new w _
  obtain ⟨V0, hV0⟩ : ∃ V, w.alloc (.cells #[.int .i64 me, .int .i64 ep, .slice AN N.length cN, .slice AH H.length cH, .slice AM PL cM] 59) = V := ⟨_, rfl⟩
  rw [hV0] at hB hX
  obtain ⟨r, hr⟩ : ∃ r, rgB me ep N H ms = r := ⟨_, rfl⟩
  obtain ⟨r1, hr1⟩ : ∃ r, nxOk me ep N = r := ⟨_, rfl⟩
  obtain ⟨r2, hr2⟩ : ∃ r, hdOk me ep (cntOf N) H = r := ⟨_, rfl⟩
  obtain ⟨r3, hr3⟩ : ∃ r, orgB me ms = r := ⟨_, rfl⟩
  have HR : Hid ((decide (0 ≤ ep ∧ ep ≤ 65535) && r1 && r2 && !r3) = r) := by show _ = _; rw [← hr1, ← hr2, ← hr3, ← hr]; rfl
  rw [hr]
  rw [hr1] at HNx HHd
  rw [hr2] at HHd
  rw [hr3] at HCo
  obtain ⟨LN, hLN⟩ : ∃ x, N.length = x := ⟨_, rfl⟩
  obtain ⟨LH, hLH⟩ : ∃ x, H.length = x := ⟨_, rfl⟩
  rw [hLN, hLH] at HNx HHd HCo hX hV0 ⊢
  have HB := Lib.hid hB
  have HX : Hid (∀ W, Below V0.heap.size V0 W → W.heap[w.heap.size]? = some (.cells #[.int .i64 me, .int .i64 ep, .slice AN LN cN, .slice AH LH cH, .slice AM PL cM] 59 (0, 0))) := fun W hW => (hW.block _ (Array.getElem?_eq_some_iff.1 hX).1).trans hX
  have HV0 := Lib.hid hV0
  have hcase : ep < 0 ∨ (¬ ep < 0 ∧ 65535 < ep) ∨ (¬ ep < 0 ∧ ¬ 65535 < ep) := by omega
  obtain ⟨x0, x1, x2, x3, x4⟩ := state_cells hX
  clear hB hX hV0 hr hr1 hr2 hr3 hLN hLH hvM hms hPL hml hR hPl hN hNl hH hHl hP hz
  rcases hcase with h1 | ⟨h1, h2⟩ | ⟨h1, h2⟩
  · have HF : Hid (r = false) := by show _ = _; rw [← HR.out, decide_eq_false (by omega)]; rfl
    go_enter Tryz.func54, Tryz.ntmps54
    go_wp2_with (rw [HV0.out])
    go_ret
    exact ⟨by rw [HF.out]; rfl, HB.out⟩
  · have HF : Hid (r = false) := by show _ = _; rw [← HR.out, decide_eq_false (by omega)]; rfl
    go_enter Tryz.func54, Tryz.ntmps54
    go_wp2_with (rw [HV0.out])
    go_ret
    exact ⟨by rw [HF.out]; rfl, HB.out⟩
  · have hd : decide (0 ≤ ep ∧ ep ≤ 65535) = true := decide_eq_true (by omega)
    rw [hd] at HR
    clear hd
    cases r1 with
    | false =>
      have HF : Hid (r = false) := by show _ = _; rw [← HR.out]; rfl
      clear HHd HCo
      go_enter Tryz.func54, Tryz.ntmps54
      go_wp2_with (first
        | (rw [HV0.out])
        | (go_at_call 81; refine (HNx.out _ HB.out).mono ?_; rintro e w1 ⟨rfl, b1⟩))
      go_ret
      exact ⟨by rw [HF.out]; rfl, go_on HB.out b1.out⟩
    | true =>
      have HHe := Lib.hid (HHd.out rfl)
      clear HHd
      cases r2 with
      | false =>
        have HF : Hid (r = false) := by show _ = _; rw [← HR.out]; rfl
        clear HCo
        go_enter Tryz.func54, Tryz.ntmps54
        go_wp2_with (first
          | (rw [HV0.out])
          | (go_at_call 81; refine (HNx.out _ HB.out).mono ?_; rintro e w1 ⟨rfl, b1⟩; have B1 := Lib.hid (go_on HB.out b1.out); clear x0 x1 x2 x3 x4; obtain ⟨x0, x1, x2, x3, x4⟩ := state_cells (HX.out _ b1.out))
          | (go_at_call 82; refine (HHe.out _ B1.out).mono ?_; rintro e w2 ⟨rfl, b2⟩))
        go_ret
        exact ⟨by rw [HF.out]; rfl, go_on B1.out b2.out⟩
      | true =>
        have HF : Hid (r = !r3) := by show _ = _; rw [← HR.out]; simp
        go_enter Tryz.func54, Tryz.ntmps54
        go_wp2_with (first
          | (rw [HV0.out])
          | (go_at_call 81; refine (HNx.out _ HB.out).mono ?_; rintro e w1 ⟨rfl, b1⟩; have B1 := Lib.hid (go_on HB.out b1.out); clear x0 x1 x2 x3 x4; obtain ⟨x0, x1, x2, x3, x4⟩ := state_cells (HX.out _ b1.out))
          | (go_at_call 82; refine (HHe.out _ B1.out).mono ?_; rintro e w2 ⟨rfl, b2⟩; have B2 := Lib.hid (go_on B1.out b2.out); have hx := HX.out _ (go_on b1.out b2.out); clear x0 x1 x2 x3 x4; obtain ⟨x0, x1, x2, x3, x4⟩ := state_cells hx; have HX2 := Lib.hid hx; clear hx)
          | (go_at_call 83; refine (HCo.out _ _ B2.out HX2.out).mono ?_; rintro e w3 ⟨rfl, b3⟩))
        go_ret
        exact ⟨by rw [HF.out]; try rfl, go_on B2.out b3.out⟩
end Go.Proofs.YtfnlhfelpdkieaaGreat.So
