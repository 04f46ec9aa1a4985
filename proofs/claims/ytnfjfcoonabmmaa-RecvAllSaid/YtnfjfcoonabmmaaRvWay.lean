/- The contract of the law's step in which a sent payload comes. -/
import Derived.Test.YtnfjfcoonabmmaaRvAgain
namespace Go.Proofs.Ytnfjfcoonabmmaa.Rv
open Go.RowKit
open Go.Proofs.Ytnfjfcoonabmmaa.Me Go.Proofs.Ytnfjfcoonabmmaa.Hd Go.Proofs.Ytnfjfcoonabmmaa.Sn
set_option linter.unusedVariables false
set_option linter.unusedSimpArgs false

/-- Where the sent ones lie. -/
theorem sent_at {G : Nat → Prop} {w : World} {A : Option Addr} {S c : Nat} {ps : List (List Nat)} (h : Wy G w (.slice A S c) S ps) (hS : 0 < S) :
    ∃ g, A = some ⟨g, 0, none⟩ ∧ (g < w.heap.size ∧ (∃ cs, w.heap[g]? = some (.cells cs 34 (0, 0))) ∧ ∀ j, j < S → w.cell? ⟨g, j * 3, none⟩ = some (.int .i64 0) ∧ w.cell? ⟨g, j * 3 + 1, none⟩ = some (.int .i64 ((j % 128 : Nat) : Int)) ∧ ∃ u, w.cell? ⟨g, j * 3 + 2, none⟩ = some u ∧ El G w u (lsAt ps j)) := by
  obtain ⟨xs, q1, q2, q3⟩ := h
  have q1' := q1
  rcases q1.2 with ⟨e, e0⟩ | ⟨g, cap, cur, e, _, e2, _⟩
  · omega
  · simp only [Value.slice.injEq] at e
    obtain ⟨rfl, _, rfl⟩ := e
    have hc : ∀ j u, xs[j]? = some u → w.cell? ⟨g, j, none⟩ = some u := fun j u hj => by
      have := q1'.cells (g := g) rfl j u hj
      rwa [add_mk, Nat.zero_add] at this
    refine ⟨g, rfl, (Array.getElem?_eq_some_iff.1 e2).1, ⟨cur, e2⟩, fun j hj => ?_⟩
    obtain ⟨r1, r2, u, r3, r4⟩ := q3 j hj
    exact ⟨hc _ _ r1, hc _ _ r2, u, hc _ _ r3, r4⟩
theorem run_cells (ty : TypeId) (d : TypeDesc) (cs : List Value) (hu : Try.prog.underlying ty = some d) (hd : (match d with | .struct _ | .array _ _ => true | _ => false) = true) (hi : (Try.prog.info? ty).map (·.size) = some cs.length)
    (W : World) (g o : Nat) (h : ∀ j v, cs[j]? = some v → W.cell? ⟨g, o + j, none⟩ = some v) : (loadVar ty ⟨g, o, none⟩).run Try.prog W = .ok (.agg cs.toArray) W := by
  have hl : (loadCells ⟨g, o, none⟩ cs.length).run Try.prog W = .ok cs.toArray W := run_loadCells_list (P := Try.prog) W ⟨g, o, none⟩ cs (fun j v hv => by rw [add_mk]; exact h j v hv)
  cases hq : Try.prog.info? ty with
  | none => simp [hq] at hi
  | some i =>
    have hs : i.size = cs.length := by simpa [hq] using hi
    have hagg : (isAgg ty).run Try.prog W = .ok true W := by
      unfold isAgg
      rw [Sem.run_bind, run_underlying hu W]
      cases d <;> simp_all
    simp [loadVar, Sem.run_bind, hagg, sizeOf, typeInfo, hq, hs, hl]
theorem run_act (W : World) (g o : Nat) (a b c : Value) (h0 : W.cell? ⟨g, o, none⟩ = some a) (h1 : W.cell? ⟨g, o + 1, none⟩ = some b) (h2 : W.cell? ⟨g, o + 2, none⟩ = some c) : (loadVar 34 ⟨g, o, none⟩).run Try.prog W = .ok (.agg #[a, b, c]) W :=
  run_cells 34 _ [a, b, c] Try.underlying34 rfl (by kernel_rfl) W g o fun j v hj => by
    match j, hj with
    | 0, hj => rw [← Option.some.inj hj]; exact h0
    | 1, hj => rw [← Option.some.inj hj]; exact h1
    | 2, hj => rw [← Option.some.inj hj]; exact h2
theorem comes_at {M : Nat} {G : Nat → Prop} {W : World} {P Ds D mb n m : Nat} {x : Pr} {A1 A3 : Option Addr} {c1 c3 : Nat} {v2 : Value} (h : Hid (Pm M G W P Ds D mb x.s x.r x.ps x.S (x.ps.take x.W) A1 c1 v2 A3 c3)) (hst : Hid (Pst n x)) (h300 : Hid (x.ps.length ≤ 300)) (hm : m < x.S) (hm63 : x.S ≤ m + 63)
    (R : Option Addr) (cr : Nat) (ho : Me.Own W 0 (.slice R (lsAt x.ps m).length cr) (lsAt x.ps m)) :
    Calls Try.prog 18 #[.pointer (some ⟨P, 0, none⟩), .agg #[.int .i64 0, .int .i64 ((m % 128 : Nat) : Int), .slice R (lsAt x.ps m).length cr]] W.drew fun e w' =>
      (∃ v, e = .returned v) ∧ Hid (∃ r' W', PM M w' P Ds D mb n ⟨x.s, r', x.ps, x.g, W'⟩ ∧ x.W ≤ W' ∧ (m = x.W → x.W + 1 ≤ W')) ∧ Hid (Below M W w') ∧ Hid (Quiet P W w') := by
  obtain ⟨a1, a2⟩ := hst.out.at_ (m := m) (by have := hst.out.Sle; omega)
  have hd : Below W.heap.size W W.drew := (Below.refl _ W).drew
  obtain ⟨z1, z2, _, _⟩ := own_rd ho a2
  have hc := comes_any M W.drew P Ds D mb n m x (Lib.hid ⟨hst.out, G, A1, c1, v2, A3, c3, h.out.below hd⟩) h300 (Lib.hid hm) (Lib.hid hm63) 0 R cr (Lib.hid (z1.below hd)) (Lib.hid z2)
  rw [a1]
  exact hc.mono fun _ _ ⟨q1, q2, q3, q4⟩ => ⟨q1, q2, (hd.mono h.out.hM).trans q3.out, q4⟩
theorem wrap_both (z : Int) : IntKind.i64.wrap z = wrap64 z := by
  unfold wrap64
  simp [IntKind.wrap, IntKind.bits, IntKind.signed]
  split <;> omega
theorem u64_small {n : Nat} (h : n ≤ 1000) : IntKind.u64.wrap (n : Int) = (n : Int) := by
  simp [IntKind.wrap, IntKind.bits, IntKind.signed]
  omega
set_option maxRecDepth 100000 in
set_option maxHeartbeats 4000000 in
theorem step_way (M : Nat) (w : World) (P Ds D mb n : Nat) (x : Pr) (h : Hid (PM M w P Ds D mb n x)) (h300 : Hid (x.ps.length ≤ 300)) (N : Int) :
    Calls Try.prog 13 #[.pointer (some ⟨P, 0, none⟩), .agg #[.int .i64 2, .int .i64 N]] w fun e w' => (∃ v, e = .returned v) ∧ Hid (∃ r' W', PM M w' P Ds D mb n ⟨x.s, r', x.ps, x.g, W'⟩ ∧ x.W ≤ W') ∧ Hid (Below M w w') := by
  obtain ⟨hst, G, A1, c1, v2, A3, c3, hpm⟩ := h.out
  obtain ⟨A2, c2, rfl⟩ : ∃ A c, v2 = .slice A x.S c := by
    obtain ⟨xs, q1, _⟩ := hpm.wy
    exact own_form q1
  have HB : Below w.heap.size w (w.alloc (.cells #[.int .i64 2, .int .i64 N] 43)) := Me.below_alloc (Below.refl _ _)
  have HPA := Lib.hid (hpm.below HB)
  have HB0 : Hid (Below M w (w.alloc (.cells #[.int .i64 2, .int .i64 N] 43))) := HB.mono hpm.hM
  have hrow : (w.alloc (.cells #[.int .i64 2, .int .i64 N] 43)).cell? ⟨w.heap.size, 0, none⟩ = some (.int .i64 2) := cell_of_row _ _ 0 _ _ (0, 0) (heap_alloc_new w _)
  have hrow1 : (w.alloc (.cells #[.int .i64 2, .int .i64 N] 43)).cell? ⟨w.heap.size, 1, none⟩ = some (.int .i64 N) := cell_of_row _ _ 1 _ _ (0, 0) (heap_alloc_new w _)
  have HST := Lib.hid hst
  have e3 : (w.alloc (.cells #[.int .i64 2, .int .i64 N] 43)).cell? ⟨P, 3, none⟩ = some (.slice A2 x.S c2) := HPA.out.cell 3
  obtain ⟨WA, hWA⟩ : ∃ WA, w.alloc (.cells #[.int .i64 2, .int .i64 N] 43) = WA := ⟨_, rfl⟩
  rw [hWA] at HPA HB0 e3 hrow hrow1
  obtain ⟨S, hS⟩ : ∃ S, x.S = S := ⟨_, rfl⟩
  have HS := Lib.hid hS
  have hS300 : S ≤ 300 := by have := hst.Sle; have := h300.out; omega
  rw [hS] at e3
  clear HB hpm hst hS
  by_cases hz : S = 0
  · subst hz
    have hn : ¬ (63 : Int) < 0 := by omega
    clear hS300
    go_enter Try.func13, Try.ntmps13
    go_wp2
    all_goals
      go_end0
      exact ⟨⟨_, rfl⟩, ⟨x.r, x.W, ⟨HST.out, G, A1, c1, _, A3, c3, HPA.out⟩, Nat.le_refl _⟩, HB0⟩
  · obtain ⟨g, hg1, hg2⟩ := sent_at HPA.out.wy (by rw [HS.out]; omega)
    have hs1 : (0 : Int) < (S : Int) := by omega
    have hs2 : (S : Int) ≤ 300 := by omega
    have hbox : w.heap.size < WA.heap.size := by rw [← hWA]; simp
    have HG2 := Lib.hid hg2
    have HROW : Hid (WA.heap[w.heap.size]? = some (.cells #[.int .i64 2, .int .i64 N] 43 (0, 0))) := by rw [← hWA]; exact heap_alloc_new w _
    subst hg1
    have HHB := Lib.hid hbox
    have HC := Lib.hid (fun (m : Nat) (hm : m < S) (hm63 : S ≤ m + 63) (R : Option Addr) (cr : Nat) (ho : Me.Own WA 0 (.slice R (lsAt x.ps m).length cr) (lsAt x.ps m)) => comes_at (P := P) (n := n) HPA HST h300 (m := m) (by rw [HS.out]; exact hm) (by rw [HS.out]; exact hm63) R cr ho)
    by_cases h63 : (S : Int) ≤ 63
    · obtain ⟨m, hw, hmS⟩ := rem_nat N S (by omega) (by omega)
      have hw' : IntKind.i64.wrap ((IntKind.u64.wrap N).tmod (S : Int)) = (m : Int) := (wrap_both _).trans hw
      have hI : IntKind.i64.wrap (S : Int) = (S : Int) := Mi.fits' (Mi.small (by omega) (by omega))
      have hU : IntKind.u64.wrap (S : Int) = (S : Int) := u64_small (by omega)
      have hI2 : IntKind.i64.wrap (m : Int) = (m : Int) := Mi.fits' (Mi.small (by omega) (by omega))
      have hne : ¬ S = 0 := by omega
      have hmI : (m : Int) < (S : Int) := by omega
      have HMS := Lib.hid hmS
      have HM63 : Hid (S ≤ m + 63) := by show _ ≤ _; omega
      clear hz hg2 hw hmS
      go_enter Try.func13, Try.ntmps13
      go_wp2
      clear hWA hrow
      refine wp_region_held_drew (S := fun W => W.cell? ⟨P, 3, none⟩ = some (.slice (some ⟨g, 0, none⟩) S c2) ∧ W.cell? ⟨w.heap.size, 1, none⟩ = some (.int .i64 N) ∧ ∀ i, W.cell? ⟨g, i, none⟩ = WA.cell? ⟨g, i, none⟩) (by kernel_rfl) ⟨e3, hrow1, fun _ => rfl⟩ (fun hHeld => ?_)
      refine wpAnyH_take (i := 0) (v := ?vz1) rfl (by kernel_rfl) (by kernel_rfl) (by kernel_rfl) (fun _ _ _ h => h) (Or.inl ⟨by rfl, ?hyz1⟩) (by first | assumption | exact trivial) ?restz1
      case hyz1 => intro W hSW; go_simp; try (with_reducible rfl)
      simp only [Act.put, List.getElem_toArray, List.getElem_cons_succ, List.getElem_cons_zero, List.setIfInBounds_toArray, List.set_cons_zero, List.set_cons_succ]
      refine wpAnyH_take (i := 1) (v := ?vz2) rfl (by kernel_rfl) (by kernel_rfl) (by kernel_rfl) (fun _ _ _ h => h) (Or.inl ⟨by rfl, ?hyz2⟩) (by first | assumption | exact trivial) ?restz2
      case hyz2 => intro W hSW; go_simp; try (with_reducible rfl)
      simp only [Act.put, List.getElem_toArray, List.getElem_cons_succ, List.getElem_cons_zero, List.setIfInBounds_toArray, List.set_cons_zero, List.set_cons_succ]
      refine wpAnyH_take (i := 2) (v := ?vz3) rfl (by kernel_rfl) (by kernel_rfl) (by kernel_rfl) (fun _ _ _ h => h) (Or.inl ⟨by rfl, ?hyz3⟩) (by first | assumption | exact trivial) ?restz3
      case hyz3 => intro W hSW; go_simp; try (with_reducible rfl)
      simp only [Act.put, List.getElem_toArray, List.getElem_cons_succ, List.getElem_cons_zero, List.setIfInBounds_toArray, List.set_cons_zero, List.set_cons_succ]
      refine wpAnyH_take (i := 3) (v := ?vz4) rfl (by kernel_rfl) (by kernel_rfl) (by kernel_rfl) (fun _ _ _ h => h) (Or.inl ⟨by rfl, ?hyz4⟩) (by first | assumption | exact trivial) ?restz4
      case hyz4 => intro W hSW; go_simp; try (with_reducible rfl)
      simp only [Act.put, List.getElem_toArray, List.getElem_cons_succ, List.getElem_cons_zero, List.setIfInBounds_toArray, List.set_cons_zero, List.set_cons_succ]
      refine wpAnyH_take (i := 4) (v := ?vz5) rfl (by kernel_rfl) (by kernel_rfl) (by kernel_rfl) (fun _ _ _ h => h) (Or.inl ⟨by rfl, ?hyz5⟩) (by first | assumption | exact trivial) ?restz5
      case hyz5 => intro W hSW; have q4 := hSW.1; go_simp; try (with_reducible rfl)
      simp only [Act.put, List.getElem_toArray, List.getElem_cons_succ, List.getElem_cons_zero, List.setIfInBounds_toArray, List.set_cons_zero, List.set_cons_succ]
      refine wpAnyH_take (i := 5) (v := ?vz6) rfl (by kernel_rfl) (by kernel_rfl) (by kernel_rfl) (fun _ _ _ h => h) (Or.inl ⟨by rfl, ?hyz6⟩) (by first | assumption | exact trivial) ?restz6
      case hyz6 => intro W hSW; go_simp; try (with_reducible rfl)
      simp only [Act.put, List.getElem_toArray, List.getElem_cons_succ, List.getElem_cons_zero, List.setIfInBounds_toArray, List.set_cons_zero, List.set_cons_succ]
      refine wpAnyH_take (i := 6) (v := ?vz7) rfl (by kernel_rfl) (by kernel_rfl) (by kernel_rfl) (fun _ _ _ h => h) (Or.inl ⟨by rfl, ?hyz7⟩) (by first | assumption | exact trivial) ?restz7
      case hyz7 => intro W hSW; go_simp; try (with_reducible rfl)
      simp only [Act.put, List.getElem_toArray, List.getElem_cons_succ, List.getElem_cons_zero, List.setIfInBounds_toArray, List.set_cons_zero, List.set_cons_succ]
      refine wpAnyH_take (i := 7) (v := ?vz8) rfl (by kernel_rfl) (by kernel_rfl) (by kernel_rfl) (fun _ _ _ h => h) (Or.inl ⟨by rfl, ?hyz8⟩) (by first | assumption | exact trivial) ?restz8
      case hyz8 => intro W hSW; have q7 := hSW.2.1; go_simp; try (with_reducible rfl)
      simp only [Act.put, List.getElem_toArray, List.getElem_cons_succ, List.getElem_cons_zero, List.setIfInBounds_toArray, List.set_cons_zero, List.set_cons_succ]
      refine wpAnyH_take (i := 8) (v := ?vz9) rfl (by kernel_rfl) (by kernel_rfl) (by kernel_rfl) (fun _ _ _ h => h) (Or.inl ⟨by rfl, ?hyz9⟩) (by first | assumption | exact trivial) ?restz9
      case hyz9 => intro W hSW; go_simp; try (with_reducible rfl)
      simp only [Act.put, List.getElem_toArray, List.getElem_cons_succ, List.getElem_cons_zero, List.setIfInBounds_toArray, List.set_cons_zero, List.set_cons_succ]
      refine wpAnyH_take (i := 9) (v := ?vz10) rfl (by kernel_rfl) (by kernel_rfl) (by kernel_rfl) (fun _ _ _ h => h) (Or.inl ⟨by rfl, ?hyz10⟩) (by first | assumption | exact trivial) ?restz10
      case hyz10 => intro W hSW; go_simp; try (with_reducible rfl)
      simp only [Act.put, List.getElem_toArray, List.getElem_cons_succ, List.getElem_cons_zero, List.setIfInBounds_toArray, List.set_cons_zero, List.set_cons_succ]
      refine wpAnyH_take (i := 10) (v := ?vz11) rfl (by kernel_rfl) (by kernel_rfl) (by kernel_rfl) (fun _ _ _ h => h) (Or.inl ⟨by rfl, ?hyz11⟩) (by first | assumption | exact trivial) ?restz11
      case hyz11 => intro W hSW; go_simp; try (with_reducible rfl)
      simp only [Act.put, List.getElem_toArray, List.getElem_cons_succ, List.getElem_cons_zero, List.setIfInBounds_toArray, List.set_cons_zero, List.set_cons_succ]
      refine wpAnyH_take (i := 11) (v := ?vz12) rfl (by kernel_rfl) (by kernel_rfl) (by kernel_rfl) (fun _ _ _ h => h) (Or.inl ⟨by rfl, ?hyz12⟩) (by first | assumption | exact trivial) ?restz12
      case hyz12 => intro W hSW; go_simp; try (with_reducible rfl)
      simp only [Act.put, List.getElem_toArray, List.getElem_cons_succ, List.getElem_cons_zero, List.setIfInBounds_toArray, List.set_cons_zero, List.set_cons_succ]
      refine wpAnyH_take (i := 12) (v := ?vz13) rfl (by kernel_rfl) (by kernel_rfl) (by kernel_rfl) (fun _ _ _ h => h) (Or.inl ⟨by rfl, ?hyz13⟩) (by first | assumption | exact trivial) ?restz13
      case hyz13 => intro W hSW; have q12 := hSW.1; go_simp; try (with_reducible rfl)
      simp only [Act.put, List.getElem_toArray, List.getElem_cons_succ, List.getElem_cons_zero, List.setIfInBounds_toArray, List.set_cons_zero, List.set_cons_succ]
      refine wpAnyH_take (i := 13) (v := ?vz14) rfl (by kernel_rfl) (by kernel_rfl) (by kernel_rfl) (fun _ _ _ h => h) (Or.inl ⟨by rfl, ?hyz14⟩) (by first | assumption | exact trivial) ?restz14
      case hyz14 => intro W hSW; go_simp; try (with_reducible rfl)
      simp only [Act.put, List.getElem_toArray, List.getElem_cons_succ, List.getElem_cons_zero, List.setIfInBounds_toArray, List.set_cons_zero, List.set_cons_succ]
      refine wpAnyH_take (i := 14) (v := ?vz15) rfl (by kernel_rfl) (by kernel_rfl) (by kernel_rfl) (fun _ _ _ h => h) (Or.inl ⟨by rfl, ?hyz15⟩) (by first | assumption | exact trivial) ?restz15
      case hyz15 => intro W hSW; go_simp; try (with_reducible rfl)
      simp only [Act.put, List.getElem_toArray, List.getElem_cons_succ, List.getElem_cons_zero, List.setIfInBounds_toArray, List.set_cons_zero, List.set_cons_succ]
      refine wpAnyH_take (i := 15) (v := ?vz16) rfl (by kernel_rfl) (by kernel_rfl) (by kernel_rfl) (fun _ _ _ h => h) (Or.inl ⟨by rfl, ?hyz16⟩) (by first | assumption | exact trivial) ?restz16
      case hyz16 => intro W hSW; go_simp; try (with_reducible rfl)
      simp only [Act.put, List.getElem_toArray, List.getElem_cons_succ, List.getElem_cons_zero, List.setIfInBounds_toArray, List.set_cons_zero, List.set_cons_succ]
      refine wpAnyH_take (i := 16) (v := ?vz17) rfl (by kernel_rfl) (by kernel_rfl) (by kernel_rfl) (fun _ _ _ h => h) (Or.inl ⟨by rfl, ?hyz17⟩) (by first | assumption | exact trivial) ?restz17
      case hyz17 => intro W hSW; go_simp; try (with_reducible rfl)
      simp only [Act.put, List.getElem_toArray, List.getElem_cons_succ, List.getElem_cons_zero, List.setIfInBounds_toArray, List.set_cons_zero, List.set_cons_succ]
      refine wpAnyH_take (i := 17) (v := ?vz18) rfl (by kernel_rfl) (by kernel_rfl) (by kernel_rfl) (fun _ _ _ h => h) (Or.inl ⟨by rfl, ?hyz18⟩) (by first | assumption | exact trivial) ?restz18
      case hyz18 => intro W hSW; go_simp; try (with_reducible rfl)
      simp only [Act.put, List.getElem_toArray, List.getElem_cons_succ, List.getElem_cons_zero, List.setIfInBounds_toArray, List.set_cons_zero, List.set_cons_succ]
      refine wpAnyH_take (i := 18) (v := ?vz19) rfl (by kernel_rfl) (by kernel_rfl) (by kernel_rfl) (fun _ _ _ h => h) (Or.inl ⟨by rfl, ?hyz19⟩) (by first | assumption | exact trivial) ?restz19
      case hyz19 => intro W hSW; go_simp; try (with_reducible rfl)
      simp only [Act.put, List.getElem_toArray, List.getElem_cons_succ, List.getElem_cons_zero, List.setIfInBounds_toArray, List.set_cons_zero, List.set_cons_succ]
      refine wpAnyH_take (i := 19) (v := ?vz20) rfl (by kernel_rfl) (by kernel_rfl) (by kernel_rfl) (fun _ _ _ h => h) (Or.inl ⟨by rfl, ?hyz20⟩) (by first | assumption | exact trivial) ?restz20
      case hyz20 => intro W hSW; go_simp; try (with_reducible rfl)
      simp only [Act.put, List.getElem_toArray, List.getElem_cons_succ, List.getElem_cons_zero, List.setIfInBounds_toArray, List.set_cons_zero, List.set_cons_succ]
      refine wpAnyH_take (i := 20) (v := ?vz21) rfl (by kernel_rfl) (by kernel_rfl) (by kernel_rfl) (fun _ _ _ h => h) (Or.inl ⟨by rfl, ?hyz21⟩) (by first | assumption | exact trivial) ?restz21
      case hyz21 => intro W hSW; go_simp; try (with_reducible rfl)
      simp only [Act.put, List.getElem_toArray, List.getElem_cons_succ, List.getElem_cons_zero, List.setIfInBounds_toArray, List.set_cons_zero, List.set_cons_succ]
      obtain ⟨k0, k1, uu, k2, k3⟩ := HG2.out.2.2 m (by rw [HS.out]; exact HMS.out)
      refine wpAnyH_take (i := 21) (v := ?vz22) rfl (by kernel_rfl) (by kernel_rfl) (by kernel_rfl) (fun _ _ _ h => h) (Or.inl ⟨by rfl, ?hyz22⟩) (by first | assumption | exact trivial) ?restz22
      case hyz22 => intro W hSW; have q21 := run_act W g (m * 3) _ _ _ ((hSW.2.2 _).trans k0) ((hSW.2.2 _).trans k1) ((hSW.2.2 _).trans k2); go_simp; try (with_reducible rfl)
      simp only [Act.put, List.getElem_toArray, List.getElem_cons_succ, List.getElem_cons_zero, List.setIfInBounds_toArray, List.set_cons_zero, List.set_cons_succ]
      obtain ⟨R, cr, rfl, ho, _⟩ := k3
      have HCM := Lib.hid (HC.out m HMS.out HM63.out R cr ho)
      refine wpAnyH_ready (rs := [22]) (by kernel_rfl) (by simp) ?_
      refine AllReadyH.cons rfl (fun K hK => ?_) AllReadyH.nil
      go_simp
      go_wp2_with (go_at_call 18; refine HCM.out.mono ?_; rintro e w4 ⟨⟨vv, rfl⟩, hp4, hb4, hq4⟩)
      have hkg : SameD g WA w4 := by obtain ⟨cs, hcs⟩ := HG2.out.2.1; exact hq4.out.2 g cs _ (.inl rfl) hcs
      have hkb : SameD w.heap.size WA w4 := hq4.out.2 _ _ _ (.inr (.inl rfl)) HROW.out
      refine hK.out _ _ (⟨hq4.out.1.trans e3, (hkb.cell 1).trans hrow1, fun i => hkg.cell i⟩) (fun hHeld => ?_)
      clear hK K
      refine wpAnyH_done (by kernel_rfl) ?_ _
      go_wp2
      go_end0
      obtain ⟨r', W', p1, p2, _⟩ := hp4.out
      exact ⟨⟨_, rfl⟩, ⟨r', W', p1, p2⟩, HB0.out.trans hb4.out⟩
    · obtain ⟨o, ho⟩ : ∃ o, S - 63 = o := ⟨_, rfl⟩
      obtain ⟨t, hw, ht⟩ := rem_nat N 63 (by omega) (by omega)
      have HWW := Lib.hid hw
      clear hw
      obtain ⟨m, hm⟩ : ∃ m, o + t = m := ⟨_, rfl⟩
      have hmS : m < S := by omega
      have hmI : (m : Int) < (S : Int) := by omega
      have h63' : (63 : Int) < (S : Int) := by omega
      have HM63 : Hid (S ≤ m + 63) := by show _ ≤ _; omega
      have hm1 : (o : Int) + (t : Int) = (m : Int) := by omega
      have hs3 : (S : Int) - (o : Int) = 63 := by omega
      have hI2 : IntKind.i64.wrap ((o : Int) + (t : Int)) = (m : Int) := by rw [hm1]; exact Mi.fits' (Mi.small (by omega) (by omega))
      have hI3 : wrap64 ((o : Int) + (t : Int)) = (m : Int) := by rw [hm1]; exact Mi.fits (Mi.small (by omega) (by omega))
      have hD : IntKind.i64.wrap ((S : Int) - (o : Int)) = 63 := by rw [hs3]; rfl
      have hU : IntKind.u64.wrap 63 = 63 := rfl
      have HMS := Lib.hid hmS
      have hw : wrap64 ((IntKind.u64.wrap N).tmod 63) = (t : Int) := HWW.out
      have hw' : IntKind.i64.wrap ((IntKind.u64.wrap N).tmod 63) = (t : Int) := (wrap_both _).trans hw
      clear hm1 hs3 HWW
      have HOO := Lib.hid ho
      clear hm ho
      clear hz hg2 hmS
      go_enter Try.func13, Try.ntmps13
      go_wp2
      rw [show (S : Int) - 63 = (o : Int) by have := HOO.out; omega]
      clear hWA hrow
      refine wp_region_held_drew (S := fun W => W.cell? ⟨P, 3, none⟩ = some (.slice (some ⟨g, 0, none⟩) S c2) ∧ W.cell? ⟨w.heap.size, 1, none⟩ = some (.int .i64 N) ∧ ∀ i, W.cell? ⟨g, i, none⟩ = WA.cell? ⟨g, i, none⟩) (by kernel_rfl) ⟨e3, hrow1, fun _ => rfl⟩ (fun hHeld => ?_)
      refine wpAnyH_take (i := 0) (v := ?vz23) rfl (by kernel_rfl) (by kernel_rfl) (by kernel_rfl) (fun _ _ _ h => h) (Or.inl ⟨by rfl, ?hyz23⟩) (by first | assumption | exact trivial) ?restz23
      case hyz23 => intro W hSW; go_simp; try (with_reducible rfl)
      simp only [Act.put, List.getElem_toArray, List.getElem_cons_succ, List.getElem_cons_zero, List.setIfInBounds_toArray, List.set_cons_zero, List.set_cons_succ]
      refine wpAnyH_take (i := 1) (v := ?vz24) rfl (by kernel_rfl) (by kernel_rfl) (by kernel_rfl) (fun _ _ _ h => h) (Or.inl ⟨by rfl, ?hyz24⟩) (by first | assumption | exact trivial) ?restz24
      case hyz24 => intro W hSW; go_simp; try (with_reducible rfl)
      simp only [Act.put, List.getElem_toArray, List.getElem_cons_succ, List.getElem_cons_zero, List.setIfInBounds_toArray, List.set_cons_zero, List.set_cons_succ]
      refine wpAnyH_take (i := 2) (v := ?vz25) rfl (by kernel_rfl) (by kernel_rfl) (by kernel_rfl) (fun _ _ _ h => h) (Or.inl ⟨by rfl, ?hyz25⟩) (by first | assumption | exact trivial) ?restz25
      case hyz25 => intro W hSW; go_simp; try (with_reducible rfl)
      simp only [Act.put, List.getElem_toArray, List.getElem_cons_succ, List.getElem_cons_zero, List.setIfInBounds_toArray, List.set_cons_zero, List.set_cons_succ]
      refine wpAnyH_take (i := 3) (v := ?vz26) rfl (by kernel_rfl) (by kernel_rfl) (by kernel_rfl) (fun _ _ _ h => h) (Or.inl ⟨by rfl, ?hyz26⟩) (by first | assumption | exact trivial) ?restz26
      case hyz26 => intro W hSW; go_simp; try (with_reducible rfl)
      simp only [Act.put, List.getElem_toArray, List.getElem_cons_succ, List.getElem_cons_zero, List.setIfInBounds_toArray, List.set_cons_zero, List.set_cons_succ]
      refine wpAnyH_take (i := 4) (v := ?vz27) rfl (by kernel_rfl) (by kernel_rfl) (by kernel_rfl) (fun _ _ _ h => h) (Or.inl ⟨by rfl, ?hyz27⟩) (by first | assumption | exact trivial) ?restz27
      case hyz27 => intro W hSW; have q4 := hSW.1; go_simp; try (with_reducible rfl)
      simp only [Act.put, List.getElem_toArray, List.getElem_cons_succ, List.getElem_cons_zero, List.setIfInBounds_toArray, List.set_cons_zero, List.set_cons_succ]
      refine wpAnyH_take (i := 5) (v := ?vz28) rfl (by kernel_rfl) (by kernel_rfl) (by kernel_rfl) (fun _ _ _ h => h) (Or.inl ⟨by rfl, ?hyz28⟩) (by first | assumption | exact trivial) ?restz28
      case hyz28 => intro W hSW; go_simp; try (with_reducible rfl)
      simp only [Act.put, List.getElem_toArray, List.getElem_cons_succ, List.getElem_cons_zero, List.setIfInBounds_toArray, List.set_cons_zero, List.set_cons_succ]
      refine wpAnyH_take (i := 6) (v := ?vz29) rfl (by kernel_rfl) (by kernel_rfl) (by kernel_rfl) (fun _ _ _ h => h) (Or.inl ⟨by rfl, ?hyz29⟩) (by first | assumption | exact trivial) ?restz29
      case hyz29 => intro W hSW; go_simp; try (with_reducible rfl)
      simp only [Act.put, List.getElem_toArray, List.getElem_cons_succ, List.getElem_cons_zero, List.setIfInBounds_toArray, List.set_cons_zero, List.set_cons_succ]
      refine wpAnyH_take (i := 7) (v := ?vz30) rfl (by kernel_rfl) (by kernel_rfl) (by kernel_rfl) (fun _ _ _ h => h) (Or.inl ⟨by rfl, ?hyz30⟩) (by first | assumption | exact trivial) ?restz30
      case hyz30 => intro W hSW; have q7 := hSW.2.1; go_simp; try (with_reducible rfl)
      simp only [Act.put, List.getElem_toArray, List.getElem_cons_succ, List.getElem_cons_zero, List.setIfInBounds_toArray, List.set_cons_zero, List.set_cons_succ]
      refine wpAnyH_take (i := 8) (v := ?vz31) rfl (by kernel_rfl) (by kernel_rfl) (by kernel_rfl) (fun _ _ _ h => h) (Or.inl ⟨by rfl, ?hyz31⟩) (by first | assumption | exact trivial) ?restz31
      case hyz31 => intro W hSW; go_simp; try (with_reducible rfl)
      simp only [Act.put, List.getElem_toArray, List.getElem_cons_succ, List.getElem_cons_zero, List.setIfInBounds_toArray, List.set_cons_zero, List.set_cons_succ]
      refine wpAnyH_take (i := 9) (v := ?vz32) rfl (by kernel_rfl) (by kernel_rfl) (by kernel_rfl) (fun _ _ _ h => h) (Or.inl ⟨by rfl, ?hyz32⟩) (by first | assumption | exact trivial) ?restz32
      case hyz32 => intro W hSW; go_simp; try (with_reducible rfl)
      simp only [Act.put, List.getElem_toArray, List.getElem_cons_succ, List.getElem_cons_zero, List.setIfInBounds_toArray, List.set_cons_zero, List.set_cons_succ]
      refine wpAnyH_take (i := 10) (v := ?vz33) rfl (by kernel_rfl) (by kernel_rfl) (by kernel_rfl) (fun _ _ _ h => h) (Or.inl ⟨by rfl, ?hyz33⟩) (by first | assumption | exact trivial) ?restz33
      case hyz33 => intro W hSW; go_simp; try (with_reducible rfl)
      simp only [Act.put, List.getElem_toArray, List.getElem_cons_succ, List.getElem_cons_zero, List.setIfInBounds_toArray, List.set_cons_zero, List.set_cons_succ]
      refine wpAnyH_take (i := 11) (v := ?vz34) rfl (by kernel_rfl) (by kernel_rfl) (by kernel_rfl) (fun _ _ _ h => h) (Or.inl ⟨by rfl, ?hyz34⟩) (by first | assumption | exact trivial) ?restz34
      case hyz34 => intro W hSW; go_simp; try (with_reducible rfl)
      simp only [Act.put, List.getElem_toArray, List.getElem_cons_succ, List.getElem_cons_zero, List.setIfInBounds_toArray, List.set_cons_zero, List.set_cons_succ]
      refine wpAnyH_take (i := 12) (v := ?vz35) rfl (by kernel_rfl) (by kernel_rfl) (by kernel_rfl) (fun _ _ _ h => h) (Or.inl ⟨by rfl, ?hyz35⟩) (by first | assumption | exact trivial) ?restz35
      case hyz35 => intro W hSW; have q12 := hSW.1; go_simp; try (with_reducible rfl)
      simp only [Act.put, List.getElem_toArray, List.getElem_cons_succ, List.getElem_cons_zero, List.setIfInBounds_toArray, List.set_cons_zero, List.set_cons_succ]
      refine wpAnyH_take (i := 13) (v := ?vz36) rfl (by kernel_rfl) (by kernel_rfl) (by kernel_rfl) (fun _ _ _ h => h) (Or.inl ⟨by rfl, ?hyz36⟩) (by first | assumption | exact trivial) ?restz36
      case hyz36 => intro W hSW; go_simp; try (with_reducible rfl)
      simp only [Act.put, List.getElem_toArray, List.getElem_cons_succ, List.getElem_cons_zero, List.setIfInBounds_toArray, List.set_cons_zero, List.set_cons_succ]
      refine wpAnyH_take (i := 14) (v := ?vz37) rfl (by kernel_rfl) (by kernel_rfl) (by kernel_rfl) (fun _ _ _ h => h) (Or.inl ⟨by rfl, ?hyz37⟩) (by first | assumption | exact trivial) ?restz37
      case hyz37 => intro W hSW; go_simp; try (with_reducible rfl)
      simp only [Act.put, List.getElem_toArray, List.getElem_cons_succ, List.getElem_cons_zero, List.setIfInBounds_toArray, List.set_cons_zero, List.set_cons_succ]
      refine wpAnyH_take (i := 15) (v := ?vz38) rfl (by kernel_rfl) (by kernel_rfl) (by kernel_rfl) (fun _ _ _ h => h) (Or.inl ⟨by rfl, ?hyz38⟩) (by first | assumption | exact trivial) ?restz38
      case hyz38 => intro W hSW; go_simp; try (with_reducible rfl)
      simp only [Act.put, List.getElem_toArray, List.getElem_cons_succ, List.getElem_cons_zero, List.setIfInBounds_toArray, List.set_cons_zero, List.set_cons_succ]
      refine wpAnyH_take (i := 16) (v := ?vz39) rfl (by kernel_rfl) (by kernel_rfl) (by kernel_rfl) (fun _ _ _ h => h) (Or.inl ⟨by rfl, ?hyz39⟩) (by first | assumption | exact trivial) ?restz39
      case hyz39 => intro W hSW; go_simp; try (with_reducible rfl)
      simp only [Act.put, List.getElem_toArray, List.getElem_cons_succ, List.getElem_cons_zero, List.setIfInBounds_toArray, List.set_cons_zero, List.set_cons_succ]
      refine wpAnyH_take (i := 17) (v := ?vz40) rfl (by kernel_rfl) (by kernel_rfl) (by kernel_rfl) (fun _ _ _ h => h) (Or.inl ⟨by rfl, ?hyz40⟩) (by first | assumption | exact trivial) ?restz40
      case hyz40 => intro W hSW; go_simp; try (with_reducible rfl)
      simp only [Act.put, List.getElem_toArray, List.getElem_cons_succ, List.getElem_cons_zero, List.setIfInBounds_toArray, List.set_cons_zero, List.set_cons_succ]
      refine wpAnyH_take (i := 18) (v := ?vz41) rfl (by kernel_rfl) (by kernel_rfl) (by kernel_rfl) (fun _ _ _ h => h) (Or.inl ⟨by rfl, ?hyz41⟩) (by first | assumption | exact trivial) ?restz41
      case hyz41 => intro W hSW; go_simp; try (with_reducible rfl)
      simp only [Act.put, List.getElem_toArray, List.getElem_cons_succ, List.getElem_cons_zero, List.setIfInBounds_toArray, List.set_cons_zero, List.set_cons_succ]
      refine wpAnyH_take (i := 19) (v := ?vz42) rfl (by kernel_rfl) (by kernel_rfl) (by kernel_rfl) (fun _ _ _ h => h) (Or.inl ⟨by rfl, ?hyz42⟩) (by first | assumption | exact trivial) ?restz42
      case hyz42 => intro W hSW; go_simp; try (with_reducible rfl)
      simp only [Act.put, List.getElem_toArray, List.getElem_cons_succ, List.getElem_cons_zero, List.setIfInBounds_toArray, List.set_cons_zero, List.set_cons_succ]
      refine wpAnyH_take (i := 20) (v := ?vz43) rfl (by kernel_rfl) (by kernel_rfl) (by kernel_rfl) (fun _ _ _ h => h) (Or.inl ⟨by rfl, ?hyz43⟩) (by first | assumption | exact trivial) ?restz43
      case hyz43 => intro W hSW; go_simp; try (with_reducible rfl)
      simp only [Act.put, List.getElem_toArray, List.getElem_cons_succ, List.getElem_cons_zero, List.setIfInBounds_toArray, List.set_cons_zero, List.set_cons_succ]
      obtain ⟨k0, k1, uu, k2, k3⟩ := HG2.out.2.2 m (by rw [HS.out]; exact HMS.out)
      refine wpAnyH_take (i := 21) (v := ?vz44) rfl (by kernel_rfl) (by kernel_rfl) (by kernel_rfl) (fun _ _ _ h => h) (Or.inl ⟨by rfl, ?hyz44⟩) (by first | assumption | exact trivial) ?restz44
      case hyz44 => intro W hSW; have q21 := run_act W g (m * 3) _ _ _ ((hSW.2.2 _).trans k0) ((hSW.2.2 _).trans k1) ((hSW.2.2 _).trans k2); go_simp; try (with_reducible rfl)
      simp only [Act.put, List.getElem_toArray, List.getElem_cons_succ, List.getElem_cons_zero, List.setIfInBounds_toArray, List.set_cons_zero, List.set_cons_succ]
      obtain ⟨R, cr, rfl, ho, _⟩ := k3
      have HCM := Lib.hid (HC.out m HMS.out HM63.out R cr ho)
      refine wpAnyH_ready (rs := [22]) (by kernel_rfl) (by simp) ?_
      refine AllReadyH.cons rfl (fun K hK => ?_) AllReadyH.nil
      go_simp
      go_wp2_with (go_at_call 18; refine HCM.out.mono ?_; rintro e w4 ⟨⟨vv, rfl⟩, hp4, hb4, hq4⟩)
      have hkg : SameD g WA w4 := by obtain ⟨cs, hcs⟩ := HG2.out.2.1; exact hq4.out.2 g cs _ (.inl rfl) hcs
      have hkb : SameD w.heap.size WA w4 := hq4.out.2 _ _ _ (.inr (.inl rfl)) HROW.out
      refine hK.out _ _ (⟨hq4.out.1.trans e3, (hkb.cell 1).trans hrow1, fun i => hkg.cell i⟩) (fun hHeld => ?_)
      clear hK K
      refine wpAnyH_done (by kernel_rfl) ?_ _
      go_wp2
      go_end0
      obtain ⟨r', W', p1, p2, _⟩ := hp4.out
      exact ⟨⟨_, rfl⟩, ⟨r', W', p1, p2⟩, HB0.out.trans hb4.out⟩
end Go.Proofs.Ytnfjfcoonabmmaa.Rv
