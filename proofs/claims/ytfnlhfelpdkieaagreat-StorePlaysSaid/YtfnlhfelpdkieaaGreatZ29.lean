/- The document's Fresh and Seen, of a store; the program's Seen. -/
import Derived.Test.YtfnlhfelpdkieaaGreatZ28
import Derived.Test.YtfnlhfelpdkieaaGreatZ23
import Derived.Test.YtfnlhfelpdkieaaGreatSoRFind
import Derived.Test.YtfnlhfelpdkieaaGreatZ2
import Derived.Test.YtfnlhfelpdkieaaGreatZ27
import Derived.Test.YtfnlhfelpdkieaaGreatZ10
namespace Go.Proofs.YtfnlhfelpdkieaaGreat.So
open Go.RowKit Go.Deep
open Go.Proofs.YtfnlhfelpdkieaaGreat.Me Go.Proofs.YtfnlhfelpdkieaaGreat.Sb
set_option linter.unusedVariables false
set_option linter.unusedSimpArgs false

/-- What holds over the calls of Fresh: the world below, the store's copy. -/
structure Af (w : World) (C : Array Value) (W : World) : Prop where
  below : Below w.heap.size w W
  st : W.heap[w.heap.size]? = some (.cells C 37 (0, 0))
theorem Af.go {w : World} {C : Array Value} {W W' : World} (h : Af w C W) (hb : Below W.heap.size W W') : Af w C W' :=
  ⟨go_on h.below hb, (hb.block _ (Array.getElem?_eq_some_iff.1 h.st).1).trans h.st⟩
theorem Af.drew {w : World} {C : Array Value} {W : World} (h : Af w C W) : Af w C W.drew := ⟨h.below.drew, h.st⟩
theorem Af.row {w : World} {C : Array Value} {W : World} (h : Af w C W) (cs : Array Value) : Af w C (W.setRow (w.heap.size + 1) cs) :=
  ⟨Sb.below_setRow _ h.below (by omega), (setRow_other _ _ _ _ (by omega)).trans h.st⟩
theorem Af.start (w : World) (C : Array Value) : ∃ W3, (w.alloc (.cells C 37)).alloc (.cells #[.int .i64 0, .int .i64 0, .int .i64 0, .int .i64 0] 43) = W3 ∧ Af w C W3 ∧ W3.heap[w.heap.size + 1]? = some (.cells #[.int .i64 0, .int .i64 0, .int .i64 0, .int .i64 0] 43 (0, 0)) := by
  obtain ⟨hB, hY, hX⟩ := two_new w C #[.int .i64 0, .int .i64 0, .int .i64 0, .int .i64 0] 37 43
  exact ⟨_, rfl, ⟨hB, hX⟩, hY⟩
end Go.Proofs.YtfnlhfelpdkieaaGreat.So
/- Seen, of both stores. -/
namespace Go.Proofs.YtfnlhfelpdkieaaGreat.So
open Go.RowKit Go.Deep
open Go.Proofs.YtfnlhfelpdkieaaGreat.Me Go.Proofs.YtfnlhfelpdkieaaGreat.Sb
set_option linter.unusedVariables false
set_option linter.unusedSimpArgs false

def seenS (s : Sto) (i : Mg.Id4) : Bool := decide (i.d = s.self) && Se.hasS s.seen i
end Go.Proofs.YtfnlhfelpdkieaaGreat.So
/- The document's Same, of messages that are the same. -/
namespace Go.Proofs.YtfnlhfelpdkieaaGreat.So
open Go.RowKit
open Go.Proofs.YtfnlhfelpdkieaaGreat.Me Go.Proofs.YtfnlhfelpdkieaaGreat.Sb
set_option linter.unusedVariables false
set_option linter.unusedSimpArgs false

/-- What bytes say as a string. -/
def Cv (W : World) (A : Option Addr) (n c : Nat) (s : ByteArray) : Prop := (convert 44 9 (.slice A n c)).run Tryz.prog W = .ok (.string s) W
set_option maxRecDepth 100000 in
set_option maxHeartbeats 4000000 in
theorem RSame_eq (o d ee cc : Int) (A B : Option Addr) (n c1 c2 : Nat) (s : ByteArray) (w : World) (k1 : ∀ W, Below w.heap.size w W → Cv W A n c1 s) (k2 : ∀ W, Below w.heap.size w W → Cv W B n c2 s) : Calls Tryz.prog 72 #[.agg #[.int .i64 o, .int .i64 d, .int .i64 ee, .int .i64 cc, .slice A n c1], .agg #[.int .i64 o, .int .i64 d, .int .i64 ee, .int .i64 cc, .slice B n c2]] w fun e w' => e = .returned (.bool true) ∧ Hid (Below w.heap.size w w') := by
  obtain ⟨hB, hY, hX⟩ := two_new w #[.int .i64 o, .int .i64 d, .int .i64 ee, .int .i64 cc, .slice A n c1] #[.int .i64 o, .int .i64 d, .int .i64 ee, .int .i64 cc, .slice B n c2] 46 46
  have q1 := k1 _ hB
  have q2 := k2 _ hB
  unfold Cv at q1 q2
  have HB := Lib.hid hB
  clear k1 k2 hB hY hX
  go_enter Tryz.func72, Tryz.ntmps72
  go_wp2
  go_ret
  exact ⟨rfl, HB.out⟩
/-- What Find answers. -/
def fnI (s : Sto) (i : Mg.Id4) : Mg.Id4 := match findH s.held i with | none => zeroI | some _ => i
def fnL (s : Sto) (i : Mg.Id4) : List Nat := match findH s.held i with | none => [] | some p => p
def fnB (s : Sto) (i : Mg.Id4) : Bool := (findH s.held i).isSome
theorem cv_own {w : World} {B n c : Nat} {A : Option Addr} {l : List Nat} (h : Me.Own w B (.slice A n c) l) (hl : ∀ z ∈ l, z < 256) (hn : n = l.length) : ∀ W, Below w.heap.size w W → Cv W A n c (strOf l) := fun W hW => by
  obtain ⟨r1, r2, _, _⟩ := Hd.own_rd h hl
  subst hn
  exact conv_rd W _ A l c (r1.below hW) r2
theorem cv_none (W : World) : Cv W none 0 0 (strOf []) := conv_rd W 0 none [] 0 ⟨by simp, by simp⟩ fun _ => ⟨rfl, rfl⟩
theorem Find_f (M : Nat) (O : Nat → Prop) (w : World) (m D : Nat) (s : Sto) (i : Mg.Id4) (hf : Fit i) (h : Hid (Lv M O w m D s)) : Calls Tryz.prog 28 #[.pointer (some ⟨D, 0, none⟩), .agg (Mg.idC i)] w fun e w' => ∃ A c, e = .returned (.tuple #[.agg (Mg.msgC (fnI s i) A (fnL s i).length c), .bool (fnB s i)]) ∧ Hid (∀ W, Below w'.heap.size w' W → Cv W A (fnL s i).length c (strOf (fnL s i))) ∧ Hid (Below w.heap.size w w') := by
  refine (Find_l M O w m D s i hf h).mono ?_
  rintro e w' ⟨hb, ⟨hn, rfl⟩ | ⟨p, hp, A, c, rfl, ho⟩⟩
  · unfold fnI fnL fnB
    rw [hn]
    exact ⟨none, 0, rfl, fun W _ => cv_none W, hb⟩
  · have hl := (h.out.ok.all _ (findH_mem hp)).2.2
    unfold fnI fnL fnB
    rw [hp]
    exact ⟨A, c, rfl, cv_own ho.out hl rfl, hb⟩
end Go.Proofs.YtfnlhfelpdkieaaGreat.So
/- SameAll and SameState, of what is the same. -/
namespace Go.Proofs.YtfnlhfelpdkieaaGreat.So
open Go.RowKit Go.Deep
open Go.Proofs.YtfnlhfelpdkieaaGreat.Me Go.Proofs.YtfnlhfelpdkieaaGreat.Sb
set_option linter.unusedVariables false
set_option linter.unusedSimpArgs false

/-- Messages that are read. -/
def Ml (w : World) (v : Value) (L : List It) : Prop :=
  ∃ A c, v = .slice A L.length c ∧ L.length ≤ c ∧ c ≤ 9223372036854775807 ∧ ∀ (j : Nat) (x : It), L[j]? = some x → ∃ g R cr, A = some ⟨g, 0, none⟩ ∧ ∀ W, Below w.heap.size w W →
    (W.cell? ⟨g, j * 5, none⟩ = some (.int .i64 x.i.o) ∧ W.cell? ⟨g, j * 5 + 1, none⟩ = some (.int .i64 x.i.d) ∧ W.cell? ⟨g, j * 5 + 2, none⟩ = some (.int .i64 x.i.e) ∧ W.cell? ⟨g, j * 5 + 3, none⟩ = some (.int .i64 x.i.c) ∧ W.cell? ⟨g, j * 5 + 4, none⟩ = some (.slice R x.p.length cr)) ∧ Cv W R x.p.length cr (strOf x.p)
theorem Ml.below {w w' : World} {v : Value} {L : List It} (h : Ml w v L) (hb : Below w.heap.size w w') : Ml w' v L := by
  obtain ⟨A, c, e, h1, h2, h3⟩ := h
  refine ⟨A, c, e, h1, h2, fun j x hj => ?_⟩
  obtain ⟨g, R, cr, e1, e2⟩ := h3 j x hj
  exact ⟨g, R, cr, e1, fun W hW => e2 W (go_on hb hW)⟩
theorem Rl.read {Q : Nat → Prop} {w : World} {v : Value} {P : List Pq} (h : Rl Q w 0 v P) (hl : ∀ x ∈ P.map Pq.x, ∀ z ∈ x.p, z < 256) : Ml w v (P.map Pq.x) := by
  obtain ⟨A, c, rfl, h1, h2, _⟩ := h.form
  refine ⟨A, c, by rw [List.length_map], by rw [List.length_map]; exact h1, h2, fun j x hj => ?_⟩
  obtain ⟨q, hq, rfl⟩ : ∃ q, P[j]? = some q ∧ q.x = x := by simpa using hj
  obtain ⟨g, e1, e3, e4⟩ := h.at_ hq
  have hm := List.mem_of_getElem? hq
  exact ⟨g, q.A, q.c, e1, fun W hW => ⟨e4 W (hW.block g e3), cv_own (h.each q hm).1 (hl _ (List.mem_map_of_mem hm)) rfl W hW⟩⟩
theorem Ow.read {w : World} {B : Nat} {v : Value} {P : List Pq} (h : Ow w B v P) (hl : ∀ x ∈ P.map Pq.x, ∀ z ∈ x.p, z < 256) : Ml w v (P.map Pq.x) :=
  Rl.read (Q := fun _ => True) ⟨own_base h.own fun _ _ => Nat.zero_le _, fun p hp => ⟨own_base (h.each p hp) fun _ _ => Nat.zero_le _, fun _ _ => trivial⟩⟩ hl
set_option maxRecDepth 100000 in
set_option maxHeartbeats 8000000 in
theorem SameAll_eq (v1 v2 : Value) (L : List It) (w : World) (h1 : Hid (Ml w v1 L)) (h2 : Hid (Ml w v2 L)) (hl : L.length ≤ 100000) : Calls Tryz.prog 39 #[v1, v2] w fun e w' => e = .returned (.bool true) ∧ Hid (Below w.heap.size w w') := by
  obtain ⟨A1, c1, rfl, _, _, r1⟩ := h1.out
  obtain ⟨A2, c2, rfl, _, _, r2⟩ := h2.out
  have R1 := Lib.hid r1
  have R2 := Lib.hid r2
  have HJ : Hid (∀ j, j < L.length → ∃ x, L[j]? = some x) := fun j hj => ⟨_, List.getElem?_eq_getElem hj⟩
  obtain ⟨N, hN⟩ : ∃ N, L.length = N := ⟨_, rfl⟩
  rw [hN] at HJ hl ⊢
  clear h1 h2 r1 r2 hN
  go_enter Tryz.func39, Tryz.ntmps39
  go_wp2
  go_loopw [5] (fun v5 wr => ∃ j : Nat, j ≤ N ∧ v5 = .int .i64 (j : Int) ∧ Hid (Below w.heap.size w wr)) (fun v5 _ => N - (intOf v5).toNat)
  case atStart => exact ⟨0, by omega, rfl, Below.refl _ _⟩
  case round =>
    obtain ⟨j, hj, rfl, HB⟩ := hrel
    by_cases hlt : j < N
    · obtain ⟨⟨⟨o, d, ee, cc⟩, p⟩, hx⟩ := HJ.out j hlt
      obtain ⟨g1, P1, k1, rfl, e1⟩ := R1.out j _ hx
      obtain ⟨g2, P2, k2, rfl, e2⟩ := R2.out j _ hx
      have f1 : (j : Int) < (N : Int) := by omega
      have f2 : (j : Int) < 100000 := by omega
      simp only at e1 e2
      obtain ⟨n, hn⟩ : ∃ n, p.length = n := ⟨_, rfl⟩
      obtain ⟨s, hs⟩ : ∃ n, strOf p = n := ⟨_, rfl⟩
      rw [hn, hs] at e1 e2
      have E1 := Lib.hid e1
      have E2 := Lib.hid e2
      have HSm := Lib.hid (fun W (hW : Below w.heap.size w W) => RSame_eq o d ee cc P1 P2 n k1 k2 s W (fun W' hW' => (e1 W' (go_on hW hW')).2) (fun W' hW' => (e2 W' (go_on hW hW')).2))
      clear e1 e2 hn hs hx
      go_wp2
      have S0 : Below w.heap.size w wr.drew := HB.out.drew
      refine wp_region_held_drew (S := fun W => Below w.heap.size w W) (by kernel_rfl) S0 (fun hHeld => ?_)
      refine wpAnyH_take (i := 0) (v := .slice (some ⟨g1, 0, none⟩) N c1) rfl (by kernel_rfl) (by kernel_rfl) (by kernel_rfl) (fun _ _ _ h => h) (Or.inl ⟨by rfl, ?_⟩) (by first | assumption | exact trivial) ?_
      · intro W hSW; go_simp; try (with_reducible rfl)
      simp only [Act.put, List.getElem_toArray, List.getElem_cons_succ, List.getElem_cons_zero, List.setIfInBounds_toArray, List.set_cons_zero, List.set_cons_succ]
      refine wpAnyH_take (i := 1) (v := .int .i64 (j : Int)) rfl (by kernel_rfl) (by kernel_rfl) (by kernel_rfl) (fun _ _ _ h => h) (Or.inl ⟨by rfl, ?_⟩) (by first | assumption | exact trivial) ?_
      · intro W hSW; go_simp; try (with_reducible rfl)
      simp only [Act.put, List.getElem_toArray, List.getElem_cons_succ, List.getElem_cons_zero, List.setIfInBounds_toArray, List.set_cons_zero, List.set_cons_succ]
      refine wpAnyH_take (i := 2) (v := .pointer (some ⟨g1, j * 5, none⟩)) rfl (by kernel_rfl) (by kernel_rfl) (by kernel_rfl) (fun _ _ _ h => h) (Or.inl ⟨by rfl, ?_⟩) (by first | assumption | exact trivial) ?_
      · intro W hSW; go_simp; try (with_reducible rfl)
      simp only [Act.put, List.getElem_toArray, List.getElem_cons_succ, List.getElem_cons_zero, List.setIfInBounds_toArray, List.set_cons_zero, List.set_cons_succ]
      refine wpAnyH_take (i := 3) (v := .agg #[.int .i64 o, .int .i64 d, .int .i64 ee, .int .i64 cc, .slice P1 n k1]) rfl (by kernel_rfl) (by kernel_rfl) (by kernel_rfl) (fun _ _ _ h => h) (Or.inl ⟨by rfl, ?_⟩) (by first | assumption | exact trivial) ?_
      · intro W hSW; obtain ⟨⟨m0, m1, m2, m3, m4⟩, _⟩ := E1.out W hSW; go_simp; try (with_reducible rfl)
      simp only [Act.put, List.getElem_toArray, List.getElem_cons_succ, List.getElem_cons_zero, List.setIfInBounds_toArray, List.set_cons_zero, List.set_cons_succ]
      refine wpAnyH_take (i := 4) (v := .slice (some ⟨g2, 0, none⟩) N c2) rfl (by kernel_rfl) (by kernel_rfl) (by kernel_rfl) (fun _ _ _ h => h) (Or.inl ⟨by rfl, ?_⟩) (by first | assumption | exact trivial) ?_
      · intro W hSW; go_simp; try (with_reducible rfl)
      simp only [Act.put, List.getElem_toArray, List.getElem_cons_succ, List.getElem_cons_zero, List.setIfInBounds_toArray, List.set_cons_zero, List.set_cons_succ]
      refine wpAnyH_take (i := 5) (v := .int .i64 (j : Int)) rfl (by kernel_rfl) (by kernel_rfl) (by kernel_rfl) (fun _ _ _ h => h) (Or.inl ⟨by rfl, ?_⟩) (by first | assumption | exact trivial) ?_
      · intro W hSW; go_simp; try (with_reducible rfl)
      simp only [Act.put, List.getElem_toArray, List.getElem_cons_succ, List.getElem_cons_zero, List.setIfInBounds_toArray, List.set_cons_zero, List.set_cons_succ]
      refine wpAnyH_take (i := 6) (v := .pointer (some ⟨g2, j * 5, none⟩)) rfl (by kernel_rfl) (by kernel_rfl) (by kernel_rfl) (fun _ _ _ h => h) (Or.inl ⟨by rfl, ?_⟩) (by first | assumption | exact trivial) ?_
      · intro W hSW; go_simp; try (with_reducible rfl)
      simp only [Act.put, List.getElem_toArray, List.getElem_cons_succ, List.getElem_cons_zero, List.setIfInBounds_toArray, List.set_cons_zero, List.set_cons_succ]
      refine wpAnyH_take (i := 7) (v := .agg #[.int .i64 o, .int .i64 d, .int .i64 ee, .int .i64 cc, .slice P2 n k2]) rfl (by kernel_rfl) (by kernel_rfl) (by kernel_rfl) (fun _ _ _ h => h) (Or.inl ⟨by rfl, ?_⟩) (by first | assumption | exact trivial) ?_
      · intro W hSW; obtain ⟨⟨m0, m1, m2, m3, m4⟩, _⟩ := E2.out W hSW; go_simp; try (with_reducible rfl)
      simp only [Act.put, List.getElem_toArray, List.getElem_cons_succ, List.getElem_cons_zero, List.setIfInBounds_toArray, List.set_cons_zero, List.set_cons_succ]
      refine wpAnyH_ready (rs := [8]) (by kernel_rfl) (by simp) ?_
      refine AllReadyH.cons rfl (fun K hK => ?_) AllReadyH.nil
      go_simp
      go_wp2_with (go_at_call 72; refine (HSm.out _ S0).mono ?_; rintro e w5 ⟨rfl, b5⟩)
      have S5 : Below w.heap.size w w5 := go_on S0 b5.out
      refine hK.out _ _ (S5) (fun hHeld => ?_)
      clear hK K
      refine wpAnyH_take (i := 9) (v := .bool false) rfl (by kernel_rfl) (by kernel_rfl) (by kernel_rfl) (fun _ _ _ h => h) (Or.inl ⟨by rfl, ?_⟩) (by first | assumption | exact trivial) ?_
      · intro W hSW; go_simp; try (with_reducible rfl)
      simp only [Act.put, List.getElem_toArray, List.getElem_cons_succ, List.getElem_cons_zero, List.setIfInBounds_toArray, List.set_cons_zero, List.set_cons_succ]
      refine wpAnyH_done (by kernel_rfl) ?_ _
      have S5 := Lib.hid S5
      clear hHeld
      go_wp2
      go_roundw
      case rel => exact ⟨j + 1, by omega, by go_num, S5⟩
      case measure => simp [intOf]; omega
    · obtain rfl : j = N := by omega
      have f1 : ¬ (j : Int) < (j : Int) := by omega
      go_wp2
      go_ret
      exact ⟨rfl, HB.out⟩
/-- A state's five, as they lie. -/
def stv (a b : Int) (u h m : Value) : Array Value := #[.int .i64 a, .int .i64 b, u, h, m]
theorem st_cells {W : World} {D : Nat} {a b : Int} {u h m : Value} (hx : W.heap[D]? = some (.cells #[.int .i64 a, .int .i64 b, u, h, m] 59 (0, 0))) : W.cell? ⟨D, 0, none⟩ = some (.int .i64 a) ∧ W.cell? ⟨D, 1, none⟩ = some (.int .i64 b) ∧ W.cell? ⟨D, 2, none⟩ = some u ∧ W.cell? ⟨D, 3, none⟩ = some h ∧ W.cell? ⟨D, 4, none⟩ = some m := by
  refine ⟨?_, ?_, ?_, ?_, ?_⟩
  all_goals
    rw [cell_of_row _ D _ _ _ (0, 0) hx]
    rfl
set_option maxRecDepth 100000 in
set_option maxHeartbeats 8000000 in
theorem SameState_eq (a b : Int) (u1 u2 h1 h2 m1 m2 : Value) (U : Nx) (L : List It) (P1 P2 : List Se.Pm) (w : World) (hu1 : Hid (Kn w 0 u1 U)) (hu2 : Hid (Kn w 0 u2 U)) (hh1 : Hid (Ml w h1 L)) (hh2 : Hid (Ml w h2 L)) (hm1 : Hid (Se.Mv w m1 P1)) (hm2 : Hid (Se.Mv w m2 P2)) (he : P1.map Se.Pm.m = P2.map Se.Pm.m)
    (hU : U.length ≤ 1000) (hl : L.length ≤ 100000) (hp : P1.length ≤ 100000) : Calls Tryz.prog 22 #[.agg (stv a b u1 h1 m1), .agg (stv a b u2 h2 m2)] w fun e w' => e = .returned (.bool true) ∧ Hid (Below w.heap.size w w') := by
  obtain ⟨A1, c1, rfl, _, _⟩ := hu1.out.form
  obtain ⟨A2, c2, rfl, _, _⟩ := hu2.out.form
  have R1 := Lib.hid (kn_cells hu1.out)
  have R2 := Lib.hid (kn_cells hu2.out)
  have HA := Lib.hid (fun W (hW : Below w.heap.size w W) => SameAll_eq h1 h2 L W (Lib.hid (hh1.out.below hW)) (Lib.hid (hh2.out.below hW)) hl)
  have HM := Lib.hid (fun W (hW : Below w.heap.size w W) => Se.Same_eq m1 m2 P1 P2 W (Lib.hid (hm1.out.below hW)) (Lib.hid (hm2.out.below hW)) (Lib.hid he) hp)
  obtain ⟨N, hN⟩ : ∃ N, U.length = N := ⟨_, rfl⟩
  rw [hN] at R1 R2 hU ⊢
  unfold stv
  obtain ⟨hB, hY, hX⟩ := two_new w #[.int .i64 a, .int .i64 b, .slice A1 N c1, h1, m1] #[.int .i64 a, .int .i64 b, .slice A2 N c2, h2, m2] 59 59
  obtain ⟨W0, hW0⟩ : ∃ W, (w.alloc (.cells #[.int .i64 a, .int .i64 b, .slice A1 N c1, h1, m1] 59)).alloc (.cells #[.int .i64 a, .int .i64 b, .slice A2 N c2, h2, m2] 59) = W := ⟨_, rfl⟩
  have HW0 := Lib.hid hW0
  obtain ⟨x0, x1, x2, x3, x4⟩ := st_cells hX
  obtain ⟨y0, y1, y2, y3, y4⟩ := st_cells hY
  rw [hW0] at hB hY hX
  have HC : Hid (∀ W, Below W0.heap.size W0 W → Below w.heap.size w W ∧ W.heap[w.heap.size]? = some (.cells #[.int .i64 a, .int .i64 b, .slice A1 N c1, h1, m1] 59 (0, 0)) ∧ W.heap[w.heap.size + 1]? = some (.cells #[.int .i64 a, .int .i64 b, .slice A2 N c2, h2, m2] 59 (0, 0))) := fun W hW => ⟨go_on hB hW, (hW.block _ (Array.getElem?_eq_some_iff.1 hX).1).trans hX, (hW.block _ (Array.getElem?_eq_some_iff.1 hY).1).trans hY⟩
  clear hu1 hu2 hh1 hh2 hm1 hm2 he hl hp hN hB hY hX hW0
  go_enter Tryz.func22, Tryz.ntmps22
  go_wp2
  rw [HW0.out]
  clear x0 x1 x2 x3 x4 y0 y1 y2 y3 y4
  go_loopw [5] (fun v5 wr => ∃ j : Nat, j ≤ N ∧ v5 = .int .i64 (j : Int) ∧ Hid (Below W0.heap.size W0 wr)) (fun v5 _ => N - (intOf v5).toNat)
  case atStart => exact ⟨0, by omega, rfl, Below.refl _ _⟩
  case round =>
    obtain ⟨j, hj, rfl, HB⟩ := hrel
    obtain ⟨kb, kx, ky⟩ := HC.out wr HB.out
    obtain ⟨x0, x1, x2, x3, x4⟩ := st_cells kx
    obtain ⟨y0, y1, y2, y3, y4⟩ := st_cells ky
    by_cases hlt : j < N
    · obtain ⟨g1, p, q, rfl, e0, e1⟩ := R1.out j hlt
      obtain ⟨g2, p', q', rfl, e0', e2⟩ := R2.out j hlt
      rw [e0] at e0'
      cases e0'
      obtain ⟨z0, z1⟩ := e1 wr kb
      obtain ⟨z2, z3⟩ := e2 wr kb
      have f1 : (j : Int) < (N : Int) := by omega
      have f2 : (j : Int) < 1000 := by omega
      clear e0 e1 e2 kb kx ky
      go_wp2
      go_quiet (fail)
      go_wp2
      go_roundw
      case rel => exact ⟨j + 1, by omega, by go_num, Me.below_drewN HB.out _⟩
      case measure => simp [intOf]; omega
    · obtain rfl : j = N := by omega
      have f1 : ¬ (j : Int) < (j : Int) := by omega
      have KB := Lib.hid kb
      clear kb kx ky
      go_wp2_with (first
        | (go_at_call 39; refine (HA.out _ KB.out).mono ?_; rintro e w5 ⟨rfl, b5⟩; have K5 := Lib.hid (go_on HB.out b5.out); obtain ⟨kb, kx, ky⟩ := HC.out w5 K5.out; clear x0 x1 x2 x3 x4 y0 y1 y2 y3 y4; obtain ⟨x0, x1, x2, x3, x4⟩ := st_cells kx; obtain ⟨y0, y1, y2, y3, y4⟩ := st_cells ky; have KB5 := Lib.hid kb; clear kb kx ky)
        | (go_at_call 60; refine (HM.out _ KB5.out).mono ?_; rintro e w6 ⟨rfl, b6⟩))
      go_ret
      exact ⟨rfl, go_on KB5.out b6.out⟩
end Go.Proofs.YtfnlhfelpdkieaaGreat.So
