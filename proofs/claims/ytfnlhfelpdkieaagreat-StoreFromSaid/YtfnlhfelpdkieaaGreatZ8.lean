/- Marks of the program's own in memory: a slice of rows, each with a list of its own; slices.Clone of numbers. -/
import Derived.Test.YtfnlhfelpdkieaaGreatZ5
import Derived.Lib.SliceRun
import Derived.Deep.Slices
import Derived.Deep.Strs
import Derived.WideShapes
import Derived.SizedLaws
import Derived.Lib.SmallJoins
namespace Go.Proofs.YtfnlhfelpdkieaaGreat.Se
open Go.RowKit
open Go.Proofs.YtfnlhfelpdkieaaGreat.Me Go.Proofs.YtfnlhfelpdkieaaGreat.Sb
set_option linter.unusedVariables false
set_option linter.unusedSimpArgs false

/-- Marks of the call's own, with lists of the call's own. -/
structure Mw (w : World) (B : Nat) (v : Value) (P : List Pm) : Prop where
  own : w.ownsRow B 112 4 v P.length (psV P)
  each : ∀ p ∈ P, Mi.Own w B p.v p.m.more
theorem Mo.mw {w : World} {B : Nat} {v : Value} {P : List Pm} (h : Mo w B v P) : Mw w B v P := ⟨h.own, h.each⟩
theorem Mw.nil (w : World) (B : Nat) : Mw w B (.slice none 0 0) [] := ⟨⟨rfl, .inl ⟨rfl, rfl⟩⟩, fun p hp => by simp at hp⟩
theorem Mw.below {w w' : World} {B : Nat} {v : Value} {P : List Pm} (h : Mw w B v P) (hb : Below w.heap.size w w') : Mw w' B v P :=
  ⟨own_same h.own fun k _ hk => hb.block k hk, fun p hp => (h.each p hp).below hb⟩
theorem Mw.base {w : World} {B B' : Nat} {v : Value} {P : List Pm} (h : Mw w B v P) (hB : B' ≤ B) : Mw w B' v P :=
  ⟨own_base h.own fun k hk => Nat.le_trans hB (h.own.lt k hk).1, fun p hp => (h.each p hp).base fun k hk => Nat.le_trans hB ((h.each p hp).lt k hk).1⟩
theorem Mw.form {w : World} {B : Nat} {v : Value} {P : List Pm} (h : Mw w B v P) : ∃ A c, v = .slice A P.length c ∧ P.length ≤ c ∧ c ≤ 9223372036854775807 := by
  rcases h.own.2 with ⟨h1, h2⟩ | ⟨g, cap, cur, h1, h2, h3, h4, h5, h6, h7⟩
  · have : P = [] := by simpa using h2
    subst this
    exact ⟨none, 0, h1, Nat.le_refl _, Nat.zero_le _⟩
  · exact ⟨_, cap, h1, h4, by unfold maxLen at h5; omega⟩
/-- The row of mark j. -/
theorem Mw.at_ {w : World} {B : Nat} {A : Option Addr} {n c : Nat} {P : List Pm} (h : Mw w B (.slice A n c) P) {j : Nat} {p : Pm} (hj : P[j]? = some p) :
    ∃ g, A = some ⟨g, 0, none⟩ ∧ B ≤ g ∧ g < w.heap.size ∧ (∀ W : World, W.heap[g]? = w.heap[g]? → W.cell? ⟨g, j * 4, none⟩ = some (.int .i64 p.m.o) ∧ W.cell? ⟨g, j * 4 + 1, none⟩ = some (.int .i64 p.m.e) ∧ W.cell? ⟨g, j * 4 + 2, none⟩ = some (.int .i64 p.m.up) ∧ W.cell? ⟨g, j * 4 + 3, none⟩ = some p.v ∧ ∀ i, W.frozen? ⟨g, i, none⟩ = false) := by
  have h0 := h.own
  have hlt := (List.getElem?_eq_some_iff.1 hj).1
  rcases h0.2 with ⟨h1, h2⟩ | ⟨g, cap, cur, h1, h2, h3, h4, h5, h6, h7⟩
  · have : P = [] := by simpa using h2
    subst this; simp at hlt
  · cases h1
    have hl := h0.lt g rfl
    refine ⟨g, rfl, h2, hl.2, fun W hW => ?_⟩
    have hx : ∀ i u, i < 4 → (pV p)[i]? = some u → W.cell? ⟨g, j * 4 + i, none⟩ = some u := fun i u hi hu => by
      have := h0.cells (g := g) rfl (j * 4 + i) u (by rw [psV_get hj hi]; exact hu)
      rw [add_mk, Nat.zero_add] at this
      exact (World.cell?_of_block (w := w) (a := ⟨g, j * 4 + i, none⟩) hW).trans this
    exact ⟨hx 0 _ (by omega) rfl, hx 1 _ (by omega) rfl, hx 2 _ (by omega) rfl, hx 3 _ (by omega) rfl, fun i => frozen_of_row W g i _ _ (hW.trans h3)⟩
/-- One mark appended, as one operation. -/
theorem appMw {w : World} {o : Oper} {a : Act} {K : Act → World → Prop} {Q : Exit → Act → World → Prop} (s x : Operand)
    (ho : o.op = .call { callee := .builtin .append, args := #[s, x], argTypes := #[57, 57] })
    (B : Nat) (v : Value) (P : List Pm) (p : Pm) (gx : Nat) (hs : a.eval s = v) (hown : Mw w B v P) (hp : Mi.Own w B p.v p.m.more) (hx : a.eval x = .slice (some ⟨gx, 0, none⟩) 1 1) (hz : ∀ j u, (pV p)[j]? = some u → w.cell? ⟨gx, j, none⟩ = some u) (hlen : P.length ≤ 10000000) (hB : B ≤ w.heap.size)
    (h : ∀ v' w', Mw w' B v' (P ++ [p]) → w.grownBy w' v.ownBlock → (∀ k, v.ownBlock = some k → B ≤ k) → K (a.put o.dst v') w') : o.wp Tryz.prog a w K Q := by
  obtain ⟨i0, hi, hz0, hz1, hz2⟩ := info_parts infoMk
  have hnews : ∀ j u, (pV p)[j]? = some u → w.cell? ((⟨gx, 0, none⟩ : Addr).add j) = some u := by
    intro j u hj
    rw [add_mk, Nat.zero_add]
    exact hz j u hj
  obtain ⟨v', w', hr, h2, h3, h4⟩ := run_append_own_at (P := Tryz.prog) w B 57 o.type 112 i0 (.agg #[.int .i64 0, .int .i64 0, .int .i64 0, .slice none 0 0]) 4 48 Tryz.underlying57 hi hz0 hz1 hz2 rfl (by decide) v P.length (psV P) hown.own ⟨gx, 0, none⟩ 1 1 (pV p) rfl hnews (by simp [pV, Pm.v, Value.oneCell']) (by unfold maxLen; omega) (by omega) hB
  unfold Oper.wp execOp
  simp only [ho, resolve, invoke, builtin, Sem.run_bind, Sem.run_pure, Result.andThen_ok, List.map_toArray, List.map_cons, List.map_nil, hs, hx, hr]
  have hk : ∀ q : Pm, Mi.Own w B q.v q.m.more → Mi.Own w' B q.v q.m.more := fun q hq => hq.kept h3 (ty_ne hq hown.own (by decide))
  refine h v' w' ⟨?_, fun q hq => ?_⟩ h3 fun k hk => (hown.own.lt k hk).1
  · rw [List.length_append, psV_snoc]; exact h2
  · rcases List.mem_append.1 hq with hq | hq
    · exact hk q (hown.each q hq)
    · obtain rfl : q = p := by simpa using hq
      exact hk q hp
theorem IClone_any (A : Option Addr) (cap B : Nat) (l : List Int) (w : World) (hr : Hid (Mi.Rd w B A l)) (hA : Hid (A = none → l.length = 0 ∧ cap = 0)) (hB : B ≤ w.heap.size) (hc : l.length ≤ 1000000) :
    Calls Tryz.prog 76 #[.slice A l.length cap] w fun e w' => ∃ v, e = .returned v ∧ Hid (Mi.Own w' w.heap.size v l) ∧ Hid (Below w.heap.size w w') := by
  have ke := fun (w : World) (a : Option Addr) (n c : Nat) => Lib.run_eql_slice_nil (P := Tryz.prog) w 110 3 a n c 0 0 Tryz.underlying110
  rcases A with _ | ad
  · obtain ⟨h1, rfl⟩ := hA.out rfl
    obtain rfl : l = [] := List.eq_nil_of_length_eq_zero h1
    go_enter Tryz.func76, Tryz.ntmps76
    go_wp2
    go_ret
    exact ⟨_, rfl, Mi.Own.nil _ _, Below.refl _ _⟩
  · go_enter Tryz.func76, Tryz.ntmps76
    go_wp2_with (at_builtin; refine Mi.app rfl (.tmp 5) (.tmp 6) rfl w.heap.size B _ [] l rfl (Mi.Own.lit (Below.refl _ _)) (Mi.below_alloc (Below.refl _ _)) (by simp) (some ad) l.length cap rfl rfl (hr.out.below ((Below.refl _ _).alloc hB _)) hA.out (by simp; omega) ?_; intro v2 w2 ho2 hb2 _; have HO2 := Lib.hid ho2; have HB2 := Lib.hid hb2; clear ho2 hb2)
    go_ret
    exact ⟨_, rfl, HO2, HB2⟩
end Go.Proofs.YtfnlhfelpdkieaaGreat.Se
/- SameMarks of two lists that are the same. -/
namespace Go.Proofs.YtfnlhfelpdkieaaGreat.Se
open Go.RowKit
open Go.Proofs.YtfnlhfelpdkieaaGreat.Me Go.Proofs.YtfnlhfelpdkieaaGreat.Sb
set_option linter.unusedVariables false
set_option linter.unusedSimpArgs false

/-- Marks that are read. -/
def Mv (w : World) (v : Value) (P : List Pm) : Prop :=
  ∃ A c, v = .slice A P.length c ∧ P.length ≤ c ∧ c ≤ 9223372036854775807 ∧ ∀ (j : Nat) (p : Pm), P[j]? = some p → ∃ g off, A = some ⟨g, off, none⟩ ∧ g < w.heap.size ∧
    (w.cell? ⟨g, off + j * 4, none⟩ = some (.int .i64 p.m.o) ∧ w.cell? ⟨g, off + j * 4 + 1, none⟩ = some (.int .i64 p.m.e) ∧ w.cell? ⟨g, off + j * 4 + 2, none⟩ = some (.int .i64 p.m.up) ∧ w.cell? ⟨g, off + j * 4 + 3, none⟩ = some p.v) ∧
    p.m.more.length ≤ p.c ∧ p.c ≤ 9223372036854775807 ∧ Mi.Rd w w.heap.size p.A p.m.more
theorem Mv.below {w w' : World} {v : Value} {P : List Pm} (h : Mv w v P) (hb : Below w.heap.size w w') : Mv w' v P := by
  obtain ⟨A, c, e, h1, h2, h3⟩ := h
  refine ⟨A, c, e, h1, h2, fun j p hj => ?_⟩
  obtain ⟨g, off, e1, e2, ⟨c0, c1, c2, c3⟩, e4, e5, e6⟩ := h3 j p hj
  exact ⟨g, off, e1, Nat.lt_of_lt_of_le e2 hb.size, ⟨(hb.cell e2).trans c0, (hb.cell e2).trans c1, (hb.cell e2).trans c2, (hb.cell e2).trans c3⟩, e4, e5, (e6.below hb).more hb.size⟩
theorem Mw.mv {w : World} {B : Nat} {v : Value} {P : List Pm} (h : Mw w B v P) : Mv w v P := by
  obtain ⟨A, c, rfl, h1, h2⟩ := h.form
  refine ⟨A, c, rfl, h1, h2, fun j p hj => ?_⟩
  obtain ⟨g, e1, e2, e3, e4⟩ := h.at_ hj
  obtain ⟨c0, c1, c2, c3, _⟩ := e4 w rfl
  obtain ⟨A', c', e5, h3, h4, h5, _⟩ := (h.each p (List.mem_of_getElem? hj)).form
  unfold Pm.v at e5
  cases e5
  exact ⟨g, 0, e1, e3, ⟨by rw [Nat.zero_add]; exact c0, by rw [Nat.zero_add]; exact c1, by rw [Nat.zero_add]; exact c2, by rw [Nat.zero_add]; exact c3⟩, h3, h4, h5⟩
set_option maxRecDepth 100000 in
set_option maxHeartbeats 8000000 in
theorem Same_eq (v1 v2 : Value) (P1 P2 : List Pm) (w : World) (h1 : Hid (Mv w v1 P1)) (h2 : Hid (Mv w v2 P2)) (he : Hid (P1.map Pm.m = P2.map Pm.m)) (hl : P1.length ≤ 5000000) : Calls Tryz.prog 60 #[v1, v2] w fun e w' => e = .returned (.bool true) ∧ Hid (Below w.heap.size w w') := by
  obtain ⟨A1, c1, rfl, hc1, hc1', hr1⟩ := h1.out
  obtain ⟨A2, c2, rfl, hc2, hc2', hr2⟩ := h2.out
  have hlen : P2.length = P1.length := by have := congrArg List.length he.out; simpa using this.symm
  obtain ⟨N, hN⟩ : ∃ N, P1.length = N := ⟨_, rfl⟩
  rw [hlen, hN]
  have HN := Lib.hid hN
  have HN2 : Hid (P2.length = N) := hlen.trans hN
  rw [hN] at hl
  clear hc1 hc1' hr1 hc2 hc2' hr2 hlen hN
  go_enter Tryz.func60, Tryz.ntmps60
  go_wp2
  go_loopw [5] (fun v5 wr => ∃ j : Nat, j ≤ N ∧ v5 = .int .i64 (j : Int) ∧ Hid (Below w.heap.size w wr)) (fun v5 _ => N - (intOf v5).toNat)
  case atStart => exact ⟨0, by omega, rfl, Below.refl _ _⟩
  case round =>
    obtain ⟨j, hj, rfl, HB⟩ := hrel
    by_cases hlt : j < N
    · obtain ⟨p1, hp1⟩ : ∃ p, P1[j]? = some p := ⟨_, List.getElem?_eq_getElem (by have := HN.out; omega)⟩
      obtain ⟨p2, hp2⟩ : ∃ p, P2[j]? = some p := ⟨_, List.getElem?_eq_getElem (by have := HN2.out; omega)⟩
      have hm : p1.m = p2.m := by
        have := congrArg (fun l => l[j]?) he.out
        simpa [hp1, hp2] using this
      obtain ⟨A1', c1', e1, _, _, hr1⟩ := h1.out
      injection e1 with e1 _ e1'
      subst e1 e1'
      obtain ⟨A2', c2', e2, _, _, hr2⟩ := h2.out
      injection e2 with e2 _ e2'
      subst e2 e2'
      obtain ⟨g1, o1, rfl, hg1, ⟨a0, a1, a2, a3⟩, hk1, hk1', hrd1⟩ := hr1 j p1 hp1
      obtain ⟨g2, o2, rfl, hg2, ⟨b0, b1, b2, b3⟩, hk2, hk2', hrd2⟩ := hr2 j p2 hp2
      obtain ⟨m1, B1, d1⟩ := p1
      obtain ⟨m2, B2, d2⟩ := p2
      simp only at hm
      subst hm
      obtain ⟨o, e, u, ml⟩ := m1
      simp only [Pm.v] at a0 a1 a2 a3 b0 b1 b2 b3 hk1 hk1' hk2 hk2' hrd1 hrd2
      obtain ⟨M, hM⟩ : ∃ M, ml.length = M := ⟨_, rfl⟩
      rw [hM] at a3 b3 hk1 hk2
      have HM := Lib.hid hM
      have HR1 := Lib.hid hrd1
      have HR2 := Lib.hid hrd2
      have HC : Hid (∀ W, Below w.heap.size w W → (W.cell? ⟨g1, o1 + j * 4, none⟩ = some (.int .i64 o) ∧ W.cell? ⟨g1, o1 + j * 4 + 1, none⟩ = some (.int .i64 e) ∧ W.cell? ⟨g1, o1 + j * 4 + 2, none⟩ = some (.int .i64 u) ∧ W.cell? ⟨g1, o1 + j * 4 + 3, none⟩ = some (.slice B1 M d1)) ∧ (W.cell? ⟨g2, o2 + j * 4, none⟩ = some (.int .i64 o) ∧ W.cell? ⟨g2, o2 + j * 4 + 1, none⟩ = some (.int .i64 e) ∧ W.cell? ⟨g2, o2 + j * 4 + 2, none⟩ = some (.int .i64 u) ∧ W.cell? ⟨g2, o2 + j * 4 + 3, none⟩ = some (.slice B2 M d2))) := fun W hb =>
        ⟨⟨(hb.cell hg1).trans a0, (hb.cell hg1).trans a1, (hb.cell hg1).trans a2, (hb.cell hg1).trans a3⟩, ⟨(hb.cell hg2).trans b0, (hb.cell hg2).trans b1, (hb.cell hg2).trans b2, (hb.cell hg2).trans b3⟩⟩
      clear hr1 hr2 hM hrd1 hrd2 a0 a1 a2 a3 b0 b1 b2 b3 hp1 hp2 hg1 hg2
      obtain ⟨⟨a0, a1, a2, a3⟩, ⟨b0, b1, b2, b3⟩⟩ := HC.out wr HB.out
      have q1 : (j : Int) < (N : Int) := by omega
      have q2 : ¬ ((N : Int) ≤ (j : Int)) := by omega
      go_wp2
      go_quiet (fail)
      go_wp2
      have HBd : Hid (Below w.heap.size w (wr.drewN nq)) := Me.below_drewN HB.out nq
      clear a0 a1 a2 a3 b0 b1 b2 b3
      obtain ⟨W0, hW0⟩ : ∃ W0, wr.drewN nq = W0 := ⟨_, rfl⟩
      rw [hW0] at HBd ⊢
      clear hW0
      go_loopw [6] (fun v6 wx => ∃ k : Nat, k ≤ M ∧ v6 = .int .i64 (k : Int) ∧ Hid (Below w.heap.size w wx)) (fun v6 _ => M - (intOf v6).toNat)
      case atStart => exact ⟨0, by omega, rfl, HBd⟩
      case round =>
        obtain ⟨k, hk, rfl, HBk⟩ := hrel
        obtain ⟨⟨a0, a1, a2, a3⟩, ⟨b0, b1, b2, b3⟩⟩ := HC.out wr HBk.out
        by_cases hkl : k < M
        · obtain ⟨f1, r1, rfl, hf1, s1⟩ := HR1.out (by have := HM.out; omega)
          obtain ⟨f2, r2, rfl, hf2, s2⟩ := HR2.out (by have := HM.out; omega)
          have z1 := (HBk.out.cell (p := ⟨f1, r1 + k, none⟩) hf1).trans (s1 k (by have := HM.out; omega))
          have z2 := (HBk.out.cell (p := ⟨f2, r2 + k, none⟩) hf2).trans (s2 k (by have := HM.out; omega))
          obtain ⟨z, hz⟩ : ∃ z, Mi.at_ ml k = z := ⟨_, rfl⟩
          rw [hz] at z1 z2
          have q3 : (k : Int) < (M : Int) := by omega
          have q4 : ¬ ((M : Int) ≤ (k : Int)) := by omega
          clear s1 s2 hz
          go_wp2
          go_quiet (fail)
          go_wp2
          go_roundw
          case rel => exact ⟨k + 1, hkl, by go_num, Me.below_drewN HBk.out _⟩
          case measure => simp [intOf]; omega
        · obtain rfl : k = M := by omega
          have q3 : ¬ (k : Int) < (k : Int) := by omega
          go_wp2
          go_roundw
          case rel => exact ⟨j + 1, hlt, by go_num, HBk⟩
          case measure => simp [intOf]; omega
    · obtain rfl : j = N := by omega
      have g1 : ¬ (j : Int) < (j : Int) := by omega
      go_wp2
      go_ret
      exact ⟨rfl, HB.out⟩
end Go.Proofs.YtfnlhfelpdkieaaGreat.Se
/- Marks that came in, as a list. -/
namespace Go.Proofs.YtfnlhfelpdkieaaGreat.Se
open Go.RowKit Go.Deep
open Go.ChangeShapes Go.WideShapes Go.Joins
open Go.Proofs.YtfnlhfelpdkieaaGreat.Me Go.Proofs.YtfnlhfelpdkieaaGreat.Sb
set_option linter.unusedVariables false
set_option linter.unusedSimpArgs false

/-- Marks whose lists have bounded room. -/
structure Msz (cap : Nat) (P : List Pm) : Prop where
  cap : cap * 48 ≤ 140737488351232
  each : ∀ p ∈ P, p.c * 8 ≤ 140737488351232 ∧ (p.A = none → p.m.more.length = 0 ∧ p.c = 0)
/-- What the program's From asks of marks: not too many, and nil has no room. -/
structure Msn (P : List Pm) : Prop where
  len : P.length ≤ 3000000000000
  each : ∀ p ∈ P, p.A = none → p.m.more.length = 0 ∧ p.c = 0
theorem Msz.msn {cap : Nat} {P : List Pm} (h : Msz cap P) (hl : P.length ≤ cap) : Msn P := ⟨by have := h.cap; omega, fun p hp => (h.each p hp).2⟩
theorem weightsAll_mem {H : Type} {P : Program} {e : TypeId} : ∀ {l : List (DataW H)} {d : DataW H}, d ∈ l → ∀ n ∈ d.weights P e, n ∈ DataW.weightsAll P e l
  | x :: r, d, h, n, hn => by
    simp only [DataW.weightsAll, List.mem_append]
    rcases List.mem_cons.mp h with rfl | h'
    · exact .inl hn
    · exact .inr (weightsAll_mem h' n hn)
  | [], _, h, _, _ => by cases h
theorem mk_w : Tryz.prog.cellsOf 112 = 4 := by kernel_rfl
theorem int_w : Tryz.prog.cellsOf 3 = 1 := by kernel_rfl
theorem ints_w : Tryz.prog.cellsOf 110 = 1 := by kernel_rfl
theorem int_b : Tryz.prog.bytesOf 3 = 8 := by kernel_rfl
theorem mk_b : Tryz.prog.bytesOf 112 = 48 := by kernel_rfl
set_option maxRecDepth 100000 in
theorem mark_in {H : Type} {enc : TypeId × Value → H} {w : World} {base n : Nat} {held : Bool} {cs : List Value} {D : DataW H} {Pl : List MemPlace} (h : DataW.trod enc Tryz.prog w base (fun _ => true) held n 112 cs = some (D, Pl)) (hw : ∀ x ∈ D.weights Tryz.prog 112, x ≤ reachBytes) :
    ∃ p : Pm, cs = [.int .i64 p.m.o, .int .i64 p.m.e, .int .i64 p.m.up, p.v] ∧ p.m.more.length ≤ p.c ∧ p.c * 8 ≤ 140737488351232 ∧ Mi.Rd w w.heap.size p.A p.m.more ∧ (p.A = none → p.m.more.length = 0 ∧ p.c = 0) := by
  obtain ⟨y0, y1, y2, y3, m, hx, hlen, h0, h1, h2, h3⟩ := trod_struct4 Tryz.underlying112 h
  rw [mk_w] at hlen
  match cs, hlen with
  | [v0, v1, v2, v3], _ =>
    simp only [int_w, ints_w] at h0 h1 h2 h3
    simp at h0 h1 h2 h3
    obtain ⟨k0, hk0, _, _⟩ := DataW.trod_int Tryz.underlying3 h0
    obtain ⟨k1, hk1, _, _⟩ := DataW.trod_int Tryz.underlying3 h1
    obtain ⟨k2, hk2, _, _⟩ := DataW.trod_int Tryz.underlying3 h2
    simp only [List.cons.injEq, and_true] at hk0 hk1 hk2
    simp only [Prod.mk.injEq] at hx
    rcases open_ints Tryz.underlying110 Tryz.underlying3 (by kernel_rfl) h3 with ⟨hcs, _⟩ | ⟨x, l, c, zs, hcs, _, hl, hm, hz, hy, hcell, hwz⟩
    · simp at hcs
      exact ⟨⟨⟨k0, k1, k2, []⟩, none, 0⟩, by rw [hk0, hk1, hk2, hcs]; rfl, Nat.le_refl _, Nat.zero_le _, Mi.Rd.nil _ _ _, fun _ => ⟨rfl, rfl⟩⟩
    · simp at hcs
      obtain ⟨q, b1, b2, b3, b4, b5, b6⟩ := Mi.bySlice_some hl hm (by simpa using hz) hcell hwz
      subst b1
      refine ⟨⟨⟨k0, k1, k2, q⟩, some x, c⟩, by rw [hk0, hk1, hk2, hcs]; rfl, b2, ?_, b4, fun e => by cases e⟩
      have hmem : c * 8 ≤ reachBytes := by
        refine hw _ ?_
        rw [hx.1, hy]
        simp only [DataW.weights, Tryz.underlying112, Tryz.underlying110, DataW.weightsEach]
        simp only [Array.toList, List.map_cons, List.map_nil, DataW.weightsEach, List.mem_append]
        refine .inr (.inr (.inr (.inl ?_)))
        have hz' : zs.length = c := by simpa using hz
        have e : c * 8 = ((lits (H := H) .i64 (zs.take q.length)).length + (lits (H := H) .i64 (zs.drop q.length)).length) * Tryz.prog.bytesOf 3 := by
          rw [int_b]
          simp only [lits, List.length_map, List.length_take, List.length_drop]
          omega
        rw [e]
        simp [DataW.weights, Tryz.underlying110]
      unfold reachBytes at hmem
      exact hmem
set_option maxRecDepth 100000 in
theorem marks_in {H : Type} {enc : TypeId × Value → H} {w : World} {base fuel : Nat} {held : Bool} {a : Option Addr} {len cap : Nat} {d : DataW H} {pl : List MemPlace}
    (h : DataW.trod enc Tryz.prog w base (fun _ => true) held fuel 57 [.slice a len cap] = some (d, pl)) (hw : ∀ x ∈ d.weights Tryz.prog 57, x ≤ reachBytes) :
    ∃ P : List Pm, len = P.length ∧ Mv w (.slice a len cap) P ∧ Msz cap P := by
  rcases open_slice Tryz.underlying57 h with ⟨hcs, _⟩ | ⟨ad, l, c, m, n, D, Pl, hcs, _, hl, hm, hmm, hx, hel⟩
  · simp at hcs
    obtain ⟨rfl, rfl, rfl⟩ := hcs
    exact ⟨[], rfl, ⟨none, 0, rfl, Nat.le_refl _, Nat.zero_le _, fun j p hj => by simp at hj⟩, ⟨Nat.zero_le _, fun p hp => by simp at hp⟩⟩
  · simp at hcs
    obtain ⟨rfl, rfl, rfl⟩ := hcs
    simp only [if_true] at hmm
    subst hmm
    simp only [Prod.mk.injEq] at hx
    rw [mk_w] at hel
    have each : ∀ i, i < len → ∃ p : Pm, (w.cell? (ad.add (i * 4)) = some (.int .i64 p.m.o) ∧ w.cell? ((ad.add (i * 4)).add 1) = some (.int .i64 p.m.e) ∧ w.cell? ((ad.add (i * 4)).add 2) = some (.int .i64 p.m.up) ∧ w.cell? ((ad.add (i * 4)).add 3) = some p.v) ∧
        p.m.more.length ≤ p.c ∧ p.c * 8 ≤ 140737488351232 ∧ Mi.Rd w w.heap.size p.A p.m.more ∧ (p.A = none → p.m.more.length = 0 ∧ p.c = 0) := by
      intro i hi
      obtain ⟨cs', h1, h2⟩ := hel i (by omega)
      obtain ⟨_, _, hcell⟩ := World.cells?_some h1
      obtain ⟨p, rfl, g1, g2, g3, g4⟩ := mark_in h2 fun x hxx => by
        refine hw x ?_
        rw [hx.1]
        simp only [DataW.weights, Tryz.underlying57]
        refine List.mem_cons_of_mem _ (List.mem_append_left _ (weightsAll_mem (d := D i) ?_ x hxx))
        exact List.mem_map.mpr ⟨i, List.mem_range.mpr hi, rfl⟩
      have e0 := hcell 0 (by omega)
      have e1 := hcell 1 (by omega)
      have e2 := hcell 2 (by omega)
      have e3 := hcell 3 (by omega)
      rw [show (ad.add (i * 4)).add 0 = ad.add (i * 4) by simp [Addr.add]] at e0
      exact ⟨p, ⟨e0, e1, e2, e3⟩, g1, g2, g3, g4⟩
    have hcap : m * 48 ≤ 140737488351232 := by
      have hmem : m * 48 ≤ reachBytes := by
        refine hw _ ?_
        rw [hx.1]
        simp only [DataW.weights, Tryz.underlying57]
        refine List.mem_cons.2 (.inl ?_)
        rw [mk_b]
        simp
        omega
      unfold reachBytes at hmem
      exact hmem
    have inst : Inhabited Pm := ⟨⟨⟨0, 0, 0, []⟩, none, 0⟩⟩
    obtain ⟨q, hq⟩ := choose_lt (α := Pm) each
    refine ⟨(List.range len).map q, by simp, ⟨some ad, m, by simp, by simpa using hl, by unfold maxLen at hm; omega, fun j p hj => ?_⟩, hcap, fun p hp => ?_⟩
    · obtain ⟨hj1, hj2⟩ := List.getElem?_eq_some_iff.1 hj
      have hj' : j < len := by simpa using hj1
      have hat : q j = p := by simpa using hj2
      obtain ⟨⟨c0, c1, c2, c3⟩, g1, g2, g3, g4⟩ := hq j hj'
      rw [hat] at c0 c1 c2 c3 g1 g2 g3
      obtain ⟨b, off, spot⟩ := ad
      have hspot : spot = none := by simpa [Addr.add] using World.cell?_spot (hq 0 (by omega)).1.1
      subst hspot
      simp only [add_mk] at c0 c1 c2 c3
      exact ⟨b, off, rfl, World.block_lt_of_cell? w _ c0, ⟨c0, c1, c2, c3⟩, g1, by omega, g3⟩
    · obtain ⟨j, hj, rfl⟩ := List.mem_map.1 hp
      obtain ⟨_, g1, g2, g3, g4⟩ := hq j (List.mem_range.1 hj)
      exact ⟨g2, g4⟩
end Go.Proofs.YtfnlhfelpdkieaaGreat.Se
