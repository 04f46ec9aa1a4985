/- Marks of the program's own in memory: a slice of rows, each with a list of its own; slices.Clone of numbers. -/
import Derived.Test.YtpofdimagfldnaaZ5
import Derived.Lib.SliceRun
namespace Go.Proofs.Ytpofdimagfldnaa.Se
open Go.RowKit
open Go.Proofs.Ytpofdimagfldnaa.Me Go.Proofs.Ytpofdimagfldnaa.Sb
set_option linter.unusedVariables false
set_option linter.unusedSimpArgs false

/-- Marks of the call's own, with lists of the call's own. -/
structure Mw (w : World) (B : Nat) (v : Value) (P : List Pm) : Prop where
  own : w.ownsRow B 71 4 v P.length (psV P)
  each : ∀ p ∈ P, Mi.Own w B p.v p.m.more
theorem Mo.mw {w : World} {B : Nat} {v : Value} {P : List Pm} (h : Mo w B v P) : Mw w B v P := ⟨h.own, h.each⟩
theorem Mw.nil (w : World) (B : Nat) : Mw w B (.slice none 0 0) [] := ⟨⟨rfl, .inl ⟨rfl, rfl⟩⟩, fun p hp => by simp at hp⟩
theorem Mw.below {w w' : World} {B : Nat} {v : Value} {P : List Pm} (h : Mw w B v P) (hb : Below w.heap.size w w') : Mw w' B v P :=
  ⟨own_same h.own fun k _ hk => hb.block k hk, fun p hp => (h.each p hp).below hb⟩
theorem Mw.base {w : World} {B B' : Nat} {v : Value} {P : List Pm} (h : Mw w B v P) (hB : B' ≤ B) : Mw w B' v P :=
  ⟨own_base h.own fun k hk => Nat.le_trans hB (h.own.lt k hk).1, fun p hp => (h.each p hp).base fun k hk => Nat.le_trans hB ((h.each p hp).lt k hk).1⟩
theorem Mw.form {w : World} {B : Nat} {v : Value} {P : List Pm} (h : Mw w B v P) : ∃ A c, v = .slice A P.length c ∧ P.length ≤ c ∧ c ≤ 9223372036854775807 := by
  rcases h.own.2 with ⟨h1, h2⟩ | ⟨g, cap, cur, h1, h2, h3, h4, h5, h6, h7⟩
  · have : P = [] := by simpa using h2
    subst this
    exact ⟨none, 0, h1, Nat.le_refl _, Nat.zero_le _⟩
  · exact ⟨_, cap, h1, h4, by unfold maxLen at h5; omega⟩
/-- The row of mark j. -/
theorem Mw.at_ {w : World} {B : Nat} {A : Option Addr} {n c : Nat} {P : List Pm} (h : Mw w B (.slice A n c) P) {j : Nat} {p : Pm} (hj : P[j]? = some p) :
    ∃ g, A = some ⟨g, 0, none⟩ ∧ B ≤ g ∧ g < w.heap.size ∧ (∀ W : World, W.heap[g]? = w.heap[g]? → W.cell? ⟨g, j * 4, none⟩ = some (.int .i64 p.m.o) ∧ W.cell? ⟨g, j * 4 + 1, none⟩ = some (.int .i64 p.m.e) ∧ W.cell? ⟨g, j * 4 + 2, none⟩ = some (.int .i64 p.m.up) ∧ W.cell? ⟨g, j * 4 + 3, none⟩ = some p.v ∧ ∀ i, W.frozen? ⟨g, i, none⟩ = false) := by
  have h0 := h.own
  have hlt := (List.getElem?_eq_some_iff.1 hj).1
  rcases h0.2 with ⟨h1, h2⟩ | ⟨g, cap, cur, h1, h2, h3, h4, h5, h6, h7⟩
  · have : P = [] := by simpa using h2
    subst this; simp at hlt
  · cases h1
    have hl := h0.lt g rfl
    refine ⟨g, rfl, h2, hl.2, fun W hW => ?_⟩
    have hx : ∀ i u, i < 4 → (pV p)[i]? = some u → W.cell? ⟨g, j * 4 + i, none⟩ = some u := fun i u hi hu => by
      have := h0.cells (g := g) rfl (j * 4 + i) u (by rw [psV_get hj hi]; exact hu)
      rw [add_mk, Nat.zero_add] at this
      exact (World.cell?_of_block (w := w) (a := ⟨g, j * 4 + i, none⟩) hW).trans this
    exact ⟨hx 0 _ (by omega) rfl, hx 1 _ (by omega) rfl, hx 2 _ (by omega) rfl, hx 3 _ (by omega) rfl, fun i => frozen_of_row W g i _ _ (hW.trans h3)⟩
/-- One mark appended, as one operation. -/
theorem appMw {w : World} {o : Oper} {a : Act} {K : Act → World → Prop} {Q : Exit → Act → World → Prop} (s x : Operand)
    (ho : o.op = .call { callee := .builtin .append, args := #[s, x], argTypes := #[66, 66] })
    (B : Nat) (v : Value) (P : List Pm) (p : Pm) (gx : Nat) (hs : a.eval s = v) (hown : Mw w B v P) (hp : Mi.Own w B p.v p.m.more) (hx : a.eval x = .slice (some ⟨gx, 0, none⟩) 1 1) (hz : ∀ j u, (pV p)[j]? = some u → w.cell? ⟨gx, j, none⟩ = some u) (hlen : P.length ≤ 10000000) (hB : B ≤ w.heap.size)
    (h : ∀ v' w', Mw w' B v' (P ++ [p]) → w.grownBy w' v.ownBlock → (∀ k, v.ownBlock = some k → B ≤ k) → K (a.put o.dst v') w') : o.wp Try.prog a w K Q := by
  obtain ⟨i0, hi, hz0, hz1, hz2⟩ := info_parts infoMk
  have hnews : ∀ j u, (pV p)[j]? = some u → w.cell? ((⟨gx, 0, none⟩ : Addr).add j) = some u := by
    intro j u hj
    rw [add_mk, Nat.zero_add]
    exact hz j u hj
  obtain ⟨v', w', hr, h2, h3, h4⟩ := run_append_own_at (P := Try.prog) w B 66 o.type 71 i0 (.agg #[.int .i64 0, .int .i64 0, .int .i64 0, .slice none 0 0]) 4 48 Try.underlying66 hi hz0 hz1 hz2 rfl (by decide) v P.length (psV P) hown.own ⟨gx, 0, none⟩ 1 1 (pV p) rfl hnews (by simp [pV, Pm.v, Value.oneCell']) (by unfold maxLen; omega) (by omega) hB
  unfold Oper.wp execOp
  simp only [ho, resolve, invoke, builtin, Sem.run_bind, Sem.run_pure, Result.andThen_ok, List.map_toArray, List.map_cons, List.map_nil, hs, hx, hr]
  have hk : ∀ q : Pm, Mi.Own w B q.v q.m.more → Mi.Own w' B q.v q.m.more := fun q hq => hq.kept h3 (ty_ne hq hown.own (by decide))
  refine h v' w' ⟨?_, fun q hq => ?_⟩ h3 fun k hk => (hown.own.lt k hk).1
  · rw [List.length_append, psV_snoc]; exact h2
  · rcases List.mem_append.1 hq with hq | hq
    · exact hk q (hown.each q hq)
    · obtain rfl : q = p := by simpa using hq
      exact hk q hp
theorem IClone_any (A : Option Addr) (cap B : Nat) (l : List Int) (w : World) (hr : Hid (Mi.Rd w B A l)) (hA : Hid (A = none → l.length = 0 ∧ cap = 0)) (hB : B ≤ w.heap.size) (hc : l.length ≤ 1000000) :
    Calls Try.prog 79 #[.slice A l.length cap] w fun e w' => ∃ v, e = .returned v ∧ Hid (Mi.Own w' w.heap.size v l) ∧ Hid (Below w.heap.size w w') := by
  have ke := fun (w : World) (a : Option Addr) (n c : Nat) => Lib.run_eql_slice_nil (P := Try.prog) w 54 3 a n c 0 0 Try.underlying54
  rcases A with _ | ad
  · obtain ⟨h1, rfl⟩ := hA.out rfl
    obtain rfl : l = [] := List.eq_nil_of_length_eq_zero h1
    go_enter Try.func79, Try.ntmps79
    go_wp2
    go_ret
    exact ⟨_, rfl, Mi.Own.nil _ _, Below.refl _ _⟩
  · go_enter Try.func79, Try.ntmps79
    go_wp2_with (at_builtin; refine Mi.app rfl (.tmp 5) (.tmp 6) rfl w.heap.size B _ [] l rfl (Mi.Own.lit (Below.refl _ _)) (Mi.below_alloc (Below.refl _ _)) (by simp) (some ad) l.length cap rfl rfl (hr.out.below ((Below.refl _ _).alloc hB _)) hA.out (by simp; omega) ?_; intro v2 w2 ho2 hb2 _; have HO2 := Lib.hid ho2; have HB2 := Lib.hid hb2; clear ho2 hb2)
    go_ret
    exact ⟨_, rfl, HO2, HB2⟩
end Go.Proofs.Ytpofdimagfldnaa.Se
