/- Offers of the call's own in memory: a slice of rows, and bytes of one's own. -/
import Derived.Test.YtohfoieibgmmdaaHpOffer
import Derived.Maps.AppendAt
namespace Go.Proofs.Ytohfoieibgmmdaa.Hp
open Go.RowKit Go.Maps
open Go.Proofs.Ytohfoieibgmmdaa.Me Go.Proofs.Ytohfoieibgmmdaa.Sb
set_option linter.unusedVariables false
set_option linter.unusedSimpArgs false

theorem add_mk (g off n : Nat) : (⟨g, off, none⟩ : Addr).add n = ⟨g, off + n, none⟩ := by unfold Addr.add; split <;> simp_all
theorem ty_ne {w : World} {B B' T T' s s' n n' : Nat} {v v' : Value} {xs xs' : List Value} (h : w.ownsRow B T s v n xs) (h' : w.ownsRow B' T' s' v' n' xs') (hT : T ≠ T') : v.ownBlock = none ∨ v.ownBlock ≠ v'.ownBlock := by
  rcases h.2 with ⟨rfl, _⟩ | ⟨g, cap, cur, rfl, _, h3, _⟩
  · exact .inl rfl
  · right
    rcases h'.2 with ⟨rfl, _⟩ | ⟨g', cap', cur', rfl, _, h3', _⟩
    · simp [Value.ownBlock]
    · intro e
      obtain rfl : g = g' := by simpa [Value.ownBlock] using e
      rw [h3] at h3'
      simp at h3'
      exact hT h3'.2
/-- A message and where its data lies. -/
structure Fo where
  t : Int
  n : Nat
  i : Mg.Id4
  p : List Nat
  A : Option Addr
  c : Nat
def Fo.v (q : Fo) : Value := .slice q.A q.p.length q.c
def qV (q : Fo) : List Value := [.int .i64 q.t, .int .i64 (q.n : Int), .int .i64 q.i.o, .int .i64 q.i.d, .int .i64 q.i.e, .int .i64 q.i.c, q.v]
def qsV (P : List Fo) : List Value := P.flatMap qV
theorem qV_len (p : Fo) : (qV p).length = 7 := rfl
theorem qsV_len (P : List Fo) : (qsV P).length = P.length * 7 := by
  induction P with
  | nil => rfl
  | cons p r ih => unfold qsV at ih ⊢; rw [List.flatMap_cons, List.length_append, ih, qV_len, List.length_cons]; omega
theorem qsV_snoc (P : List Fo) (p : Fo) : qsV (P ++ [p]) = qsV P ++ qV p := by unfold qsV; rw [List.flatMap_append]; simp
theorem qsV_get {P : List Fo} {p : Fo} : ∀ {j : Nat}, P[j]? = some p → ∀ {i : Nat}, i < 7 → (qsV P)[j * 7 + i]? = (qV p)[i]? := by
  induction P with
  | nil => intro j h; simp at h
  | cons x r ih =>
    intro j h i hi
    have e : qsV (x :: r) = qV x ++ qsV r := by unfold qsV; rw [List.flatMap_cons]
    rw [e]
    cases j with
    | zero =>
      obtain rfl : x = p := by simpa using h
      rw [List.getElem?_append_left (by rw [qV_len]; omega)]; simp
    | succ j =>
      rw [List.getElem?_append_right (by rw [qV_len]; omega), qV_len]
      have h2 := ih (j := j) (by simpa using h) hi
      rw [show (j + 1) * 7 + i - 7 = j * 7 + i by omega, h2]
/-- Messages of the call's own, with bytes of the call's own. -/
structure Ow (w : World) (B : Nat) (v : Value) (P : List Fo) : Prop where
  own : w.ownsRow B 68 7 v P.length (qsV P)
  each : ∀ p ∈ P, Me.Own w B p.v p.p
theorem Ow.nil (w : World) (B : Nat) : Ow w B (.slice none 0 0) [] := ⟨⟨rfl, .inl ⟨rfl, rfl⟩⟩, fun p hp => by simp at hp⟩
theorem Ow.lit {B : Nat} {w : World} (hb : B ≤ w.heap.size) : Ow (w.alloc (.cells #[] 68)) B (.slice (some ⟨w.heap.size, 0, none⟩) 0 0) [] :=
  ⟨World.ownsRow_made w #[] 0 hb (by unfold maxLen; omega) rfl, fun p h => by simp at h⟩
theorem Ow.below {w w' : World} {B : Nat} {v : Value} {P : List Fo} (h : Ow w B v P) (hb : Below w.heap.size w w') : Ow w' B v P :=
  ⟨own_same h.own fun k _ hk => hb.block k hk, fun p hp => own_same (h.each p hp) fun k _ hk => hb.block k hk⟩
theorem Ow.base {w : World} {B B' : Nat} {v : Value} {P : List Fo} (h : Ow w B v P) (hB : B' ≤ B) : Ow w B' v P :=
  ⟨own_base h.own fun k hk => Nat.le_trans hB (h.own.lt k hk).1, fun p hp => own_base (h.each p hp) fun k hk => Nat.le_trans hB (World.ownsRow.lt (h.each p hp) k hk).1⟩
theorem Ow.form {w : World} {B : Nat} {v : Value} {P : List Fo} (h : Ow w B v P) : ∃ A c, v = .slice A P.length c ∧ P.length ≤ c ∧ c ≤ 9223372036854775807 := by
  rcases h.own.2 with ⟨h1, h2⟩ | ⟨g, cap, cur, h1, h2, h3, h4, h5, h6, h7⟩
  · have : P = [] := by simpa using h2
    subst this
    exact ⟨none, 0, h1, Nat.le_refl _, Nat.zero_le _⟩
  · exact ⟨_, cap, h1, h4, by unfold maxLen at h5; omega⟩
theorem Ow.butP {S : Nat → Prop} {w w' : World} {B : Nat} {v : Value} {P : List Fo} (h : Ow w B v P) (hb : But S w w') (hS : ∀ k, S k → k < B) : Ow w' B v P :=
  ⟨own_same h.own fun k e hk => hb.same k hk fun hs => by have := (h.own.lt k e).1; have := hS k hs; omega, fun p hp => own_same (h.each p hp) fun k e hk => hb.same k hk fun hs => by have := (World.ownsRow.lt (h.each p hp) k e).1; have := hS k hs; omega⟩
/-- The row of message j. -/
theorem Ow.at_ {w : World} {B : Nat} {A : Option Addr} {n c : Nat} {P : List Fo} (h : Ow w B (.slice A n c) P) {j : Nat} {p : Fo} (hj : P[j]? = some p) :
    ∃ g, A = some ⟨g, 0, none⟩ ∧ B ≤ g ∧ g < w.heap.size ∧ (∀ W : World, W.heap[g]? = w.heap[g]? → W.cell? ⟨g, j * 7, none⟩ = some (.int .i64 p.t) ∧ W.cell? ⟨g, j * 7 + 1, none⟩ = some (.int .i64 (p.n : Int)) ∧ W.cell? ⟨g, j * 7 + 2, none⟩ = some (.int .i64 p.i.o) ∧ W.cell? ⟨g, j * 7 + 3, none⟩ = some (.int .i64 p.i.d) ∧ W.cell? ⟨g, j * 7 + 4, none⟩ = some (.int .i64 p.i.e) ∧ W.cell? ⟨g, j * 7 + 5, none⟩ = some (.int .i64 p.i.c) ∧ W.cell? ⟨g, j * 7 + 6, none⟩ = some p.v ∧ ∀ i, W.frozen? ⟨g, i, none⟩ = false) := by
  have h0 := h.own
  have hlt := (List.getElem?_eq_some_iff.1 hj).1
  rcases h0.2 with ⟨h1, h2⟩ | ⟨g, cap, cur, h1, h2, h3, h4, h5, h6, h7⟩
  · have : P = [] := by simpa using h2
    subst this; simp at hlt
  · cases h1
    have hl := h0.lt g rfl
    refine ⟨g, rfl, h2, hl.2, fun W hW => ?_⟩
    have hx : ∀ i u, i < 7 → (qV p)[i]? = some u → W.cell? ⟨g, j * 7 + i, none⟩ = some u := fun i u hi hu => by
      have := h0.cells (g := g) rfl (j * 7 + i) u (by rw [qsV_get hj hi]; exact hu)
      rw [add_mk, Nat.zero_add] at this
      exact (World.cell?_of_block (w := w) (a := ⟨g, j * 7 + i, none⟩) hW).trans this
    exact ⟨hx 0 _ (by omega) rfl, hx 1 _ (by omega) rfl, hx 2 _ (by omega) rfl, hx 3 _ (by omega) rfl, hx 4 _ (by omega) rfl, hx 5 _ (by omega) rfl, hx 6 _ (by omega) rfl, fun i => frozen_of_row W g i _ _ (hW.trans h3)⟩
theorem infoOf : (Try.prog.info? 68).map (fun i => (i.zero, i.size, i.bytes)) = some (some (.agg #[.int .i64 0, .int .i64 0, .int .i64 0, .int .i64 0, .int .i64 0, .int .i64 0, .slice none 0 0]), 7, 72) := by kernel_rfl
theorem two_ty {w : World} {B B' T T' s s' n n' : Nat} {v v' : Value} {xs xs' : List Value} (h : w.ownsRow B T s v n xs) (h' : w.ownsRow B' T' s' v' n' xs') (hT : T ≠ T') : ∀ k, v.ownBlock = some k → v'.ownBlock ≠ some k := by
  intro k e e'
  rcases ty_ne h h' hT with h0 | h0
  · rw [h0] at e; cases e
  · rw [e, e'] at h0; exact h0 rfl
/-- One message appended, as one operation. -/
theorem appOf {w : World} {o : Oper} {a : Act} {K : Act → World → Prop} {Q : Exit → Act → World → Prop} (s x : Operand)
    (ho : o.op = .call { callee := .builtin .append, args := #[s, x], argTypes := #[65, 65] })
    (B : Nat) (v : Value) (P : List Fo) (p : Fo) (gx : Nat) (hs : a.eval s = v) (hown : Ow w B v P) (hp : Me.Own w B p.v p.p) (hx : a.eval x = .slice (some ⟨gx, 0, none⟩) 1 1) (hz : ∀ j u, (qV p)[j]? = some u → w.cell? ⟨gx, j, none⟩ = some u) (hlen : P.length ≤ 1000000000000) (hB : B ≤ w.heap.size)
    (h : ∀ v' w', Ow w' B v' (P ++ [p]) → w.grownBy w' v.ownBlock → (∀ k, v.ownBlock = some k → B ≤ k) → K (a.put o.dst v') w') : o.wp Try.prog a w K Q := by
  obtain ⟨i0, hi, hz0, hz1, hz2⟩ := info_parts infoOf
  have hnews : ∀ j u, (qV p)[j]? = some u → w.cell? ((⟨gx, 0, none⟩ : Addr).add j) = some u := by
    intro j u hj
    rw [add_mk, Nat.zero_add]
    exact hz j u hj
  obtain ⟨v', w', hr, h2, h3, h4⟩ := run_append_own_at (P := Try.prog) w B 65 o.type 68 i0 (.agg #[.int .i64 0, .int .i64 0, .int .i64 0, .int .i64 0, .int .i64 0, .int .i64 0, .slice none 0 0]) 7 72 Try.underlying65 hi hz0 hz1 hz2 rfl (by decide) v P.length (qsV P) hown.own ⟨gx, 0, none⟩ 1 1 (qV p) rfl hnews (by simp [qV, Fo.v, Value.oneCell']) (by unfold maxLen; omega) (by omega) hB
  unfold Oper.wp execOp
  simp only [ho, resolve, invoke, builtin, Sem.run_bind, Sem.run_pure, Result.andThen_ok, List.map_toArray, List.map_cons, List.map_nil, hs, hx, hr]
  have hk : ∀ q : Fo, Me.Own w B q.v q.p → Me.Own w' B q.v q.p := fun q hq => own_same hq fun k e hk => h3.block k hk fun e' => two_ty hq hown.own (by decide) k e e'.symm
  refine h v' w' ⟨?_, fun q hq => ?_⟩ h3 fun k hk => (hown.own.lt k hk).1
  · rw [List.length_append, qsV_snoc]; exact h2
  · rcases List.mem_append.1 hq with hq | hq
    · exact hk q (hown.each q hq)
    · obtain rfl : q = p := by simpa using hq
      exact hk q hp

end Go.Proofs.Ytohfoieibgmmdaa.Hp
