/- The reference's marks in memory: a slice of rows of three numbers and a list of one's own. -/
import Derived.Test.YtjgdkpgkonnhnaaSeRMem
namespace Go.Proofs.Ytjgdkpgkonnhnaa.Se
open Go.RowKit
open Go.Proofs.Ytjgdkpgkonnhnaa.Me Go.Proofs.Ytjgdkpgkonnhnaa.Sb
set_option linter.unusedVariables false
set_option linter.unusedSimpArgs false

/-- A mark that is told. -/
structure Mr where
  o : Int
  e : Int
  up : Int
  more : List Int
/-- One and where its list lies. -/
structure Pm where
  m : Mr
  A : Option Addr
  c : Nat
def Pm.v (p : Pm) : Value := .slice p.A p.m.more.length p.c
def pV (p : Pm) : List Value := [.int .i64 p.m.o, .int .i64 p.m.e, .int .i64 p.m.up, p.v]
def psV (P : List Pm) : List Value := P.flatMap pV
theorem pV_len (p : Pm) : (pV p).length = 4 := rfl
theorem psV_len (P : List Pm) : (psV P).length = P.length * 4 := by
  induction P with
  | nil => rfl
  | cons p r ih => unfold psV at ih ⊢; rw [List.flatMap_cons, List.length_append, ih, pV_len, List.length_cons]; omega
theorem psV_snoc (P : List Pm) (p : Pm) : psV (P ++ [p]) = psV P ++ pV p := by unfold psV; rw [List.flatMap_append]; simp
theorem psV_get {P : List Pm} {p : Pm} : ∀ {j : Nat}, P[j]? = some p → ∀ {i : Nat}, i < 4 → (psV P)[j * 4 + i]? = (pV p)[i]? := by
  induction P with
  | nil => intro j h; simp at h
  | cons x r ih =>
    intro j h i hi
    have e : psV (x :: r) = pV x ++ psV r := by unfold psV; rw [List.flatMap_cons]
    rw [e]
    cases j with
    | zero =>
      obtain rfl : x = p := by simpa using h
      rw [List.getElem?_append_left (by rw [pV_len]; omega)]; simp
    | succ j =>
      rw [List.getElem?_append_right (by rw [pV_len]; omega), pV_len]
      have h2 := ih (j := j) (by simpa using h) hi
      rw [show (j + 1) * 4 + i - 4 = j * 4 + i by omega, h2]
/-- Marks of the call's own; the last one's list lies alone. -/
structure Mo (w : World) (B : Nat) (v : Value) (P : List Pm) : Prop where
  own : w.ownsRow B 55 4 v P.length (psV P)
  each : ∀ p ∈ P, Mi.Own w B p.v p.m.more
  last : ∀ I x, P = I ++ [x] → ∀ p ∈ I, x.v.ownBlock = none ∨ p.v.ownBlock ≠ x.v.ownBlock
theorem Mo.lit {B : Nat} {w : World} (hb : B ≤ w.heap.size) : Mo (w.alloc (.cells #[] 55)) B (.slice (some ⟨w.heap.size, 0, none⟩) 0 0) [] :=
  ⟨World.ownsRow_made w #[] 0 hb (by unfold maxLen; omega) rfl, fun p h => by simp at h, fun I x h => by simp at h⟩
theorem Mo.below {w w' : World} {B : Nat} {v : Value} {P : List Pm} (h : Mo w B v P) (hb : Below w.heap.size w w') : Mo w' B v P :=
  ⟨own_same h.own fun k _ hk => hb.block k hk, fun p hp => (h.each p hp).below hb, h.last⟩
theorem ty_ne {w : World} {B B' T T' s s' n n' : Nat} {v v' : Value} {xs xs' : List Value} (h : w.ownsRow B T s v n xs) (h' : w.ownsRow B' T' s' v' n' xs') (hT : T ≠ T') : v.ownBlock = none ∨ v.ownBlock ≠ v'.ownBlock := by
  rcases h.2 with ⟨rfl, _⟩ | ⟨g, cap, cur, rfl, _, h3, _⟩
  · exact .inl rfl
  · right
    rcases h'.2 with ⟨rfl, _⟩ | ⟨g', cap', cur', rfl, _, h3', _⟩
    · simp [Value.ownBlock]
    · intro e
      obtain rfl : g = g' := by simpa [Value.ownBlock] using e
      rw [h3] at h3'
      simp at h3'
      exact hT h3'.2
theorem Mo.form {w : World} {B : Nat} {v : Value} {P : List Pm} (h : Mo w B v P) : ∃ A c, v = .slice A P.length c ∧ P.length ≤ c ∧ c ≤ 9223372036854775807 := by
  rcases h.own.2 with ⟨h1, h2⟩ | ⟨g, cap, cur, h1, h2, h3, h4, h5, h6, h7⟩
  · have : P = [] := by simpa using h2
    subst this
    exact ⟨none, 0, h1, Nat.le_refl _, Nat.zero_le _⟩
  · exact ⟨_, cap, h1, h4, by unfold maxLen at h5; omega⟩
/-- The row of mark j. -/
theorem Mo.at_ {w : World} {B : Nat} {A : Option Addr} {n c : Nat} {P : List Pm} (h : Mo w B (.slice A n c) P) {j : Nat} {p : Pm} (hj : P[j]? = some p) :
    ∃ g, A = some ⟨g, 0, none⟩ ∧ B ≤ g ∧ g < w.heap.size ∧ (∀ W : World, W.heap[g]? = w.heap[g]? → W.cell? ⟨g, j * 4, none⟩ = some (.int .i64 p.m.o) ∧ W.cell? ⟨g, j * 4 + 1, none⟩ = some (.int .i64 p.m.e) ∧ W.cell? ⟨g, j * 4 + 2, none⟩ = some (.int .i64 p.m.up) ∧ W.cell? ⟨g, j * 4 + 3, none⟩ = some p.v ∧ ∀ i, W.frozen? ⟨g, i, none⟩ = false) := by
  have h0 := h.own
  have hlt := (List.getElem?_eq_some_iff.1 hj).1
  rcases h0.2 with ⟨h1, h2⟩ | ⟨g, cap, cur, h1, h2, h3, h4, h5, h6, h7⟩
  · have : P = [] := by simpa using h2
    subst this; simp at hlt
  · cases h1
    have hl := h0.lt g rfl
    refine ⟨g, rfl, h2, hl.2, fun W hW => ?_⟩
    have hx : ∀ i u, i < 4 → (pV p)[i]? = some u → W.cell? ⟨g, j * 4 + i, none⟩ = some u := fun i u hi hu => by
      have := h0.cells (g := g) rfl (j * 4 + i) u (by rw [psV_get hj hi]; exact hu)
      rw [add_mk, Nat.zero_add] at this
      exact (World.cell?_of_block (w := w) (a := ⟨g, j * 4 + i, none⟩) hW).trans this
    exact ⟨hx 0 _ (by omega) rfl, hx 1 _ (by omega) rfl, hx 2 _ (by omega) rfl, hx 3 _ (by omega) rfl, fun i => frozen_of_row W g i _ _ (hW.trans h3)⟩
/-- A cell of one's own row turned. -/
theorem row_set {w : World} {B T s n : Nat} {g c : Nat} {xs : List Value} (h : w.ownsRow B T s (.slice (some ⟨g, 0, none⟩) n c) n xs) {i : Nat} (hi : i < xs.length) (u : Value) : (w.setCell ⟨g, i, none⟩ u).ownsRow B T s (.slice (some ⟨g, 0, none⟩) n c) n (xs.set i u) := by
  refine ⟨by rw [List.length_set]; exact h.1, ?_⟩
  rcases h.2 with ⟨h1, h2⟩ | ⟨g', cap, cur, h1, h2, h3, h4, h5, h6, h7⟩
  · cases h1
  · cases h1
    refine .inr ⟨g, c, cur.set! i u, rfl, h2, ?_, h4, h5, by simp [h6], ?_⟩
    · rw [heap_setCell_same w g i _ _ _ h3]
      simp
    · have hl := h.1
      rw [← h7]
      simp only [Array.set!_eq_setIfInBounds, Array.toList_setIfInBounds]
      rw [List.take_set]
theorem set_last (P : List Pm) (p : Pm) (i : Nat) (u : Value) (hi : i < 4) : (psV (P ++ [p])).set (P.length * 4 + i) u = psV P ++ (pV p).set i u := by
  rw [psV_snoc, List.set_append_right _ _ (by rw [psV_len]; omega), psV_len]
  congr 2
  omega
/-- The last one's count turned. -/
theorem Mo.up {w : World} {B g c n : Nat} {I : List Pm} {x : Pm} (h : Mo w B (.slice (some ⟨g, 0, none⟩) n c) (I ++ [x])) (u : Int) : Mo (w.setCell ⟨g, I.length * 4 + 2, none⟩ (.int .i64 u)) B (.slice (some ⟨g, 0, none⟩) n c) (I ++ [⟨⟨x.m.o, x.m.e, u, x.m.more⟩, x.A, x.c⟩]) := by
  have hn : n = (I ++ [x]).length := by
    have := h.own.2
    rcases this with ⟨h1, h2⟩ | ⟨g', cap, cur, h1, _⟩
    · simp at h2
    · cases h1; rfl
  subst hn
  have hw := row_set h.own (i := I.length * 4 + 2) (by rw [psV_len, List.length_append]; simp; omega) (.int .i64 u)
  rw [set_last I x 2 _ (by omega)] at hw
  have hk : ∀ p : Pm, Mi.Own w B p.v p.m.more → Mi.Own (w.setCell ⟨g, I.length * 4 + 2, none⟩ (.int .i64 u)) B p.v p.m.more := fun p hp => hp.same fun k e hk => by
    refine Below.heap_setCell _ _ _ _ ?_
    intro e2
    have e3 : k = g := e2
    rcases ty_ne hp h.own (by decide) with h1 | h1
    · rw [e] at h1; cases h1
    · exact h1 (by rw [e, e3]; rfl)
  refine ⟨?_, fun p hp => ?_, fun I' x' e p hp => ?_⟩
  · have e : psV (I ++ [(⟨⟨x.m.o, x.m.e, u, x.m.more⟩, x.A, x.c⟩ : Pm)]) = psV I ++ (pV x).set 2 (.int .i64 u) := by rw [psV_snoc]; rfl
    rw [e]
    have e2 : (I ++ [(⟨⟨x.m.o, x.m.e, u, x.m.more⟩, x.A, x.c⟩ : Pm)]).length = (I ++ [x]).length := by simp
    rw [e2]
    exact hw
  · rcases List.mem_append.1 hp with hp | hp
    · exact hk p (h.each p (by simp [hp]))
    · obtain rfl : p = ⟨⟨x.m.o, x.m.e, u, x.m.more⟩, x.A, x.c⟩ := by simpa using hp
      exact hk x (h.each x (by simp))
  · obtain ⟨rfl, hx⟩ := List.append_inj' e (by simp)
    obtain rfl : (⟨⟨x.m.o, x.m.e, u, x.m.more⟩, x.A, x.c⟩ : Pm) = x' := by simpa using hx
    exact h.last I x rfl p hp
/-- The last one's list turned into one that lies alone. -/
theorem Mo.more {w w1 : World} {B g c n A' c' : Nat} {I : List Pm} {x : Pm} {z : Int} (h : Mo w B (.slice (some ⟨g, 0, none⟩) n c) (I ++ [x])) (ho : Mi.Own w1 B (.slice (some ⟨A', 0, none⟩) (x.m.more.length + 1) c') (x.m.more ++ [z])) (hg : w.grownBy w1 x.v.ownBlock) (hb : ∀ k, (Value.slice (some ⟨A', 0, none⟩) (x.m.more.length + 1) c').ownBlock = some k → x.v.ownBlock = some k ∨ w.heap.size ≤ k) :
    Mo (w1.setCell ⟨g, I.length * 4 + 3, none⟩ (.slice (some ⟨A', 0, none⟩) (x.m.more.length + 1) c')) B (.slice (some ⟨g, 0, none⟩) n c) (I ++ [⟨⟨x.m.o, x.m.e, x.m.up, x.m.more ++ [z]⟩, some ⟨A', 0, none⟩, c'⟩]) := by
  have hn : n = (I ++ [x]).length := by
    have := h.own.2
    rcases this with ⟨h1, h2⟩ | ⟨g', cap, cur, h1, _⟩
    · simp at h2
    · cases h1; rfl
  subst hn
  have hown1 : w1.ownsRow B 55 4 (.slice (some ⟨g, 0, none⟩) (I ++ [x]).length c) (I ++ [x]).length (psV (I ++ [x])) := h.own.kept hg (ty_ne h.own (h.each x (by simp)) (by decide))
  have hw := row_set hown1 (i := I.length * 4 + 3) (by rw [psV_len, List.length_append]; simp; omega) (.slice (some ⟨A', 0, none⟩) (x.m.more.length + 1) c')
  rw [set_last I x 3 _ (by omega)] at hw
  have hlen : (x.m.more ++ [z]).length = x.m.more.length + 1 := by simp
  have hk : ∀ (v : Value) (l : List Int), Mi.Own w1 B v l → Mi.Own (w1.setCell ⟨g, I.length * 4 + 3, none⟩ (.slice (some ⟨A', 0, none⟩) (x.m.more.length + 1) c')) B v l := fun v l hp => hp.same fun k e hk => by
    refine Below.heap_setCell _ _ _ _ ?_
    intro e2
    have e3 : k = g := e2
    rcases ty_ne hp hown1 (by decide) with h1 | h1
    · rw [e] at h1; cases h1
    · exact h1 (by rw [e, e3]; rfl)
  refine ⟨?_, fun p hp => ?_, fun I' x' e p hp => ?_⟩
  · have e : psV (I ++ [(⟨⟨x.m.o, x.m.e, x.m.up, x.m.more ++ [z]⟩, some ⟨A', 0, none⟩, c'⟩ : Pm)]) = psV I ++ (pV x).set 3 (.slice (some ⟨A', 0, none⟩) (x.m.more.length + 1) c') := by
      rw [psV_snoc]
      simp [pV, Pm.v]
    rw [e]
    have e2 : (I ++ [(⟨⟨x.m.o, x.m.e, x.m.up, x.m.more ++ [z]⟩, some ⟨A', 0, none⟩, c'⟩ : Pm)]).length = (I ++ [x]).length := by simp
    rw [e2]
    exact hw
  · rcases List.mem_append.1 hp with hp | hp
    · refine hk _ _ ((h.each p (by simp [hp])).kept hg ?_)
      rcases h.last I x rfl p hp with h1 | h1
      · rw [h1]
        cases hv : p.v.ownBlock with
        | none => exact .inl rfl
        | some k => exact .inr (by simp)
      · exact .inr h1
    · obtain rfl : p = ⟨⟨x.m.o, x.m.e, x.m.up, x.m.more ++ [z]⟩, some ⟨A', 0, none⟩, c'⟩ := by simpa using hp
      show Mi.Own _ B (.slice (some ⟨A', 0, none⟩) (x.m.more ++ [z]).length c') (x.m.more ++ [z])
      rw [hlen]
      exact hk _ _ ho
  · obtain ⟨rfl, hx⟩ := List.append_inj' e (by simp)
    obtain rfl : (⟨⟨x.m.o, x.m.e, x.m.up, x.m.more ++ [z]⟩, some ⟨A', 0, none⟩, c'⟩ : Pm) = x' := by simpa using hx
    right
    intro e1
    have e2 : p.v.ownBlock = some A' := e1
    rcases hb A' rfl with h1 | h1
    · rcases h.last I x rfl p hp with h2 | h2
      · rw [h2] at h1; cases h1
      · exact h2 (e2.trans h1.symm)
    · have := ((h.each p (by simp [hp])).lt A' e2).2
      omega
theorem infoMk : (Try.prog.info? 55).map (fun i => (i.zero, i.size, i.bytes)) = some (some (.agg #[.int .i64 0, .int .i64 0, .int .i64 0, .slice none 0 0]), 4, 48) := by kernel_rfl
theorem mk_new (w : World) (o e : Int) (T : TypeId) (fr : Nat × Nat) : ∀ j u, ([.int .i64 o, .int .i64 e, .int .i64 0, .slice none 0 0] : List Value)[j]? = some u → (w.alloc (.cells #[.int .i64 o, .int .i64 e, .int .i64 0, .slice none 0 0] T fr)).cell? ((⟨w.heap.size, 0, none⟩ : Addr).add j) = some u := by
  intro j u hu
  rw [add_mk, Nat.zero_add, cell_of_row _ w.heap.size j _ T fr (heap_alloc_new w _)]
  simpa using hu
/-- A new mark appended. -/
theorem appMk {w0 w wl : World} {ops : Array Oper} {rest : List Oper} {o : Oper} {a : Act} {Q : Exit → Act → World → Prop} (hgd : o.guard = none) (s x : Operand)
    (ho : o.op = .call { callee := .builtin .append, args := #[s, x], argTypes := #[35, 35] })
    (B : Nat) (v : Value) (P : List Pm) (oo ee : Int) (hs : a.eval s = v) (hw : w = wl.alloc (.cells #[.int .i64 oo, .int .i64 ee, .int .i64 0, .slice none 0 0] 55)) (hown : Mo wl B v P) (hb : Below B w0 wl) (hB : B ≤ wl.heap.size)
    (g : Nat) (hg : g = wl.heap.size) (hx : a.eval x = .slice (some ⟨g, 0, none⟩) 1 1) (hlen : P.length ≤ 1000)
    (h : ∀ v' w', Mo w' B v' (P ++ [⟨⟨oo, ee, 0, []⟩, none, 0⟩]) → Below B w0 w' → wl.grownBy w' v.ownBlock → wpList Try.prog ops Q rest (a.put o.dst v') w') : wpList Try.prog ops Q (o :: rest) a w := by
  subst hw hg
  obtain ⟨i0, hi, hz0, hz1, hz2⟩ := info_parts infoMk
  have hba : Below wl.heap.size wl (wl.alloc (.cells #[.int .i64 oo, .int .i64 ee, .int .i64 0, .slice none 0 0] 55)) := Me.below_alloc (Below.refl _ _)
  have hown' := hown.below hba
  refine wpList_append_own_at (wl.alloc (.cells #[.int .i64 oo, .int .i64 ee, .int .i64 0, .slice none 0 0] 55)) hgd s x 35 ho B 55 i0 (.agg #[.int .i64 0, .int .i64 0, .int .i64 0, .slice none 0 0]) 4 48 Try.underlying35 hi hz0 hz1 hz2 rfl (by decide) v P.length (psV P) hs hown'.own ⟨wl.heap.size, 0, none⟩ 1 1 [.int .i64 oo, .int .i64 ee, .int .i64 0, .slice none 0 0] hx rfl (mk_new wl oo ee _ _) (by simp [Value.oneCell']) (by unfold maxLen; omega) (by omega) (by simp; omega) ?_
  intro v' w' h1 h2 _ h4
  have hb1 : Below B w0 (wl.alloc (.cells #[.int .i64 oo, .int .i64 ee, .int .i64 0, .slice none 0 0] 55)) := hb.alloc hB _
  refine h v' w' ⟨?_, fun p hp => ?_, fun I x e p hp => ?_⟩ (hb1.grown h2 (by simp; omega) fun k hk => (hown.own.lt k hk).1) ⟨h2.os, h2.tape, h2.output, Nat.le_trans (by simp) h2.size, fun k hk hne => (h2.block k (by simp; omega) hne).trans (Below.heap_alloc wl _ k hk)⟩
  · rw [List.length_append, psV_snoc]; exact h1
  · rcases List.mem_append.1 hp with hp | hp
    · exact (hown'.each p hp).kept h2 (ty_ne (hown'.each p hp) hown'.own (by decide))
    · obtain rfl : p = ⟨⟨oo, ee, 0, []⟩, none, 0⟩ := by simpa using hp
      exact Mi.Own.nil _ _
  · obtain ⟨_, hx⟩ := List.append_inj' e (by simp)
    obtain rfl : (⟨⟨oo, ee, 0, []⟩, none, 0⟩ : Pm) = x := by simpa using hx
    exact .inl rfl
/-- A number appended to a list of one's own, as one operation. -/
theorem appMoreW {w : World} {o : Oper} {a : Act} {K : Act → World → Prop} {Q : Exit → Act → World → Prop} (s x : Operand)
    (ho : o.op = .call { callee := .builtin .append, args := #[s, x], argTypes := #[53, 53] })
    (B : Nat) (v : Value) (l : List Int) (z : Int) (gx : Nat) (hs : a.eval s = v) (hown : Mi.Own w B v l) (hx : a.eval x = .slice (some ⟨gx, 0, none⟩) 1 1) (hz : w.cell? ⟨gx, 0, none⟩ = some (.int .i64 z)) (hlen : l.length ≤ 1000000) (hB : B ≤ w.heap.size)
    (h : ∀ A' c' w', Mi.Own w' B (.slice (some ⟨A', 0, none⟩) (l.length + 1) c') (l ++ [z]) → w.grownBy w' v.ownBlock → (v.ownBlock = some A' ∨ w.heap.size ≤ A') → K (a.put o.dst (.slice (some ⟨A', 0, none⟩) (l.length + 1) c')) w') : o.wp Try.prog a w K Q := by
  obtain ⟨i0, hi, hz0, hz1, hz2⟩ := info_parts Mi.infoI
  have hnews : ∀ j u, ([Value.int .i64 z] : List Value)[j]? = some u → w.cell? ((⟨gx, 0, none⟩ : Addr).add j) = some u := by
    intro j u hj
    cases j with
    | zero => rw [add_mk, hz]; simpa using hj
    | succ j => simp at hj
  obtain ⟨v', w', hr, h2, h3, h4⟩ := Mi.run_append_own2 (P := Try.prog) (w := w) 53 o.type 3 i0 (.int .i64 0) 8 Try.underlying53 hi hz0 hz1 hz2 rfl v l.length (l.map Mi.iV) (own_base hown fun _ _ => Nat.zero_le _) ⟨gx, 0, none⟩ 1 1 [.int .i64 z] rfl hnews (by simp [Value.oneCell']) (by unfold maxLen; omega) (by omega)
  have ho2 : Mi.Own w' B v' (l ++ [z]) := by
    have h5 : Mi.Own w' 0 v' (l ++ [z]) := by unfold Mi.Own; rw [List.length_append, List.map_append]; exact h2
    refine own_base h5 fun k hk => ?_
    rcases h4 k hk with h6 | h6
    · exact (hown.lt k h6).1
    · omega
  rcases ho2.2 with ⟨_, h5⟩ | ⟨A', c', cur, rfl, _⟩
  · simp at h5
  · have e : (l ++ [z]).length = l.length + 1 := by simp
    rw [e] at ho2 hr h4
    unfold Oper.wp execOp
    simp only [ho, resolve, invoke, builtin, Sem.run_bind, Sem.run_pure, Result.andThen_ok, List.map_toArray, List.map_cons, List.map_nil, hs, hx, hr]
    exact h A' c' w' ho2 h3 (h4 A' rfl)
end Go.Proofs.Ytjgdkpgkonnhnaa.Se
