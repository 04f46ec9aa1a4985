/- The reference's table in memory: its lists of routes and of what was heard. -/
import Derived.Test.YtablejhajilpiaaRtNew
import Derived.Maps.AppendAt
namespace Go.Proofs.Ytablejhajilpiaa.Rt
open Go.RowKit Go.Maps
open Go.Proofs.Ytablejhajilpiaa.Sb
set_option linter.unusedVariables false
set_option linter.unusedSimpArgs false

/-! ### Lists of elements of k cells -/
section
variable {α : Type} (enc : α → List Value) (k : Nat)
theorem flat_len (hk : ∀ a, (enc a).length = k) (l : List α) : (l.flatMap enc).length = l.length * k := by
  induction l with
  | nil => simp
  | cons a r ih => rw [List.flatMap_cons, List.length_append, ih, hk, List.length_cons, Nat.add_mul]; omega
theorem flat_get (hk : ∀ a, (enc a).length = k) : ∀ (l : List α) (j : Nat) (a : α), l[j]? = some a → ∀ i, i < k → (l.flatMap enc)[j * k + i]? = (enc a)[i]?
  | [], j, a, h, i, _ => by simp at h
  | x :: r, 0, a, h, i, hi => by
    simp only [List.getElem?_cons_zero, Option.some.injEq] at h
    subst h
    rw [List.flatMap_cons, Nat.zero_mul, Nat.zero_add, List.getElem?_append_left (by rw [hk]; exact hi)]
  | x :: r, j + 1, a, h, i, hi => by
    rw [List.getElem?_cons_succ] at h
    rw [List.flatMap_cons, List.getElem?_append_right (by rw [hk, Nat.add_mul]; omega), hk, show (j + 1) * k + i - k = j * k + i by rw [Nat.add_mul]; omega]
    exact flat_get hk r j a h i hi
/-- A slice of such elements of the call's own. -/
def Og (T : TypeId) (w : World) (B : Nat) (v : Value) (l : List α) : Prop := w.ownsRow B T k v l.length (l.flatMap enc)
/-- A slice's address leads to such elements, in blocks that bear M. -/
def Rg (M : Nat → Prop) (w : World) (A : Option Addr) (l : List α) : Prop :=
  ∀ j a, l[j]? = some a → ∃ b off, A = some ⟨b, off, none⟩ ∧ M b ∧ b < w.heap.size ∧ ∀ i u, (enc a)[i]? = some u → w.cell? ⟨b, off + j * k + i, none⟩ = some u
end
section
variable {α : Type} {enc : α → List Value} {k : Nat} {T : TypeId} {w w' : World} {B : Nat} {v : Value} {l : List α} {M M' : Nat → Prop} {A : Option Addr}
theorem Og.nil (w : World) (B : Nat) : Og enc k T w B (.slice none 0 0) [] := ⟨by simp, .inl ⟨rfl, rfl⟩⟩
theorem Og.made (w : World) : Og enc k T (w.alloc (.cells #[] T)) w.heap.size (.slice (some ⟨w.heap.size, 0, none⟩) 0 0) [] := World.ownsRow_made w #[] 0 (Nat.le_refl _) (by unfold maxLen; omega) (by simp)
theorem Og.form (hk : ∀ a, (enc a).length = k) (h : Og enc k T w B v l) (hM : ∀ b, B ≤ b → M b) : ∃ A c, v = .slice A l.length c ∧ l.length ≤ c ∧ Rg enc k M w A l := by
  rcases h.2 with ⟨h1, h2⟩ | ⟨g, cap, cur, h1, h2, h3, h4, h5, h6, h7⟩
  · have h0 : l.length = 0 := h2
    have : l = [] := List.eq_nil_of_length_eq_zero h0
    subst this
    exact ⟨none, 0, h1, Nat.le_refl _, fun j a hj => by simp at hj⟩
  · subst h1
    have hl := World.ownsRow.lt h g rfl
    refine ⟨_, cap, rfl, h4, fun j a hj => ⟨g, 0, rfl, hM g hl.1, hl.2, fun i u hu => ?_⟩⟩
    have hi : i < k := by
      have := (List.getElem?_eq_some_iff.1 hu).1
      rwa [hk] at this
    have := World.ownsRow.cells h (g := g) rfl (j * k + i) u (by rw [flat_get enc k hk l j a hj i hi]; exact hu)
    have e : (⟨g, 0, none⟩ : Addr).add (j * k + i) = ⟨g, 0 + (j * k + i), none⟩ := Addr.add_mid _ _ _
    rw [e] at this
    rw [Nat.add_assoc]
    exact this
theorem Rg.but {S : Nat → Prop} (h : Rg enc k M w A l) (hb : But S w w') (hS : ∀ b, M b → ¬ S b) : Rg enc k M w' A l := fun j a hj => by
  obtain ⟨b, off, e, h1, h2, h3⟩ := h j a hj
  exact ⟨b, off, e, h1, Nat.lt_of_lt_of_le h2 hb.size, fun i u hu => (World.cell?_of_block (w := w) (a := ⟨b, off + j * k + i, none⟩) (hb.same b h2 (hS b h1))).trans (h3 i u hu)⟩
theorem Rg.below (h : Rg enc k M w A l) (hb : Below w.heap.size w w') : Rg enc k M w' A l := h.but (S := fun _ => False) (But.of_below hb) fun _ _ => id
theorem Rg.mono (h : Rg enc k M w A l) (hM : ∀ b, b < w.heap.size → M b → M' b) : Rg enc k M' w A l := fun j a hj => by
  obtain ⟨b, off, e, h1, h2, h3⟩ := h j a hj
  exact ⟨b, off, e, hM b h2 h1, h2, h3⟩
theorem Rg.nil (w : World) (A : Option Addr) : Rg enc k M w A [] := fun j a hj => by simp at hj
theorem Og.below (h : Og enc k T w B v l) (hb : Below w.heap.size w w') : Og enc k T w' B v l := own_same h fun k _ hk => hb.block k hk
theorem Og.zero (h : Og enc k T w B v l) : Og enc k T w 0 v l := own_base h fun _ _ => Nat.zero_le _
theorem Og.base {B' : Nat} (h : Og enc k T w B v l) (hB : ∀ k, v.ownBlock = some k → B' ≤ k) : Og enc k T w B' v l := own_base h hB
theorem Og.lt (h : Og enc k T w B v l) : ∀ k, v.ownBlock = some k → B ≤ k ∧ k < w.heap.size := fun k hk => World.ownsRow.lt h k hk
/-- One element appended to a slice of the call's own: where the new slice lies. -/
theorem appG1 (tS : TypeId) (bytes : Nat) (z : Value) (ht : Try.prog.underlying tS = some (.slice T)) (hinf : (Try.prog.info? T).map (fun i => (i.zero, i.size, i.bytes)) = some (some z, k, bytes)) (hz : z.cells.size = k) (hk0 : 0 < k) (hb8 : bytes ≤ 64) (hk : ∀ a, (enc a).length = k) (h1c : ∀ a, ∀ u ∈ enc a, u.oneCell' = true)
    {wl : World} {ops : Array Oper} {rest : List Oper} {o : Oper} {a : Act} {Q : Exit → Act → World → Prop} (hgd : o.guard = none) (s x : Operand)
    (ho : o.op = .call { callee := .builtin .append, args := #[s, x], argTypes := #[tS, tS] })
    (e : α) (hs : a.eval s = v) (hw : w = wl.alloc (.cells (enc e).toArray T)) (hown : Og enc k T wl 0 v l)
    (g : Nat) (hg : g = wl.heap.size) (hx : a.eval x = .slice (some ⟨g, 0, none⟩) 1 1) (hlen : l.length ≤ 100000)
    (h : ∀ v' w', Og enc k T w' 0 v' (l ++ [e]) → wl.grownBy w' v.ownBlock → (∀ k, v'.ownBlock = some k → v.ownBlock = some k ∨ wl.heap.size ≤ k) → wpList Try.prog ops Q rest (a.put o.dst v') w') : wpList Try.prog ops Q (o :: rest) a w := by
  obtain ⟨i0, hi, hz0, hz1, hz2⟩ := info_parts hinf
  subst hw hg
  refine wpList_append_own_at _ hgd s x tS ho 0 T i0 z k bytes ht hi hz0 hz1 hz2 hz hk0 v l.length (l.flatMap enc) hs (hown.below (Mi.below_alloc (Below.refl _ _))) ⟨wl.heap.size, 0, none⟩ 1 1 (enc e) hx (by rw [hk, Nat.one_mul]) ?_ (h1c e) (by unfold maxLen; omega) ?_ (Nat.zero_le _) ?_
  · intro j u hj
    have e2 : (⟨wl.heap.size, 0, none⟩ : Addr).add j = ⟨wl.heap.size, 0 + j, none⟩ := Addr.add_mid _ _ _
    rw [e2, Nat.zero_add, cell_of_row _ wl.heap.size j _ _ (0, 0) (heap_alloc_new wl _)]
    simpa using hj
  · have : (l.length + 1) * bytes ≤ 100001 * 64 := Nat.mul_le_mul (by omega) hb8
    omega
  · intro v' w' h1 h3 _ h4
    refine h v' w' ?_ ⟨h3.os, h3.tape, h3.output, Nat.le_trans (by simp) h3.size, fun k hk hne => ?_⟩ fun k hk => ?_
    · unfold Og
      rw [List.length_append, List.flatMap_append]
      simpa using h1
    · exact (h3.block k (by simp; omega) hne).trans (Below.heap_alloc wl _ k hk)
    · rcases h4 with h4 | h4
      · exact .inl (h4 ▸ hk)
      · rw [h4] at hk
        simp only [Option.some.injEq, World.size_alloc] at hk
        exact .inr (by omega)
end
/-! ### Routes, what was heard, numbers -/
def encI (z : Int) : List Value := [.int .i64 z]
def encR (r : Int × Int) : List Value := [.int .i64 r.1, .int .i64 r.2]
/-- What was heard of a neighbour: its number, its costs and where they lie, how many ticks it stays. -/
structure He where
  f : Int
  c : List Int
  left : Int
  R : Option Addr
  cr : Nat
def encH (e : He) : List Value := [.int .i64 e.f, .slice e.R e.c.length e.cr, .int .i64 e.left]
theorem infoR : (Try.prog.info? 94).map (fun i => (i.zero, i.size, i.bytes)) = some (some (.agg #[.int .i64 0, .int .i64 0]), 2, 16) := by kernel_rfl
theorem infoH : (Try.prog.info? 85).map (fun i => (i.zero, i.size, i.bytes)) = some (some (.agg #[.int .i64 0, .slice none 0 0, .int .i64 0]), 3, 40) := by kernel_rfl
abbrev OR := Og encR 2 94
abbrev OH := Og encH 3 85
abbrev RI := Rg encI 1
abbrev RR := Rg encR 2
abbrev RH := Rg encH 3
section
variable {w wl : World} {v : Value} {ops : Array Oper} {rest : List Oper} {o : Oper} {a : Act} {Q : Exit → Act → World → Prop}
theorem appR1 (hgd : o.guard = none) (s x : Operand) (ho : o.op = .call { callee := .builtin .append, args := #[s, x], argTypes := #[30, 30] })
    (l : List (Int × Int)) (e : Int × Int) (hs : a.eval s = v) (hw : w = wl.alloc (.cells (encR e).toArray 94)) (hown : OR wl 0 v l)
    (g : Nat) (hg : g = wl.heap.size) (hx : a.eval x = .slice (some ⟨g, 0, none⟩) 1 1) (hlen : l.length ≤ 100000)
    (h : ∀ v' w', OR w' 0 v' (l ++ [e]) → wl.grownBy w' v.ownBlock → (∀ k, v'.ownBlock = some k → v.ownBlock = some k ∨ wl.heap.size ≤ k) → wpList Try.prog ops Q rest (a.put o.dst v') w') : wpList Try.prog ops Q (o :: rest) a w :=
  appG1 30 16 _ Try.underlying30 infoR rfl (by decide) (by decide) (fun _ => rfl) (fun a u hu => by simp only [encR, List.mem_cons, List.not_mem_nil, or_false] at hu; rcases hu with rfl | rfl <;> rfl) hgd s x ho e hs hw hown g hg hx hlen h
theorem appH1 (hgd : o.guard = none) (s x : Operand) (ho : o.op = .call { callee := .builtin .append, args := #[s, x], argTypes := #[31, 31] })
    (l : List He) (e : He) (hs : a.eval s = v) (hw : w = wl.alloc (.cells (encH e).toArray 85)) (hown : OH wl 0 v l)
    (g : Nat) (hg : g = wl.heap.size) (hx : a.eval x = .slice (some ⟨g, 0, none⟩) 1 1) (hlen : l.length ≤ 100000)
    (h : ∀ v' w', OH w' 0 v' (l ++ [e]) → wl.grownBy w' v.ownBlock → (∀ k, v'.ownBlock = some k → v.ownBlock = some k ∨ wl.heap.size ≤ k) → wpList Try.prog ops Q rest (a.put o.dst v') w') : wpList Try.prog ops Q (o :: rest) a w :=
  appG1 31 40 _ Try.underlying31 infoH rfl (by decide) (by decide) (fun _ => rfl) (fun a u hu => by simp only [encH, List.mem_cons, List.not_mem_nil, or_false] at hu; rcases hu with rfl | rfl | rfl <;> rfl) hgd s x ho e hs hw hown g hg hx hlen h
end
/-! ### The table by value -/
/-- The reference's table. -/
structure RQ where
  self : Int
  age : Int
  nbs : List Int
  set : List (Int × Int)
  l : List He
/-- Where its lists lie. -/
structure Pl where
  A : Option Addr
  cA : Nat
  S : Option Addr
  cS : Nat
  L : Option Addr
  cL : Nat
def rqV (q : RQ) (p : Pl) : Array Value := #[.int .i64 q.self, .int .i64 q.age, .slice p.A q.nbs.length p.cA, .slice p.S q.set.length p.cS, .slice p.L q.l.length p.cL]
/-- Its lists are read at these places, in blocks that bear M. -/
structure Rf (M : Nat → Prop) (w : World) (q : RQ) (p : Pl) : Prop where
  nbs : RI M w p.A q.nbs
  set : RR M w p.S q.set
  l : RH M w p.L q.l
  c : ∀ e ∈ q.l, RI M w e.R e.c ∧ e.c.length = 64
theorem Rf.but {M S : Nat → Prop} {w w' : World} {q : RQ} {p : Pl} (h : Rf M w q p) (hb : But S w w') (hS : ∀ b, M b → ¬ S b) : Rf M w' q p :=
  ⟨h.nbs.but hb hS, h.set.but hb hS, h.l.but hb hS, fun e he => ⟨(h.c e he).1.but hb hS, (h.c e he).2⟩⟩
theorem Rf.below {M : Nat → Prop} {w w' : World} {q : RQ} {p : Pl} (h : Rf M w q p) (hb : Below w.heap.size w w') : Rf M w' q p := h.but (S := fun _ => False) (But.of_below hb) fun _ _ => id
/-- A box that holds such a table. -/
def Bq (w : World) (g : Nat) (q : RQ) (p : Pl) : Prop := w.heap[g]? = some (.cells (rqV q p) 33 (0, 0))
theorem Bq.lt {w : World} {g : Nat} {q : RQ} {p : Pl} (h : Bq w g q p) : g < w.heap.size := (Array.getElem?_eq_some_iff.1 h).1
theorem Bq.cells {w : World} {g : Nat} {q : RQ} {p : Pl} (h : Bq w g q p) : w.cell? ⟨g, 0, none⟩ = some (.int .i64 q.self) ∧ w.cell? ⟨g, 1, none⟩ = some (.int .i64 q.age) ∧ w.cell? ⟨g, 2, none⟩ = some (.slice p.A q.nbs.length p.cA) ∧ w.cell? ⟨g, 3, none⟩ = some (.slice p.S q.set.length p.cS) ∧ w.cell? ⟨g, 4, none⟩ = some (.slice p.L q.l.length p.cL) := by
  refine ⟨?_, ?_, ?_, ?_, ?_⟩
  all_goals
    rw [cell_of_row _ g _ _ _ (0, 0) h]
    rfl
theorem Bq.below {w w' : World} {g : Nat} {q : RQ} {p : Pl} (h : Bq w g q p) (hb : Below w.heap.size w w') : Bq w' g q p := (hb.block g h.lt).trans h
theorem Bq.at_ {w w' : World} {g B : Nat} {q : RQ} {p : Pl} (h : Bq w g q p) (hb : Below B w w') (hg : g < B) : Bq w' g q p := (hb.block g hg).trans h
theorem rq_size (q : RQ) (p : Pl) : (Try.prog.info? 33).map (·.size) = some (rqV q p).size := by
  show _ = some 5
  kernel_rfl
theorem rq_one (q : RQ) (p : Pl) : (rqV q p).all (·.oneCell') = true := by simp [rqV, Value.oneCell']
theorem box_rq (q : RQ) (p : Pl) (w : World) : Bq (w.alloc (.cells (rqV q p) 33)) w.heap.size q p := heap_alloc_new w _
end Go.Proofs.Ytablejhajilpiaa.Rt
