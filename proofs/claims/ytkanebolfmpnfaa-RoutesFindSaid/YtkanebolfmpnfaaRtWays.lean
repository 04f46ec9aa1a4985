/- ways: what all destinations cost, and their next hops. -/
import Derived.Test.YtkanebolfmpnfaaRtHeard
namespace Go.Proofs.Ytkanebolfmpnfaa.Rt
open Go.RowKit Go.Maps
open Go.Proofs.Ytkanebolfmpnfaa.Sb
set_option linter.unusedVariables false
set_option linter.unusedSimpArgs false

abbrev Two := (Nat → Int) × (Nat → Int)
def stC (c : Nat → Int) (f : Nat) (p : Two) : Two := (fun d => if c d + 1 < p.1 d then c d + 1 else p.1 d, fun d => if c d + 1 < p.1 d then (f : Int) else p.2 d)
/-- Of the first j destinations alone. -/
def stJ (c : Nat → Int) (f : Nat) (p : Two) (j : Nat) : Two := (fun d => if d < j ∧ c d + 1 < p.1 d then c d + 1 else p.1 d, fun d => if d < j ∧ c d + 1 < p.1 d then (f : Int) else p.2 d)
def costsOf (kept : Nat → Option Nw) (f : Nat) : Nat → Int := match kept f with
  | none => fun _ => 16
  | some n => n.c
def stF (kept : Nat → Option Nw) (p : Two) (f : Nat) : Two := stC (costsOf kept f) f p
def ways0 (kept : Nat → Option Nw) (L : List Nat) : Two := L.foldl (stF kept) (fun _ => 16, fun _ => -1)
theorem ways0_snoc (kept : Nat → Option Nw) (L : List Nat) (f : Nat) : ways0 kept (L ++ [f]) = stF kept (ways0 kept L) f := by simp [ways0]
/-- Of the first j destinations alone, with the routes that were set. -/
def seJ (t : Tb) (p : Two) (j : Nat) : Two := (fun d => if d < j ∧ t.set d ≠ -1 then byN t.heard (t.set d).toNat d else p.1 d, fun d => if d < j ∧ t.set d ≠ -1 then t.set d else p.2 d)
def waysC (t : Tb) : Nat → Int := upd (seJ t (ways0 t.heard (froms t.heard)) 64).1 t.self 0
def waysH (t : Tb) : Nat → Int := upd (seJ t (ways0 t.heard (froms t.heard)) 64).2 t.self (-1)
structure Tb.Ok (t : Tb) : Prop where
  self : t.self < 64
  age : 1 ≤ t.age ∧ t.age ≤ 64
  nbs : ∀ x ∈ t.nbs, ∃ m : Nat, x = (m : Int) ∧ m < 64 ∧ m ≠ t.self
  ris : t.nbs.Pairwise (· < ·)
  set : ∀ d, d < 64 → t.set d = -1 ∨ t.set d ∈ t.nbs
  sself : t.set t.self = -1
  heard : ∀ n p, n < 64 → t.heard n = some p → (n : Int) ∈ t.nbs ∧ Cok p.c ∧ p.s < t.age
/-- The two arrays, and all else as it was. -/
structure Wy (w wr : World) (P : Two) : Prop where
  a2 : Ar wr w.heap.size P.1
  a3 : Ar wr (w.heap.size + 1) P.2
  bel : Below w.heap.size w wr
theorem Wy.go {w wr wr' : World} {P : Two} (h : Wy w wr P) (hb : Below wr.heap.size wr wr') : Wy w wr' P := ⟨h.a2.below hb h.a2.lt, h.a3.below hb h.a3.lt, go_on h.bel hb⟩
theorem Wy.eq {w wr : World} {P P' : Two} (h : Wy w wr P) (h1 : ∀ d, d < 64 → P.1 d = P'.1 d) (h2 : ∀ d, d < 64 → P.2 d = P'.2 d) : Wy w wr P' := ⟨h.a2.eq h1, h.a3.eq h2, h.bel⟩
/-- Both stores. -/
theorem Wy.put {w wr : World} {P : Two} (h : Wy w wr P) {j : Nat} (hj : j < 64) (x y : Int) : Wy w ((wr.setCell ⟨w.heap.size, j, none⟩ (.int .i64 x)).setCell ⟨w.heap.size + 1, j, none⟩ (.int .i64 y)) (upd P.1 j x, upd P.2 j y) :=
  ⟨(h.a2.set hj x).other (by omega) _, (h.a3.other (by omega) _).set hj y, (h.bel.setCell (p := ⟨w.heap.size, j, none⟩) (Nat.le_refl _) _).setCell (p := ⟨w.heap.size + 1, j, none⟩) (Nat.le_succ _) _⟩
/-- Numbers in a block from lo on. -/
def Rl (wr : World) (lo : Nat) (A : Option Addr) (L : List Int) : Prop := ∀ i, i < L.length → ∃ b off, A = some ⟨b, off, none⟩ ∧ lo ≤ b ∧ b < wr.heap.size ∧ wr.cell? ⟨b, off + i, none⟩ = some (.int .i64 (Mi.at_ L i))
theorem Rl.of {w : World} {B lo : Nat} {u : Value} {L : List Int} (h : Mi.Own w B u L) (hB : lo ≤ B) : ∃ A c, u = .slice A L.length c ∧ Rl w lo A L := by
  obtain ⟨A, c, rfl, h1, h2, h3, h4, h5⟩ := h.form
  refine ⟨A, c, rfl, fun i hi => ?_⟩
  obtain ⟨b, off, rfl, hb, hc⟩ := h3 (by omega)
  exact ⟨b, off, rfl, Nat.le_trans hB (h5 _ rfl).1, hb, hc i hi⟩
theorem Rl.keep {wr wr' : World} {lo : Nat} {A : Option Addr} {L : List Int} (h : Rl wr lo A L) (hs : wr.heap.size ≤ wr'.heap.size) (hk : ∀ b, lo ≤ b → b < wr.heap.size → wr'.heap[b]? = wr.heap[b]?) : Rl wr' lo A L := fun i hi => by
  obtain ⟨b, off, e, h1, h2, h3⟩ := h i hi
  exact ⟨b, off, e, h1, by omega, (World.cell?_of_block (w := wr) (a := ⟨b, off + i, none⟩) (hk b h1 h2)).trans h3⟩
theorem Rl.put {wr : World} {g j lo : Nat} {A : Option Addr} {L : List Int} (h : Rl wr lo A L) (hg : g < lo) (v : Value) : Rl (wr.setCell ⟨g, j, none⟩ v) lo A L :=
  h.keep (by simp) fun b h1 _ => Below.heap_setCell wr ⟨g, j, none⟩ v b fun e => by simp only at e; omega
theorem stJ_no {c : Nat → Int} {f : Nat} {p : Two} {j : Nat} (h : ¬ c j + 1 < p.1 j) : (∀ d, d < 64 → (stJ c f p j).1 d = (stJ c f p (j + 1)).1 d) ∧ ∀ d, d < 64 → (stJ c f p j).2 d = (stJ c f p (j + 1)).2 d := by
  constructor
  all_goals
    intro d _
    simp only [stJ]
    by_cases e : d = j
    · subst e
      rw [if_neg (by omega), if_neg (by omega)]
    · by_cases h1 : d < j
      · simp [h1, show d < j + 1 by omega]
      · simp [h1, show ¬ d < j + 1 by omega]
theorem stJ_yes {c : Nat → Int} {f : Nat} {p : Two} {j : Nat} (h : c j + 1 < p.1 j) : (∀ d, d < 64 → upd (stJ c f p j).1 j (c j + 1) d = (stJ c f p (j + 1)).1 d) ∧ ∀ d, d < 64 → upd (stJ c f p j).2 j (f : Int) d = (stJ c f p (j + 1)).2 d := by
  constructor
  all_goals
    intro d _
    simp only [stJ, upd]
    by_cases e : d = j
    · subst e
      rw [if_pos rfl, if_pos ⟨by omega, h⟩]
    · rw [if_neg e]
      by_cases h1 : d < j
      · simp [h1, show d < j + 1 by omega]
      · simp [h1, show ¬ d < j + 1 by omega]
theorem seJ_no {t : Tb} {p : Two} {j : Nat} (h : t.set j = -1) : (∀ d, d < 64 → (seJ t p j).1 d = (seJ t p (j + 1)).1 d) ∧ ∀ d, d < 64 → (seJ t p j).2 d = (seJ t p (j + 1)).2 d := by
  constructor
  all_goals
    intro d _
    simp only [seJ]
    by_cases e : d = j
    · subst e
      rw [if_neg (by omega), if_neg (fun hh => hh.2 h)]
    · by_cases h1 : d < j
      · simp [h1, show d < j + 1 by omega]
      · simp [h1, show ¬ d < j + 1 by omega]
theorem seJ_yes {t : Tb} {p : Two} {j : Nat} (h : t.set j ≠ -1) : (∀ d, d < 64 → upd (seJ t p j).1 j (byN t.heard (t.set j).toNat j) d = (seJ t p (j + 1)).1 d) ∧ ∀ d, d < 64 → upd (seJ t p j).2 j (t.set j) d = (seJ t p (j + 1)).2 d := by
  constructor
  all_goals
    intro d _
    simp only [seJ, upd]
    by_cases e : d = j
    · subst e
      rw [if_pos rfl, if_pos ⟨by omega, h⟩]
    · rw [if_neg e]
      by_cases h1 : d < j
      · simp [h1, show d < j + 1 by omega]
      · simp [h1, show ¬ d < j + 1 by omega]
theorem ret_two {fn : Func} {R : Ending → World → Prop} {a : Act} {w : World} {g h : Nat} {cs ds : Array Value} {p q : Tmp} {ty t : TypeId} {fr : Nat × Nat} {d : TypeDesc} (hres : fn.results = #[.cell p ty, .cell q ty]) (hp : a.tmps.getD p undef = .pointer (some ⟨g, 0, none⟩)) (hq : a.tmps.getD q undef = .pointer (some ⟨h, 0, none⟩)) (hg : w.heap[g]? = some (.cells cs t fr)) (hh : w.heap[h]? = some (.cells ds t fr))
    (hd : d.isRow = true) (hu : Try.prog.underlying ty = some d) (hi : (Try.prog.info? ty).map (·.size) = some cs.size) (hj : (Try.prog.info? ty).map (·.size) = some ds.size) (hdef : a.defers = [])
    (hR : R (.returned (.tuple #[.agg cs, .agg ds])) w) : bodyPost Try.prog fn R .ret a w := by
  have hp' : a.tmps[p]?.getD undef = .pointer (some ⟨g, 0, none⟩) := by simpa using hp
  have hq' : a.tmps[q]?.getD undef = .pointer (some ⟨h, 0, none⟩) := by simpa using hq
  refine bodyPost_ret (v := .tuple #[.agg cs, .agg ds]) ?_ hdef hR
  simp [results, hres, hp', hq', asAddr, run_loadVar_row w g t ty cs fr d hg hu (by cases d <;> first | rfl | cases hd) hi, run_loadVar_row w h t ty ds fr d hh hu (by cases d <;> first | rfl | cases hd) hj]
end Go.Proofs.Ytkanebolfmpnfaa.Rt
