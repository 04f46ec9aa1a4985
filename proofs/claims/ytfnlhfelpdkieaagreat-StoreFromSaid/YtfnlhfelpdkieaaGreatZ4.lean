/- What a change leaves alone; structs' boxes: for seats without bytes (out of MemB, MgGath, MgGetI, MgRGet). -/
import Derived.Test.YtfnlhfelpdkieaaGreatZ1
import Derived.Test.YtfnlhfelpdkieaaGreatZ2
import Derived.Test.YtfnlhfelpdkieaaGreatZ3
import Derived.Handy
import Derived.Deep.MidRow
import Derived.Laws.ResultCell
import Derived.Laws.Tables
import Derived.Maps.AppendAt
namespace Go.Proofs.YtfnlhfelpdkieaaGreat.Sb
open Go.RowKit
open Go.Proofs.YtfnlhfelpdkieaaGreat.Me
set_option linter.unusedVariables false
set_option linter.unusedSimpArgs false

/-- All lies as it lay in w, but for what lies in the blocks S, and for new ones. -/
structure But (S : Nat → Prop) (w X : World) : Prop where
  os : X.os = w.os
  tape : X.tape = w.tape
  output : X.output = w.output
  size : w.heap.size ≤ X.heap.size
  same : ∀ k, k < w.heap.size → ¬ S k → X.heap[k]? = w.heap[k]?
theorem But.refl (S : Nat → Prop) (w : World) : But S w w := ⟨rfl, rfl, rfl, Nat.le_refl _, fun _ _ _ => rfl⟩
theorem But.trans {S S' : Nat → Prop} {w X Y : World} (h : But S w X) (k : But S' X Y) (hS : ∀ b, b < w.heap.size → S' b → S b) : But S w Y :=
  ⟨k.os.trans h.os, k.tape.trans h.tape, k.output.trans h.output, Nat.le_trans h.size k.size, fun b hb hn => (k.same b (Nat.lt_of_lt_of_le hb h.size) (fun hs => hn (hS b hb hs))).trans (h.same b hb hn)⟩
theorem But.mono {S S' : Nat → Prop} {w X : World} (h : But S w X) (hS : ∀ b, b < w.heap.size → S b → S' b) : But S' w X :=
  ⟨h.os, h.tape, h.output, h.size, fun b hb hn => h.same b hb (fun hs => hn (hS b hb hs))⟩
theorem But.of_below {S : Nat → Prop} {w X : World} (h : Below w.heap.size w X) : But S w X := ⟨h.os, h.tape, h.output, h.size, fun b hb _ => h.block b hb⟩
theorem But.below {S : Nat → Prop} {w X : World} {B : Nat} (h : But S w X) (hB : B ≤ w.heap.size) (hS : ∀ k, S k → B ≤ k) : Below B w X :=
  ⟨h.os, h.tape, h.output, h.size, fun k hk => h.same k (by omega) (fun hs => by have := hS k hs; omega)⟩
theorem But.grown {S : Nat → Prop} {w X Y : World} {row : Option Nat} (h : But S w X) (hg : X.grownBy Y row) (hr : ∀ r, row = some r → S r ∨ w.heap.size ≤ r) : But S w Y :=
  ⟨hg.os.trans h.os, hg.tape.trans h.tape, hg.output.trans h.output, Nat.le_trans h.size hg.size, fun k hk hS => (hg.block k (Nat.lt_of_lt_of_le hk h.size) (fun e => by
    rcases hr k e.symm with h1 | h1
    · exact hS h1
    · omega)).trans (h.same k hk hS)⟩
theorem grown_set (W : World) (p : Addr) (v : Value) : W.grownBy (W.setCell p v) (some p.block) :=
  ⟨rfl, rfl, rfl, by simp, fun k _ hk => Below.heap_setCell _ _ _ k (fun e => hk (by rw [e]))⟩
theorem But.set {S : Nat → Prop} {w X : World} (h : But S w X) {p : Addr} (hp : S p.block ∨ w.heap.size ≤ p.block) (u : Value) : But S w (X.setCell p u) :=
  h.grown (grown_set X p u) fun r e => by cases e; exact hp
theorem But.alloc {S : Nat → Prop} {w X : World} (h : But S w X) (o : Obj) : But S w (X.alloc o) := h.grown (World.grownBy_alloc X o none) (by simp)
theorem But.at_ {S : Nat → Prop} {w X : World} {b : Nat} {o : Obj} (h : But S w X) (hb : w.heap[b]? = some o) (hS : ¬ S b) : X.heap[b]? = some o := (h.same b (Array.getElem?_eq_some_iff.1 hb).1 hS).trans hb
theorem own_same {w w' : World} {B T s n : Nat} {v : Value} {xs : List Value} (h : w.ownsRow B T s v n xs) (hk : ∀ k, v.ownBlock = some k → k < w.heap.size → w'.heap[k]? = w.heap[k]?) : w'.ownsRow B T s v n xs := by
  refine ⟨h.1, ?_⟩
  rcases h.2 with h' | ⟨g, cap, cur, rfl, q2, q3, q4⟩
  · exact .inl h'
  · exact .inr ⟨g, cap, cur, rfl, q2, (hk g rfl (Array.getElem?_eq_some_iff.1 q3).1).trans q3, q4⟩
theorem own_base {w : World} {B B' T s n : Nat} {v : Value} {xs : List Value} (h : w.ownsRow B T s v n xs) (hB : ∀ k, v.ownBlock = some k → B' ≤ k) : w.ownsRow B' T s v n xs := by
  refine ⟨h.1, ?_⟩
  rcases h.2 with h' | ⟨g, cap, cur, rfl, q2, q3, q4⟩
  · exact .inl h'
  · exact .inr ⟨g, cap, cur, rfl, hB g rfl, q3, q4⟩
theorem own_lt {w : World} {B T s n : Nat} {v : Value} {xs : List Value} (h : w.ownsRow B T s v n xs) : ∀ k, v.ownBlock = some k → k < w.heap.size := fun k e => (h.lt k e).2
theorem below_setRow {B : Nat} {w W : World} {D : Nat} (cs : Array Value) (h : Below B w W) (hD : B ≤ D) : Below B w (W.setRow D cs) :=
  ⟨h.os, h.tape, h.output, by simpa using h.size, fun c hc => (setRow_other _ _ c _ (by omega)).trans (h.block c hc)⟩
theorem But.setRow {S : Nat → Prop} {w X : World} (h : But S w X) {D : Nat} (hD : S D ∨ w.heap.size ≤ D) (cs : Array Value) : But S w (X.setRow D cs) :=
  ⟨h.os, h.tape, h.output, by simpa using h.size, fun k hk hn => (setRow_other _ _ k _ (fun e => by subst e; rcases hD with hD | hD; exact hn hD; omega)).trans (h.same k hk hn)⟩
theorem go_on {w W W' : World} (h : Below w.heap.size w W) (h2 : Below W.heap.size W W') : Below w.heap.size w W' := h.trans (h2.mono h.size)
/-- A struct's return out of its box. -/
theorem ret_box {fn : Func} {R : Ending → World → Prop} {a : Act} {w : World} {g : Nat} {cs : Array Value} {p : Tmp} {ty t : TypeId} {fr : Nat × Nat} {d : TypeDesc} (hres : fn.results = #[.cell p ty]) (hp : a.tmps.getD p undef = .pointer (some ⟨g, 0, none⟩)) (hg : w.heap[g]? = some (.cells cs t fr))
    (hd : d.isRow = true) (hu : Tryz.prog.underlying ty = some d) (hi : (Tryz.prog.info? ty).map (·.size) = some cs.size) (hdef : a.defers = [])
    (hR : R (.returned (.agg cs)) w) : bodyPost Tryz.prog fn R .ret a w :=
  bodyPost_ret (v := .agg cs) (results_cell_row hres a.tmps w g t cs fr d hp hg hu (by cases d <;> first | rfl | cases hd) hi) hdef hR
theorem ret_box2 {fn : Func} {R : Ending → World → Prop} {a : Act} {w : World} {g : Nat} {cs : Array Value} {p u : Tmp} {ty t : TypeId} {fr : Nat × Nat} {d : TypeDesc} (hres : fn.results = #[.cell p ty, .tmp u]) (hp : a.tmps.getD p undef = .pointer (some ⟨g, 0, none⟩)) (hg : w.heap[g]? = some (.cells cs t fr))
    (hd : d.isRow = true) (hu : Tryz.prog.underlying ty = some d) (hi : (Tryz.prog.info? ty).map (·.size) = some cs.size) (hdef : a.defers = [])
    (hR : R (.returned (.tuple #[.agg cs, a.tmps.getD u undef])) w) : bodyPost Tryz.prog fn R .ret a w :=
  bodyPost_ret (v := .tuple #[.agg cs, a.tmps.getD u undef]) (by rw [results_cell_tmp hres, hp]; simp only [asAddr, Sem.run_pure, Result.andThen_ok, run_loadVar_row w g t ty cs fr d hg hu (by cases d <;> first | rfl | cases hd) hi]) hdef hR
theorem id_cells {W : World} {D : Nat} {o d e c : Int} (h : W.heap[D]? = some (.cells #[.int .i64 o, .int .i64 d, .int .i64 e, .int .i64 c] 43 (0, 0))) : W.cell? ⟨D, 0, none⟩ = some (.int .i64 o) ∧ W.cell? ⟨D, 1, none⟩ = some (.int .i64 d) ∧ W.cell? ⟨D, 2, none⟩ = some (.int .i64 e) ∧ W.cell? ⟨D, 3, none⟩ = some (.int .i64 c) := by
  refine ⟨?_, ?_, ?_, ?_⟩
  all_goals
    rw [cell_of_row _ D _ _ _ (0, 0) h]
    rfl
end Go.Proofs.YtfnlhfelpdkieaaGreat.Sb
/- Lists of ids of the call's own. -/
namespace Go.Proofs.YtfnlhfelpdkieaaGreat.So
open Go.RowKit Go.Deep
open Go.ChangeShapes Go.WideShapes Go.Joins
open Go.Proofs.YtfnlhfelpdkieaaGreat.Me Go.Proofs.YtfnlhfelpdkieaaGreat.Sb
set_option linter.unusedVariables false
set_option linter.unusedSimpArgs false

theorem add_mk (g off n : Nat) : (⟨g, off, none⟩ : Addr).add n = ⟨g, off + n, none⟩ := by unfold Addr.add; split <;> simp_all
def idAt (ls : List Mg.Id4) (j : Nat) : Mg.Id4 := ls.getD j ⟨0, 0, 0, 0⟩
/-- A slice's address leads to these ids. -/
def Ids (w : World) (a : Option Addr) (ls : List Mg.Id4) : Prop :=
  ∀ j, j < ls.length → ∃ b off, a = some ⟨b, off, none⟩ ∧ b < w.heap.size ∧ w.cell? ⟨b, off + j * 4, none⟩ = some (.int .i64 (idAt ls j).o) ∧ w.cell? ⟨b, off + j * 4 + 1, none⟩ = some (.int .i64 (idAt ls j).d) ∧ w.cell? ⟨b, off + j * 4 + 2, none⟩ = some (.int .i64 (idAt ls j).e) ∧ w.cell? ⟨b, off + j * 4 + 3, none⟩ = some (.int .i64 (idAt ls j).c)
def idc (i : Mg.Id4) : List Value := [.int .i64 i.o, .int .i64 i.d, .int .i64 i.e, .int .i64 i.c]
def idsV (l : List Mg.Id4) : List Value := l.flatMap idc
theorem idsV_len (l : List Mg.Id4) : (idsV l).length = l.length * 4 := by
  induction l with
  | nil => rfl
  | cons p r ih => unfold idsV at ih ⊢; rw [List.flatMap_cons, List.length_append, ih]; simp [idc]; omega
theorem idsV_app (a b : List Mg.Id4) : idsV (a ++ b) = idsV a ++ idsV b := by unfold idsV; rw [List.flatMap_append]
theorem idsV_get {l : List Mg.Id4} : ∀ {j : Nat}, j < l.length → ∀ {i : Nat}, i < 4 → (idsV l)[j * 4 + i]? = (idc (idAt l j))[i]? := by
  induction l with
  | nil => intro j h; simp at h
  | cons x r ih =>
    intro j h i hi
    have e : idsV (x :: r) = idc x ++ idsV r := by unfold idsV; rw [List.flatMap_cons]
    rw [e]
    cases j with
    | zero =>
      rw [List.getElem?_append_left (by simp [idc]; omega)]
      simp [idAt]
    | succ j =>
      rw [List.getElem?_append_right (by simp [idc]; omega)]
      have h2 := ih (j := j) (by simpa using h) hi
      rw [show (j + 1) * 4 + i - (idc x).length = j * 4 + i by simp [idc]; omega, h2]
      simp [idAt]
/-- A slice of ids of the call's own. -/
def Ki (w : World) (B : Nat) (v : Value) (l : List Mg.Id4) : Prop := w.ownsRow B 43 4 v l.length (idsV l)
theorem infoId : (Tryz.prog.info? 43).map (fun i => (i.zero, i.size, i.bytes)) = some (some (.agg #[.int .i64 0, .int .i64 0, .int .i64 0, .int .i64 0]), 4, 32) := by kernel_rfl
theorem Ki.form {w : World} {B : Nat} {v : Value} {l : List Mg.Id4} (h : Ki w B v l) : ∃ A c, v = .slice A l.length c ∧ l.length ≤ c ∧ c ≤ 9223372036854775807 ∧ Ids w A l := by
  have h0 := h
  rcases h.2 with ⟨h1, h2⟩ | ⟨g, cap, cur, h1, h2, h3, h4, h5, h6, h7⟩
  · have : l = [] := by simpa using h2
    subst this
    exact ⟨none, 0, h1, Nat.le_refl _, Nat.zero_le _, fun j hj => absurd hj (by simp)⟩
  · subst h1
    have hl := World.ownsRow.lt h0 g rfl
    refine ⟨_, cap, rfl, h4, by unfold maxLen at h5; omega, fun j hj => ⟨g, 0, rfl, hl.2, ?_⟩⟩
    have hx : ∀ i u, i < 4 → (idc (idAt l j))[i]? = some u → w.cell? ⟨g, 0 + j * 4 + i, none⟩ = some u := fun i u hi hu => by
      have := World.ownsRow.cells h0 (g := g) rfl (j * 4 + i) u (by rw [idsV_get hj hi]; exact hu)
      rw [add_mk] at this
      rwa [Nat.add_assoc]
    exact ⟨hx 0 _ (by omega) rfl, hx 1 _ (by omega) rfl, hx 2 _ (by omega) rfl, hx 3 _ (by omega) rfl⟩
theorem Ki.form2 {w : World} {B : Nat} {v : Value} {l : List Mg.Id4} (h : Ki w B v l) : ∃ A c, v = .slice A l.length c ∧ l.length ≤ c ∧ c ≤ 9223372036854775807 ∧ (A = none → c = 0) ∧ Ids w A l ∧ ∀ g off, A = some ⟨g, off, none⟩ → off = 0 ∧ B ≤ g := by
  obtain ⟨A, c, e, h1, h2, h3⟩ := h.form
  refine ⟨A, c, e, h1, h2, fun hA => ?_, h3, fun g off hA => ?_⟩
  · subst hA
    rcases h.2 with ⟨h4, _⟩ | ⟨g, cap, cur, h4, _⟩
    · rw [e] at h4; injection h4 with _ _ h5
    · rw [e] at h4; injection h4 with h5; cases h5
  · subst hA
    rcases h.2 with ⟨h4, _⟩ | ⟨g', cap, cur, h4, h5, _⟩
    · rw [e] at h4; injection h4 with h6; cases h6
    · rw [e] at h4; injection h4 with h6; cases h6; exact ⟨rfl, h5⟩
theorem Ki.lit {w : World} : Ki (w.alloc (.cells #[] 43)) w.heap.size (.slice (some ⟨w.heap.size, 0, none⟩) 0 0) [] := World.ownsRow_made w #[] 0 (Nat.le_refl _) (by unfold maxLen; omega) rfl
theorem Ki.lt {w : World} {B k : Nat} {v : Value} {l : List Mg.Id4} (h : Ki w B v l) (hk : v.ownBlock = some k) : B ≤ k ∧ k < w.heap.size := World.ownsRow.lt h k hk
theorem Ids.below {w w' : World} {A : Option Addr} {l : List Mg.Id4} (h : Ids w A l) (hb : Below w.heap.size w w') : Ids w' A l := fun j hj => by
  obtain ⟨b, off, e1, e2, c0, c1, c2, c3⟩ := h j hj
  exact ⟨b, off, e1, Nat.lt_of_lt_of_le e2 hb.size, (hb.cell e2).trans c0, (hb.cell e2).trans c1, (hb.cell e2).trans c2, (hb.cell e2).trans c3⟩
theorem Ids.take {w : World} {A : Option Addr} {l : List Mg.Id4} (h : Ids w A l) (n : Nat) : Ids w A (l.take n) := fun j hj => by
  have hj' : j < l.length := by rw [List.length_take] at hj; omega
  have e : idAt (l.take n) j = idAt l j := by
    unfold idAt
    rw [List.length_take] at hj
    rw [List.getD_eq_getElem?_getD, List.getD_eq_getElem?_getD, List.getElem?_take, if_pos (by omega)]
  rw [e]
  exact h j hj'
/-- Ids appended to a list of one's own. -/
theorem appIds {w : World} {ops : Array Oper} {rest : List Oper} {o : Oper} {a : Act} {Q : Exit → Act → World → Prop} (hgd : o.guard = none) (s x : Operand)
    (ho : o.op = .call { callee := .builtin .append, args := #[s, x], argTypes := #[77, 77] })
    (B : Nat) (v : Value) (l r : List Mg.Id4) (hs : a.eval s = v) (hown : Ki w B v l) (hB : B ≤ w.heap.size)
    (A : Option Addr) (n c : Nat) (hn : n = r.length) (hx : a.eval x = .slice A n c) (hr : Ids w A r) (hA : A = none → c = 0) (hlen : l.length + r.length ≤ 1000)
    (h : ∀ v' w', Ki w' B v' (l ++ r) → w.grownBy w' v.ownBlock → (∀ k, v.ownBlock = some k → B ≤ k) → wpList Tryz.prog ops Q rest (a.put o.dst v') w') : wpList Tryz.prog ops Q (o :: rest) a w := by
  obtain ⟨i0, hi, hz0, hz1, hz2⟩ := info_parts infoId
  subst hn
  have hlt : ∀ k, v.ownBlock = some k → B ≤ k := fun k hk => (hown.lt hk).1
  rcases A with _ | ad
  · have hr0 : r = [] := by
      cases r with
      | nil => rfl
      | cons x t => obtain ⟨b, off, e, _⟩ := hr 0 (by simp); cases e
    subst hr0
    obtain rfl := hA rfl
    refine wpList_append_own_none hgd s x 77 ho B 43 i0 4 Tryz.underlying77 hi v l.length (idsV l) hs hown hx ?_
    exact h v w (by rw [List.append_nil]; exact hown) ⟨rfl, rfl, rfl, Nat.le_refl _, fun _ _ _ => rfl⟩ hlt
  · have hnews : ∀ j u, (idsV r)[j]? = some u → w.cell? (ad.add j) = some u := by
      intro j u hj
      have hj1 := (List.getElem?_eq_some_iff.1 hj).1
      rw [idsV_len] at hj1
      have hj4 : j / 4 < r.length := by omega
      obtain ⟨b, off, e, _, c0, c1, c2, c3⟩ := hr (j / 4) hj4
      cases e
      rw [add_mk]
      have hg := idsV_get hj4 (i := j % 4) (by omega)
      rw [show j / 4 * 4 + j % 4 = j by omega, hj] at hg
      have hm : j % 4 = 0 ∨ j % 4 = 1 ∨ j % 4 = 2 ∨ j % 4 = 3 := by omega
      rcases hm with hm | hm | hm | hm
      · rw [hm] at hg; rw [show off + j = off + j / 4 * 4 by omega, c0, hg]; rfl
      · rw [hm] at hg; rw [show off + j = off + j / 4 * 4 + 1 by omega, c1, hg]; rfl
      · rw [hm] at hg; rw [show off + j = off + j / 4 * 4 + 2 by omega, c2, hg]; rfl
      · rw [hm] at hg; rw [show off + j = off + j / 4 * 4 + 3 by omega, c3, hg]; rfl
    have hone : ∀ u ∈ idsV r, u.oneCell' = true := by
      intro u hu
      obtain ⟨p, _, hp⟩ := List.mem_flatMap.1 hu
      simp only [idc, List.mem_cons, List.not_mem_nil, or_false] at hp
      rcases hp with rfl | rfl | rfl | rfl <;> rfl
    refine wpList_append_own w hgd s x 77 ho B 43 i0 (.agg #[.int .i64 0, .int .i64 0, .int .i64 0, .int .i64 0]) 4 32 Tryz.underlying77 hi hz0 hz1 hz2 rfl (by decide) v l.length (idsV l) hs hown ad r.length c (idsV r) hx (idsV_len r) hnews hone (by unfold maxLen; omega) (by omega) hB ?_
    intro v' w' h1 h2 _
    refine h v' w' ?_ h2 hlt
    unfold Ki
    rw [List.length_append, idsV_app]; exact h1
end Go.Proofs.YtfnlhfelpdkieaaGreat.So
