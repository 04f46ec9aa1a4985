/- What a change leaves alone; structs' boxes: for seats without bytes (out of MemB, MgGath, MgGetI, MgRGet). -/
import Derived.Test.YtpofdimagfldnaaZ1
import Derived.Test.YtpofdimagfldnaaZ2
import Derived.Test.YtpofdimagfldnaaZ3
import Derived.Handy
import Derived.Deep.MidRow
import Derived.Laws.ResultCell
import Derived.Laws.Tables
import Derived.Deep.Strs
import Derived.WideShapes
namespace Go.Proofs.Ytpofdimagfldnaa.Sb
open Go.RowKit
open Go.Proofs.Ytpofdimagfldnaa.Me
set_option linter.unusedVariables false
set_option linter.unusedSimpArgs false

/-- All lies as it lay in w, but for what lies in the blocks S, and for new ones. -/
structure But (S : Nat → Prop) (w X : World) : Prop where
  os : X.os = w.os
  tape : X.tape = w.tape
  output : X.output = w.output
  size : w.heap.size ≤ X.heap.size
  same : ∀ k, k < w.heap.size → ¬ S k → X.heap[k]? = w.heap[k]?
theorem But.refl (S : Nat → Prop) (w : World) : But S w w := ⟨rfl, rfl, rfl, Nat.le_refl _, fun _ _ _ => rfl⟩
theorem But.trans {S S' : Nat → Prop} {w X Y : World} (h : But S w X) (k : But S' X Y) (hS : ∀ b, b < w.heap.size → S' b → S b) : But S w Y :=
  ⟨k.os.trans h.os, k.tape.trans h.tape, k.output.trans h.output, Nat.le_trans h.size k.size, fun b hb hn => (k.same b (Nat.lt_of_lt_of_le hb h.size) (fun hs => hn (hS b hb hs))).trans (h.same b hb hn)⟩
theorem But.mono {S S' : Nat → Prop} {w X : World} (h : But S w X) (hS : ∀ b, b < w.heap.size → S b → S' b) : But S' w X :=
  ⟨h.os, h.tape, h.output, h.size, fun b hb hn => h.same b hb (fun hs => hn (hS b hb hs))⟩
theorem But.of_below {S : Nat → Prop} {w X : World} (h : Below w.heap.size w X) : But S w X := ⟨h.os, h.tape, h.output, h.size, fun b hb _ => h.block b hb⟩
theorem But.below {S : Nat → Prop} {w X : World} {B : Nat} (h : But S w X) (hB : B ≤ w.heap.size) (hS : ∀ k, S k → B ≤ k) : Below B w X :=
  ⟨h.os, h.tape, h.output, h.size, fun k hk => h.same k (by omega) (fun hs => by have := hS k hs; omega)⟩
theorem But.grown {S : Nat → Prop} {w X Y : World} {row : Option Nat} (h : But S w X) (hg : X.grownBy Y row) (hr : ∀ r, row = some r → S r ∨ w.heap.size ≤ r) : But S w Y :=
  ⟨hg.os.trans h.os, hg.tape.trans h.tape, hg.output.trans h.output, Nat.le_trans h.size hg.size, fun k hk hS => (hg.block k (Nat.lt_of_lt_of_le hk h.size) (fun e => by
    rcases hr k e.symm with h1 | h1
    · exact hS h1
    · omega)).trans (h.same k hk hS)⟩
theorem grown_set (W : World) (p : Addr) (v : Value) : W.grownBy (W.setCell p v) (some p.block) :=
  ⟨rfl, rfl, rfl, by simp, fun k _ hk => Below.heap_setCell _ _ _ k (fun e => hk (by rw [e]))⟩
theorem But.set {S : Nat → Prop} {w X : World} (h : But S w X) {p : Addr} (hp : S p.block ∨ w.heap.size ≤ p.block) (u : Value) : But S w (X.setCell p u) :=
  h.grown (grown_set X p u) fun r e => by cases e; exact hp
theorem But.alloc {S : Nat → Prop} {w X : World} (h : But S w X) (o : Obj) : But S w (X.alloc o) := h.grown (World.grownBy_alloc X o none) (by simp)
theorem But.at_ {S : Nat → Prop} {w X : World} {b : Nat} {o : Obj} (h : But S w X) (hb : w.heap[b]? = some o) (hS : ¬ S b) : X.heap[b]? = some o := (h.same b (Array.getElem?_eq_some_iff.1 hb).1 hS).trans hb
theorem own_same {w w' : World} {B T s n : Nat} {v : Value} {xs : List Value} (h : w.ownsRow B T s v n xs) (hk : ∀ k, v.ownBlock = some k → k < w.heap.size → w'.heap[k]? = w.heap[k]?) : w'.ownsRow B T s v n xs := by
  refine ⟨h.1, ?_⟩
  rcases h.2 with h' | ⟨g, cap, cur, rfl, q2, q3, q4⟩
  · exact .inl h'
  · exact .inr ⟨g, cap, cur, rfl, q2, (hk g rfl (Array.getElem?_eq_some_iff.1 q3).1).trans q3, q4⟩
theorem own_base {w : World} {B B' T s n : Nat} {v : Value} {xs : List Value} (h : w.ownsRow B T s v n xs) (hB : ∀ k, v.ownBlock = some k → B' ≤ k) : w.ownsRow B' T s v n xs := by
  refine ⟨h.1, ?_⟩
  rcases h.2 with h' | ⟨g, cap, cur, rfl, q2, q3, q4⟩
  · exact .inl h'
  · exact .inr ⟨g, cap, cur, rfl, hB g rfl, q3, q4⟩
theorem own_lt {w : World} {B T s n : Nat} {v : Value} {xs : List Value} (h : w.ownsRow B T s v n xs) : ∀ k, v.ownBlock = some k → k < w.heap.size := fun k e => (h.lt k e).2
theorem below_setRow {B : Nat} {w W : World} {D : Nat} (cs : Array Value) (h : Below B w W) (hD : B ≤ D) : Below B w (W.setRow D cs) :=
  ⟨h.os, h.tape, h.output, by simpa using h.size, fun c hc => (setRow_other _ _ c _ (by omega)).trans (h.block c hc)⟩
theorem But.setRow {S : Nat → Prop} {w X : World} (h : But S w X) {D : Nat} (hD : S D ∨ w.heap.size ≤ D) (cs : Array Value) : But S w (X.setRow D cs) :=
  ⟨h.os, h.tape, h.output, by simpa using h.size, fun k hk hn => (setRow_other _ _ k _ (fun e => by subst e; rcases hD with hD | hD; exact hn hD; omega)).trans (h.same k hk hn)⟩
theorem go_on {w W W' : World} (h : Below w.heap.size w W) (h2 : Below W.heap.size W W') : Below w.heap.size w W' := h.trans (h2.mono h.size)
/-- A struct's return out of its box. -/
theorem ret_box {fn : Func} {R : Ending → World → Prop} {a : Act} {w : World} {g : Nat} {cs : Array Value} {p : Tmp} {ty t : TypeId} {fr : Nat × Nat} {d : TypeDesc} (hres : fn.results = #[.cell p ty]) (hp : a.tmps.getD p undef = .pointer (some ⟨g, 0, none⟩)) (hg : w.heap[g]? = some (.cells cs t fr))
    (hd : d.isRow = true) (hu : Try.prog.underlying ty = some d) (hi : (Try.prog.info? ty).map (·.size) = some cs.size) (hdef : a.defers = [])
    (hR : R (.returned (.agg cs)) w) : bodyPost Try.prog fn R .ret a w :=
  bodyPost_ret (v := .agg cs) (results_cell_row hres a.tmps w g t cs fr d hp hg hu (by cases d <;> first | rfl | cases hd) hi) hdef hR
theorem ret_box2 {fn : Func} {R : Ending → World → Prop} {a : Act} {w : World} {g : Nat} {cs : Array Value} {p u : Tmp} {ty t : TypeId} {fr : Nat × Nat} {d : TypeDesc} (hres : fn.results = #[.cell p ty, .tmp u]) (hp : a.tmps.getD p undef = .pointer (some ⟨g, 0, none⟩)) (hg : w.heap[g]? = some (.cells cs t fr))
    (hd : d.isRow = true) (hu : Try.prog.underlying ty = some d) (hi : (Try.prog.info? ty).map (·.size) = some cs.size) (hdef : a.defers = [])
    (hR : R (.returned (.tuple #[.agg cs, a.tmps.getD u undef])) w) : bodyPost Try.prog fn R .ret a w :=
  bodyPost_ret (v := .tuple #[.agg cs, a.tmps.getD u undef]) (by rw [results_cell_tmp hres, hp]; simp only [asAddr, Sem.run_pure, Result.andThen_ok, run_loadVar_row w g t ty cs fr d hg hu (by cases d <;> first | rfl | cases hd) hi]) hdef hR
theorem id_cells {W : World} {D : Nat} {o d e c : Int} (h : W.heap[D]? = some (.cells #[.int .i64 o, .int .i64 d, .int .i64 e, .int .i64 c] 28 (0, 0))) : W.cell? ⟨D, 0, none⟩ = some (.int .i64 o) ∧ W.cell? ⟨D, 1, none⟩ = some (.int .i64 d) ∧ W.cell? ⟨D, 2, none⟩ = some (.int .i64 e) ∧ W.cell? ⟨D, 3, none⟩ = some (.int .i64 c) := by
  refine ⟨?_, ?_, ?_, ?_⟩
  all_goals
    rw [cell_of_row _ D _ _ _ (0, 0) h]
    rfl
end Go.Proofs.Ytpofdimagfldnaa.Sb
/- The store's small questions: is a number a node, does an id fit, is an event right. -/
namespace Go.Proofs.Ytpofdimagfldnaa.So
open Go.RowKit
open Go.Proofs.Ytpofdimagfldnaa.Me Go.Proofs.Ytpofdimagfldnaa.Sb
set_option linter.unusedVariables false
set_option linter.unusedSimpArgs false

/-- An event as a value. -/
def evC (k : Int) (i : Mg.Id4) (A : Option Addr) (n c : Nat) : Array Value := #[.int .i64 k, .int .i64 i.o, .int .i64 i.d, .int .i64 i.e, .int .i64 i.c, .slice A n c]
theorem ev_cells {W : World} {D : Nat} {k o d e c : Int} {A : Option Addr} {n q : Nat} (h : W.heap[D]? = some (.cells #[.int .i64 k, .int .i64 o, .int .i64 d, .int .i64 e, .int .i64 c, .slice A n q] 60 (0, 0))) :
    W.cell? ⟨D, 0, none⟩ = some (.int .i64 k) ∧ W.cell? ⟨D, 1, none⟩ = some (.int .i64 o) ∧ W.cell? ⟨D, 2, none⟩ = some (.int .i64 d) ∧ W.cell? ⟨D, 3, none⟩ = some (.int .i64 e) ∧ W.cell? ⟨D, 4, none⟩ = some (.int .i64 c) ∧ W.cell? ⟨D, 5, none⟩ = some (.slice A n q) := by
  refine ⟨?_, ?_, ?_, ?_, ?_, ?_⟩
  all_goals
    rw [cell_of_row _ D _ _ _ (0, 0) h]
    rfl
theorem isNode_any (n : Int) (w : World) : Calls Try.prog 34 #[.int .i64 n] w fun e w' => e = .returned (.bool (Mg.nodeB n)) ∧ w = w' := by
  by_cases a : 0 ≤ n
  · by_cases b : n < 64
    · have HE : Hid (Mg.nodeB n = true) := decide_eq_true ⟨a, b⟩
      rw [HE.out]
      go_enter Try.func34, Try.ntmps34
      go_wp2
      go_ret
      exact ⟨rfl, rfl⟩
    · have HE : Hid (Mg.nodeB n = false) := decide_eq_false fun h => b h.2
      rw [HE.out]
      go_enter Try.func34, Try.ntmps34
      go_wp2
      go_ret
      exact ⟨rfl, rfl⟩
  · have HE : Hid (Mg.nodeB n = false) := decide_eq_false fun h => a h.1
    rw [HE.out]
    go_enter Try.func34, Try.ntmps34
    go_wp2
    go_ret
    exact ⟨rfl, rfl⟩
set_option maxHeartbeats 4000000 in
theorem fits_any (i : Mg.Id4) (self epoch : Int) (w : World) : Calls Try.prog 89 #[.agg (Mg.idC i), .int .i64 self, .int .i64 epoch] w fun e w' => e = .returned (.bool (fitsB i self epoch)) ∧ Hid (Below w.heap.size w w') := by
  have HB : Hid (Below w.heap.size w (w.alloc (.cells (Mg.idC i) 28))) := Me.below_alloc (Below.refl _ _)
  obtain ⟨r, hr⟩ : ∃ r, fitsB i self epoch = r := ⟨_, rfl⟩
  rw [hr]
  unfold fitsB at hr
  obtain ⟨o, d, ee, c⟩ := i
  simp only [Mg.idC] at HB hr ⊢
  by_cases h1 : d = self
  · have e1 : (d != self) = false := by simp [h1]
    obtain rfl : r = false := by rw [← hr]; simp [h1]
    clear hr h1
    go_enter Try.func89, Try.ntmps89
    go_wp2
    go_ret
    exact ⟨rfl, HB.out⟩
  · have e1 : (d != self) = true := by simp [h1]
    by_cases h2 : o = self
    · have e2 : (o != self) = false := by simp [h2]
      by_cases h3 : ee ≤ epoch
      · obtain rfl : r = true := by rw [← hr]; simp [h1, h3]
        clear hr h1 h2
        go_enter Try.func89, Try.ntmps89
        go_wp2
        go_ret
        exact ⟨rfl, HB.out⟩
      · obtain rfl : r = false := by rw [← hr]; simp [h2, h3]
        clear hr h1 h2
        go_enter Try.func89, Try.ntmps89
        go_wp2
        go_ret
        exact ⟨rfl, HB.out⟩
    · have e2 : (o != self) = true := by simp [h2]
      obtain rfl : r = true := by rw [← hr]; simp [h1, h2]
      clear hr h1 h2
      go_enter Try.func89, Try.ntmps89
      go_wp2
      go_ret
      exact ⟨rfl, HB.out⟩
set_option maxRecDepth 100000 in
set_option maxHeartbeats 8000000 in
theorem check_any (k : Int) (i : Mg.Id4) (A : Option Addr) (n q : Nat) (w : World) : Calls Try.prog 48 #[.agg (evC k i A n q)] w fun e w' => e = .returned (.int .i64 (chkE k i n : Int)) ∧ Hid (Below w.heap.size w w') := by
  have HB : Hid (Below w.heap.size w (w.alloc (.cells (evC k i A n q) 60))) := Me.below_alloc (Below.refl _ _)
  have HR : Hid (∀ W, Below (w.alloc (.cells (evC k i A n q) 60)).heap.size (w.alloc (.cells (evC k i A n q) 60)) W → W.heap[w.heap.size]? = some (.cells (evC k i A n q) 60 (0, 0))) := fun W hW => (hW.block _ (by simp)).trans (heap_alloc_new w _)
  have HK := Lib.hid (fun W => Mg.Check_any i W)
  have HM := Lib.hid (fun W => Mg.CheckMsg_any i A n q W)
  obtain ⟨c, hc⟩ : ∃ c, Mg.chkN i = c := ⟨_, rfl⟩
  obtain ⟨z, hz⟩ : ∃ z, Mg.msgN i n = z := ⟨_, rfl⟩
  unfold chkE
  rw [hc, hz]
  rw [hc] at HK
  rw [hz] at HM
  by_cases k1 : k = 1
  · subst k1
    rw [if_pos rfl]
    clear HK HM hc hz
    by_cases hi : i = zeroI
    · subst hi
      by_cases hn : n = 0
      · subst hn
        rw [if_pos ⟨rfl, rfl⟩]
        simp only [evC, zeroI] at HB HR ⊢
        go_enter Try.func48, Try.ntmps48
        go_wp2
        go_ret
        exact ⟨rfl, HB.out⟩
      · rw [if_neg (fun h => hn h.2)]
        have e1 : decide ((0 : Int) < (n : Int)) = true := by simp; omega
        have e2 : (0 : Int) < (n : Int) := by omega
        simp only [evC, zeroI] at HB HR ⊢
        go_enter Try.func48, Try.ntmps48
        go_wp2
        go_ret
        exact ⟨rfl, HB.out⟩
    · rw [if_neg (fun h => hi h.1)]
      obtain ⟨o, d, ee, cc⟩ := i
      have hne : ¬ o = 0 ∨ (o = 0 ∧ ¬ d = 0) ∨ (o = 0 ∧ d = 0 ∧ ¬ ee = 0) ∨ (o = 0 ∧ d = 0 ∧ ee = 0 ∧ ¬ cc = 0) := by
        by_cases a0 : o = 0
        · by_cases a1 : d = 0
          · by_cases a2 : ee = 0
            · exact .inr (.inr (.inr ⟨a0, a1, a2, fun h => hi (by rw [a0, a1, a2, h]; rfl)⟩))
            · exact .inr (.inr (.inl ⟨a0, a1, a2⟩))
          · exact .inr (.inl ⟨a0, a1⟩)
        · exact .inl a0
      clear hi
      simp only [evC] at HB HR ⊢
      rcases hne with h | ⟨rfl, h⟩ | ⟨rfl, rfl, h⟩ | ⟨rfl, rfl, rfl, h⟩
      all_goals
        go_enter Try.func48, Try.ntmps48
        go_wp2
        go_ret
        exact ⟨rfl, HB.out⟩
  · rw [if_neg k1]
    have g1 : (k == 1) = false := by simpa using k1
    by_cases k2 : k = 2
    · subst k2
      rw [if_pos rfl]
      obtain ⟨o, d, ee, cc⟩ := i
      simp only [evC, Mg.msgC] at HB HR HM ⊢
      go_enter Try.func48, Try.ntmps48
      go_wp2_with (go_at_call 80; refine (HM.out _).mono ?_; rintro e w2 ⟨rfl, b2⟩)
      go_ret
      exact ⟨rfl, go_on HB.out b2.out⟩
    · rw [if_neg k2]
      have g2 : (k == 2) = false := by simpa using k2
      by_cases k3 : k = 3 ∨ k = 4
      · rw [if_pos k3]
        obtain ⟨o, d, ee, cc⟩ := i
        have g3 : (k == 3) = true ∨ ((k == 3) = false ∧ (k == 4) = true) := by
          rcases k3 with rfl | rfl
          · exact .inl (by decide)
          · exact .inr ⟨by decide, by decide⟩
        have HG := Lib.hid g3
        simp only [evC, Mg.idC] at HB HR HK ⊢
        by_cases h0 : c = 0
        · subst h0
          rw [if_neg (by simp)]
          simp only [show ((0 : Nat) : Int) = 0 from rfl] at HK
          by_cases hn : n = 0
          · subst hn
            rw [if_pos rfl]
            clear k3 g3 hc hz HM k1 k2
            rcases HG.out with g3 | ⟨g3, g4⟩
            all_goals
              go_enter Try.func48, Try.ntmps48
              go_wp2_with (go_at_call 67; refine (HK.out _).mono ?_; rintro e w2 ⟨rfl, b2⟩; obtain ⟨x0, x1, x2, x3, x4, x5⟩ := ev_cells (HR.out w2 b2.out))
              go_ret
              exact ⟨rfl, go_on HB.out b2.out⟩
          · rw [if_neg hn]
            have hn2 : ((n : Int) == 0) = false := Mg.nz hn
            clear k3 g3 hc hz HM k1 k2 hn
            rcases HG.out with g3 | ⟨g3, g4⟩
            all_goals
              go_enter Try.func48, Try.ntmps48
              go_wp2_with (go_at_call 67; refine (HK.out _).mono ?_; rintro e w2 ⟨rfl, b2⟩; obtain ⟨x0, x1, x2, x3, x4, x5⟩ := ev_cells (HR.out w2 b2.out))
              go_ret
              exact ⟨rfl, go_on HB.out b2.out⟩
        · rw [if_pos h0]
          have hc2 : ((c : Int) == 0) = false := Mg.nz h0
          clear k3 g3 hc hz HM k1 k2 h0
          rcases HG.out with g3 | ⟨g3, g4⟩
          all_goals
            go_enter Try.func48, Try.ntmps48
            go_wp2_with (go_at_call 67; refine (HK.out _).mono ?_; rintro e w2 ⟨rfl, b2⟩; obtain ⟨x0, x1, x2, x3, x4, x5⟩ := ev_cells (HR.out w2 b2.out))
            go_ret
            exact ⟨rfl, go_on HB.out b2.out⟩
      · rw [if_neg k3]
        have g3 : (k == 3) = false := by simp; omega
        have g4 : (k == 4) = false := by simp; omega
        obtain ⟨o, d, ee, cc⟩ := i
        clear k3 k1 k2 hc hz HM HK
        simp only [evC] at HB HR ⊢
        go_enter Try.func48, Try.ntmps48
        go_wp2
        go_ret
        exact ⟨rfl, HB.out⟩
end Go.Proofs.Ytpofdimagfldnaa.So
/- Events, a node with its quota, that came in. -/
namespace Go.Proofs.Ytpofdimagfldnaa.So
open Go.RowKit Go.Deep
open Go.ChangeShapes Go.WideShapes Go.Joins
open Go.Proofs.Ytpofdimagfldnaa.Me Go.Proofs.Ytpofdimagfldnaa.Sb
set_option linter.unusedVariables false
set_option linter.unusedSimpArgs false

/-- An event: its kind, id, data. -/
structure Evt where
  k : Int
  i : Mg.Id4
  p : List Nat
instance instInhabitedEv : Inhabited (Evt × Option Addr × Nat) := ⟨(⟨0, ⟨0, 0, 0, 0⟩, []⟩, none, 0)⟩
def evAt (ls : List Evt) (j : Nat) : Evt := ls.getD j ⟨0, ⟨0, 0, 0, 0⟩, []⟩
theorem evAt_get {ls : List Evt} {j : Nat} (h : j < ls.length) : evAt ls j = ls[j] := by simp [evAt, h]
/-- A slice's address leads to these events. -/
def Evs (w : World) (a : Option Addr) (ls : List Evt) : Prop :=
  ∀ j, j < ls.length → ∃ b off R cr, a = some ⟨b, off, none⟩ ∧ b < w.heap.size ∧ w.cell? ⟨b, off + j * 6, none⟩ = some (.int .i64 (evAt ls j).k) ∧ w.cell? ⟨b, off + j * 6 + 1, none⟩ = some (.int .i64 (evAt ls j).i.o) ∧
    w.cell? ⟨b, off + j * 6 + 2, none⟩ = some (.int .i64 (evAt ls j).i.d) ∧ w.cell? ⟨b, off + j * 6 + 3, none⟩ = some (.int .i64 (evAt ls j).i.e) ∧ w.cell? ⟨b, off + j * 6 + 4, none⟩ = some (.int .i64 (evAt ls j).i.c) ∧
    w.cell? ⟨b, off + j * 6 + 5, none⟩ = some (.slice R (evAt ls j).p.length cr) ∧ (evAt ls j).p.length ≤ cr ∧ cr ≤ 140737488351232 ∧ Me.Rd w w.heap.size R (evAt ls j).p ∧ (R = none → (evAt ls j).p.length = 0 ∧ cr = 0)
theorem weightsAll_mem {H : Type} {P : Program} {e : TypeId} : ∀ {l : List (DataW H)} {d : DataW H}, d ∈ l → ∀ n ∈ d.weights P e, n ∈ DataW.weightsAll P e l
  | x :: r, d, h, n, hn => by
    simp only [DataW.weightsAll, List.mem_append]
    rcases List.mem_cons.mp h with rfl | h'
    · exact .inl hn
    · exact .inr (weightsAll_mem h' n hn)
  | [], _, h, _, _ => by cases h
theorem six_ev : Try.prog.cellsOf 60 = 6 := by kernel_rfl
set_option maxRecDepth 100000 in
theorem ev_in {H : Type} {enc : TypeId × Value → H} {w : World} {base n : Nat} {held : Bool} {cs : List Value} {D : DataW H} {Pl : List MemPlace} (h : DataW.trod enc Try.prog w base (fun _ => true) held n 60 cs = some (D, Pl)) (hw : ∀ x ∈ D.weights Try.prog 60, x ≤ reachBytes) :
    ∃ (q : Evt) (A : Option Addr) (c : Nat), cs = (evC q.k q.i A q.p.length c).toList ∧ q.p.length ≤ c ∧ c ≤ 140737488351232 ∧ Me.Rd w w.heap.size A q.p ∧ (A = none → q.p.length = 0 ∧ c = 0) := by
  obtain ⟨y0, y1, m, hx, hlen, h0, h1⟩ := trod_struct2 Try.underlying60 h
  rw [six_ev] at hlen
  match cs, hlen with
  | [v0, v1, v2, v3, v4, v5], _ =>
    simp only [Mg.one_int, Mg.five_msg] at h0 h1
    simp at h0 h1
    obtain ⟨k, hk, _, _⟩ := DataW.trod_int Try.underlying3 h0
    simp only [List.cons.injEq, and_true] at hk
    simp only [Prod.mk.injEq] at hx
    obtain ⟨i, A, l, c, p, e, hi, hc⟩ := Mg.msg_in h1 fun x hxx => hw x (by
      rw [hx.1]
      simp only [DataW.weights, Try.underlying60]
      simp only [Array.toList, List.map_cons, List.map_nil, DataW.weightsEach, List.mem_append]
      exact .inr (.inl hxx))
    simp only [Mg.msgC, List.cons.injEq, and_true] at e
    obtain ⟨e1, e2, e3, e4, e5⟩ := e
    obtain ⟨b1, b2, b3, b4, b5⟩ := hi
    subst b1
    refine ⟨⟨k, i, p⟩, A, c, by rw [hk, e1, e2, e3, e4, e5]; rfl, b2, hc, b4, ?_⟩
    exact b5
theorem evs_in {H : Type} {enc : TypeId × Value → H} {w : World} {base fuel : Nat} {held : Bool} {a : Option Addr} {len cap : Nat} {d : DataW H} {pl : List MemPlace}
    (h : DataW.trod enc Try.prog w base (fun _ => true) held fuel 26 [.slice a len cap] = some (d, pl)) (hw : ∀ x ∈ d.weights Try.prog 26, x ≤ reachBytes) :
    ∃ ls : List Evt, len = ls.length ∧ len ≤ cap ∧ cap ≤ 9223372036854775807 ∧ Evs w a ls := by
  rcases open_slice Try.underlying26 h with ⟨hcs, _⟩ | ⟨ad, l, c, m, n, D, Pl, hcs, _, hl, hm, hmm, hx, hel⟩
  · simp at hcs
    obtain ⟨rfl, rfl, rfl⟩ := hcs
    exact ⟨[], rfl, Nat.le_refl _, Nat.zero_le _, fun j hj => absurd hj (by simp)⟩
  · simp at hcs
    obtain ⟨rfl, rfl, rfl⟩ := hcs
    simp only [if_true] at hmm
    subst hmm
    simp only [Prod.mk.injEq] at hx
    rw [six_ev] at hel
    have each : ∀ i, i < len → ∃ q : Evt × Option Addr × Nat, (∀ k x, (evC q.1.k q.1.i q.2.1 q.1.p.length q.2.2).toList[k]? = some x → w.cell? ((ad.add (i * 6)).add k) = some x) ∧
        q.1.p.length ≤ q.2.2 ∧ q.2.2 ≤ 140737488351232 ∧ Me.Rd w w.heap.size q.2.1 q.1.p ∧ (q.2.1 = none → q.1.p.length = 0 ∧ q.2.2 = 0) := by
      intro i hi
      obtain ⟨cs', h1, h2⟩ := hel i (by omega)
      obtain ⟨_, _, hcell⟩ := World.cells?_some h1
      obtain ⟨q, R, cr, rfl, g1, g2, g3, g4⟩ := ev_in h2 fun x hxx => by
        refine hw x ?_
        rw [hx.1]
        simp only [DataW.weights, Try.underlying26]
        refine List.mem_cons_of_mem _ (List.mem_append_left _ (weightsAll_mem (d := D i) ?_ x hxx))
        exact List.mem_map.mpr ⟨i, List.mem_range.mpr hi, rfl⟩
      exact ⟨(q, R, cr), fun k x hk => by
        have hk' := (List.getElem?_eq_some_iff.1 hk).1
        have hk6 : k < 6 := hk'
        rw [hcell k hk6]
        simpa using hk, g1, g2, g3, g4⟩
    obtain ⟨q, hq⟩ := choose_lt (α := Evt × Option Addr × Nat) each
    refine ⟨(List.range len).map fun i => (q i).1, by simp, hl, by unfold maxLen at hm; omega, fun j hj => ?_⟩
    have hj' : j < len := by simpa using hj
    have hat : evAt ((List.range len).map fun i => (q i).1) j = (q j).1 := by simp [evAt, hj']
    obtain ⟨cc, g1, g2, g3, g4⟩ := hq j hj'
    rw [hat]
    have c0 := cc 0 _ rfl
    have c1 := cc 1 _ rfl
    have c2 := cc 2 _ rfl
    have c3 := cc 3 _ rfl
    have c4 := cc 4 _ rfl
    have c5 := cc 5 _ rfl
    obtain ⟨b, off, spot⟩ := ad
    have hspot : spot = none := by
      have h0 := World.cell?_spot ((hq 0 (by omega)).1 0 _ rfl)
      simpa [Addr.add] using h0
    subst hspot
    simp only [add_plain, Nat.add_zero] at c0 c1 c2 c3 c4 c5
    exact ⟨b, off, (q j).2.1, (q j).2.2, rfl, World.block_lt_of_cell? w _ c0, c0, c1, c2, c3, c4, c5, g1, g2, g3, g4⟩
theorem Evs.take {w : World} {a : Option Addr} {ls : List Evt} (h : Evs w a ls) (n : Nat) : Evs w a (ls.take n) := fun j hj => by
  have hj' : j < n ∧ j < ls.length := by simp at hj; omega
  have : evAt (ls.take n) j = evAt ls j := by simp [evAt, hj'.1]
  rw [this]
  exact h j hj'.2
theorem Evs.below {w w' : World} {A : Option Addr} {l : List Evt} (h : Evs w A l) (hb : Below w.heap.size w w') : Evs w' A l := fun j hj => by
  obtain ⟨b, off, R, cr, e1, e2, c0, c1, c2, c3, c4, c5, g1, g2, g3, g4⟩ := h j hj
  exact ⟨b, off, R, cr, e1, Nat.lt_of_lt_of_le e2 hb.size, (hb.cell e2).trans c0, (hb.cell e2).trans c1, (hb.cell e2).trans c2, (hb.cell e2).trans c3, (hb.cell e2).trans c4, (hb.cell e2).trans c5, g1, g2, Me.Rd.more (g3.below hb) hb.size, g4⟩
theorem four_set : Try.prog.cellsOf 25 = 4 := by kernel_rfl
theorem three_q : Try.prog.cellsOf 23 = 3 := by kernel_rfl
set_option maxRecDepth 100000 in
theorem set_val {H : Type} {enc : TypeId × Value → H} {w : World} {base : Nat} {held : Bool} {v : Value} {D : DataW H} {Pl : List MemPlace} {r : Reach} {b0 : Nat} (hv : Value.okWide Try.prog w r b0 25 v) (h : DataW.Trod enc Try.prog w base (fun _ => true) held 25 v D Pl) :
    ∃ (a b c d : Int), v = .agg #[.int .i64 a, .int .i64 b, .int .i64 c, .int .i64 d] := by
  obtain ⟨cs, rfl, hsz⟩ := okWide_struct Try.underlying25 hv
  obtain ⟨fuel, hf⟩ := h
  obtain ⟨y0, y1, m, hx, hlen, h0, h1⟩ := trod_struct2 Try.underlying25 hf
  rw [four_set] at hlen
  have e0 : (Value.agg cs).cells = cs := rfl
  rw [e0] at hlen h0 h1
  obtain ⟨l, hl⟩ : ∃ l, cs.toList = l := ⟨_, rfl⟩
  rw [hl] at hlen h0 h1
  match l, hlen with
  | [v0, v1, v2, v3], _ =>
    simp only [Mg.one_int, three_q] at h0 h1
    simp at h0 h1
    obtain ⟨k0, hk0, _, _⟩ := DataW.trod_int Try.underlying3 h0
    obtain ⟨z0, z1, z2, m2, _, _, g0, g1, g2⟩ := trod_struct3 Try.underlying23 h1
    simp only [Mg.one_int] at g0 g1 g2
    simp at g0 g1 g2
    obtain ⟨k1, hk1, _, _⟩ := DataW.trod_int Try.underlying3 g0
    obtain ⟨k2, hk2, _, _⟩ := DataW.trod_int Try.underlying3 g1
    obtain ⟨k3, hk3, _, _⟩ := DataW.trod_int Try.underlying3 g2
    simp only [List.cons.injEq, and_true] at hk0 hk1 hk2 hk3
    refine ⟨k0, k1, k2, k3, ?_⟩
    rw [hk0, hk1, hk2, hk3] at hl
    have : cs = #[.int .i64 k0, .int .i64 k1, .int .i64 k2, .int .i64 k3] := by rw [← Array.toList_inj, hl]
    rw [this]
set_option maxRecDepth 100000 in
theorem ev_val {H : Type} {enc : TypeId × Value → H} {w : World} {base : Nat} {held : Bool} {v : Value} {D : DataW H} {Pl : List MemPlace} {r : Reach} {b0 : Nat} (hv : Value.okWide Try.prog w r b0 60 v) (h : DataW.Trod enc Try.prog w base (fun _ => true) held 60 v D Pl) (hw : ∀ x ∈ D.weights Try.prog 60, x ≤ reachBytes) :
    ∃ (q : Evt) (A : Option Addr) (c : Nat), v = .agg (evC q.k q.i A q.p.length c) ∧ q.p.length ≤ c ∧ c ≤ 140737488351232 ∧ Me.Rd w w.heap.size A q.p ∧ (A = none → q.p.length = 0 ∧ c = 0) := by
  obtain ⟨cs, rfl, hsz⟩ := okWide_struct Try.underlying60 hv
  obtain ⟨fuel, hf⟩ := h
  obtain ⟨q, A, c, e, hi⟩ := ev_in hf hw
  refine ⟨q, A, c, ?_, hi⟩
  have : cs.toList = (evC q.k q.i A q.p.length c).toList := by simpa [Value.cells] using e
  rw [Array.toList_inj.1 this]
set_option maxRecDepth 100000 in
set_option maxHeartbeats 4000000 in
/-- Fifty at most are looked at. -/
theorem cut_any (a : Option Addr) (cap : Nat) (ls : List Evt) (w : World) (hc : ls.length ≤ cap) (hm : cap ≤ 9223372036854775807) (L : Nat) (hL : (ls.take 50).length = L) : Calls Try.prog 18 #[.slice a ls.length cap] w fun e w' => e = .returned (.slice a L cap) ∧ w = w' := by
  by_cases h : 50 < ls.length
  · have HL : Hid (L = 50) := by show _ = _; rw [← hL]; simp; omega
    have g1 : (50 : Int) < (ls.length : Int) := by omega
    have g2 : (50 : Int) ≤ (cap : Int) := by omega
    obtain ⟨n, hn⟩ : ∃ n, ls.length = n := ⟨_, rfl⟩
    rw [hn] at g1 ⊢
    clear h hc hn hL
    go_enter Try.func18, Try.ntmps18
    go_wp2
    go_ret
    exact ⟨by rw [HL.out]; rfl, rfl⟩
  · have HL : Hid (L = ls.length) := by show _ = _; rw [← hL]; simp; omega
    have g1 : ¬ (50 : Int) < (ls.length : Int) := by omega
    obtain ⟨n, hn⟩ : ∃ n, ls.length = n := ⟨_, rfl⟩
    rw [hn] at g1 ⊢
    have HN : Hid (ls.length = n) := hn
    clear h hc hn hL
    go_enter Try.func18, Try.ntmps18
    go_wp2
    go_ret
    exact ⟨by rw [HL.out, HN.out]; rfl, rfl⟩
end Go.Proofs.Ytpofdimagfldnaa.So
