/- What a change leaves alone; structs' boxes: for seats without bytes (out of MemB, MgGath, MgGetI, MgRGet). -/
import Derived.Test.YtohfoieibgmmdaaZ1
import Derived.Test.YtohfoieibgmmdaaIKit
import Derived.Handy
import Derived.Deep.MidRow
import Derived.Laws.ResultCell
import Derived.Laws.Tables
import Derived.Shelf.Abstract
namespace Go.Proofs.Ytohfoieibgmmdaa.Sb
open Go.RowKit
open Go.Proofs.Ytohfoieibgmmdaa.Me
set_option linter.unusedVariables false
set_option linter.unusedSimpArgs false

/-- All lies as it lay in w, but for what lies in the blocks S, and for new ones. -/
structure But (S : Nat → Prop) (w X : World) : Prop where
  os : X.os = w.os
  tape : X.tape = w.tape
  output : X.output = w.output
  size : w.heap.size ≤ X.heap.size
  same : ∀ k, k < w.heap.size → ¬ S k → X.heap[k]? = w.heap[k]?
theorem But.refl (S : Nat → Prop) (w : World) : But S w w := ⟨rfl, rfl, rfl, Nat.le_refl _, fun _ _ _ => rfl⟩
theorem But.trans {S S' : Nat → Prop} {w X Y : World} (h : But S w X) (k : But S' X Y) (hS : ∀ b, b < w.heap.size → S' b → S b) : But S w Y :=
  ⟨k.os.trans h.os, k.tape.trans h.tape, k.output.trans h.output, Nat.le_trans h.size k.size, fun b hb hn => (k.same b (Nat.lt_of_lt_of_le hb h.size) (fun hs => hn (hS b hb hs))).trans (h.same b hb hn)⟩
theorem But.mono {S S' : Nat → Prop} {w X : World} (h : But S w X) (hS : ∀ b, b < w.heap.size → S b → S' b) : But S' w X :=
  ⟨h.os, h.tape, h.output, h.size, fun b hb hn => h.same b hb (fun hs => hn (hS b hb hs))⟩
theorem But.of_below {S : Nat → Prop} {w X : World} (h : Below w.heap.size w X) : But S w X := ⟨h.os, h.tape, h.output, h.size, fun b hb _ => h.block b hb⟩
theorem But.below {S : Nat → Prop} {w X : World} {B : Nat} (h : But S w X) (hB : B ≤ w.heap.size) (hS : ∀ k, S k → B ≤ k) : Below B w X :=
  ⟨h.os, h.tape, h.output, h.size, fun k hk => h.same k (by omega) (fun hs => by have := hS k hs; omega)⟩
theorem But.grown {S : Nat → Prop} {w X Y : World} {row : Option Nat} (h : But S w X) (hg : X.grownBy Y row) (hr : ∀ r, row = some r → S r ∨ w.heap.size ≤ r) : But S w Y :=
  ⟨hg.os.trans h.os, hg.tape.trans h.tape, hg.output.trans h.output, Nat.le_trans h.size hg.size, fun k hk hS => (hg.block k (Nat.lt_of_lt_of_le hk h.size) (fun e => by
    rcases hr k e.symm with h1 | h1
    · exact hS h1
    · omega)).trans (h.same k hk hS)⟩
theorem grown_set (W : World) (p : Addr) (v : Value) : W.grownBy (W.setCell p v) (some p.block) :=
  ⟨rfl, rfl, rfl, by simp, fun k _ hk => Below.heap_setCell _ _ _ k (fun e => hk (by rw [e]))⟩
theorem But.set {S : Nat → Prop} {w X : World} (h : But S w X) {p : Addr} (hp : S p.block ∨ w.heap.size ≤ p.block) (u : Value) : But S w (X.setCell p u) :=
  h.grown (grown_set X p u) fun r e => by cases e; exact hp
theorem But.alloc {S : Nat → Prop} {w X : World} (h : But S w X) (o : Obj) : But S w (X.alloc o) := h.grown (World.grownBy_alloc X o none) (by simp)
theorem But.at_ {S : Nat → Prop} {w X : World} {b : Nat} {o : Obj} (h : But S w X) (hb : w.heap[b]? = some o) (hS : ¬ S b) : X.heap[b]? = some o := (h.same b (Array.getElem?_eq_some_iff.1 hb).1 hS).trans hb
theorem own_same {w w' : World} {B T s n : Nat} {v : Value} {xs : List Value} (h : w.ownsRow B T s v n xs) (hk : ∀ k, v.ownBlock = some k → k < w.heap.size → w'.heap[k]? = w.heap[k]?) : w'.ownsRow B T s v n xs := by
  refine ⟨h.1, ?_⟩
  rcases h.2 with h' | ⟨g, cap, cur, rfl, q2, q3, q4⟩
  · exact .inl h'
  · exact .inr ⟨g, cap, cur, rfl, q2, (hk g rfl (Array.getElem?_eq_some_iff.1 q3).1).trans q3, q4⟩
theorem own_base {w : World} {B B' T s n : Nat} {v : Value} {xs : List Value} (h : w.ownsRow B T s v n xs) (hB : ∀ k, v.ownBlock = some k → B' ≤ k) : w.ownsRow B' T s v n xs := by
  refine ⟨h.1, ?_⟩
  rcases h.2 with h' | ⟨g, cap, cur, rfl, q2, q3, q4⟩
  · exact .inl h'
  · exact .inr ⟨g, cap, cur, rfl, hB g rfl, q3, q4⟩
theorem own_lt {w : World} {B T s n : Nat} {v : Value} {xs : List Value} (h : w.ownsRow B T s v n xs) : ∀ k, v.ownBlock = some k → k < w.heap.size := fun k e => (h.lt k e).2
theorem below_setRow {B : Nat} {w W : World} {D : Nat} (cs : Array Value) (h : Below B w W) (hD : B ≤ D) : Below B w (W.setRow D cs) :=
  ⟨h.os, h.tape, h.output, by simpa using h.size, fun c hc => (setRow_other _ _ c _ (by omega)).trans (h.block c hc)⟩
theorem But.setRow {S : Nat → Prop} {w X : World} (h : But S w X) {D : Nat} (hD : S D ∨ w.heap.size ≤ D) (cs : Array Value) : But S w (X.setRow D cs) :=
  ⟨h.os, h.tape, h.output, by simpa using h.size, fun k hk hn => (setRow_other _ _ k _ (fun e => by subst e; rcases hD with hD | hD; exact hn hD; omega)).trans (h.same k hk hn)⟩
theorem go_on {w W W' : World} (h : Below w.heap.size w W) (h2 : Below W.heap.size W W') : Below w.heap.size w W' := h.trans (h2.mono h.size)
/-- A struct's return out of its box. -/
theorem ret_box {fn : Func} {R : Ending → World → Prop} {a : Act} {w : World} {g : Nat} {cs : Array Value} {p : Tmp} {ty t : TypeId} {fr : Nat × Nat} {d : TypeDesc} (hres : fn.results = #[.cell p ty]) (hp : a.tmps.getD p undef = .pointer (some ⟨g, 0, none⟩)) (hg : w.heap[g]? = some (.cells cs t fr))
    (hd : d.isRow = true) (hu : Try.prog.underlying ty = some d) (hi : (Try.prog.info? ty).map (·.size) = some cs.size) (hdef : a.defers = [])
    (hR : R (.returned (.agg cs)) w) : bodyPost Try.prog fn R .ret a w :=
  bodyPost_ret (v := .agg cs) (results_cell_row hres a.tmps w g t cs fr d hp hg hu (by cases d <;> first | rfl | cases hd) hi) hdef hR
theorem ret_box2 {fn : Func} {R : Ending → World → Prop} {a : Act} {w : World} {g : Nat} {cs : Array Value} {p u : Tmp} {ty t : TypeId} {fr : Nat × Nat} {d : TypeDesc} (hres : fn.results = #[.cell p ty, .tmp u]) (hp : a.tmps.getD p undef = .pointer (some ⟨g, 0, none⟩)) (hg : w.heap[g]? = some (.cells cs t fr))
    (hd : d.isRow = true) (hu : Try.prog.underlying ty = some d) (hi : (Try.prog.info? ty).map (·.size) = some cs.size) (hdef : a.defers = [])
    (hR : R (.returned (.tuple #[.agg cs, a.tmps.getD u undef])) w) : bodyPost Try.prog fn R .ret a w :=
  bodyPost_ret (v := .tuple #[.agg cs, a.tmps.getD u undef]) (by rw [results_cell_tmp hres, hp]; simp only [asAddr, Sem.run_pure, Result.andThen_ok, run_loadVar_row w g t ty cs fr d hg hu (by cases d <;> first | rfl | cases hd) hi]) hdef hR
theorem id_cells {W : World} {D : Nat} {o d e c : Int} (h : W.heap[D]? = some (.cells #[.int .i64 o, .int .i64 d, .int .i64 e, .int .i64 c] 23 (0, 0))) : W.cell? ⟨D, 0, none⟩ = some (.int .i64 o) ∧ W.cell? ⟨D, 1, none⟩ = some (.int .i64 d) ∧ W.cell? ⟨D, 2, none⟩ = some (.int .i64 e) ∧ W.cell? ⟨D, 3, none⟩ = some (.int .i64 c) := by
  refine ⟨?_, ?_, ?_, ?_⟩
  all_goals
    rw [cell_of_row _ D _ _ _ (0, 0) h]
    rfl
end Go.Proofs.Ytohfoieibgmmdaa.Sb
/- Small calls of hop: isNode, isNoCost, formIf; the document's Node, Has, Right. -/
namespace Go.Proofs.Ytohfoieibgmmdaa.Hp
open Go.RowKit Go.Shelf
open Go.Proofs.Ytohfoieibgmmdaa.Sb
set_option linter.unusedVariables false
set_option linter.unusedSimpArgs false

theorem rd_at {w : World} {B : Nat} {A : Option Addr} {l : List Int} (h : Mi.Rd w B A l) {i : Nat} (hi : i < l.length) : ∃ b off, A = some ⟨b, off, none⟩ ∧ w.cell? ⟨b, off + i, none⟩ = some (.int .i64 (Mi.at_ l i)) := by
  obtain ⟨b, off, e, _, hc⟩ := h (by omega)
  exact ⟨b, off, e, hc i hi⟩
/-- Is a form right? -/
def fe (b : Bool) : Nat := if b = true then 0 else 2
theorem zq (n : Nat) : ((n : Int) == 0) = decide (n = 0) := by
  by_cases h : n = 0
  · subst h; rfl
  · rw [decide_eq_false h, beq_eq_false_iff_ne]
    omega
theorem formIf_any (b : Bool) (w : World) : Calls Try.prog 64 #[.bool b] w fun e w' => e = .returned (.int .i64 (fe b : Int)) ∧ w = w' := by
  cases b with
  | true =>
    go_enter Try.func64, Try.ntmps64
    go_wp2
    go_ret
    exact ⟨rfl, rfl⟩
  | false =>
    go_enter Try.func64, Try.ntmps64
    go_wp2
    go_ret
    exact ⟨rfl, rfl⟩
def isN (n : Int) : Bool := decide (0 ≤ n) && decide (n < 64)
theorem isN_of {n : Int} (h : isN n = true) : ∃ m : Nat, n = (m : Int) ∧ m < 64 := by
  simp only [isN, Bool.and_eq_true, decide_eq_true_eq] at h
  exact ⟨n.toNat, by omega, by omega⟩
theorem isN_nat {m : Nat} (h : m < 64) : isN (m : Int) = true := by
  simp only [isN, Bool.and_eq_true, decide_eq_true_eq]
  omega
theorem isNode_any (n : Int) (w : World) : Calls Try.prog 60 #[.int .i64 n] w fun e w' => e = .returned (.bool (isN n)) ∧ w = w' := by
  unfold isN
  by_cases h1 : 0 ≤ n
  · have h3 : decide (0 ≤ n) = true := decide_eq_true h1
    go_enter Try.func60, Try.ntmps60
    go_wp2
    go_ret
    simp [h3]
  · have h3 : decide (0 ≤ n) = false := decide_eq_false h1
    go_enter Try.func60, Try.ntmps60
    go_wp2
    go_ret
    simp [h3]
theorem RNode_any (n : Int) (w : World) : Calls Try.prog 77 #[.int .i64 n] w fun e w' => e = .returned (.bool (isN n)) ∧ w = w' := by
  have e63 : decide (n < 64) = decide (n ≤ 63) := decide_eq_decide.2 (by omega)
  unfold isN
  rw [e63]
  by_cases h1 : 0 ≤ n
  · have h3 : decide (0 ≤ n) = true := decide_eq_true h1
    clear e63
    go_enter Try.func77, Try.ntmps77
    go_wp2
    go_ret
    simp [h3]
  · have h3 : decide (0 ≤ n) = false := decide_eq_false h1
    clear e63
    go_enter Try.func77, Try.ntmps77
    go_wp2
    go_ret
    simp [h3]
/-- A number that is no cost. -/
def badC (x : Int) : Bool := decide (x < 0) || decide (16 < x)
theorem isNoCost_any (x : Int) (w : World) : Calls Try.prog 67 #[.int .i64 x] w fun e w' => e = .returned (.bool (badC x)) ∧ w = w' := by
  unfold badC
  by_cases h1 : x < 0
  · have h3 : decide (x < 0) = true := decide_eq_true h1
    go_enter Try.func67, Try.ntmps67
    go_wp2
    go_ret
    simp [h3]
  · have h3 : decide (x < 0) = false := decide_eq_false h1
    go_enter Try.func67, Try.ntmps67
    go_wp2
    go_ret
    simp [h3]
set_option maxRecDepth 100000 in
theorem IndexF_any (A : Option Addr) (c : Nat) (l : List Int) (w : World) (B : Nat) (hr : Hid (Mi.Rd w B A l)) (hc : l.length ≤ 9223372036854775806) :
    Calls Try.prog 92 #[.slice A l.length c, .func (.func 67) #[] #[]] w fun e w' => ∃ r : Int, e = .returned (.int .i64 r) ∧ decide (0 ≤ r) = l.any badC ∧ w = w' := by
  have HF := Lib.hid isNoCost_any
  have eg : ∀ args w, (callFunc 67 args).run Try.prog w = .ok (.enter 67 args) w := enters_of Try.func67 (by kernel_rfl) rfl
  obtain ⟨N, hN⟩ : ∃ N, l.length = N := ⟨_, rfl⟩
  have HN : Hid (l.length = N) := hN
  rw [hN] at hc ⊢
  clear hN
  go_enter Try.func92, Try.ntmps92
  go_wp2
  go_loopw [8] (fun i wr => ∃ k : Nat, k ≤ N ∧ i = .int .i64 k ∧ Hid (∀ j, j < k → badC (Mi.at_ l j) = false) ∧ Hid (w = wr)) (fun i _ => N - (intOf i).toNat)
  case atStart => exact ⟨0, Nat.zero_le _, rfl, fun j hj => absurd hj (by omega), rfl⟩
  case round =>
    obtain ⟨k, hk, rfl, hok, HW⟩ := hrel
    by_cases hlt : k < N
    · obtain ⟨b, off, rfl, _, hcell⟩ := hr.out (by rw [HN.out]; omega)
      have y0 := hcell k (by rw [HN.out]; exact hlt)
      rw [HW.out] at y0
      obtain ⟨x, hx⟩ : ∃ x, Mi.at_ l k = x := ⟨_, rfl⟩
      rw [hx] at y0
      have HX := Lib.hid (fun W => HF.out x W)
      have g1 : (k : Int) < (N : Int) := by omega
      have g2 : ¬ (N : Int) ≤ (k : Int) := by omega
      cases hb : badC x with
      | false =>
        rw [hb] at HX
        have HOK : Hid (∀ j, j < k + 1 → badC (Mi.at_ l j) = false) := fun j hj => by
          by_cases e : j = k
          · subst e; rw [hx]; exact hb
          · exact hok.out j (by omega)
        clear hb hx hok hcell
        go_wp2_with (go_at_call 67; refine (HX.out _).mono ?_; rintro e w2 ⟨rfl, rfl⟩)
        go_roundw
        case rel => exact ⟨k + 1, by omega, by go_num, HOK, HW⟩
        case measure => simp [intOf]; omega
      | true =>
        rw [hb] at HX
        have HA : Hid (l.any badC = true) := by
          show _ = _
          refine List.any_eq_true.2 ⟨x, ?_, hb⟩
          rw [← hx, Mi.at_get (by rw [HN.out]; exact hlt)]
          exact List.getElem_mem _
        clear hb hx hok hcell
        go_wp2_with (go_at_call 67; refine (HX.out _).mono ?_; rintro e w2 ⟨rfl, rfl⟩)
        go_ret
        refine ⟨_, rfl, ?_, HW.out⟩
        rw [HA.out]
        simp
    · obtain rfl : k = N := by omega
      have HA : Hid (l.any badC = false) := by
        show _ = _
        refine List.any_eq_false.2 fun m hm => ?_
        obtain ⟨j, hj, rfl⟩ := List.mem_iff_getElem.1 hm
        have := hok.out j (by rw [← HN.out]; exact hj)
        rw [Mi.at_get hj] at this
        simp [this]
      clear hok
      go_wp2
      go_ret
      refine ⟨_, rfl, ?_, HW.out⟩
      rw [HA.out]
      simp
theorem ContainsF_any (A : Option Addr) (c : Nat) (l : List Int) (w : World) (B : Nat) (hr : Hid (Mi.Rd w B A l)) (hc : l.length ≤ 9223372036854775806) :
    Calls Try.prog 66 #[.slice A l.length c, .func (.func 67) #[] #[]] w fun e w' => e = .returned (.bool (l.any badC)) ∧ w = w' := by
  have HI := Lib.hid (IndexF_any A c l w B hr hc)
  obtain ⟨q, hq⟩ : ∃ q, l.any badC = q := ⟨_, rfl⟩
  obtain ⟨N, hN⟩ : ∃ N, l.length = N := ⟨_, rfl⟩
  rw [hN, hq] at HI
  rw [hN, hq]
  clear hN hq hc
  go_enter Try.func66, Try.ntmps66
  go_wp2_with (go_at_call 92; refine HI.out.mono ?_; rintro e w2 ⟨r, rfl, hr2, rfl⟩)
  go_ret
  exact ⟨rfl, rfl⟩
set_option maxRecDepth 100000 in
theorem RHas_any (A : Option Addr) (c B : Nat) (l : List Int) (n : Int) (w : World) (hr : Hid (Mi.Rd w B A l)) (hc : l.length ≤ 9223372036854775806) : Calls Try.prog 78 #[.slice A l.length c, .int .i64 n] w fun e w' => e = .returned (.bool (l.contains n)) ∧ w = w' := by
  obtain ⟨N, hN⟩ : ∃ N, l.length = N := ⟨_, rfl⟩
  have HN : Hid (l.length = N) := hN
  rw [hN] at hc ⊢
  clear hN
  go_enter Try.func78, Try.ntmps78
  go_wp2
  go_loopw [5] (fun i wr => ∃ k : Nat, k ≤ N ∧ i = .int .i64 k ∧ Hid (∀ j, j < k → Mi.at_ l j ≠ n) ∧ Hid (w = wr)) (fun i _ => N - (intOf i).toNat)
  case atStart => exact ⟨0, Nat.zero_le _, rfl, fun j hj => absurd hj (by omega), rfl⟩
  case round =>
    obtain ⟨k, hk, rfl, hok, HW⟩ := hrel
    by_cases hlt : k < N
    · obtain ⟨b, off, rfl, y0⟩ := rd_at hr.out (i := k) (by rw [HN.out]; exact hlt)
      rw [HW.out] at y0
      obtain ⟨x, hx⟩ : ∃ x, Mi.at_ l k = x := ⟨_, rfl⟩
      rw [hx] at y0
      by_cases he : x = n
      · have HA : Hid (l.contains n = true) := by
          show _ = _
          rw [List.contains_iff_mem, ← he, ← hx, Mi.at_get (by rw [HN.out]; exact hlt)]
          exact List.getElem_mem _
        have g1 : (x == n) = true := beq_iff_eq.mpr he
        clear he hx hok
        go_wp2
        go_ret
        exact ⟨by rw [HA.out]; rfl, HW.out⟩
      · have HOK : Hid (∀ j, j < k + 1 → Mi.at_ l j ≠ n) := fun j hj => by
          by_cases e : j = k
          · subst e; rw [hx]; exact he
          · exact hok.out j (by omega)
        have g1 : (x == n) = false := beq_eq_false_iff_ne.mpr he
        clear he hx hok
        go_wp2
        go_roundw
        case rel => exact ⟨k + 1, by omega, by go_num, HOK, HW⟩
        case measure => simp [intOf]; omega
    · obtain rfl : k = N := by omega
      have HA : Hid (l.contains n = false) := by
        show _ = _
        cases hb : l.contains n with
        | false => rfl
        | true =>
          rw [List.contains_iff_mem] at hb
          obtain ⟨j, hj, e⟩ := List.mem_iff_getElem.1 hb
          have := hok.out j (by rw [← HN.out]; exact hj)
          rw [Mi.at_get hj] at this
          exact absurd e this
      clear hok
      go_wp2
      go_ret
      exact ⟨by rw [HA.out]; rfl, HW.out⟩
/-- Right costs. -/
def rightB (l : List Int) : Bool := !(l.any badC) && decide (l.length = 64)
set_option maxRecDepth 100000 in
theorem RRight_any (A : Option Addr) (c B : Nat) (l : List Int) (w : World) (hr : Hid (Mi.Rd w B A l)) (hc : l.length ≤ 9223372036854775806) : Calls Try.prog 71 #[.slice A l.length c] w fun e w' => e = .returned (.bool (rightB l)) ∧ w = w' := by
  obtain ⟨N, hN⟩ : ∃ N, l.length = N := ⟨_, rfl⟩
  have HN : Hid (l.length = N) := hN
  rw [hN] at hc ⊢
  clear hN
  go_enter Try.func71, Try.ntmps71
  go_wp2
  go_loopw [3] (fun i wr => ∃ k : Nat, k ≤ N ∧ i = .int .i64 k ∧ Hid (∀ j, j < k → badC (Mi.at_ l j) = false) ∧ Hid (w = wr)) (fun i _ => N - (intOf i).toNat)
  case atStart => exact ⟨0, Nat.zero_le _, rfl, fun j hj => absurd hj (by omega), rfl⟩
  case round =>
    obtain ⟨k, hk, rfl, hok, HW⟩ := hrel
    by_cases hlt : k < N
    · obtain ⟨b, off, rfl, y0⟩ := rd_at hr.out (i := k) (by rw [HN.out]; exact hlt)
      rw [HW.out] at y0
      obtain ⟨x, hx⟩ : ∃ x, Mi.at_ l k = x := ⟨_, rfl⟩
      rw [hx] at y0
      have hmem : x ∈ l := by
        rw [← hx, Mi.at_get (by rw [HN.out]; exact hlt)]
        exact List.getElem_mem _
      by_cases h1 : x < 0
      · have HA : Hid (rightB l = false) := by
          show _ = _
          have : l.any badC = true := List.any_eq_true.2 ⟨x, hmem, by simp [badC, h1]⟩
          simp [rightB, this]
        clear hx hok hmem
        go_wp2
        go_ret
        exact ⟨by rw [HA.out]; rfl, HW.out⟩
      · by_cases h2 : 16 < x
        · have HA : Hid (rightB l = false) := by
            show _ = _
            have : l.any badC = true := List.any_eq_true.2 ⟨x, hmem, by simp [badC, h2]⟩
            simp [rightB, this]
          clear hx hok hmem
          go_wp2
          go_ret
          exact ⟨by rw [HA.out]; rfl, HW.out⟩
        · have HOK : Hid (∀ j, j < k + 1 → badC (Mi.at_ l j) = false) := fun j hj => by
            by_cases e : j = k
            · subst e; rw [hx]; simp [badC, h1, h2]
            · exact hok.out j (by omega)
          clear hx hok hmem
          go_wp2
          go_roundw
          case rel => exact ⟨k + 1, by omega, by go_num, HOK, HW⟩
          case measure => simp [intOf]; omega
    · obtain rfl : k = N := by omega
      have HA : Hid (rightB l = ((k : Int) == 64)) := by
        show _ = _
        have : l.any badC = false := List.any_eq_false.2 fun x hx => by
          obtain ⟨j, hj, rfl⟩ := List.mem_iff_getElem.1 hx
          have := hok.out j (by rw [← HN.out]; exact hj)
          rw [Mi.at_get hj] at this
          simp [this]
        unfold rightB
        rw [this, HN.out]
        by_cases e : k = 64
        · subst e; rfl
        · rw [decide_eq_false e, beq_eq_false_iff_ne.mpr (by omega)]; rfl
      clear hok
      go_wp2
      go_ret
      exact ⟨by rw [HA.out]; rfl, HW.out⟩
/-! ### First finds -/
end Go.Proofs.Ytohfoieibgmmdaa.Hp
