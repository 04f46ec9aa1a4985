/- Events, a node with its quota, that came in. -/
import Derived.Test.YtfnlhfelpdkieaaGreatZ2
import Derived.Test.YtfnlhfelpdkieaaGreatZ13
import Derived.Test.YtfnlhfelpdkieaaGreatZ18
import Derived.Test.YtfnlhfelpdkieaaGreatZ5
import Derived.Test.YtfnlhfelpdkieaaGreatZ11
import Derived.Deep.Strs
import Derived.WideShapes
namespace Go.Proofs.YtfnlhfelpdkieaaGreat.So
open Go.RowKit Go.Deep
open Go.ChangeShapes Go.WideShapes Go.Joins
open Go.Proofs.YtfnlhfelpdkieaaGreat.Me Go.Proofs.YtfnlhfelpdkieaaGreat.Sb
set_option linter.unusedVariables false
set_option linter.unusedSimpArgs false

/-- An event: its kind, id, data. -/
structure Evt where
  k : Int
  i : Mg.Id4
  p : List Nat
instance instInhabitedEv : Inhabited (Evt × Option Addr × Nat) := ⟨(⟨0, ⟨0, 0, 0, 0⟩, []⟩, none, 0)⟩
def evAt (ls : List Evt) (j : Nat) : Evt := ls.getD j ⟨0, ⟨0, 0, 0, 0⟩, []⟩
theorem evAt_get {ls : List Evt} {j : Nat} (h : j < ls.length) : evAt ls j = ls[j] := by simp [evAt, h]
/-- A slice's address leads to these events. -/
def Evs (w : World) (a : Option Addr) (ls : List Evt) : Prop :=
  ∀ j, j < ls.length → ∃ b off R cr, a = some ⟨b, off, none⟩ ∧ b < w.heap.size ∧ w.cell? ⟨b, off + j * 6, none⟩ = some (.int .i64 (evAt ls j).k) ∧ w.cell? ⟨b, off + j * 6 + 1, none⟩ = some (.int .i64 (evAt ls j).i.o) ∧
    w.cell? ⟨b, off + j * 6 + 2, none⟩ = some (.int .i64 (evAt ls j).i.d) ∧ w.cell? ⟨b, off + j * 6 + 3, none⟩ = some (.int .i64 (evAt ls j).i.e) ∧ w.cell? ⟨b, off + j * 6 + 4, none⟩ = some (.int .i64 (evAt ls j).i.c) ∧
    w.cell? ⟨b, off + j * 6 + 5, none⟩ = some (.slice R (evAt ls j).p.length cr) ∧ (evAt ls j).p.length ≤ cr ∧ cr ≤ 140737488351232 ∧ Me.Rd w w.heap.size R (evAt ls j).p ∧ (R = none → (evAt ls j).p.length = 0 ∧ cr = 0)
theorem weightsAll_mem {H : Type} {P : Program} {e : TypeId} : ∀ {l : List (DataW H)} {d : DataW H}, d ∈ l → ∀ n ∈ d.weights P e, n ∈ DataW.weightsAll P e l
  | x :: r, d, h, n, hn => by
    simp only [DataW.weightsAll, List.mem_append]
    rcases List.mem_cons.mp h with rfl | h'
    · exact .inl hn
    · exact .inr (weightsAll_mem h' n hn)
  | [], _, h, _, _ => by cases h
theorem six_ev : Tryz.prog.cellsOf 48 = 6 := by kernel_rfl
set_option maxRecDepth 100000 in
theorem ev_in {H : Type} {enc : TypeId × Value → H} {w : World} {base n : Nat} {held : Bool} {cs : List Value} {D : DataW H} {Pl : List MemPlace} (h : DataW.trod enc Tryz.prog w base (fun _ => true) held n 48 cs = some (D, Pl)) (hw : ∀ x ∈ D.weights Tryz.prog 48, x ≤ reachBytes) :
    ∃ (q : Evt) (A : Option Addr) (c : Nat), cs = (evC q.k q.i A q.p.length c).toList ∧ q.p.length ≤ c ∧ c ≤ 140737488351232 ∧ Me.Rd w w.heap.size A q.p ∧ (A = none → q.p.length = 0 ∧ c = 0) := by
  obtain ⟨y0, y1, m, hx, hlen, h0, h1⟩ := trod_struct2 Tryz.underlying48 h
  rw [six_ev] at hlen
  match cs, hlen with
  | [v0, v1, v2, v3, v4, v5], _ =>
    simp only [Mg.one_int, Mg.five_msg] at h0 h1
    simp at h0 h1
    obtain ⟨k, hk, _, _⟩ := DataW.trod_int Tryz.underlying3 h0
    simp only [List.cons.injEq, and_true] at hk
    simp only [Prod.mk.injEq] at hx
    obtain ⟨i, A, l, c, p, e, hi, hc⟩ := Mg.msg_in h1 fun x hxx => hw x (by
      rw [hx.1]
      simp only [DataW.weights, Tryz.underlying48]
      simp only [Array.toList, List.map_cons, List.map_nil, DataW.weightsEach, List.mem_append]
      exact .inr (.inl hxx))
    simp only [Mg.msgC, List.cons.injEq, and_true] at e
    obtain ⟨e1, e2, e3, e4, e5⟩ := e
    obtain ⟨b1, b2, b3, b4, b5⟩ := hi
    subst b1
    refine ⟨⟨k, i, p⟩, A, c, by rw [hk, e1, e2, e3, e4, e5]; rfl, b2, hc, b4, ?_⟩
    exact b5
theorem evs_in {H : Type} {enc : TypeId × Value → H} {w : World} {base fuel : Nat} {held : Bool} {a : Option Addr} {len cap : Nat} {d : DataW H} {pl : List MemPlace}
    (h : DataW.trod enc Tryz.prog w base (fun _ => true) held fuel 26 [.slice a len cap] = some (d, pl)) (hw : ∀ x ∈ d.weights Tryz.prog 26, x ≤ reachBytes) :
    ∃ ls : List Evt, len = ls.length ∧ len ≤ cap ∧ cap ≤ 9223372036854775807 ∧ Evs w a ls := by
  rcases open_slice Tryz.underlying26 h with ⟨hcs, _⟩ | ⟨ad, l, c, m, n, D, Pl, hcs, _, hl, hm, hmm, hx, hel⟩
  · simp at hcs
    obtain ⟨rfl, rfl, rfl⟩ := hcs
    exact ⟨[], rfl, Nat.le_refl _, Nat.zero_le _, fun j hj => absurd hj (by simp)⟩
  · simp at hcs
    obtain ⟨rfl, rfl, rfl⟩ := hcs
    simp only [if_true] at hmm
    subst hmm
    simp only [Prod.mk.injEq] at hx
    rw [six_ev] at hel
    have each : ∀ i, i < len → ∃ q : Evt × Option Addr × Nat, (∀ k x, (evC q.1.k q.1.i q.2.1 q.1.p.length q.2.2).toList[k]? = some x → w.cell? ((ad.add (i * 6)).add k) = some x) ∧
        q.1.p.length ≤ q.2.2 ∧ q.2.2 ≤ 140737488351232 ∧ Me.Rd w w.heap.size q.2.1 q.1.p ∧ (q.2.1 = none → q.1.p.length = 0 ∧ q.2.2 = 0) := by
      intro i hi
      obtain ⟨cs', h1, h2⟩ := hel i (by omega)
      obtain ⟨_, _, hcell⟩ := World.cells?_some h1
      obtain ⟨q, R, cr, rfl, g1, g2, g3, g4⟩ := ev_in h2 fun x hxx => by
        refine hw x ?_
        rw [hx.1]
        simp only [DataW.weights, Tryz.underlying26]
        refine List.mem_cons_of_mem _ (List.mem_append_left _ (weightsAll_mem (d := D i) ?_ x hxx))
        exact List.mem_map.mpr ⟨i, List.mem_range.mpr hi, rfl⟩
      exact ⟨(q, R, cr), fun k x hk => by
        have hk' := (List.getElem?_eq_some_iff.1 hk).1
        have hk6 : k < 6 := hk'
        rw [hcell k hk6]
        simpa using hk, g1, g2, g3, g4⟩
    obtain ⟨q, hq⟩ := choose_lt (α := Evt × Option Addr × Nat) each
    refine ⟨(List.range len).map fun i => (q i).1, by simp, hl, by unfold maxLen at hm; omega, fun j hj => ?_⟩
    have hj' : j < len := by simpa using hj
    have hat : evAt ((List.range len).map fun i => (q i).1) j = (q j).1 := by simp [evAt, hj']
    obtain ⟨cc, g1, g2, g3, g4⟩ := hq j hj'
    rw [hat]
    have c0 := cc 0 _ rfl
    have c1 := cc 1 _ rfl
    have c2 := cc 2 _ rfl
    have c3 := cc 3 _ rfl
    have c4 := cc 4 _ rfl
    have c5 := cc 5 _ rfl
    obtain ⟨b, off, spot⟩ := ad
    have hspot : spot = none := by
      have h0 := World.cell?_spot ((hq 0 (by omega)).1 0 _ rfl)
      simpa [Addr.add] using h0
    subst hspot
    simp only [add_plain, Nat.add_zero] at c0 c1 c2 c3 c4 c5
    exact ⟨b, off, (q j).2.1, (q j).2.2, rfl, World.block_lt_of_cell? w _ c0, c0, c1, c2, c3, c4, c5, g1, g2, g3, g4⟩
theorem Evs.take {w : World} {a : Option Addr} {ls : List Evt} (h : Evs w a ls) (n : Nat) : Evs w a (ls.take n) := fun j hj => by
  have hj' : j < n ∧ j < ls.length := by simp at hj; omega
  have : evAt (ls.take n) j = evAt ls j := by simp [evAt, hj'.1]
  rw [this]
  exact h j hj'.2
theorem Evs.below {w w' : World} {A : Option Addr} {l : List Evt} (h : Evs w A l) (hb : Below w.heap.size w w') : Evs w' A l := fun j hj => by
  obtain ⟨b, off, R, cr, e1, e2, c0, c1, c2, c3, c4, c5, g1, g2, g3, g4⟩ := h j hj
  exact ⟨b, off, R, cr, e1, Nat.lt_of_lt_of_le e2 hb.size, (hb.cell e2).trans c0, (hb.cell e2).trans c1, (hb.cell e2).trans c2, (hb.cell e2).trans c3, (hb.cell e2).trans c4, (hb.cell e2).trans c5, g1, g2, Me.Rd.more (g3.below hb) hb.size, g4⟩
theorem four_set : Tryz.prog.cellsOf 25 = 4 := by kernel_rfl
theorem three_q : Tryz.prog.cellsOf 23 = 3 := by kernel_rfl
set_option maxRecDepth 100000 in
theorem set_val {H : Type} {enc : TypeId × Value → H} {w : World} {base : Nat} {held : Bool} {v : Value} {D : DataW H} {Pl : List MemPlace} {r : Reach} {b0 : Nat} (hv : Value.okWide Tryz.prog w r b0 25 v) (h : DataW.Trod enc Tryz.prog w base (fun _ => true) held 25 v D Pl) :
    ∃ (a b c d : Int), v = .agg #[.int .i64 a, .int .i64 b, .int .i64 c, .int .i64 d] := by
  obtain ⟨cs, rfl, hsz⟩ := okWide_struct Tryz.underlying25 hv
  obtain ⟨fuel, hf⟩ := h
  obtain ⟨y0, y1, m, hx, hlen, h0, h1⟩ := trod_struct2 Tryz.underlying25 hf
  rw [four_set] at hlen
  have e0 : (Value.agg cs).cells = cs := rfl
  rw [e0] at hlen h0 h1
  obtain ⟨l, hl⟩ : ∃ l, cs.toList = l := ⟨_, rfl⟩
  rw [hl] at hlen h0 h1
  match l, hlen with
  | [v0, v1, v2, v3], _ =>
    simp only [Mg.one_int, three_q] at h0 h1
    simp at h0 h1
    obtain ⟨k0, hk0, _, _⟩ := DataW.trod_int Tryz.underlying3 h0
    obtain ⟨z0, z1, z2, m2, _, _, g0, g1, g2⟩ := trod_struct3 Tryz.underlying23 h1
    simp only [Mg.one_int] at g0 g1 g2
    simp at g0 g1 g2
    obtain ⟨k1, hk1, _, _⟩ := DataW.trod_int Tryz.underlying3 g0
    obtain ⟨k2, hk2, _, _⟩ := DataW.trod_int Tryz.underlying3 g1
    obtain ⟨k3, hk3, _, _⟩ := DataW.trod_int Tryz.underlying3 g2
    simp only [List.cons.injEq, and_true] at hk0 hk1 hk2 hk3
    refine ⟨k0, k1, k2, k3, ?_⟩
    rw [hk0, hk1, hk2, hk3] at hl
    have : cs = #[.int .i64 k0, .int .i64 k1, .int .i64 k2, .int .i64 k3] := by rw [← Array.toList_inj, hl]
    rw [this]
set_option maxRecDepth 100000 in
theorem ev_val {H : Type} {enc : TypeId × Value → H} {w : World} {base : Nat} {held : Bool} {v : Value} {D : DataW H} {Pl : List MemPlace} {r : Reach} {b0 : Nat} (hv : Value.okWide Tryz.prog w r b0 48 v) (h : DataW.Trod enc Tryz.prog w base (fun _ => true) held 48 v D Pl) (hw : ∀ x ∈ D.weights Tryz.prog 48, x ≤ reachBytes) :
    ∃ (q : Evt) (A : Option Addr) (c : Nat), v = .agg (evC q.k q.i A q.p.length c) ∧ q.p.length ≤ c ∧ c ≤ 140737488351232 ∧ Me.Rd w w.heap.size A q.p ∧ (A = none → q.p.length = 0 ∧ c = 0) := by
  obtain ⟨cs, rfl, hsz⟩ := okWide_struct Tryz.underlying48 hv
  obtain ⟨fuel, hf⟩ := h
  obtain ⟨q, A, c, e, hi⟩ := ev_in hf hw
  refine ⟨q, A, c, ?_, hi⟩
  have : cs.toList = (evC q.k q.i A q.p.length c).toList := by simpa [Value.cells] using e
  rw [Array.toList_inj.1 this]
set_option maxRecDepth 100000 in
set_option maxHeartbeats 4000000 in
/-- Fifty at most are looked at. -/
theorem cut_any (a : Option Addr) (cap : Nat) (ls : List Evt) (w : World) (hc : ls.length ≤ cap) (hm : cap ≤ 9223372036854775807) (L : Nat) (hL : (ls.take 50).length = L) : Calls Tryz.prog 10 #[.slice a ls.length cap] w fun e w' => e = .returned (.slice a L cap) ∧ w = w' := by
  by_cases h : 50 < ls.length
  · have HL : Hid (L = 50) := by show _ = _; rw [← hL]; simp; omega
    have g1 : (50 : Int) < (ls.length : Int) := by omega
    have g2 : (50 : Int) ≤ (cap : Int) := by omega
    obtain ⟨n, hn⟩ : ∃ n, ls.length = n := ⟨_, rfl⟩
    rw [hn] at g1 ⊢
    clear h hc hn hL
    go_enter Tryz.func10, Tryz.ntmps10
    go_wp2
    go_ret
    exact ⟨by rw [HL.out]; rfl, rfl⟩
  · have HL : Hid (L = ls.length) := by show _ = _; rw [← hL]; simp; omega
    have g1 : ¬ (50 : Int) < (ls.length : Int) := by omega
    obtain ⟨n, hn⟩ : ∃ n, ls.length = n := ⟨_, rfl⟩
    rw [hn] at g1 ⊢
    have HN : Hid (ls.length = n) := hn
    clear h hc hn hL
    go_enter Tryz.func10, Tryz.ntmps10
    go_wp2
    go_ret
    exact ⟨by rw [HL.out, HN.out]; rfl, rfl⟩
end Go.Proofs.YtfnlhfelpdkieaaGreat.So
/- The document's new store; both sides' stores ahead of any event. -/
namespace Go.Proofs.YtfnlhfelpdkieaaGreat.So
open Go.RowKit
open Go.Proofs.YtfnlhfelpdkieaaGreat.Me Go.Proofs.YtfnlhfelpdkieaaGreat.Sb
set_option linter.unusedVariables false
set_option linter.unusedSimpArgs false

/-- A store of the document's, as it lies. -/
def rsc (a b c d e : Int) (u l : Value) (r : Int) (k : Value) : Array Value := #[.int .i64 a, .int .i64 b, .int .i64 c, .int .i64 d, .int .i64 e, u, l, .int .i64 r, k]
def rs0 : Array Value := #[.int .i64 0, .int .i64 0, .int .i64 0, .int .i64 0, .int .i64 0, .slice none 0 0, .slice none 0 0, .int .i64 0, .slice none 0 0]
def numR (n m : Int) : Bool := decide (0 ≤ n ∧ n ≤ m)
theorem numR_yes {n m : Int} (h : 0 ≤ n ∧ n ≤ m) : numR n m = true := decide_eq_true h
theorem numR_no {n m : Int} (h : ¬ (0 ≤ n ∧ n ≤ m)) : numR n m = false := decide_eq_false h
theorem number_any (n m : Int) (w : World) : Calls Tryz.prog 25 #[.int .i64 n, .int .i64 m] w fun e w' => e = .returned (.bool (numR n m)) ∧ w = w' := by
  by_cases a : 0 ≤ n
  · by_cases b : n ≤ m
    · rw [numR_yes ⟨a, b⟩]
      go_enter Tryz.func25, Tryz.ntmps25
      go_wp2
      go_ret
      exact ⟨rfl, rfl⟩
    · rw [numR_no fun h => b h.2]
      go_enter Tryz.func25, Tryz.ntmps25
      go_wp2
      go_ret
      exact ⟨rfl, rfl⟩
  · rw [numR_no fun h => a h.1]
    go_enter Tryz.func25, Tryz.ntmps25
    go_wp2
    go_ret
    exact ⟨rfl, rfl⟩
theorem two_new (w : World) (x y : Array Value) (T U : TypeId) : Below w.heap.size w ((w.alloc (.cells x T)).alloc (.cells y U)) ∧ ((w.alloc (.cells x T)).alloc (.cells y U)).heap[w.heap.size + 1]? = some (.cells y U (0, 0)) ∧ ((w.alloc (.cells x T)).alloc (.cells y U)).heap[w.heap.size]? = some (.cells x T (0, 0)) := by
  refine ⟨Me.below_alloc (Me.below_alloc (Below.refl _ _)), ?_, ?_⟩
  · have := heap_alloc_new (w.alloc (.cells x T)) (.cells y U)
    rwa [World.size_alloc] at this
  · exact (Below.heap_alloc _ _ _ (by simp)).trans (heap_alloc_new w _)
section
variable (me qh qb qg : Int) (w : World)
set_option maxRecDepth 100000 in
set_option maxHeartbeats 8000000 in
theorem RNew_no (h : ¬ NewOk me qh qb qg) : Calls Tryz.prog 8 #[.int .i64 me, .agg #[.int .i64 qh, .int .i64 qb, .int .i64 qg]] w fun e w' => e = .returned (.tuple #[.agg rs0, .int .i64 1]) ∧ Hid (Below w.heap.size w w') := by
  have HN := Lib.hid (fun n m W => number_any n m W)
  obtain ⟨hB, hD, _⟩ := two_new w #[.int .i64 qh, .int .i64 qb, .int .i64 qg] rs0 23 37
  unfold rs0 at hB hD ⊢
  have HB := Lib.hid hB
  have HD := Lib.hid hD
  have hc : numR me 63 = false ∨ (numR me 63 = true ∧ (numR qh 256 = false ∨ (numR qh 256 = true ∧ (numR qb 1048576 = false ∨ (numR qb 1048576 = true ∧ numR qg 256 = false))))) := by
    by_cases a : 0 ≤ me ∧ me ≤ 63
    · refine .inr ⟨numR_yes a, ?_⟩
      by_cases b : 0 ≤ qh ∧ qh ≤ 256
      · refine .inr ⟨numR_yes b, ?_⟩
        by_cases c : 0 ≤ qb ∧ qb ≤ 1048576
        · exact .inr ⟨numR_yes c, numR_no fun d => h ⟨a.1, by omega, b.1, b.2, c.1, c.2, d.1, d.2⟩⟩
        · exact .inl (numR_no c)
      · exact .inl (numR_no b)
    · exact .inl (numR_no a)
  clear h hB hD
  rcases hc with h | ⟨h1, h | ⟨h2, h | ⟨h3, h⟩⟩⟩
  all_goals
    go_enter Tryz.func8, Tryz.ntmps8
    go_wp2_with (first
      | (go_at_call 25; refine (HN.out _ _ _).mono ?_; rintro e w2 ⟨rfl, rfl⟩)
      | (refine wpList_store_row rfl 37 (.tmp 4) (.tmp 27) rfl (w.heap.size + 1) #[.int .i64 0, .int .i64 0, .int .i64 0, .int .i64 0, .int .i64 0, .slice none 0 0, .slice none 0 0, .int .i64 0, .slice none 0 0] rfl rfl 37 _ HD.out (by kernel_rfl) rfl (by kernel_rfl) ?_))
    exact Sb.ret_box2 (g := w.heap.size + 1) rfl (by rfl) (setRow_heap _ _ _ _ _ _ HD.out) rfl Tryz.underlying37 (by kernel_rfl) rfl ⟨rfl, Sb.below_setRow _ HB.out (by omega)⟩
theorem rs_one (a b c d e r : Int) (A B C : Option Addr) (n1 n2 n3 c1 c2 c3 : Nat) : (#[.int .i64 a, .int .i64 b, .int .i64 c, .int .i64 d, .int .i64 e, .slice A n1 c1, .slice B n2 c2, .int .i64 r, .slice C n3 c3] : Array Value).all (·.oneCell') = true := by simp [Value.oneCell']
set_option maxRecDepth 100000 in
set_option maxHeartbeats 8000000 in
theorem RNew_ok (h : NewOk me qh qb qg) : Calls Tryz.prog 8 #[.int .i64 me, .agg #[.int .i64 qh, .int .i64 qb, .int .i64 qg]] w fun e w' => e = .returned (.tuple #[.agg (rsc me qh qb qg 0 (.slice none 0 0) (.slice none 0 0) qg (.slice none 0 0)), .int .i64 0]) ∧ Hid (Below w.heap.size w w') := by
  have HN := Lib.hid (fun n m W => number_any n m W)
  obtain ⟨hB, hD, _⟩ := two_new w #[.int .i64 qh, .int .i64 qb, .int .i64 qg] rs0 23 37
  unfold rs0 at hB hD
  unfold rsc
  have HB := Lib.hid hB
  have HD := Lib.hid hD
  have h1 : numR me 63 = true := numR_yes ⟨h.s0, by have := h.s1; omega⟩
  have h2 : numR qh 256 = true := numR_yes ⟨h.h0, h.h1⟩
  have h3 : numR qb 1048576 = true := numR_yes ⟨h.b0, h.b1⟩
  have h4 : numR qg 256 = true := numR_yes ⟨h.g0, h.g1⟩
  clear h hB hD
  go_enter Tryz.func8, Tryz.ntmps8
  go_wp2_with (first
    | (go_at_call 25; refine (HN.out _ _ _).mono ?_; rintro e w2 ⟨rfl, rfl⟩)
    | (refine wpList_store_row rfl 37 (.tmp 4) (.tmp 33) rfl (w.heap.size + 1) #[.int .i64 me, .int .i64 qh, .int .i64 qb, .int .i64 qg, .int .i64 0, .slice none 0 0, .slice none 0 0, .int .i64 qg, .slice none 0 0] rfl rfl 37 _ HD.out (by kernel_rfl) rfl (rs_one _ _ _ _ _ _ _ _ _ _ _ _ _ _ _) ?_))
  exact Sb.ret_box2 (g := w.heap.size + 1) rfl (by rfl) (setRow_heap _ _ _ _ _ _ HD.out) rfl Tryz.underlying37 (by kernel_rfl) rfl ⟨rfl, Sb.below_setRow _ HB.out (by omega)⟩
end
end Go.Proofs.YtfnlhfelpdkieaaGreat.So
/- The document's list of messages: Has, Bytes, without. -/
namespace Go.Proofs.YtfnlhfelpdkieaaGreat.So
open Go.RowKit Go.Deep
open Go.ChangeShapes Go.WideShapes Go.Joins
open Go.Proofs.YtfnlhfelpdkieaaGreat.Me Go.Proofs.YtfnlhfelpdkieaaGreat.Sb
set_option linter.unusedVariables false
set_option linter.unusedSimpArgs false

/-- A slice of messages: its row from block B on, the data in blocks that bear Q. -/
structure Rl (Q : Nat → Prop) (w : World) (B : Nat) (v : Value) (P : List Pq) : Prop where
  own : w.ownsRow B 46 5 v P.length (qsV P)
  each : ∀ p ∈ P, Me.Own w 0 p.v p.x.p ∧ ∀ k, p.v.ownBlock = some k → Q k
theorem Rl.nil (Q : Nat → Prop) (w : World) (B : Nat) : Rl Q w B (.slice none 0 0) [] := ⟨⟨rfl, .inl ⟨rfl, rfl⟩⟩, fun p hp => by simp at hp⟩
theorem Rl.lit {Q : Nat → Prop} {B : Nat} {w : World} (hb : B ≤ w.heap.size) : Rl Q (w.alloc (.cells #[] 46)) B (.slice (some ⟨w.heap.size, 0, none⟩) 0 0) [] :=
  ⟨World.ownsRow_made w #[] 0 hb (by unfold maxLen; omega) rfl, fun p h => by simp at h⟩
theorem Rl.below {Q : Nat → Prop} {w w' : World} {B : Nat} {v : Value} {P : List Pq} (h : Rl Q w B v P) (hb : Below w.heap.size w w') : Rl Q w' B v P :=
  ⟨own_same h.own fun k _ hk => hb.block k hk, fun p hp => ⟨own_same (h.each p hp).1 fun k _ hk => hb.block k hk, (h.each p hp).2⟩⟩
theorem Rl.base {Q : Nat → Prop} {w : World} {B B' : Nat} {v : Value} {P : List Pq} (h : Rl Q w B v P) (hB : B' ≤ B) : Rl Q w B' v P :=
  ⟨own_base h.own fun k hk => Nat.le_trans hB (h.own.lt k hk).1, h.each⟩
theorem Rl.mono {Q Q' : Nat → Prop} {w : World} {B : Nat} {v : Value} {P : List Pq} (h : Rl Q w B v P) (hQ : ∀ k, k < w.heap.size → Q k → Q' k) : Rl Q' w B v P :=
  ⟨h.own, fun p hp => ⟨(h.each p hp).1, fun k e => hQ k (World.ownsRow.lt (h.each p hp).1 k e).2 ((h.each p hp).2 k e)⟩⟩
theorem Rl.form {Q : Nat → Prop} {w : World} {B : Nat} {v : Value} {P : List Pq} (h : Rl Q w B v P) : ∃ A c, v = .slice A P.length c ∧ P.length ≤ c ∧ c ≤ 9223372036854775807 ∧ (A = none → c = 0) := by
  rcases h.own.2 with ⟨h1, h2⟩ | ⟨g, cap, cur, h1, h2, h3, h4, h5, h6, h7⟩
  · have : P = [] := by simpa using h2
    subst this
    exact ⟨none, 0, h1, Nat.le_refl _, Nat.zero_le _, fun _ => rfl⟩
  · exact ⟨_, cap, h1, h4, by unfold maxLen at h5; omega, fun e => by cases e⟩
/-- The row of message j. -/
theorem Rl.at_ {Q : Nat → Prop} {w : World} {B : Nat} {A : Option Addr} {n c : Nat} {P : List Pq} (h : Rl Q w B (.slice A n c) P) {j : Nat} {p : Pq} (hj : P[j]? = some p) :
    ∃ g, A = some ⟨g, 0, none⟩ ∧ g < w.heap.size ∧ (∀ W : World, W.heap[g]? = w.heap[g]? → W.cell? ⟨g, j * 5, none⟩ = some (.int .i64 p.x.i.o) ∧ W.cell? ⟨g, j * 5 + 1, none⟩ = some (.int .i64 p.x.i.d) ∧ W.cell? ⟨g, j * 5 + 2, none⟩ = some (.int .i64 p.x.i.e) ∧ W.cell? ⟨g, j * 5 + 3, none⟩ = some (.int .i64 p.x.i.c) ∧ W.cell? ⟨g, j * 5 + 4, none⟩ = some p.v) := by
  have h0 := h.own
  have hlt := (List.getElem?_eq_some_iff.1 hj).1
  rcases h0.2 with ⟨h1, h2⟩ | ⟨g, cap, cur, h1, h2, h3, h4, h5, h6, h7⟩
  · have : P = [] := by simpa using h2
    subst this; simp at hlt
  · cases h1
    have hl := h0.lt g rfl
    refine ⟨g, rfl, hl.2, fun W hW => ?_⟩
    have hx : ∀ i u, i < 5 → (qV p)[i]? = some u → W.cell? ⟨g, j * 5 + i, none⟩ = some u := fun i u hi hu => by
      have := h0.cells (g := g) rfl (j * 5 + i) u (by rw [qsV_get hj hi]; exact hu)
      rw [add_mk, Nat.zero_add] at this
      exact (World.cell?_of_block (w := w) (a := ⟨g, j * 5 + i, none⟩) hW).trans this
    exact ⟨hx 0 _ (by omega) rfl, hx 1 _ (by omega) rfl, hx 2 _ (by omega) rfl, hx 3 _ (by omega) rfl, hx 4 _ (by omega) rfl⟩
/-- One message appended, as one operation. -/
theorem appRl {Q : Nat → Prop} {w : World} {o : Oper} {a : Act} {K : Act → World → Prop} {Qx : Exit → Act → World → Prop} (s x : Operand)
    (ho : o.op = .call { callee := .builtin .append, args := #[s, x], argTypes := #[32, 32] })
    (B : Nat) (v : Value) (P : List Pq) (p : Pq) (gx : Nat) (hs : a.eval s = v) (hown : Rl Q w B v P) (hp : Me.Own w 0 p.v p.x.p ∧ ∀ k, p.v.ownBlock = some k → Q k) (hx : a.eval x = .slice (some ⟨gx, 0, none⟩) 1 1) (hz : ∀ j u, (qV p)[j]? = some u → w.cell? ⟨gx, j, none⟩ = some u) (hlen : P.length ≤ 100000) (hB : B ≤ w.heap.size)
    (h : ∀ v' w', Rl Q w' B v' (P ++ [p]) → w.grownBy w' v.ownBlock → (∀ k, v.ownBlock = some k → B ≤ k) → K (a.put o.dst v') w') : o.wp Tryz.prog a w K Qx := by
  obtain ⟨i0, hi, hz0, hz1, hz2⟩ := info_parts infoMsg
  have hnews : ∀ j u, (qV p)[j]? = some u → w.cell? ((⟨gx, 0, none⟩ : Addr).add j) = some u := by
    intro j u hj
    rw [add_mk, Nat.zero_add]
    exact hz j u hj
  obtain ⟨v', w', hr, h2, h3, h4⟩ := run_append_own_at (P := Tryz.prog) w B 32 o.type 46 i0 (.agg #[.int .i64 0, .int .i64 0, .int .i64 0, .int .i64 0, .slice none 0 0]) 5 56 Tryz.underlying32 hi hz0 hz1 hz2 rfl (by decide) v P.length (qsV P) hown.own ⟨gx, 0, none⟩ 1 1 (qV p) rfl hnews (by simp [qV, Pq.v, Value.oneCell']) (by unfold maxLen; omega) (by omega) hB
  unfold Oper.wp execOp
  simp only [ho, resolve, invoke, builtin, Sem.run_bind, Sem.run_pure, Result.andThen_ok, List.map_toArray, List.map_cons, List.map_nil, hs, hx, hr]
  have hk : ∀ q : Pq, Me.Own w 0 q.v q.x.p → Me.Own w' 0 q.v q.x.p := fun q hq => own_same hq fun k e hk => h3.block k hk fun e' => two_ty hq hown.own (by decide) k e e'.symm
  refine h v' w' ⟨?_, fun q hq => ?_⟩ h3 fun k hk => (hown.own.lt k hk).1
  · rw [List.length_append, qsV_snoc]; exact h2
  · rcases List.mem_append.1 hq with hq | hq
    · exact ⟨hk q (hown.each q hq).1, (hown.each q hq).2⟩
    · obtain rfl : q = p := by simpa using hq
      exact ⟨hk q hp.1, hp.2⟩
theorem idne_cases {o d e c o' d' e' c' : Int} (h : ¬ (⟨o, d, e, c⟩ : Mg.Id4) = ⟨o', d', e', c'⟩) : (o == o') = false ∨ (o = o' ∧ (d == d') = false) ∨ (o = o' ∧ d = d' ∧ (e == e') = false) ∨ (o = o' ∧ d = d' ∧ e = e' ∧ (c == c') = false) := by
  by_cases a0 : o = o'
  · by_cases a1 : d = d'
    · by_cases a2 : e = e'
      · exact .inr (.inr (.inr ⟨a0, a1, a2, by simpa using fun q : c = c' => h (by rw [a0, a1, a2, q])⟩))
      · exact .inr (.inr (.inl ⟨a0, a1, by simpa using a2⟩))
    · exact .inr (.inl ⟨a0, by simpa using a1⟩)
  · exact .inl (by simpa using a0)
theorem rl_cells {Q : Nat → Prop} {w : World} {A : Option Addr} {n c : Nat} {P : List Pq} (h : Rl Q w 0 (.slice A n c) P) : ∀ j, j < P.length → ∃ (g : Nat) (q : Pq), A = some ⟨g, 0, none⟩ ∧ P[j]? = some q ∧ ∀ W, Below w.heap.size w W → W.cell? ⟨g, j * 5, none⟩ = some (.int .i64 q.x.i.o) ∧ W.cell? ⟨g, j * 5 + 1, none⟩ = some (.int .i64 q.x.i.d) ∧ W.cell? ⟨g, j * 5 + 2, none⟩ = some (.int .i64 q.x.i.e) ∧ W.cell? ⟨g, j * 5 + 3, none⟩ = some (.int .i64 q.x.i.c) ∧ W.cell? ⟨g, j * 5 + 4, none⟩ = some q.v := fun j hj => by
  have hx : P[j]? = some (P[j]'hj) := List.getElem?_eq_getElem hj
  obtain ⟨g, e1, e3, e4⟩ := h.at_ hx
  exact ⟨g, _, e1, hx, fun W hW => e4 W (hW.block g e3)⟩
/-- Is an id among the first j? -/
theorem has_take {P : List Pq} {i : Mg.Id4} {j : Nat} (h : ∀ (k : Nat) (q : Pq), k < j → P[k]? = some q → q.x.i ≠ i) (hj : P.length ≤ j) : hasH (P.map Pq.x) i = false := by
  have hn : findH (P.map Pq.x) i = none := by
    rw [findH_none]
    intro hm
    rw [List.map_map] at hm
    obtain ⟨q, hq, e⟩ := List.mem_map.1 hm
    obtain ⟨k, hk⟩ := List.getElem?_of_mem hq
    have hl := (List.getElem?_eq_some_iff.1 hk).1
    exact h k q (by omega) hk e
  unfold hasH
  rw [hn]; rfl
theorem has_at {P : List Pq} {i : Mg.Id4} {j : Nat} {q : Pq} (h : P[j]? = some q) (e : q.x.i = i) : hasH (P.map Pq.x) i = true := by
  rw [hasH_iff, List.map_map]
  exact List.mem_map.2 ⟨q, List.mem_of_getElem? h, e⟩
set_option maxRecDepth 100000 in
set_option maxHeartbeats 16000000 in
theorem RHasM_any (Q : Nat → Prop) (v : Value) (P : List Pq) (i : Mg.Id4) (w : World) (hv : Hid (Rl Q w 0 v P)) (hL : P.length ≤ 1000) : Calls Tryz.prog 63 #[v, .agg (Mg.idC i)] w fun e w' => e = .returned (.bool (hasH (P.map Pq.x) i)) ∧ Hid (Below w.heap.size w w') := by
  obtain ⟨A, c, rfl, _, _, _⟩ := hv.out.form
  have HA := Lib.hid (rl_cells hv.out)
  have HX : Hid ((w.alloc (.cells (Mg.idC i) 43)).heap[w.heap.size]? = some (.cells (Mg.idC i) 43 (0, 0))) := heap_alloc_new w _
  have HB : Hid (Below w.heap.size w (w.alloc (.cells (Mg.idC i) 43))) := Me.below_alloc (Below.refl _ _)
  obtain ⟨B, hB⟩ : ∃ b, hasH (P.map Pq.x) i = b := ⟨_, rfl⟩
  have HYes : Hid (∀ (j : Nat) (q : Pq), P[j]? = some q → q.x.i = i → B = true) := fun j q h e => by rw [← hB]; exact has_at h e
  have HNo : Hid (∀ j, P.length ≤ j → (∀ (k : Nat) (q : Pq), k < j → P[k]? = some q → q.x.i ≠ i) → B = false) := fun j hj h => by rw [← hB]; exact has_take h hj
  rw [hB]
  obtain ⟨N, hN⟩ : ∃ N, P.length = N := ⟨_, rfl⟩
  rw [hN] at HA HNo hL ⊢
  obtain ⟨o, d, ee, cc⟩ := i
  simp only [Mg.idC] at HX HB ⊢
  clear hv hB hN
  obtain ⟨W0, hW0⟩ : ∃ W, w.alloc (.cells #[.int .i64 o, .int .i64 d, .int .i64 ee, .int .i64 cc] 43) = W := ⟨_, rfl⟩
  rw [hW0] at HX HB
  have HW0 := Lib.hid hW0
  clear hW0
  go_enter Tryz.func63, Tryz.ntmps63
  go_wp2
  rw [HW0.out]
  go_loopw [5] (fun v5 wr => ∃ j : Nat, v5 = .int .i64 (j : Int) ∧ j ≤ N ∧ Hid (∀ (k : Nat) (q : Pq), k < j → P[k]? = some q → q.x.i ≠ ⟨o, d, ee, cc⟩) ∧ Hid (Below W0.heap.size W0 wr)) (fun v5 _ => N - (intOf v5).toNat)
  case atStart => exact ⟨0, rfl, Nat.zero_le _, fun k q hk => absurd hk (by omega), Below.refl _ _⟩
  case round =>
    obtain ⟨j, rfl, hj, HNe, HBr⟩ := hrel
    obtain ⟨y0, y1, y2, y3⟩ := id_cells ((HBr.out.block _ (Array.getElem?_eq_some_iff.1 HX.out).1).trans HX.out)
    by_cases hlt : j < N
    · obtain ⟨g, q, rfl, hq, hc⟩ := HA.out j hlt
      obtain ⟨z0, z1, z2, z3, _⟩ := hc wr (go_on HB.out HBr.out)
      have g1 : (j : Int) < (N : Int) := by omega
      have g2 : (j : Int) < 1000 := by omega
      have HQ := Lib.hid hq
      clear hc hq
      by_cases he : q.x.i = ⟨o, d, ee, cc⟩
      · have hBt := HYes.out j q HQ.out he
        rw [he] at z0 z1 z2 z3
        simp only at z0 z1 z2 z3
        subst hBt
        clear he
        go_wp2
        go_quiet (fail)
        go_wp2
        go_ret
        exact ⟨rfl, HB.out.trans ((Me.below_drewN HBr.out _).mono HB.out.size)⟩
      · have HN2 : Hid (∀ (k : Nat) (q : Pq), k < j + 1 → P[k]? = some q → q.x.i ≠ ⟨o, d, ee, cc⟩) := fun k q' hk hq' => by
          by_cases h : k = j
          · subst h
            rw [HQ.out] at hq'
            cases hq'
            exact he
          · exact HNe.out k q' (by omega) hq'
        obtain ⟨⟨xo, xd, xe, xc⟩, hx⟩ : ∃ x, q.x.i = x := ⟨_, rfl⟩
        rw [hx] at z0 z1 z2 z3 he
        simp only at z0 z1 z2 z3
        clear hx
        rcases idne_cases he with g3 | ⟨rfl, g3⟩ | ⟨rfl, rfl, g3⟩ | ⟨rfl, rfl, rfl, g3⟩
        all_goals
          clear he
          go_wp2
          go_quiet (fail)
          go_wp2
          go_roundw
          case rel => exact ⟨j + 1, by go_num, by omega, HN2, Me.below_drewN HBr.out _⟩
          case measure => simp [intOf]; omega
    · have hBf := HNo.out j (by omega) HNe.out
      subst hBf
      have g1 : ¬ (j : Int) < (N : Int) := by omega
      go_wp2
      go_ret
      exact ⟨rfl, HB.out.trans (HBr.out.mono HB.out.size)⟩
end Go.Proofs.YtfnlhfelpdkieaaGreat.So
