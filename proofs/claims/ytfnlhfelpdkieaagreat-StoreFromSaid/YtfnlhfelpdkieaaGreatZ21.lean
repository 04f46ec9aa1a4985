/- A message that came in by value. -/
import Derived.Test.YtfnlhfelpdkieaaGreatZ2
import Derived.Test.YtfnlhfelpdkieaaGreatZ6
import Derived.Test.YtfnlhfelpdkieaaGreatZ20
import Derived.Deep.Slices
import Derived.SizedLaws
import Derived.Lib.SmallJoins
import Derived.Deep.Strs
import Derived.WideShapes
namespace Go.Proofs.YtfnlhfelpdkieaaGreat.Mg
open Go.RowKit Go.Deep
open Go.ChangeShapes Go.WideShapes Go.Joins
open Go.Proofs.YtfnlhfelpdkieaaGreat.Me
set_option linter.unusedVariables false
set_option linter.unusedSimpArgs false

/-- Where its data leads. -/
def MsIn (w : World) (A : Option Addr) (n c : Nat) (l : List Nat) : Prop := BySlice w A n c l ∧ c ≤ 140737488351232
theorem one_int : Tryz.prog.cellsOf 3 = 1 := by kernel_rfl
theorem one_sl : Tryz.prog.cellsOf 44 = 1 := by kernel_rfl
theorem four_id : Tryz.prog.cellsOf 43 = 4 := by kernel_rfl
theorem five_msg : Tryz.prog.cellsOf 46 = 5 := by kernel_rfl
theorem bytes_b : Tryz.prog.bytesOf 5 = 1 := by kernel_rfl
set_option maxRecDepth 100000 in
theorem msg_in {H : Type} {enc : TypeId × Value → H} {w : World} {base n : Nat} {held : Bool} {cs : List Value} {D : DataW H} {Pl : List MemPlace} (h : DataW.trod enc Tryz.prog w base (fun _ => true) held n 46 cs = some (D, Pl)) (hw : ∀ x ∈ D.weights Tryz.prog 46, x ≤ reachBytes) :
    ∃ (i : Id4) (A : Option Addr) (k c : Nat) (l : List Nat), cs = (msgC i A k c).toList ∧ MsIn w A k c l := by
  obtain ⟨y0, y1, m, hx, hlen, h0, h1⟩ := trod_struct2 Tryz.underlying46 h
  rw [five_msg] at hlen
  match cs, hlen with
  | [v0, v1, v2, v3, v4], _ =>
    simp only [four_id, one_sl] at h0 h1
    simp at h0 h1
    obtain ⟨z0, z1, z2, z3, m2, _, _, g0, g1, g2, g3⟩ := Go.Joins.trod_struct4 Tryz.underlying43 h0
    simp only [one_int] at g0 g1 g2 g3
    simp at g0 g1 g2 g3
    obtain ⟨k0, e0, _, _⟩ := DataW.trod_int Tryz.underlying3 g0
    obtain ⟨k1, e1, _, _⟩ := DataW.trod_int Tryz.underlying3 g1
    obtain ⟨k2, e2, _, _⟩ := DataW.trod_int Tryz.underlying3 g2
    obtain ⟨k3, e3, _, _⟩ := DataW.trod_int Tryz.underlying3 g3
    simp only [List.cons.injEq, and_true] at e0 e1 e2 e3
    simp only [Prod.mk.injEq] at hx
    have hP : ∃ (l : List Nat) (A : Option Addr) (k c : Nat), v4 = .slice A k c ∧ BySlice w A k c l ∧ c ≤ 140737488351232 := by
      rcases open_ints Tryz.underlying44 Tryz.underlying5 (by kernel_rfl) h1 with ⟨hcs, _⟩ | ⟨x, k, c, zs, hcs, _, hl, hm, hz, hy, hcell, hwz⟩
      · simp at hcs
        exact ⟨[], none, 0, 0, hcs, bySlice_none w, Nat.zero_le _⟩
      · simp at hcs
        obtain ⟨l, hb⟩ := bySlice_some hl hm (by simpa using hz) hcell hwz
        refine ⟨l, some x, k, c, hcs, hb, ?_⟩
        have hmem : c * 1 ≤ reachBytes := by
          refine hw _ ?_
          rw [hx.1, hy]
          simp only [DataW.weights, Tryz.underlying46, Tryz.underlying44, DataW.weightsEach]
          simp only [Array.toList, List.map_cons, List.map_nil, DataW.weightsEach, List.mem_append]
          refine .inr (.inl ?_)
          have hz' : zs.length = c := by simpa using hz
          have e : c * 1 = ((lits (H := H) .u8 (zs.take k)).length + (lits (H := H) .u8 (zs.drop k)).length) * Tryz.prog.bytesOf 5 := by
            rw [bytes_b]
            simp only [lits, List.length_map, List.length_take, List.length_drop]
            omega
          rw [e]
          simp [DataW.weights, Tryz.underlying44]
        unfold reachBytes at hmem
        show c ≤ _
        omega
    obtain ⟨l, A, k, c, e4, hb, hc⟩ := hP
    exact ⟨⟨k0, k1, k2, k3⟩, A, k, c, l, by rw [e0, e1, e2, e3, e4]; rfl, hb, hc⟩
set_option maxRecDepth 100000 in
theorem msg_val {H : Type} {enc : TypeId × Value → H} {w : World} {base : Nat} {held : Bool} {v : Value} {D : DataW H} {Pl : List MemPlace} {r : Reach} {b0 : Nat} (hv : Value.okWide Tryz.prog w r b0 46 v) (h : DataW.Trod enc Tryz.prog w base (fun _ => true) held 46 v D Pl) (hw : ∀ x ∈ D.weights Tryz.prog 46, x ≤ reachBytes) :
    ∃ (i : Id4) (A : Option Addr) (k c : Nat) (l : List Nat), v = .agg (msgC i A k c) ∧ MsIn w A k c l := by
  obtain ⟨cs, rfl, hsz⟩ := okWide_struct Tryz.underlying46 hv
  obtain ⟨fuel, hf⟩ := h
  obtain ⟨i, A, k, c, l, e, hi⟩ := msg_in hf hw
  refine ⟨i, A, k, c, l, ?_, hi⟩
  have : cs.toList = (msgC i A k c).toList := by simpa [Value.cells] using e
  rw [Array.toList_inj.1 this]
end Go.Proofs.YtfnlhfelpdkieaaGreat.Mg
/- Events, a node with its quota, that came in. -/
namespace Go.Proofs.YtfnlhfelpdkieaaGreat.So
open Go.RowKit Go.Deep
open Go.ChangeShapes Go.WideShapes Go.Joins
open Go.Proofs.YtfnlhfelpdkieaaGreat.Me Go.Proofs.YtfnlhfelpdkieaaGreat.Sb
set_option linter.unusedVariables false
set_option linter.unusedSimpArgs false

/-- An event: its kind, id, data. -/
structure Evt where
  k : Int
  i : Mg.Id4
  p : List Nat
instance instInhabitedEv : Inhabited (Evt × Option Addr × Nat) := ⟨(⟨0, ⟨0, 0, 0, 0⟩, []⟩, none, 0)⟩
def evAt (ls : List Evt) (j : Nat) : Evt := ls.getD j ⟨0, ⟨0, 0, 0, 0⟩, []⟩
theorem evAt_get {ls : List Evt} {j : Nat} (h : j < ls.length) : evAt ls j = ls[j] := by simp [evAt, h]
/-- A slice's address leads to these events. -/
def Evs (w : World) (a : Option Addr) (ls : List Evt) : Prop :=
  ∀ j, j < ls.length → ∃ b off R cr, a = some ⟨b, off, none⟩ ∧ b < w.heap.size ∧ w.cell? ⟨b, off + j * 6, none⟩ = some (.int .i64 (evAt ls j).k) ∧ w.cell? ⟨b, off + j * 6 + 1, none⟩ = some (.int .i64 (evAt ls j).i.o) ∧
    w.cell? ⟨b, off + j * 6 + 2, none⟩ = some (.int .i64 (evAt ls j).i.d) ∧ w.cell? ⟨b, off + j * 6 + 3, none⟩ = some (.int .i64 (evAt ls j).i.e) ∧ w.cell? ⟨b, off + j * 6 + 4, none⟩ = some (.int .i64 (evAt ls j).i.c) ∧
    w.cell? ⟨b, off + j * 6 + 5, none⟩ = some (.slice R (evAt ls j).p.length cr) ∧ (evAt ls j).p.length ≤ cr ∧ cr ≤ 140737488351232 ∧ Me.Rd w w.heap.size R (evAt ls j).p ∧ (R = none → (evAt ls j).p.length = 0 ∧ cr = 0)
theorem weightsAll_mem {H : Type} {P : Program} {e : TypeId} : ∀ {l : List (DataW H)} {d : DataW H}, d ∈ l → ∀ n ∈ d.weights P e, n ∈ DataW.weightsAll P e l
  | x :: r, d, h, n, hn => by
    simp only [DataW.weightsAll, List.mem_append]
    rcases List.mem_cons.mp h with rfl | h'
    · exact .inl hn
    · exact .inr (weightsAll_mem h' n hn)
  | [], _, h, _, _ => by cases h
theorem six_ev : Tryz.prog.cellsOf 48 = 6 := by kernel_rfl
set_option maxRecDepth 100000 in
theorem ev_in {H : Type} {enc : TypeId × Value → H} {w : World} {base n : Nat} {held : Bool} {cs : List Value} {D : DataW H} {Pl : List MemPlace} (h : DataW.trod enc Tryz.prog w base (fun _ => true) held n 48 cs = some (D, Pl)) (hw : ∀ x ∈ D.weights Tryz.prog 48, x ≤ reachBytes) :
    ∃ (q : Evt) (A : Option Addr) (c : Nat), cs = (evC q.k q.i A q.p.length c).toList ∧ q.p.length ≤ c ∧ c ≤ 140737488351232 ∧ Me.Rd w w.heap.size A q.p ∧ (A = none → q.p.length = 0 ∧ c = 0) := by
  obtain ⟨y0, y1, m, hx, hlen, h0, h1⟩ := trod_struct2 Tryz.underlying48 h
  rw [six_ev] at hlen
  match cs, hlen with
  | [v0, v1, v2, v3, v4, v5], _ =>
    simp only [Mg.one_int, Mg.five_msg] at h0 h1
    simp at h0 h1
    obtain ⟨k, hk, _, _⟩ := DataW.trod_int Tryz.underlying3 h0
    simp only [List.cons.injEq, and_true] at hk
    simp only [Prod.mk.injEq] at hx
    obtain ⟨i, A, l, c, p, e, hi, hc⟩ := Mg.msg_in h1 fun x hxx => hw x (by
      rw [hx.1]
      simp only [DataW.weights, Tryz.underlying48]
      simp only [Array.toList, List.map_cons, List.map_nil, DataW.weightsEach, List.mem_append]
      exact .inr (.inl hxx))
    simp only [Mg.msgC, List.cons.injEq, and_true] at e
    obtain ⟨e1, e2, e3, e4, e5⟩ := e
    obtain ⟨b1, b2, b3, b4, b5⟩ := hi
    subst b1
    refine ⟨⟨k, i, p⟩, A, c, by rw [hk, e1, e2, e3, e4, e5]; rfl, b2, hc, b4, ?_⟩
    exact b5
theorem evs_in {H : Type} {enc : TypeId × Value → H} {w : World} {base fuel : Nat} {held : Bool} {a : Option Addr} {len cap : Nat} {d : DataW H} {pl : List MemPlace}
    (h : DataW.trod enc Tryz.prog w base (fun _ => true) held fuel 26 [.slice a len cap] = some (d, pl)) (hw : ∀ x ∈ d.weights Tryz.prog 26, x ≤ reachBytes) :
    ∃ ls : List Evt, len = ls.length ∧ len ≤ cap ∧ cap ≤ 9223372036854775807 ∧ Evs w a ls := by
  rcases open_slice Tryz.underlying26 h with ⟨hcs, _⟩ | ⟨ad, l, c, m, n, D, Pl, hcs, _, hl, hm, hmm, hx, hel⟩
  · simp at hcs
    obtain ⟨rfl, rfl, rfl⟩ := hcs
    exact ⟨[], rfl, Nat.le_refl _, Nat.zero_le _, fun j hj => absurd hj (by simp)⟩
  · simp at hcs
    obtain ⟨rfl, rfl, rfl⟩ := hcs
    simp only [if_true] at hmm
    subst hmm
    simp only [Prod.mk.injEq] at hx
    rw [six_ev] at hel
    have each : ∀ i, i < len → ∃ q : Evt × Option Addr × Nat, (∀ k x, (evC q.1.k q.1.i q.2.1 q.1.p.length q.2.2).toList[k]? = some x → w.cell? ((ad.add (i * 6)).add k) = some x) ∧
        q.1.p.length ≤ q.2.2 ∧ q.2.2 ≤ 140737488351232 ∧ Me.Rd w w.heap.size q.2.1 q.1.p ∧ (q.2.1 = none → q.1.p.length = 0 ∧ q.2.2 = 0) := by
      intro i hi
      obtain ⟨cs', h1, h2⟩ := hel i (by omega)
      obtain ⟨_, _, hcell⟩ := World.cells?_some h1
      obtain ⟨q, R, cr, rfl, g1, g2, g3, g4⟩ := ev_in h2 fun x hxx => by
        refine hw x ?_
        rw [hx.1]
        simp only [DataW.weights, Tryz.underlying26]
        refine List.mem_cons_of_mem _ (List.mem_append_left _ (weightsAll_mem (d := D i) ?_ x hxx))
        exact List.mem_map.mpr ⟨i, List.mem_range.mpr hi, rfl⟩
      exact ⟨(q, R, cr), fun k x hk => by
        have hk' := (List.getElem?_eq_some_iff.1 hk).1
        have hk6 : k < 6 := hk'
        rw [hcell k hk6]
        simpa using hk, g1, g2, g3, g4⟩
    obtain ⟨q, hq⟩ := choose_lt (α := Evt × Option Addr × Nat) each
    refine ⟨(List.range len).map fun i => (q i).1, by simp, hl, by unfold maxLen at hm; omega, fun j hj => ?_⟩
    have hj' : j < len := by simpa using hj
    have hat : evAt ((List.range len).map fun i => (q i).1) j = (q j).1 := by simp [evAt, hj']
    obtain ⟨cc, g1, g2, g3, g4⟩ := hq j hj'
    rw [hat]
    have c0 := cc 0 _ rfl
    have c1 := cc 1 _ rfl
    have c2 := cc 2 _ rfl
    have c3 := cc 3 _ rfl
    have c4 := cc 4 _ rfl
    have c5 := cc 5 _ rfl
    obtain ⟨b, off, spot⟩ := ad
    have hspot : spot = none := by
      have h0 := World.cell?_spot ((hq 0 (by omega)).1 0 _ rfl)
      simpa [Addr.add] using h0
    subst hspot
    simp only [add_plain, Nat.add_zero] at c0 c1 c2 c3 c4 c5
    exact ⟨b, off, (q j).2.1, (q j).2.2, rfl, World.block_lt_of_cell? w _ c0, c0, c1, c2, c3, c4, c5, g1, g2, g3, g4⟩
theorem Evs.take {w : World} {a : Option Addr} {ls : List Evt} (h : Evs w a ls) (n : Nat) : Evs w a (ls.take n) := fun j hj => by
  have hj' : j < n ∧ j < ls.length := by simp at hj; omega
  have : evAt (ls.take n) j = evAt ls j := by simp [evAt, hj'.1]
  rw [this]
  exact h j hj'.2
theorem Evs.below {w w' : World} {A : Option Addr} {l : List Evt} (h : Evs w A l) (hb : Below w.heap.size w w') : Evs w' A l := fun j hj => by
  obtain ⟨b, off, R, cr, e1, e2, c0, c1, c2, c3, c4, c5, g1, g2, g3, g4⟩ := h j hj
  exact ⟨b, off, R, cr, e1, Nat.lt_of_lt_of_le e2 hb.size, (hb.cell e2).trans c0, (hb.cell e2).trans c1, (hb.cell e2).trans c2, (hb.cell e2).trans c3, (hb.cell e2).trans c4, (hb.cell e2).trans c5, g1, g2, Me.Rd.more (g3.below hb) hb.size, g4⟩
theorem four_set : Tryz.prog.cellsOf 25 = 4 := by kernel_rfl
theorem three_q : Tryz.prog.cellsOf 23 = 3 := by kernel_rfl
set_option maxRecDepth 100000 in
theorem set_val {H : Type} {enc : TypeId × Value → H} {w : World} {base : Nat} {held : Bool} {v : Value} {D : DataW H} {Pl : List MemPlace} {r : Reach} {b0 : Nat} (hv : Value.okWide Tryz.prog w r b0 25 v) (h : DataW.Trod enc Tryz.prog w base (fun _ => true) held 25 v D Pl) :
    ∃ (a b c d : Int), v = .agg #[.int .i64 a, .int .i64 b, .int .i64 c, .int .i64 d] := by
  obtain ⟨cs, rfl, hsz⟩ := okWide_struct Tryz.underlying25 hv
  obtain ⟨fuel, hf⟩ := h
  obtain ⟨y0, y1, m, hx, hlen, h0, h1⟩ := trod_struct2 Tryz.underlying25 hf
  rw [four_set] at hlen
  have e0 : (Value.agg cs).cells = cs := rfl
  rw [e0] at hlen h0 h1
  obtain ⟨l, hl⟩ : ∃ l, cs.toList = l := ⟨_, rfl⟩
  rw [hl] at hlen h0 h1
  match l, hlen with
  | [v0, v1, v2, v3], _ =>
    simp only [Mg.one_int, three_q] at h0 h1
    simp at h0 h1
    obtain ⟨k0, hk0, _, _⟩ := DataW.trod_int Tryz.underlying3 h0
    obtain ⟨z0, z1, z2, m2, _, _, g0, g1, g2⟩ := trod_struct3 Tryz.underlying23 h1
    simp only [Mg.one_int] at g0 g1 g2
    simp at g0 g1 g2
    obtain ⟨k1, hk1, _, _⟩ := DataW.trod_int Tryz.underlying3 g0
    obtain ⟨k2, hk2, _, _⟩ := DataW.trod_int Tryz.underlying3 g1
    obtain ⟨k3, hk3, _, _⟩ := DataW.trod_int Tryz.underlying3 g2
    simp only [List.cons.injEq, and_true] at hk0 hk1 hk2 hk3
    refine ⟨k0, k1, k2, k3, ?_⟩
    rw [hk0, hk1, hk2, hk3] at hl
    have : cs = #[.int .i64 k0, .int .i64 k1, .int .i64 k2, .int .i64 k3] := by rw [← Array.toList_inj, hl]
    rw [this]
set_option maxRecDepth 100000 in
theorem ev_val {H : Type} {enc : TypeId × Value → H} {w : World} {base : Nat} {held : Bool} {v : Value} {D : DataW H} {Pl : List MemPlace} {r : Reach} {b0 : Nat} (hv : Value.okWide Tryz.prog w r b0 48 v) (h : DataW.Trod enc Tryz.prog w base (fun _ => true) held 48 v D Pl) (hw : ∀ x ∈ D.weights Tryz.prog 48, x ≤ reachBytes) :
    ∃ (q : Evt) (A : Option Addr) (c : Nat), v = .agg (evC q.k q.i A q.p.length c) ∧ q.p.length ≤ c ∧ c ≤ 140737488351232 ∧ Me.Rd w w.heap.size A q.p ∧ (A = none → q.p.length = 0 ∧ c = 0) := by
  obtain ⟨cs, rfl, hsz⟩ := okWide_struct Tryz.underlying48 hv
  obtain ⟨fuel, hf⟩ := h
  obtain ⟨q, A, c, e, hi⟩ := ev_in hf hw
  refine ⟨q, A, c, ?_, hi⟩
  have : cs.toList = (evC q.k q.i A q.p.length c).toList := by simpa [Value.cells] using e
  rw [Array.toList_inj.1 this]
set_option maxRecDepth 100000 in
set_option maxHeartbeats 4000000 in
/-- Fifty at most are looked at. -/
theorem cut_any (a : Option Addr) (cap : Nat) (ls : List Evt) (w : World) (hc : ls.length ≤ cap) (hm : cap ≤ 9223372036854775807) (L : Nat) (hL : (ls.take 50).length = L) : Calls Tryz.prog 10 #[.slice a ls.length cap] w fun e w' => e = .returned (.slice a L cap) ∧ w = w' := by
  by_cases h : 50 < ls.length
  · have HL : Hid (L = 50) := by show _ = _; rw [← hL]; simp; omega
    have g1 : (50 : Int) < (ls.length : Int) := by omega
    have g2 : (50 : Int) ≤ (cap : Int) := by omega
    obtain ⟨n, hn⟩ : ∃ n, ls.length = n := ⟨_, rfl⟩
    rw [hn] at g1 ⊢
    clear h hc hn hL
    go_enter Tryz.func10, Tryz.ntmps10
    go_wp2
    go_ret
    exact ⟨by rw [HL.out]; rfl, rfl⟩
  · have HL : Hid (L = ls.length) := by show _ = _; rw [← hL]; simp; omega
    have g1 : ¬ (50 : Int) < (ls.length : Int) := by omega
    obtain ⟨n, hn⟩ : ∃ n, ls.length = n := ⟨_, rfl⟩
    rw [hn] at g1 ⊢
    have HN : Hid (ls.length = n) := hn
    clear h hc hn hL
    go_enter Tryz.func10, Tryz.ntmps10
    go_wp2
    go_ret
    exact ⟨by rw [HL.out, HN.out]; rfl, rfl⟩
end Go.Proofs.YtfnlhfelpdkieaaGreat.So
/- The document's new store; both sides' stores ahead of any event. -/
namespace Go.Proofs.YtfnlhfelpdkieaaGreat.So
open Go.RowKit
open Go.Proofs.YtfnlhfelpdkieaaGreat.Me Go.Proofs.YtfnlhfelpdkieaaGreat.Sb
set_option linter.unusedVariables false
set_option linter.unusedSimpArgs false

/-- A store of the document's, as it lies. -/
def rsc (a b c d e : Int) (u l : Value) (r : Int) (k : Value) : Array Value := #[.int .i64 a, .int .i64 b, .int .i64 c, .int .i64 d, .int .i64 e, u, l, .int .i64 r, k]
def rs0 : Array Value := #[.int .i64 0, .int .i64 0, .int .i64 0, .int .i64 0, .int .i64 0, .slice none 0 0, .slice none 0 0, .int .i64 0, .slice none 0 0]
def numR (n m : Int) : Bool := decide (0 ≤ n ∧ n ≤ m)
theorem numR_yes {n m : Int} (h : 0 ≤ n ∧ n ≤ m) : numR n m = true := decide_eq_true h
theorem numR_no {n m : Int} (h : ¬ (0 ≤ n ∧ n ≤ m)) : numR n m = false := decide_eq_false h
theorem number_any (n m : Int) (w : World) : Calls Tryz.prog 25 #[.int .i64 n, .int .i64 m] w fun e w' => e = .returned (.bool (numR n m)) ∧ w = w' := by
  by_cases a : 0 ≤ n
  · by_cases b : n ≤ m
    · rw [numR_yes ⟨a, b⟩]
      go_enter Tryz.func25, Tryz.ntmps25
      go_wp2
      go_ret
      exact ⟨rfl, rfl⟩
    · rw [numR_no fun h => b h.2]
      go_enter Tryz.func25, Tryz.ntmps25
      go_wp2
      go_ret
      exact ⟨rfl, rfl⟩
  · rw [numR_no fun h => a h.1]
    go_enter Tryz.func25, Tryz.ntmps25
    go_wp2
    go_ret
    exact ⟨rfl, rfl⟩
theorem two_new (w : World) (x y : Array Value) (T U : TypeId) : Below w.heap.size w ((w.alloc (.cells x T)).alloc (.cells y U)) ∧ ((w.alloc (.cells x T)).alloc (.cells y U)).heap[w.heap.size + 1]? = some (.cells y U (0, 0)) ∧ ((w.alloc (.cells x T)).alloc (.cells y U)).heap[w.heap.size]? = some (.cells x T (0, 0)) := by
  refine ⟨Me.below_alloc (Me.below_alloc (Below.refl _ _)), ?_, ?_⟩
  · have := heap_alloc_new (w.alloc (.cells x T)) (.cells y U)
    rwa [World.size_alloc] at this
  · exact (Below.heap_alloc _ _ _ (by simp)).trans (heap_alloc_new w _)
section
variable (me qh qb qg : Int) (w : World)
set_option maxRecDepth 100000 in
set_option maxHeartbeats 8000000 in
theorem RNew_no (h : ¬ NewOk me qh qb qg) : Calls Tryz.prog 8 #[.int .i64 me, .agg #[.int .i64 qh, .int .i64 qb, .int .i64 qg]] w fun e w' => e = .returned (.tuple #[.agg rs0, .int .i64 1]) ∧ Hid (Below w.heap.size w w') := by
  have HN := Lib.hid (fun n m W => number_any n m W)
  obtain ⟨hB, hD, _⟩ := two_new w #[.int .i64 qh, .int .i64 qb, .int .i64 qg] rs0 23 37
  unfold rs0 at hB hD ⊢
  have HB := Lib.hid hB
  have HD := Lib.hid hD
  have hc : numR me 63 = false ∨ (numR me 63 = true ∧ (numR qh 256 = false ∨ (numR qh 256 = true ∧ (numR qb 1048576 = false ∨ (numR qb 1048576 = true ∧ numR qg 256 = false))))) := by
    by_cases a : 0 ≤ me ∧ me ≤ 63
    · refine .inr ⟨numR_yes a, ?_⟩
      by_cases b : 0 ≤ qh ∧ qh ≤ 256
      · refine .inr ⟨numR_yes b, ?_⟩
        by_cases c : 0 ≤ qb ∧ qb ≤ 1048576
        · exact .inr ⟨numR_yes c, numR_no fun d => h ⟨a.1, by omega, b.1, b.2, c.1, c.2, d.1, d.2⟩⟩
        · exact .inl (numR_no c)
      · exact .inl (numR_no b)
    · exact .inl (numR_no a)
  clear h hB hD
  rcases hc with h | ⟨h1, h | ⟨h2, h | ⟨h3, h⟩⟩⟩
  all_goals
    go_enter Tryz.func8, Tryz.ntmps8
    go_wp2_with (first
      | (go_at_call 25; refine (HN.out _ _ _).mono ?_; rintro e w2 ⟨rfl, rfl⟩)
      | (refine wpList_store_row rfl 37 (.tmp 4) (.tmp 27) rfl (w.heap.size + 1) #[.int .i64 0, .int .i64 0, .int .i64 0, .int .i64 0, .int .i64 0, .slice none 0 0, .slice none 0 0, .int .i64 0, .slice none 0 0] rfl rfl 37 _ HD.out (by kernel_rfl) rfl (by kernel_rfl) ?_))
    exact Sb.ret_box2 (g := w.heap.size + 1) rfl (by rfl) (setRow_heap _ _ _ _ _ _ HD.out) rfl Tryz.underlying37 (by kernel_rfl) rfl ⟨rfl, Sb.below_setRow _ HB.out (by omega)⟩
theorem rs_one (a b c d e r : Int) (A B C : Option Addr) (n1 n2 n3 c1 c2 c3 : Nat) : (#[.int .i64 a, .int .i64 b, .int .i64 c, .int .i64 d, .int .i64 e, .slice A n1 c1, .slice B n2 c2, .int .i64 r, .slice C n3 c3] : Array Value).all (·.oneCell') = true := by simp [Value.oneCell']
set_option maxRecDepth 100000 in
set_option maxHeartbeats 8000000 in
theorem RNew_ok (h : NewOk me qh qb qg) : Calls Tryz.prog 8 #[.int .i64 me, .agg #[.int .i64 qh, .int .i64 qb, .int .i64 qg]] w fun e w' => e = .returned (.tuple #[.agg (rsc me qh qb qg 0 (.slice none 0 0) (.slice none 0 0) qg (.slice none 0 0)), .int .i64 0]) ∧ Hid (Below w.heap.size w w') := by
  have HN := Lib.hid (fun n m W => number_any n m W)
  obtain ⟨hB, hD, _⟩ := two_new w #[.int .i64 qh, .int .i64 qb, .int .i64 qg] rs0 23 37
  unfold rs0 at hB hD
  unfold rsc
  have HB := Lib.hid hB
  have HD := Lib.hid hD
  have h1 : numR me 63 = true := numR_yes ⟨h.s0, by have := h.s1; omega⟩
  have h2 : numR qh 256 = true := numR_yes ⟨h.h0, h.h1⟩
  have h3 : numR qb 1048576 = true := numR_yes ⟨h.b0, h.b1⟩
  have h4 : numR qg 256 = true := numR_yes ⟨h.g0, h.g1⟩
  clear h hB hD
  go_enter Tryz.func8, Tryz.ntmps8
  go_wp2_with (first
    | (go_at_call 25; refine (HN.out _ _ _).mono ?_; rintro e w2 ⟨rfl, rfl⟩)
    | (refine wpList_store_row rfl 37 (.tmp 4) (.tmp 33) rfl (w.heap.size + 1) #[.int .i64 me, .int .i64 qh, .int .i64 qb, .int .i64 qg, .int .i64 0, .slice none 0 0, .slice none 0 0, .int .i64 qg, .slice none 0 0] rfl rfl 37 _ HD.out (by kernel_rfl) rfl (rs_one _ _ _ _ _ _ _ _ _ _ _ _ _ _ _) ?_))
  exact Sb.ret_box2 (g := w.heap.size + 1) rfl (by rfl) (setRow_heap _ _ _ _ _ _ HD.out) rfl Tryz.underlying37 (by kernel_rfl) rfl ⟨rfl, Sb.below_setRow _ HB.out (by omega)⟩
end
end Go.Proofs.YtfnlhfelpdkieaaGreat.So
/- Both sides' stores ahead of any event. -/
namespace Go.Proofs.YtfnlhfelpdkieaaGreat.So
open Go.RowKit
open Go.Proofs.YtfnlhfelpdkieaaGreat.Me Go.Proofs.YtfnlhfelpdkieaaGreat.Sb
set_option linter.unusedVariables false
set_option linter.unusedSimpArgs false

theorem results_tct {fn : Func} {q p u : Tmp} {ty : TypeId} (h : fn.results = #[.tmp q, .cell p ty, .tmp u]) (tmps : Array Value) (P : Program) (w : World) :
    (results fn tmps).run P w =
      ((asAddr (tmps.getD p undef)).run P w).andThen fun a w₁ => ((loadVar ty a).run P w₁).andThen fun v w₂ => .ok (.tuple #[tmps.getD q undef, v, tmps.getD u undef]) w₂ := by
  simp only [results, h]
  simp [Sem.run_bind, Result.andThen]
theorem ret_box3 {fn : Func} {R : Ending → World → Prop} {a : Act} {w : World} {g : Nat} {cs : Array Value} {q p u : Tmp} {ty t : TypeId} {fr : Nat × Nat} {d : TypeDesc} (hres : fn.results = #[.tmp q, .cell p ty, .tmp u]) (hp : a.tmps.getD p undef = .pointer (some ⟨g, 0, none⟩)) (hg : w.heap[g]? = some (.cells cs t fr))
    (hd : d.isRow = true) (hu : Tryz.prog.underlying ty = some d) (hi : (Tryz.prog.info? ty).map (·.size) = some cs.size) (hdef : a.defers = [])
    (hR : R (.returned (.tuple #[a.tmps.getD q undef, .agg cs, a.tmps.getD u undef])) w) : bodyPost Tryz.prog fn R .ret a w :=
  bodyPost_ret (v := .tuple #[a.tmps.getD q undef, .agg cs, a.tmps.getD u undef]) (by rw [results_tct hres, hp]; simp only [asAddr, Sem.run_pure, Result.andThen_ok, run_loadVar_row w g t ty cs fr d hg hu (by cases d <;> first | rfl | cases hd) hi]) hdef hR
theorem set_cells {W : World} {D : Nat} {a b c d : Int} (h : W.heap[D]? = some (.cells #[.int .i64 a, .int .i64 b, .int .i64 c, .int .i64 d] 25 (0, 0))) : W.cell? ⟨D, 0, none⟩ = some (.int .i64 a) ∧ W.cell? ⟨D, 1, none⟩ = some (.int .i64 b) ∧ W.cell? ⟨D, 2, none⟩ = some (.int .i64 c) ∧ W.cell? ⟨D, 3, none⟩ = some (.int .i64 d) := by
  refine ⟨?_, ?_, ?_, ?_⟩
  all_goals
    rw [cell_of_row _ D _ _ _ (0, 0) h]
    rfl
section
variable (me qh qb qg : Int) (w : World)
set_option maxRecDepth 100000 in
set_option maxHeartbeats 8000000 in
theorem done0_no (h : ¬ NewOk me qh qb qg) : Calls Tryz.prog 15 #[.agg #[.int .i64 me, .int .i64 qh, .int .i64 qb, .int .i64 qg], .slice none 0 0] w fun e w' => e = .returned (.tuple #[.pointer none, .agg rs0, .bool false]) ∧ Hid (Below w.heap.size w w') := by
  have HN := Lib.hid (fun W => New_no me qh qb qg h W)
  have HR := Lib.hid (fun W => RNew_no me qh qb qg W h)
  obtain ⟨hB, hD, hX⟩ := two_new w #[.int .i64 me, .int .i64 qh, .int .i64 qb, .int .i64 qg] rs0 25 37
  unfold rs0 at hB hD hX HR ⊢
  have HB := Lib.hid hB
  have HD := Lib.hid hD
  have HX := Lib.hid hX
  obtain ⟨x0, x1, x2, x3⟩ := set_cells hX
  clear h hB hD hX
  go_enter Tryz.func15, Tryz.ntmps15
  go_wp2_with (first
    | (go_at_call 7; refine (HN.out _).mono ?_; rintro e w1 ⟨rfl, b1⟩; have HX1 := Lib.hid ((b1.out.block _ (Array.getElem?_eq_some_iff.1 HX.out).1).trans HX.out); obtain ⟨y0, y1, y2, y3⟩ := set_cells HX1.out)
    | (go_at_call 8; refine (HR.out _).mono ?_; rintro e w2 ⟨rfl, b2⟩))
  have HB2 := Lib.hid (go_on (go_on HB.out b1.out) b2.out)
  have hD2 := (b2.out.block _ (Nat.lt_of_lt_of_le (Array.getElem?_eq_some_iff.1 HD.out).1 b1.out.size)).trans ((b1.out.block _ (Array.getElem?_eq_some_iff.1 HD.out).1).trans HD.out)
  have hl2 : w.heap.size + 1 < w2.heap.size := (Array.getElem?_eq_some_iff.1 hD2).1
  obtain ⟨V, hV⟩ : ∃ V, w2.alloc (.cells #[.int .i64 0, .int .i64 0, .int .i64 0, .int .i64 0, .int .i64 0, .slice none 0 0, .slice none 0 0, .int .i64 0, .slice none 0 0] 37) = V := ⟨_, rfl⟩
  have hVb : Below w2.heap.size w2 V := by rw [← hV]; exact Me.below_alloc (Below.refl _ _)
  have hV9 : V.heap[w2.heap.size]? = some (.cells #[.int .i64 0, .int .i64 0, .int .i64 0, .int .i64 0, .int .i64 0, .slice none 0 0, .slice none 0 0, .int .i64 0, .slice none 0 0] 37 (0, 0)) := by rw [← hV]; exact heap_alloc_new w2 _
  have hVD := (hVb.block _ hl2).trans hD2
  have HBV := Lib.hid (go_on HB2.out hVb)
  rw [hV]
  have HV9 := Lib.hid hV9
  have HL2 := Lib.hid hl2
  have HVD := Lib.hid hVD
  clear hV hVb hV9 hVD hD2 hl2 HX HX1 HD HB x0 x1 x2 x3 y0 y1 y2 y3 HN HR b1 b2 HB2
  have S0 : V.drew.heap[w2.heap.size]? = some (.cells #[.int .i64 0, .int .i64 0, .int .i64 0, .int .i64 0, .int .i64 0, .slice none 0 0, .slice none 0 0, .int .i64 0, .slice none 0 0] 37 (0, 0)) := HV9.out
  refine wp_region_held_drew (S := fun W => W.heap[w2.heap.size]? = some (.cells #[.int .i64 0, .int .i64 0, .int .i64 0, .int .i64 0, .int .i64 0, .slice none 0 0, .slice none 0 0, .int .i64 0, .slice none 0 0] 37 (0, 0))) (by kernel_rfl) S0 (fun hHeld => ?_)
  refine wpAnyH_take (i := 0) (v := .pointer none) rfl (by kernel_rfl) (by kernel_rfl) (by kernel_rfl) (fun _ _ _ h => h) (Or.inl ⟨by rfl, ?_⟩) (by first | assumption | exact trivial) ?_
  · intro W hSW; go_simp; try (with_reducible rfl)
  simp only [Act.put, List.getElem_toArray, List.getElem_cons_succ, List.getElem_cons_zero, List.setIfInBounds_toArray, List.set_cons_zero, List.set_cons_succ]
  refine wpAnyH_take (i := 1) (v := .agg #[.int .i64 0, .int .i64 0, .int .i64 0, .int .i64 0, .int .i64 0, .slice none 0 0, .slice none 0 0, .int .i64 0, .slice none 0 0]) rfl (by kernel_rfl) (by kernel_rfl) (by kernel_rfl) (fun _ _ _ h => h) (Or.inl ⟨by rfl, ?_⟩) (by first | assumption | exact trivial) ?_
  · intro W hSW; have q := fun k => cell_of_row W w2.heap.size k _ _ (0, 0) hSW; have q0 := q 0; have q1 := q 1; have q2 := q 2; have q3 := q 3; have q4 := q 4; have q5 := q 5; have q6 := q 6; have q7 := q 7; have q8 := q 8; clear q; go_simp; try (with_reducible rfl)
  simp only [Act.put, List.getElem_toArray, List.getElem_cons_succ, List.getElem_cons_zero, List.setIfInBounds_toArray, List.set_cons_zero, List.set_cons_succ]
  refine wpAnyH_take (i := 2) (v := .pointer none) rfl (by kernel_rfl) (by kernel_rfl) (by kernel_rfl) (fun _ _ _ h => h) (Or.inl ⟨by rfl, ?_⟩) (by first | assumption | exact trivial) ?_
  · intro W hSW; go_simp; try (with_reducible rfl)
  simp only [Act.put, List.getElem_toArray, List.getElem_cons_succ, List.getElem_cons_zero, List.setIfInBounds_toArray, List.set_cons_zero, List.set_cons_succ]
  refine wpAnyH_ready (rs := [3]) (by kernel_rfl) (by simp) ?_
  refine AllReadyH.cons rfl (fun K hK => ?_) AllReadyH.nil
  rw [if_pos (by kernel_rfl)]
  refine wp_store_row 37 (.tmp 5) (.tmp 39) rfl (w.heap.size + 1) #[.int .i64 0, .int .i64 0, .int .i64 0, .int .i64 0, .int .i64 0, .slice none 0 0, .slice none 0 0, .int .i64 0, .slice none 0 0] rfl (by rfl) 37 _ HVD.out (by kernel_rfl) rfl (by kernel_rfl) ?_
  simp only [Act.put, List.getElem_toArray, List.getElem_cons_succ, List.getElem_cons_zero, List.setIfInBounds_toArray, List.set_cons_zero, List.set_cons_succ]
  obtain ⟨V3, hV3⟩ : ∃ X, V.drew.setRow (w.heap.size + 1) #[.int .i64 0, .int .i64 0, .int .i64 0, .int .i64 0, .int .i64 0, .slice none 0 0, .slice none 0 0, .int .i64 0, .slice none 0 0] = X := ⟨_, rfl⟩
  have hD3 : V3.heap[w.heap.size + 1]? = some (.cells #[.int .i64 0, .int .i64 0, .int .i64 0, .int .i64 0, .int .i64 0, .slice none 0 0, .slice none 0 0, .int .i64 0, .slice none 0 0] 37 (0, 0)) := by rw [← hV3]; exact setRow_heap _ _ _ _ _ _ HVD.out
  have hS3 : V3.heap[w2.heap.size]? = some (.cells #[.int .i64 0, .int .i64 0, .int .i64 0, .int .i64 0, .int .i64 0, .slice none 0 0, .slice none 0 0, .int .i64 0, .slice none 0 0] 37 (0, 0)) := by rw [← hV3]; exact (setRow_other _ _ _ _ (by have := HL2.out; omega)).trans HV9.out
  have hB3 : Below w.heap.size w V3 := by rw [← hV3]; exact Sb.below_setRow _ HBV.out.drew (by omega)
  rw [hV3]
  clear hV3
  refine hK.out _ _ (hS3) (fun hHeld => ?_)
  clear hK K
  refine wpAnyH_take (i := 4) (v := .bool false) rfl (by kernel_rfl) (by kernel_rfl) (by kernel_rfl) (fun _ _ _ h => h) (Or.inl ⟨by rfl, ?_⟩) (by first | assumption | exact trivial) ?_
  · intro W hSW; go_simp; try (with_reducible rfl)
  simp only [Act.put, List.getElem_toArray, List.getElem_cons_succ, List.getElem_cons_zero, List.setIfInBounds_toArray, List.set_cons_zero, List.set_cons_succ]
  refine wpAnyH_done (by kernel_rfl) ?_ _
  go_wp2
  exact ret_box3 (g := w.heap.size + 1) rfl (by rfl) hD3 rfl Tryz.underlying37 (by kernel_rfl) rfl ⟨rfl, hB3⟩
theorem rs_cells {W : World} {D : Nat} {a b c d e r : Int} {u l k : Value} (h : W.heap[D]? = some (.cells #[.int .i64 a, .int .i64 b, .int .i64 c, .int .i64 d, .int .i64 e, u, l, .int .i64 r, k] 37 (0, 0))) :
    W.cell? ⟨D, 0, none⟩ = some (.int .i64 a) ∧ W.cell? ⟨D, 1, none⟩ = some (.int .i64 b) ∧ W.cell? ⟨D, 2, none⟩ = some (.int .i64 c) ∧ W.cell? ⟨D, 3, none⟩ = some (.int .i64 d) ∧ W.cell? ⟨D, 4, none⟩ = some (.int .i64 e) ∧ W.cell? ⟨D, 5, none⟩ = some u ∧ W.cell? ⟨D, 6, none⟩ = some l ∧ W.cell? ⟨D, 7, none⟩ = some (.int .i64 r) ∧ W.cell? ⟨D, 8, none⟩ = some k := by
  refine ⟨?_, ?_, ?_, ?_, ?_, ?_, ?_, ?_, ?_⟩
  all_goals
    rw [cell_of_row _ D _ _ _ (0, 0) h]
    rfl
set_option maxRecDepth 100000 in
set_option maxHeartbeats 8000000 in
theorem done0_ok (M : Nat) (O : Nat → Prop) (hM : M ≤ w.heap.size) (hO : ∀ k, O k → k < w.heap.size) (h : NewOk me qh qb qg) : Calls Tryz.prog 15 #[.agg #[.int .i64 me, .int .i64 qh, .int .i64 qb, .int .i64 qg], .slice none 0 0] w fun e w' =>
    ∃ D, e = .returned (.tuple #[.pointer (some ⟨D, 0, none⟩), .agg (rsc me qh qb qg 0 (.slice none 0 0) (.slice none 0 0) qg (.slice none 0 0)), .bool true]) ∧ Hid (Lv M O w' 0 D (new0 me qh qb qg)) ∧ Hid (Below w.heap.size w w') := by
  have HN := Lib.hid (fun W (hW : w.heap.size + 1 < W.heap.size) => New_l M (fun k => O k ∨ k = w.heap.size + 1) me qh qb qg h W (by omega) fun k hk => hk.elim (fun h => by have := hO k h; omega) fun h => by omega)
  have HR := Lib.hid (fun W => RNew_ok me qh qb qg W h)
  have HC := Lib.hid (fun W => cut_any none 0 [] W (Nat.le_refl _) (Nat.zero_le _) 0 rfl)
  obtain ⟨hB, hD, hX⟩ := two_new w #[.int .i64 me, .int .i64 qh, .int .i64 qb, .int .i64 qg] rs0 25 37
  unfold rs0 at hB hD hX
  unfold rsc at HR ⊢
  have HB := Lib.hid hB
  have HD := Lib.hid hD
  have HX := Lib.hid hX
  obtain ⟨x0, x1, x2, x3⟩ := set_cells hX
  clear h hB hD hX
  go_enter Tryz.func15, Tryz.ntmps15
  go_wp2_with (first
    | (go_at_call 7; refine (HN.out _ (Array.getElem?_eq_some_iff.1 HD.out).1).mono ?_; rintro e w1 ⟨D, rfl, l1, b1⟩; have HX1 := Lib.hid ((b1.out.block _ (Array.getElem?_eq_some_iff.1 HX.out).1).trans HX.out); obtain ⟨y0, y1, y2, y3⟩ := set_cells HX1.out)
    | (go_at_call 8; refine (HR.out _).mono ?_; rintro e w2 ⟨rfl, b2⟩)
    | (go_at_call 10; refine (HC.out _).mono ?_; rintro e w3 ⟨rfl, rfl⟩))
  have HB2 := Lib.hid (go_on (go_on HB.out b1.out) b2.out)
  have hD2 := (b2.out.block _ (Nat.lt_of_lt_of_le (Array.getElem?_eq_some_iff.1 HD.out).1 b1.out.size)).trans ((b1.out.block _ (Array.getElem?_eq_some_iff.1 HD.out).1).trans HD.out)
  have hl2 : w.heap.size + 1 < w2.heap.size := (Array.getElem?_eq_some_iff.1 hD2).1
  obtain ⟨V, hV⟩ : ∃ V, w2.alloc (.cells #[.int .i64 me, .int .i64 qh, .int .i64 qb, .int .i64 qg, .int .i64 0, .slice none 0 0, .slice none 0 0, .int .i64 qg, .slice none 0 0] 37) = V := ⟨_, rfl⟩
  have hVb : Below w2.heap.size w2 V := by rw [← hV]; exact Me.below_alloc (Below.refl _ _)
  have hV9 : V.heap[w2.heap.size]? = some (.cells #[.int .i64 me, .int .i64 qh, .int .i64 qb, .int .i64 qg, .int .i64 0, .slice none 0 0, .slice none 0 0, .int .i64 qg, .slice none 0 0] 37 (0, 0)) := by rw [← hV]; exact heap_alloc_new w2 _
  have hVD := (hVb.block _ hl2).trans hD2
  have HBV := Lib.hid (go_on HB2.out hVb)
  have HLV := Lib.hid ((l1.out.below b2.out).below hVb)
  rw [hV]
  have HV9 := Lib.hid hV9
  have HL2 := Lib.hid hl2
  have HVD := Lib.hid hVD
  clear hV hVb hV9 hVD hD2 hl2 HX HX1 HD HB x0 x1 x2 x3 y0 y1 y2 y3 HN HR b1 b2 HB2 HC
  go_loopw [11] (fun v11 wr => v11 = .int .i64 0 ∧ V = wr) (fun _ _ => 0)
  case atStart => exact ⟨rfl, rfl⟩
  case round =>
    obtain ⟨rfl, rfl⟩ := hrel
    go_wp2
    have S0 : V.drew.heap[w2.heap.size]? = some (.cells #[.int .i64 me, .int .i64 qh, .int .i64 qb, .int .i64 qg, .int .i64 0, .slice none 0 0, .slice none 0 0, .int .i64 qg, .slice none 0 0] 37 (0, 0)) := HV9.out
    refine wp_region_held_drew (S := fun W => W.heap[w2.heap.size]? = some (.cells #[.int .i64 me, .int .i64 qh, .int .i64 qb, .int .i64 qg, .int .i64 0, .slice none 0 0, .slice none 0 0, .int .i64 qg, .slice none 0 0] 37 (0, 0))) (by kernel_rfl) S0 (fun hHeld => ?_)
    refine wpAnyH_take (i := 0) (v := .pointer (some ⟨D, 0, none⟩)) rfl (by kernel_rfl) (by kernel_rfl) (by kernel_rfl) (fun _ _ _ h => h) (Or.inl ⟨by rfl, ?_⟩) (by first | assumption | exact trivial) ?_
    · intro W hSW; go_simp; try (with_reducible rfl)
    simp only [Act.put, List.getElem_toArray, List.getElem_cons_succ, List.getElem_cons_zero, List.setIfInBounds_toArray, List.set_cons_zero, List.set_cons_succ]
    refine wpAnyH_take (i := 1) (v := .agg #[.int .i64 me, .int .i64 qh, .int .i64 qb, .int .i64 qg, .int .i64 0, .slice none 0 0, .slice none 0 0, .int .i64 qg, .slice none 0 0]) rfl (by kernel_rfl) (by kernel_rfl) (by kernel_rfl) (fun _ _ _ h => h) (Or.inl ⟨by rfl, ?_⟩) (by first | assumption | exact trivial) ?_
    · intro W hSW; obtain ⟨q0, q1, q2, q3, q4, q5, q6, q7, q8⟩ := rs_cells hSW; go_simp; try (with_reducible rfl)
    simp only [Act.put, List.getElem_toArray, List.getElem_cons_succ, List.getElem_cons_zero, List.setIfInBounds_toArray, List.set_cons_zero, List.set_cons_succ]
    refine wpAnyH_take (i := 2) (v := .pointer (some ⟨D, 0, none⟩)) rfl (by kernel_rfl) (by kernel_rfl) (by kernel_rfl) (fun _ _ _ h => h) (Or.inl ⟨by rfl, ?_⟩) (by first | assumption | exact trivial) ?_
    · intro W hSW; go_simp; try (with_reducible rfl)
    simp only [Act.put, List.getElem_toArray, List.getElem_cons_succ, List.getElem_cons_zero, List.setIfInBounds_toArray, List.set_cons_zero, List.set_cons_succ]
    refine wpAnyH_ready (rs := [3]) (by kernel_rfl) (by simp) ?_
    refine AllReadyH.cons rfl (fun K hK => ?_) AllReadyH.nil
    rw [if_pos (by kernel_rfl)]
    refine wp_store_row 37 (.tmp 5) (.tmp 64) rfl (w.heap.size + 1) #[.int .i64 me, .int .i64 qh, .int .i64 qb, .int .i64 qg, .int .i64 0, .slice none 0 0, .slice none 0 0, .int .i64 qg, .slice none 0 0] rfl (by rfl) 37 _ HVD.out (by kernel_rfl) rfl (rs_one _ _ _ _ _ _ _ _ _ _ _ _ _ _ _) ?_
    simp only [Act.put, List.getElem_toArray, List.getElem_cons_succ, List.getElem_cons_zero, List.setIfInBounds_toArray, List.set_cons_zero, List.set_cons_succ]
    obtain ⟨V3, hV3⟩ : ∃ X, V.drew.setRow (w.heap.size + 1) #[.int .i64 me, .int .i64 qh, .int .i64 qb, .int .i64 qg, .int .i64 0, .slice none 0 0, .slice none 0 0, .int .i64 qg, .slice none 0 0] = X := ⟨_, rfl⟩
    have hD3 : V3.heap[w.heap.size + 1]? = some (.cells #[.int .i64 me, .int .i64 qh, .int .i64 qb, .int .i64 qg, .int .i64 0, .slice none 0 0, .slice none 0 0, .int .i64 qg, .slice none 0 0] 37 (0, 0)) := by rw [← hV3]; exact setRow_heap _ _ _ _ _ _ HVD.out
    have hS3 : V3.heap[w2.heap.size]? = some (.cells #[.int .i64 me, .int .i64 qh, .int .i64 qb, .int .i64 qg, .int .i64 0, .slice none 0 0, .slice none 0 0, .int .i64 qg, .slice none 0 0] 37 (0, 0)) := by rw [← hV3]; exact (setRow_other _ _ _ _ (by have := HL2.out; omega)).trans HV9.out
    have hB3 : Below w.heap.size w V3 := by rw [← hV3]; exact Sb.below_setRow _ HBV.out.drew (by omega)
    have hLv3 : Lv M O V3 0 D (new0 me qh qb qg) := by
      rw [← hV3]
      refine Lv.other (O := fun k => O k ∨ k = w.heap.size + 1) ?_ fun k _ h => .inl h
      refine (HLV.out.below (Below.refl _ _).drew).but (S := fun k => k = w.heap.size + 1) ((But.refl (fun k => k = w.heap.size + 1) V.drew).setRow (.inl rfl) _) ?_ ?_
      · exact fun k hk => .inl (.inr hk)
      · intro k cs hk hc
        subst hk
        have := HVD.out
        rw [show V.drew.heap = V.heap from rfl, this] at hc
        simp at hc
    rw [hV3]
    clear hV3
    refine hK.out _ _ (hS3) (fun hHeld => ?_)
    clear hK K
    refine wpAnyH_take (i := 4) (v := .bool true) rfl (by kernel_rfl) (by kernel_rfl) (by kernel_rfl) (fun _ _ _ h => h) (Or.inl ⟨by rfl, ?_⟩) (by first | assumption | exact trivial) ?_
    · intro W hSW; go_simp; try (with_reducible rfl)
    simp only [Act.put, List.getElem_toArray, List.getElem_cons_succ, List.getElem_cons_zero, List.setIfInBounds_toArray, List.set_cons_zero, List.set_cons_succ]
    refine wpAnyH_done (by kernel_rfl) ?_ _
    go_wp2
    exact ret_box3 (g := w.heap.size + 1) rfl (by rfl) hD3 rfl Tryz.underlying37 (by kernel_rfl) rfl ⟨D, rfl, hLv3, hB3⟩
end
end Go.Proofs.YtfnlhfelpdkieaaGreat.So
