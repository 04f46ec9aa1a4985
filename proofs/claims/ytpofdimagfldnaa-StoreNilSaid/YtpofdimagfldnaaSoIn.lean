/- Events, a node with its quota, that came in. -/
import Derived.Test.YtpofdimagfldnaaMgIn
import Derived.Test.YtpofdimagfldnaaSoChk
import Derived.Deep.Strs
import Derived.WideShapes
namespace Go.Proofs.Ytpofdimagfldnaa.So
open Go.RowKit Go.Deep
open Go.ChangeShapes Go.WideShapes Go.Joins
open Go.Proofs.Ytpofdimagfldnaa.Me Go.Proofs.Ytpofdimagfldnaa.Sb
set_option linter.unusedVariables false
set_option linter.unusedSimpArgs false

/-- An event: its kind, id, data. -/
structure Evt where
  k : Int
  i : Mg.Id4
  p : List Nat
instance instInhabitedEv : Inhabited (Evt × Option Addr × Nat) := ⟨(⟨0, ⟨0, 0, 0, 0⟩, []⟩, none, 0)⟩
def evAt (ls : List Evt) (j : Nat) : Evt := ls.getD j ⟨0, ⟨0, 0, 0, 0⟩, []⟩
theorem evAt_get {ls : List Evt} {j : Nat} (h : j < ls.length) : evAt ls j = ls[j] := by simp [evAt, h]
/-- A slice's address leads to these events. -/
def Evs (w : World) (a : Option Addr) (ls : List Evt) : Prop :=
  ∀ j, j < ls.length → ∃ b off R cr, a = some ⟨b, off, none⟩ ∧ b < w.heap.size ∧ w.cell? ⟨b, off + j * 6, none⟩ = some (.int .i64 (evAt ls j).k) ∧ w.cell? ⟨b, off + j * 6 + 1, none⟩ = some (.int .i64 (evAt ls j).i.o) ∧
    w.cell? ⟨b, off + j * 6 + 2, none⟩ = some (.int .i64 (evAt ls j).i.d) ∧ w.cell? ⟨b, off + j * 6 + 3, none⟩ = some (.int .i64 (evAt ls j).i.e) ∧ w.cell? ⟨b, off + j * 6 + 4, none⟩ = some (.int .i64 (evAt ls j).i.c) ∧
    w.cell? ⟨b, off + j * 6 + 5, none⟩ = some (.slice R (evAt ls j).p.length cr) ∧ (evAt ls j).p.length ≤ cr ∧ cr ≤ 140737488351232 ∧ Me.Rd w w.heap.size R (evAt ls j).p ∧ (R = none → (evAt ls j).p.length = 0 ∧ cr = 0)
theorem weightsAll_mem {H : Type} {P : Program} {e : TypeId} : ∀ {l : List (DataW H)} {d : DataW H}, d ∈ l → ∀ n ∈ d.weights P e, n ∈ DataW.weightsAll P e l
  | x :: r, d, h, n, hn => by
    simp only [DataW.weightsAll, List.mem_append]
    rcases List.mem_cons.mp h with rfl | h'
    · exact .inl hn
    · exact .inr (weightsAll_mem h' n hn)
  | [], _, h, _, _ => by cases h
theorem six_ev : Try.prog.cellsOf 60 = 6 := by kernel_rfl
set_option maxRecDepth 100000 in
theorem ev_in {H : Type} {enc : TypeId × Value → H} {w : World} {base n : Nat} {held : Bool} {cs : List Value} {D : DataW H} {Pl : List MemPlace} (h : DataW.trod enc Try.prog w base (fun _ => true) held n 60 cs = some (D, Pl)) (hw : ∀ x ∈ D.weights Try.prog 60, x ≤ reachBytes) :
    ∃ (q : Evt) (A : Option Addr) (c : Nat), cs = (evC q.k q.i A q.p.length c).toList ∧ q.p.length ≤ c ∧ c ≤ 140737488351232 ∧ Me.Rd w w.heap.size A q.p ∧ (A = none → q.p.length = 0 ∧ c = 0) := by
  obtain ⟨y0, y1, m, hx, hlen, h0, h1⟩ := trod_struct2 Try.underlying60 h
  rw [six_ev] at hlen
  match cs, hlen with
  | [v0, v1, v2, v3, v4, v5], _ =>
    simp only [Mg.one_int, Mg.five_msg] at h0 h1
    simp at h0 h1
    obtain ⟨k, hk, _, _⟩ := DataW.trod_int Try.underlying3 h0
    simp only [List.cons.injEq, and_true] at hk
    simp only [Prod.mk.injEq] at hx
    obtain ⟨i, A, l, c, p, e, hi, hc⟩ := Mg.msg_in h1 fun x hxx => hw x (by
      rw [hx.1]
      simp only [DataW.weights, Try.underlying60]
      simp only [Array.toList, List.map_cons, List.map_nil, DataW.weightsEach, List.mem_append]
      exact .inr (.inl hxx))
    simp only [Mg.msgC, List.cons.injEq, and_true] at e
    obtain ⟨e1, e2, e3, e4, e5⟩ := e
    obtain ⟨b1, b2, b3, b4, b5⟩ := hi
    subst b1
    refine ⟨⟨k, i, p⟩, A, c, by rw [hk, e1, e2, e3, e4, e5]; rfl, b2, hc, b4, ?_⟩
    exact b5
theorem evs_in {H : Type} {enc : TypeId × Value → H} {w : World} {base fuel : Nat} {held : Bool} {a : Option Addr} {len cap : Nat} {d : DataW H} {pl : List MemPlace}
    (h : DataW.trod enc Try.prog w base (fun _ => true) held fuel 26 [.slice a len cap] = some (d, pl)) (hw : ∀ x ∈ d.weights Try.prog 26, x ≤ reachBytes) :
    ∃ ls : List Evt, len = ls.length ∧ len ≤ cap ∧ cap ≤ 9223372036854775807 ∧ Evs w a ls := by
  rcases open_slice Try.underlying26 h with ⟨hcs, _⟩ | ⟨ad, l, c, m, n, D, Pl, hcs, _, hl, hm, hmm, hx, hel⟩
  · simp at hcs
    obtain ⟨rfl, rfl, rfl⟩ := hcs
    exact ⟨[], rfl, Nat.le_refl _, Nat.zero_le _, fun j hj => absurd hj (by simp)⟩
  · simp at hcs
    obtain ⟨rfl, rfl, rfl⟩ := hcs
    simp only [if_true] at hmm
    subst hmm
    simp only [Prod.mk.injEq] at hx
    rw [six_ev] at hel
    have each : ∀ i, i < len → ∃ q : Evt × Option Addr × Nat, (∀ k x, (evC q.1.k q.1.i q.2.1 q.1.p.length q.2.2).toList[k]? = some x → w.cell? ((ad.add (i * 6)).add k) = some x) ∧
        q.1.p.length ≤ q.2.2 ∧ q.2.2 ≤ 140737488351232 ∧ Me.Rd w w.heap.size q.2.1 q.1.p ∧ (q.2.1 = none → q.1.p.length = 0 ∧ q.2.2 = 0) := by
      intro i hi
      obtain ⟨cs', h1, h2⟩ := hel i (by omega)
      obtain ⟨_, _, hcell⟩ := World.cells?_some h1
      obtain ⟨q, R, cr, rfl, g1, g2, g3, g4⟩ := ev_in h2 fun x hxx => by
        refine hw x ?_
        rw [hx.1]
        simp only [DataW.weights, Try.underlying26]
        refine List.mem_cons_of_mem _ (List.mem_append_left _ (weightsAll_mem (d := D i) ?_ x hxx))
        exact List.mem_map.mpr ⟨i, List.mem_range.mpr hi, rfl⟩
      exact ⟨(q, R, cr), fun k x hk => by
        have hk' := (List.getElem?_eq_some_iff.1 hk).1
        have hk6 : k < 6 := hk'
        rw [hcell k hk6]
        simpa using hk, g1, g2, g3, g4⟩
    obtain ⟨q, hq⟩ := choose_lt (α := Evt × Option Addr × Nat) each
    refine ⟨(List.range len).map fun i => (q i).1, by simp, hl, by unfold maxLen at hm; omega, fun j hj => ?_⟩
    have hj' : j < len := by simpa using hj
    have hat : evAt ((List.range len).map fun i => (q i).1) j = (q j).1 := by simp [evAt, hj']
    obtain ⟨cc, g1, g2, g3, g4⟩ := hq j hj'
    rw [hat]
    have c0 := cc 0 _ rfl
    have c1 := cc 1 _ rfl
    have c2 := cc 2 _ rfl
    have c3 := cc 3 _ rfl
    have c4 := cc 4 _ rfl
    have c5 := cc 5 _ rfl
    obtain ⟨b, off, spot⟩ := ad
    have hspot : spot = none := by
      have h0 := World.cell?_spot ((hq 0 (by omega)).1 0 _ rfl)
      simpa [Addr.add] using h0
    subst hspot
    simp only [add_plain, Nat.add_zero] at c0 c1 c2 c3 c4 c5
    exact ⟨b, off, (q j).2.1, (q j).2.2, rfl, World.block_lt_of_cell? w _ c0, c0, c1, c2, c3, c4, c5, g1, g2, g3, g4⟩
theorem Evs.take {w : World} {a : Option Addr} {ls : List Evt} (h : Evs w a ls) (n : Nat) : Evs w a (ls.take n) := fun j hj => by
  have hj' : j < n ∧ j < ls.length := by simp at hj; omega
  have : evAt (ls.take n) j = evAt ls j := by simp [evAt, hj'.1]
  rw [this]
  exact h j hj'.2
theorem Evs.below {w w' : World} {A : Option Addr} {l : List Evt} (h : Evs w A l) (hb : Below w.heap.size w w') : Evs w' A l := fun j hj => by
  obtain ⟨b, off, R, cr, e1, e2, c0, c1, c2, c3, c4, c5, g1, g2, g3, g4⟩ := h j hj
  exact ⟨b, off, R, cr, e1, Nat.lt_of_lt_of_le e2 hb.size, (hb.cell e2).trans c0, (hb.cell e2).trans c1, (hb.cell e2).trans c2, (hb.cell e2).trans c3, (hb.cell e2).trans c4, (hb.cell e2).trans c5, g1, g2, Me.Rd.more (g3.below hb) hb.size, g4⟩
theorem four_set : Try.prog.cellsOf 25 = 4 := by kernel_rfl
theorem three_q : Try.prog.cellsOf 23 = 3 := by kernel_rfl
set_option maxRecDepth 100000 in
theorem set_val {H : Type} {enc : TypeId × Value → H} {w : World} {base : Nat} {held : Bool} {v : Value} {D : DataW H} {Pl : List MemPlace} {r : Reach} {b0 : Nat} (hv : Value.okWide Try.prog w r b0 25 v) (h : DataW.Trod enc Try.prog w base (fun _ => true) held 25 v D Pl) :
    ∃ (a b c d : Int), v = .agg #[.int .i64 a, .int .i64 b, .int .i64 c, .int .i64 d] := by
  obtain ⟨cs, rfl, hsz⟩ := okWide_struct Try.underlying25 hv
  obtain ⟨fuel, hf⟩ := h
  obtain ⟨y0, y1, m, hx, hlen, h0, h1⟩ := trod_struct2 Try.underlying25 hf
  rw [four_set] at hlen
  have e0 : (Value.agg cs).cells = cs := rfl
  rw [e0] at hlen h0 h1
  obtain ⟨l, hl⟩ : ∃ l, cs.toList = l := ⟨_, rfl⟩
  rw [hl] at hlen h0 h1
  match l, hlen with
  | [v0, v1, v2, v3], _ =>
    simp only [Mg.one_int, three_q] at h0 h1
    simp at h0 h1
    obtain ⟨k0, hk0, _, _⟩ := DataW.trod_int Try.underlying3 h0
    obtain ⟨z0, z1, z2, m2, _, _, g0, g1, g2⟩ := trod_struct3 Try.underlying23 h1
    simp only [Mg.one_int] at g0 g1 g2
    simp at g0 g1 g2
    obtain ⟨k1, hk1, _, _⟩ := DataW.trod_int Try.underlying3 g0
    obtain ⟨k2, hk2, _, _⟩ := DataW.trod_int Try.underlying3 g1
    obtain ⟨k3, hk3, _, _⟩ := DataW.trod_int Try.underlying3 g2
    simp only [List.cons.injEq, and_true] at hk0 hk1 hk2 hk3
    refine ⟨k0, k1, k2, k3, ?_⟩
    rw [hk0, hk1, hk2, hk3] at hl
    have : cs = #[.int .i64 k0, .int .i64 k1, .int .i64 k2, .int .i64 k3] := by rw [← Array.toList_inj, hl]
    rw [this]
set_option maxRecDepth 100000 in
theorem ev_val {H : Type} {enc : TypeId × Value → H} {w : World} {base : Nat} {held : Bool} {v : Value} {D : DataW H} {Pl : List MemPlace} {r : Reach} {b0 : Nat} (hv : Value.okWide Try.prog w r b0 60 v) (h : DataW.Trod enc Try.prog w base (fun _ => true) held 60 v D Pl) (hw : ∀ x ∈ D.weights Try.prog 60, x ≤ reachBytes) :
    ∃ (q : Evt) (A : Option Addr) (c : Nat), v = .agg (evC q.k q.i A q.p.length c) ∧ q.p.length ≤ c ∧ c ≤ 140737488351232 ∧ Me.Rd w w.heap.size A q.p ∧ (A = none → q.p.length = 0 ∧ c = 0) := by
  obtain ⟨cs, rfl, hsz⟩ := okWide_struct Try.underlying60 hv
  obtain ⟨fuel, hf⟩ := h
  obtain ⟨q, A, c, e, hi⟩ := ev_in hf hw
  refine ⟨q, A, c, ?_, hi⟩
  have : cs.toList = (evC q.k q.i A q.p.length c).toList := by simpa [Value.cells] using e
  rw [Array.toList_inj.1 this]
set_option maxRecDepth 100000 in
set_option maxHeartbeats 4000000 in
/-- Fifty at most are looked at. -/
theorem cut_any (a : Option Addr) (cap : Nat) (ls : List Evt) (w : World) (hc : ls.length ≤ cap) (hm : cap ≤ 9223372036854775807) (L : Nat) (hL : (ls.take 50).length = L) : Calls Try.prog 18 #[.slice a ls.length cap] w fun e w' => e = .returned (.slice a L cap) ∧ w = w' := by
  by_cases h : 50 < ls.length
  · have HL : Hid (L = 50) := by show _ = _; rw [← hL]; simp; omega
    have g1 : (50 : Int) < (ls.length : Int) := by omega
    have g2 : (50 : Int) ≤ (cap : Int) := by omega
    obtain ⟨n, hn⟩ : ∃ n, ls.length = n := ⟨_, rfl⟩
    rw [hn] at g1 ⊢
    clear h hc hn hL
    go_enter Try.func18, Try.ntmps18
    go_wp2
    go_ret
    exact ⟨by rw [HL.out]; rfl, rfl⟩
  · have HL : Hid (L = ls.length) := by show _ = _; rw [← hL]; simp; omega
    have g1 : ¬ (50 : Int) < (ls.length : Int) := by omega
    obtain ⟨n, hn⟩ : ∃ n, ls.length = n := ⟨_, rfl⟩
    rw [hn] at g1 ⊢
    have HN : Hid (ls.length = n) := hn
    clear h hc hn hL
    go_enter Try.func18, Try.ntmps18
    go_wp2
    go_ret
    exact ⟨by rw [HL.out, HN.out]; rfl, rfl⟩
end Go.Proofs.Ytpofdimagfldnaa.So
