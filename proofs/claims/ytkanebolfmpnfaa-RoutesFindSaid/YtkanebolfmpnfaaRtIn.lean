/- A table's calls that came in, as a list; what a table is made of, by value (after XWlActs). -/
import Derived.Test.YtkanebolfmpnfaaRtDef
import Derived.Deep.Slices
import Derived.Deep.Strs
import Derived.SizedLaws
import Derived.Lib.SmallJoins
namespace Go.Proofs.Ytkanebolfmpnfaa.Rt
open Go.RowKit Go.Deep
open Go.ChangeShapes Go.WideShapes
set_option linter.unusedVariables false
set_option linter.unusedSimpArgs false

/-- A call: which one, a destination, a neighbour, costs. -/
structure Ac where
  k : Int
  d : Int
  v : Int
  p : List Int
instance instInhabitedRtAcs : Inhabited (Ac × Option Addr × Nat) := ⟨(⟨0, 0, 0, []⟩, none, 0)⟩
def acAt (ls : List Ac) (j : Nat) : Ac := ls.getD j ⟨0, 0, 0, []⟩
theorem acAt_get {ls : List Ac} {j : Nat} (h : j < ls.length) : acAt ls j = ls[j] := by simp [acAt, h]
/-- What is known of a call whose costs lie at R. -/
structure AcIn (w : World) (a : Ac) (R : Option Addr) (cr : Nat) : Prop where
  le : a.p.length ≤ cr
  sz : cr * 8 ≤ 140737488351232
  rd : Mi.Rd w w.heap.size R a.p
  nil : R = none → a.p.length = 0 ∧ cr = 0
/-- A slice's address leads to these calls. -/
def Acts (w : World) (a : Option Addr) (ls : List Ac) : Prop :=
  ∀ j, j < ls.length → ∃ b off R cr, a = some ⟨b, off, none⟩ ∧ b < w.heap.size ∧ w.cell? ⟨b, off + j * 4, none⟩ = some (.int .i64 (acAt ls j).k) ∧ w.cell? ⟨b, off + j * 4 + 1, none⟩ = some (.int .i64 (acAt ls j).d) ∧ w.cell? ⟨b, off + j * 4 + 2, none⟩ = some (.int .i64 (acAt ls j).v) ∧
    w.cell? ⟨b, off + j * 4 + 3, none⟩ = some (.slice R (acAt ls j).p.length cr) ∧ AcIn w (acAt ls j) R cr
theorem weightsAll_mem {H : Type} {P : Program} {e : TypeId} : ∀ {l : List (DataW H)} {d : DataW H}, d ∈ l → ∀ n ∈ d.weights P e, n ∈ DataW.weightsAll P e l
  | x :: r, d, h, n, hn => by
    simp only [DataW.weightsAll, List.mem_append]
    rcases List.mem_cons.mp h with rfl | h'
    · exact .inl hn
    · exact .inr (weightsAll_mem h' n hn)
  | [], _, h, _, _ => by cases h
theorem one_int : Try.prog.cellsOf 3 = 1 := by kernel_rfl
theorem one_sli : Try.prog.cellsOf 22 = 1 := by kernel_rfl
theorem four : Try.prog.cellsOf 40 = 4 := by kernel_rfl
theorem three : Try.prog.cellsOf 24 = 3 := by kernel_rfl
theorem bytes_i : Try.prog.bytesOf 3 = 8 := by kernel_rfl
set_option maxRecDepth 100000 in
theorem act_in {H : Type} {enc : TypeId × Value → H} {w : World} {base n : Nat} {held : Bool} {cs : List Value} {D : DataW H} {Pl : List MemPlace} (h : DataW.trod enc Try.prog w base (fun _ => true) held n 40 cs = some (D, Pl)) (hw : ∀ x ∈ D.weights Try.prog 40, x ≤ reachBytes) :
    ∃ (a : Ac) (R : Option Addr) (cr : Nat), cs = [.int .i64 a.k, .int .i64 a.d, .int .i64 a.v, .slice R a.p.length cr] ∧ AcIn w a R cr := by
  obtain ⟨y0, y1, y2, y3, m, hx, hlen, h0, h1, h2, h3⟩ := Go.Joins.trod_struct4 Try.underlying40 h
  rw [four] at hlen
  match cs, hlen with
  | [v0, v1, v2, v3], _ =>
    simp only [one_int, one_sli] at h0 h1 h2 h3
    simp at h0 h1 h2 h3
    obtain ⟨k, hk, _, _⟩ := DataW.trod_int Try.underlying3 h0
    obtain ⟨d, hd, _, _⟩ := DataW.trod_int Try.underlying3 h1
    obtain ⟨q, hq, _, hqw⟩ := DataW.trod_int Try.underlying3 h2
    simp only [List.cons.injEq, and_true] at hk hd hq
    simp only [Prod.mk.injEq] at hx
    rcases open_ints Try.underlying22 Try.underlying3 (by kernel_rfl) h3 with ⟨hcs, _⟩ | ⟨x, l, c, zs, hcs, _, hl, hm, hz, hy, hcell, hwz⟩
    · simp at hcs
      exact ⟨⟨k, d, q, []⟩, none, 0, by rw [hk, hd, hq, hcs]; rfl, Nat.le_refl _, Nat.zero_le _, Mi.Rd.nil _ _ _, fun _ => ⟨rfl, rfl⟩⟩
    · simp at hcs
      obtain ⟨p, b1, b2, b3, b4, b5, _⟩ := Mi.bySlice_some hl hm (by simpa using hz) hcell hwz
      subst b1
      refine ⟨⟨k, d, q, p⟩, some x, c, by rw [hk, hd, hq, hcs], b2, ?_, b4, fun e => by cases e⟩
      have hmem : c * 8 ≤ reachBytes := by
        refine hw _ ?_
        rw [hx.1, hy]
        simp only [DataW.weights, Try.underlying40, Try.underlying22, DataW.weightsEach]
        simp only [Array.toList, List.map_cons, List.map_nil, DataW.weightsEach, List.mem_append]
        refine .inr (.inr (.inr (.inl ?_)))
        have hz' : zs.length = c := by simpa using hz
        have e : c * 8 = ((lits (H := H) .i64 (zs.take p.length)).length + (lits (H := H) .i64 (zs.drop p.length)).length) * Try.prog.bytesOf 3 := by
          rw [bytes_i]
          simp only [lits, List.length_map, List.length_take, List.length_drop]
          omega
        rw [e]
        simp [DataW.weights, Try.underlying22]
      unfold reachBytes at hmem
      omega
set_option maxRecDepth 100000 in
theorem acts_in {H : Type} {enc : TypeId × Value → H} {w : World} {base fuel : Nat} {held : Bool} {a : Option Addr} {len cap : Nat} {d : DataW H} {pl : List MemPlace}
    (h : DataW.trod enc Try.prog w base (fun _ => true) held fuel 25 [.slice a len cap] = some (d, pl)) (hw : ∀ x ∈ d.weights Try.prog 25, x ≤ reachBytes) :
    ∃ ls : List Ac, len = ls.length ∧ len ≤ cap ∧ cap ≤ 9223372036854775807 ∧ Acts w a ls := by
  rcases open_slice Try.underlying25 h with ⟨hcs, _⟩ | ⟨ad, l, c, m, n, D, Pl, hcs, _, hl, hm, hmm, hx, hel⟩
  · simp at hcs
    obtain ⟨rfl, rfl, rfl⟩ := hcs
    exact ⟨[], rfl, Nat.le_refl _, Nat.zero_le _, fun j hj => absurd hj (by simp)⟩
  · simp at hcs
    obtain ⟨rfl, rfl, rfl⟩ := hcs
    simp only [if_true] at hmm
    subst hmm
    simp only [Prod.mk.injEq] at hx
    rw [four] at hel
    have each : ∀ i, i < len → ∃ q : Ac × Option Addr × Nat, w.cell? (ad.add (i * 4)) = some (.int .i64 q.1.k) ∧ w.cell? ((ad.add (i * 4)).add 1) = some (.int .i64 q.1.d) ∧ w.cell? ((ad.add (i * 4)).add 2) = some (.int .i64 q.1.v) ∧ w.cell? ((ad.add (i * 4)).add 3) = some (.slice q.2.1 q.1.p.length q.2.2) ∧ AcIn w q.1 q.2.1 q.2.2 := by
      intro i hi
      obtain ⟨cs', h1, h2⟩ := hel i (by omega)
      obtain ⟨_, _, hcell⟩ := World.cells?_some h1
      obtain ⟨q, R, cr, rfl, g⟩ := act_in h2 fun x hxx => by
        refine hw x ?_
        rw [hx.1]
        simp only [DataW.weights, Try.underlying25]
        refine List.mem_cons_of_mem _ (List.mem_append_left _ (weightsAll_mem (d := D i) ?_ x hxx))
        exact List.mem_map.mpr ⟨i, List.mem_range.mpr hi, rfl⟩
      have e0 := hcell 0 (by omega)
      have e1 := hcell 1 (by omega)
      have e2 := hcell 2 (by omega)
      have e3 := hcell 3 (by omega)
      rw [show (ad.add (i * 4)).add 0 = ad.add (i * 4) by simp [Addr.add]] at e0
      exact ⟨(q, R, cr), e0, e1, e2, e3, g⟩
    obtain ⟨q, hq⟩ := choose_lt (α := Ac × Option Addr × Nat) each
    refine ⟨(List.range len).map fun i => (q i).1, by simp, hl, by unfold maxLen at hm; omega, fun j hj => ?_⟩
    have hj' : j < len := by simpa using hj
    have hat : acAt ((List.range len).map fun i => (q i).1) j = (q j).1 := by simp [acAt, hj']
    obtain ⟨c0, c1, c2, c3, g⟩ := hq j hj'
    rw [hat]
    obtain ⟨b, off, spot⟩ := ad
    have hspot : spot = none := by simpa [Addr.add] using World.cell?_spot (hq 0 (by omega)).1
    subst hspot
    simp only [add_plain] at c0 c1 c2 c3
    exact ⟨b, off, (q j).2.1, (q j).2.2, rfl, World.block_lt_of_cell? w _ c0, c0, c1, c2, c3, g⟩
set_option maxRecDepth 100000 in
theorem act_val {H : Type} {enc : TypeId × Value → H} {w : World} {base : Nat} {held : Bool} {v : Value} {D : DataW H} {Pl : List MemPlace} {r : Reach} {b0 : Nat} (hv : Value.okWide Try.prog w r b0 40 v) (h : DataW.Trod enc Try.prog w base (fun _ => true) held 40 v D Pl) :
    ∃ (k d q : Int) (R : Option Addr) (n c : Nat), v = .agg #[.int .i64 k, .int .i64 d, .int .i64 q, .slice R n c] := by
  obtain ⟨cs, rfl, hsz⟩ := okWide_struct Try.underlying40 hv
  obtain ⟨fuel, hf⟩ := h
  obtain ⟨y0, y1, y2, y3, m, hx, hlen, h0, h1, h2, h3⟩ := Go.Joins.trod_struct4 Try.underlying40 hf
  rw [four] at hlen
  have e0 : (Value.agg cs).cells = cs := rfl
  rw [e0] at hlen h0 h1 h2 h3
  obtain ⟨l, hl⟩ : ∃ l, cs.toList = l := ⟨_, rfl⟩
  rw [hl] at hlen h0 h1 h2 h3
  match l, hlen with
  | [v0, v1, v2, v3], _ =>
    simp only [one_int, one_sli] at h0 h1 h2 h3
    simp at h0 h1 h2 h3
    obtain ⟨k, hk, _, _⟩ := DataW.trod_int Try.underlying3 h0
    obtain ⟨d, hd, _, _⟩ := DataW.trod_int Try.underlying3 h1
    obtain ⟨q, hq, _, _⟩ := DataW.trod_int Try.underlying3 h2
    simp only [List.cons.injEq, and_true] at hk hd hq
    have hs : ∃ R n c, v3 = .slice R n c := by
      rcases open_ints Try.underlying22 Try.underlying3 (by kernel_rfl) h3 with ⟨hcs, _⟩ | ⟨x, l, c, zs, hcs, _⟩
      · simp at hcs
        exact ⟨_, _, _, hcs⟩
      · simp at hcs
        exact ⟨_, _, _, hcs⟩
    obtain ⟨R, n, c, hs⟩ := hs
    refine ⟨k, d, q, R, n, c, ?_⟩
    rw [hk, hd, hq, hs] at hl
    have : cs = #[.int .i64 k, .int .i64 d, .int .i64 q, .slice R n c] := by rw [← Array.toList_inj, hl]
    rw [this]
set_option maxRecDepth 100000 in
theorem set_val {H : Type} {enc : TypeId × Value → H} {w : World} {base : Nat} {held : Bool} {v : Value} {D : DataW H} {Pl : List MemPlace} {r : Reach} {b0 : Nat} (hv : Value.okWide Try.prog w r b0 24 v) (h : DataW.Trod enc Try.prog w base (fun _ => true) held 24 v D Pl) (hw : ∀ x ∈ D.weights Try.prog 24, x ≤ reachBytes) :
    ∃ (s g : Int) (R : Option Addr) (n c : Nat) (l : List Int), v = .agg #[.int .i64 s, .slice R n c, .int .i64 g] ∧ Mi.BySlice w R n c l ∧ c * 8 ≤ 140737488351232 := by
  obtain ⟨cs, rfl, hsz⟩ := okWide_struct Try.underlying24 hv
  obtain ⟨fuel, hf⟩ := h
  obtain ⟨y0, y1, y2, m, hx, hlen, h0, h1, h2⟩ := trod_struct3 Try.underlying24 hf
  rw [three] at hlen
  have e0 : (Value.agg cs).cells = cs := rfl
  rw [e0] at hlen h0 h1 h2
  obtain ⟨l, hl⟩ : ∃ l, cs.toList = l := ⟨_, rfl⟩
  rw [hl] at hlen h0 h1 h2
  match l, hlen with
  | [v0, v1, v2], _ =>
    simp only [one_int, one_sli] at h0 h1 h2
    simp at h0 h1 h2
    obtain ⟨s, hs, _, _⟩ := DataW.trod_int Try.underlying3 h0
    obtain ⟨g, hg, _, _⟩ := DataW.trod_int Try.underlying3 h2
    simp only [List.cons.injEq, and_true] at hs hg
    simp only [Prod.mk.injEq] at hx
    have hq : ∃ R n c l, v1 = .slice R n c ∧ Mi.BySlice w R n c l ∧ c * 8 ≤ 140737488351232 := by
      rcases open_ints Try.underlying22 Try.underlying3 (by kernel_rfl) h1 with ⟨hcs, _⟩ | ⟨x, l, c, zs, hcs, _, hl, hm, hz, hy, hcell, hwz⟩
      · simp at hcs
        exact ⟨none, 0, 0, [], hcs, Mi.bySlice_none _, by decide⟩
      · simp at hcs
        obtain ⟨p, hp⟩ := Mi.bySlice_some hl hm (by simpa using hz) hcell hwz
        refine ⟨some x, l, c, p, hcs, hp, ?_⟩
        have hlp := hp.1
        have hmem : c * 8 ≤ reachBytes := by
          refine hw _ ?_
          rw [hx.1, hy]
          simp only [DataW.weights, Try.underlying24, Try.underlying22, DataW.weightsEach]
          simp only [Array.toList, List.map_cons, List.map_nil, DataW.weightsEach, List.mem_append]
          refine .inr (.inl ?_)
          have hz' : zs.length = c := by simpa using hz
          have e : c * 8 = ((lits (H := H) .i64 (zs.take l)).length + (lits (H := H) .i64 (zs.drop l)).length) * Try.prog.bytesOf 3 := by
            rw [bytes_i]
            simp only [lits, List.length_map, List.length_take, List.length_drop]
            omega
          rw [e]
          simp [DataW.weights, Try.underlying22]
        unfold reachBytes at hmem
        omega
    obtain ⟨R, n, c, L, hq, hb⟩ := hq
    refine ⟨s, g, R, n, c, L, ?_, hb⟩
    rw [hs, hg, hq] at hl
    have : cs = #[.int .i64 s, .slice R n c, .int .i64 g] := by rw [← Array.toList_inj, hl]
    rw [this]
/-- The call's cells at every world that has only grown. -/
theorem acts_cells {w : World} {A : Option Addr} {ls : List Ac} (h : Acts w A ls) {k : Nat} (hk : k < ls.length) : ∃ b off R cr, A = some ⟨b, off, none⟩ ∧ AcIn w (acAt ls k) R cr ∧ ∀ W, Below w.heap.size w W → W.cell? ⟨b, off + k * 4, none⟩ = some (.int .i64 (acAt ls k).k) ∧ W.cell? ⟨b, off + k * 4 + 2, none⟩ = some (.int .i64 (acAt ls k).v) ∧ W.cell? ⟨b, off + k * 4 + 3, none⟩ = some (.slice R (acAt ls k).p.length cr) := by
  obtain ⟨b, off, R, cr, e, h1, c0, c1, c2, c3, hi⟩ := h k hk
  exact ⟨b, off, R, cr, e, hi, fun W hW => ⟨(hW.cell (p := ⟨b, off + k * 4, none⟩) h1).trans c0, (hW.cell (p := ⟨b, off + k * 4 + 2, none⟩) h1).trans c2, (hW.cell (p := ⟨b, off + k * 4 + 3, none⟩) h1).trans c3⟩⟩
end Go.Proofs.Ytkanebolfmpnfaa.Rt
