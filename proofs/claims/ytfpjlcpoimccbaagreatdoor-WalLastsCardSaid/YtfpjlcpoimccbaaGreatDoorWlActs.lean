/- A log's calls that came in, as a list (after XSnActs). -/
import Derived.Test.YtfpjlcpoimccbaaGreatDoorZ18
import Derived.Deep.Slices
import Derived.Deep.Strs
import Derived.SizedLaws
import Derived.Lib.SmallJoins
namespace Go.Proofs.YtfpjlcpoimccbaaGreatDoor.Wl
open Go.RowKit Go.Deep
open Go.ChangeShapes Go.WideShapes
open Go.Proofs.YtfpjlcpoimccbaaGreatDoor.Me Go.Proofs.YtfpjlcpoimccbaaGreatDoor.Hd Go.Proofs.YtfpjlcpoimccbaaGreatDoor.Dk
set_option linter.unusedVariables false
set_option linter.unusedSimpArgs false

/-- A call: which one, a number, a payload. -/
structure Ac where
  k : Int
  n : Int
  p : List Nat
instance instInhabitedAcs : Inhabited (Ac × Option Addr × Nat) := ⟨(⟨0, 0, []⟩, none, 0)⟩
def acAt (ls : List Ac) (j : Nat) : Ac := ls.getD j ⟨0, 0, []⟩
theorem acAt_get {ls : List Ac} {j : Nat} (h : j < ls.length) : acAt ls j = ls[j] := by simp [acAt, h]
/-- A slice's address leads to these calls. -/
def Acts (w : World) (a : Option Addr) (ls : List Ac) : Prop :=
  ∀ j, j < ls.length → ∃ b off R cr, a = some ⟨b, off, none⟩ ∧ b < w.heap.size ∧ w.cell? ⟨b, off + j * 4, none⟩ = some (.int .i64 (acAt ls j).k) ∧ w.cell? ⟨b, off + j * 4 + 1, none⟩ = some (.int .i64 (acAt ls j).n) ∧
    w.cell? ⟨b, off + j * 4 + 2, none⟩ = some (.slice R (acAt ls j).p.length cr) ∧ (acAt ls j).p.length ≤ cr ∧ cr ≤ 140737488351232 ∧ Me.Rd w w.heap.size R (acAt ls j).p ∧ (R = none → (acAt ls j).p.length = 0 ∧ cr = 0) ∧ Mi.I64 (acAt ls j).n
theorem weightsAll_mem {H : Type} {P : Program} {e : TypeId} : ∀ {l : List (DataW H)} {d : DataW H}, d ∈ l → ∀ n ∈ d.weights P e, n ∈ DataW.weightsAll P e l
  | x :: r, d, h, n, hn => by
    simp only [DataW.weightsAll, List.mem_append]
    rcases List.mem_cons.mp h with rfl | h'
    · exact .inl hn
    · exact .inr (weightsAll_mem h' n hn)
  | [], _, h, _, _ => by cases h
theorem one_int : Tryz.prog.cellsOf 3 = 1 := by kernel_rfl
theorem one_sl : Tryz.prog.cellsOf 32 = 1 := by kernel_rfl
theorem one_b : Tryz.prog.cellsOf 5 = 1 := by kernel_rfl
theorem one_sli : Tryz.prog.cellsOf 26 = 1 := by kernel_rfl
theorem three : Tryz.prog.cellsOf 34 = 4 := by kernel_rfl
theorem bytes_b : Tryz.prog.bytesOf 5 = 1 := by kernel_rfl
set_option maxRecDepth 100000 in
theorem act_in {H : Type} {enc : TypeId × Value → H} {w : World} {base n : Nat} {held : Bool} {cs : List Value} {D : DataW H} {Pl : List MemPlace} (h : DataW.trod enc Tryz.prog w base (fun _ => true) held n 34 cs = some (D, Pl)) (hw : ∀ x ∈ D.weights Tryz.prog 34, x ≤ reachBytes) :
    ∃ (a : Ac) (R : Option Addr) (cr : Nat) (u : Value), cs = [.int .i64 a.k, .int .i64 a.n, .slice R a.p.length cr, u] ∧ a.p.length ≤ cr ∧ cr ≤ 140737488351232 ∧ Me.Rd w w.heap.size R a.p ∧ (R = none → a.p.length = 0 ∧ cr = 0) ∧ Mi.I64 a.n := by
  obtain ⟨y0, y1, y2, y3, m, hx, hlen, h0, h1, h2, h3⟩ := Go.Joins.trod_struct4 Tryz.underlying34 h
  rw [three] at hlen
  match cs, hlen with
  | [v0, v1, v2, v3], _ =>
    simp only [one_int, one_sl, one_sli] at h0 h1 h2
    simp at h0 h1 h2
    obtain ⟨k, hk, _, _⟩ := DataW.trod_int Tryz.underlying3 h0
    obtain ⟨q, hq, _, hqw⟩ := DataW.trod_int Tryz.underlying3 h1
    simp only [List.cons.injEq, and_true] at hk hq
    simp only [Prod.mk.injEq] at hx
    rcases open_ints Tryz.underlying32 Tryz.underlying5 (by kernel_rfl) h2 with ⟨hcs, _⟩ | ⟨x, l, c, zs, hcs, _, hl, hm, hz, hy, hcell, hwz⟩
    · simp at hcs
      exact ⟨⟨k, q, []⟩, none, 0, v3, by rw [hk, hq, hcs]; rfl, Nat.le_refl _, Nat.zero_le _, ⟨by simp, by simp⟩, (fun _ => ⟨rfl, rfl⟩), Mi.I64.of hqw⟩
    · simp at hcs
      obtain ⟨p, b1, b2, b3, b4, b5⟩ := bySlice_some hl hm (by simpa using hz) hcell hwz
      subst b1
      refine ⟨⟨k, q, p⟩, some x, c, v3, by rw [hk, hq, hcs], b2, ?_, b4, (fun e => by cases e), Mi.I64.of hqw⟩
      have hmem : c * 1 ≤ reachBytes := by
        refine hw _ ?_
        rw [hx.1, hy]
        simp only [DataW.weights, Tryz.underlying34, Tryz.underlying32, DataW.weightsEach]
        simp only [Array.toList, List.map_cons, List.map_nil, DataW.weightsEach, List.mem_append]
        refine .inr (.inr (.inl ?_))
        have hz' : zs.length = c := by simpa using hz
        have e : c * 1 = ((lits (H := H) .u8 (zs.take p.length)).length + (lits (H := H) .u8 (zs.drop p.length)).length) * Tryz.prog.bytesOf 5 := by
          rw [bytes_b]
          simp only [lits, List.length_map, List.length_take, List.length_drop]
          omega
        rw [e]
        simp [DataW.weights, Tryz.underlying32]
      unfold reachBytes at hmem
      omega
set_option maxRecDepth 100000 in
theorem acts_in {H : Type} {enc : TypeId × Value → H} {w : World} {base fuel : Nat} {held : Bool} {a : Option Addr} {len cap : Nat} {d : DataW H} {pl : List MemPlace}
    (h : DataW.trod enc Tryz.prog w base (fun _ => true) held fuel 25 [.slice a len cap] = some (d, pl)) (hw : ∀ x ∈ d.weights Tryz.prog 25, x ≤ reachBytes) :
    ∃ ls : List Ac, len = ls.length ∧ len ≤ cap ∧ cap ≤ 9223372036854775807 ∧ Acts w a ls := by
  rcases open_slice Tryz.underlying25 h with ⟨hcs, _⟩ | ⟨ad, l, c, m, n, D, Pl, hcs, _, hl, hm, hmm, hx, hel⟩
  · simp at hcs
    obtain ⟨rfl, rfl, rfl⟩ := hcs
    exact ⟨[], rfl, Nat.le_refl _, Nat.zero_le _, fun j hj => absurd hj (by simp)⟩
  · simp at hcs
    obtain ⟨rfl, rfl, rfl⟩ := hcs
    simp only [if_true] at hmm
    subst hmm
    simp only [Prod.mk.injEq] at hx
    rw [three] at hel
    have each : ∀ i, i < len → ∃ q : Ac × Option Addr × Nat, w.cell? (ad.add (i * 4)) = some (.int .i64 q.1.k) ∧ w.cell? ((ad.add (i * 4)).add 1) = some (.int .i64 q.1.n) ∧ w.cell? ((ad.add (i * 4)).add 2) = some (.slice q.2.1 q.1.p.length q.2.2) ∧
        q.1.p.length ≤ q.2.2 ∧ q.2.2 ≤ 140737488351232 ∧ Me.Rd w w.heap.size q.2.1 q.1.p ∧ (q.2.1 = none → q.1.p.length = 0 ∧ q.2.2 = 0) ∧ Mi.I64 q.1.n := by
      intro i hi
      obtain ⟨cs', h1, h2⟩ := hel i (by omega)
      obtain ⟨_, _, hcell⟩ := World.cells?_some h1
      obtain ⟨q, R, cr, u, rfl, g1, g2, g3, g4, g5⟩ := act_in h2 fun x hxx => by
        refine hw x ?_
        rw [hx.1]
        simp only [DataW.weights, Tryz.underlying25]
        refine List.mem_cons_of_mem _ (List.mem_append_left _ (weightsAll_mem (d := D i) ?_ x hxx))
        exact List.mem_map.mpr ⟨i, List.mem_range.mpr hi, rfl⟩
      have e0 := hcell 0 (by omega)
      have e1 := hcell 1 (by omega)
      have e2 := hcell 2 (by omega)
      rw [show (ad.add (i * 4)).add 0 = ad.add (i * 4) by simp [Addr.add]] at e0
      exact ⟨(q, R, cr), e0, e1, e2, g1, g2, g3, g4, g5⟩
    obtain ⟨q, hq⟩ := choose_lt (α := Ac × Option Addr × Nat) each
    refine ⟨(List.range len).map fun i => (q i).1, by simp, hl, by unfold maxLen at hm; omega, fun j hj => ?_⟩
    have hj' : j < len := by simpa using hj
    have hat : acAt ((List.range len).map fun i => (q i).1) j = (q j).1 := by simp [acAt, hj']
    obtain ⟨c0, c1, c2, g1, g2, g3, g4, g5⟩ := hq j hj'
    rw [hat]
    obtain ⟨b, off, spot⟩ := ad
    have hspot : spot = none := by simpa [Addr.add] using World.cell?_spot (hq 0 (by omega)).1
    subst hspot
    simp only [add_plain] at c0 c1 c2
    exact ⟨b, off, (q j).2.1, (q j).2.2, rfl, World.block_lt_of_cell? w _ c0, c0, c1, c2, g1, g2, g3, g4, g5⟩
end Go.Proofs.YtfpjlcpoimccbaaGreatDoor.Wl
