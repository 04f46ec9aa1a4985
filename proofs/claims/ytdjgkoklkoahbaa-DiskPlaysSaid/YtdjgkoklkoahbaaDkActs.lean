/- Calls of a disk that came in, one by value or a list of them. -/
import Derived.Test.YtdjgkoklkoahbaaDkName
import Derived.Test.YtdjgkoklkoahbaaIKit
import Derived.Deep.Slices
import Derived.Deep.Strs
import Derived.SizedLaws
import Derived.Lib.SmallJoins
namespace Go.Proofs.Ytdjgkoklkoahbaa.Dk
open Go.RowKit Go.Deep
open Go.ChangeShapes Go.WideShapes Go.Joins
open Go.Proofs.Ytdjgkoklkoahbaa.Me Go.Proofs.Ytdjgkoklkoahbaa.Hd
set_option linter.unusedVariables false
set_option linter.unusedSimpArgs false

/-- A call: which one, its names, bytes, a number, what is kept. -/
structure DAc where
  k : Int
  name : Nm
  to : Nm
  p : List Nat
  n : Int
  keep : List Int
instance instInhabitedDAcs : Inhabited (DAc × (Option Addr × Nat) × (Option Addr × Nat)) := ⟨(⟨0, [], [], [], 0, []⟩, (none, 0), (none, 0))⟩
def acAt (ls : List DAc) (j : Nat) : DAc := ls.getD j ⟨0, [], [], [], 0, []⟩
theorem acAt_get {ls : List DAc} {j : Nat} (h : j < ls.length) : acAt ls j = ls[j] := by simp [acAt, h]
def acV (a : DAc) (r s : Option Addr × Nat) : List Value := [.int .i64 a.k, nmV a.name, nmV a.to, .slice r.1 a.p.length r.2, .int .i64 a.n, .slice s.1 a.keep.length s.2]
/-- Where its slices lead. -/
structure AcIn (w : World) (a : DAc) (r s : Option Addr × Nat) : Prop where
  pl : a.p.length ≤ r.2
  pc : r.2 ≤ 140737488351232
  pr : Me.Rd w w.heap.size r.1 a.p
  pn : r.1 = none → a.p.length = 0 ∧ r.2 = 0
  kl : a.keep.length ≤ s.2
  kc : s.2 * 8 ≤ 140737488351232
  kr : Mi.Rd w w.heap.size s.1 a.keep
  kn : s.1 = none → a.keep.length = 0 ∧ s.2 = 0
  ki : ∀ z ∈ a.keep, Mi.I64 z
  hk : Mi.I64 a.k
  hn : Mi.I64 a.n
  nm : a.name.length ≤ maxLen
  tm : a.to.length ≤ maxLen
section
variable {H : Type} {enc : TypeId × Value → H} {P : Program} {w : World} {base : Nat} {spare : TypeId → Bool} {held : Bool}
theorem trod_struct6 {t : TypeId} {f0 f1 f2 f3 f4 f5 : Field} {fuel : Nat} {cs : List Value} {x : DataW H × List MemPlace} (ht : P.underlying t = some (.struct #[f0, f1, f2, f3, f4, f5])) (h : DataW.trod enc P w base spare held fuel t cs = some x) :
    ∃ y0 y1 y2 y3 y4 y5 n, x = (.agg [y0.1, y1.1, y2.1, y3.1, y4.1, y5.1], y0.2 ++ (y1.2 ++ (y2.2 ++ (y3.2 ++ (y4.2 ++ y5.2))))) ∧ cs.length = P.cellsOf t ∧
      DataW.trod enc P w base spare held n f0.type ((cs.drop f0.offset).take (P.cellsOf f0.type)) = some y0 ∧ DataW.trod enc P w base spare held n f1.type ((cs.drop f1.offset).take (P.cellsOf f1.type)) = some y1 ∧
      DataW.trod enc P w base spare held n f2.type ((cs.drop f2.offset).take (P.cellsOf f2.type)) = some y2 ∧ DataW.trod enc P w base spare held n f3.type ((cs.drop f3.offset).take (P.cellsOf f3.type)) = some y3 ∧
      DataW.trod enc P w base spare held n f4.type ((cs.drop f4.offset).take (P.cellsOf f4.type)) = some y4 ∧ DataW.trod enc P w base spare held n f5.type ((cs.drop f5.offset).take (P.cellsOf f5.type)) = some y5 := by
  obtain ⟨xs, n, _, rfl, hl, hlen, hf⟩ := DataW.trod_struct ht h
  match xs, hlen with
  | [y0, y1, y2, y3, y4, y5], _ => exact ⟨y0, y1, y2, y3, y4, y5, n, by simp, hl, by simpa using hf 0 f0 rfl, by simpa using hf 1 f1 rfl, by simpa using hf 2 f2 rfl, by simpa using hf 3 f3 rfl, by simpa using hf 4 f4 rfl, by simpa using hf 5 f5 rfl⟩
end
theorem weightsAll_mem {H : Type} {P : Program} {e : TypeId} : ∀ {l : List (DataW H)} {d : DataW H}, d ∈ l → ∀ n ∈ d.weights P e, n ∈ DataW.weightsAll P e l
  | x :: r, d, h, n, hn => by
    simp only [DataW.weightsAll, List.mem_append]
    rcases List.mem_cons.mp h with rfl | h'
    · exact .inl hn
    · exact .inr (weightsAll_mem h' n hn)
  | [], _, h, _, _ => by cases h
theorem one_int : Try.prog.cellsOf 3 = 1 := by kernel_rfl
theorem one_str : Try.prog.cellsOf 9 = 1 := by kernel_rfl
theorem one_sl : Try.prog.cellsOf 33 = 1 := by kernel_rfl
theorem one_sli : Try.prog.cellsOf 34 = 1 := by kernel_rfl
theorem six : Try.prog.cellsOf 36 = 6 := by kernel_rfl
theorem bytes_b : Try.prog.bytesOf 5 = 1 := by kernel_rfl
theorem bytes_i : Try.prog.bytesOf 3 = 8 := by kernel_rfl
set_option maxRecDepth 100000 in
theorem act_in {H : Type} {enc : TypeId × Value → H} {w : World} {base n : Nat} {held : Bool} {cs : List Value} {D : DataW H} {Pl : List MemPlace} (h : DataW.trod enc Try.prog w base (fun _ => true) held n 36 cs = some (D, Pl)) (hw : ∀ x ∈ D.weights Try.prog 36, x ≤ reachBytes) :
    ∃ (a : DAc) (r s : Option Addr × Nat), cs = acV a r s ∧ AcIn w a r s := by
  obtain ⟨y0, y1, y2, y3, y4, y5, m, hx, hlen, h0, h1, h2, h3, h4, h5⟩ := trod_struct6 Try.underlying36 h
  rw [six] at hlen
  match cs, hlen with
  | [v0, v1, v2, v3, v4, v5], _ =>
    simp only [one_int, one_sl, one_str, one_sli] at h0 h1 h2 h3 h4 h5
    simp at h0 h1 h2 h3 h4 h5
    obtain ⟨k, hk, _, hkw⟩ := DataW.trod_int Try.underlying3 h0
    obtain ⟨q, hq, _, hqw⟩ := DataW.trod_int Try.underlying3 h4
    obtain ⟨a1, ha1, _, hs1⟩ := DataW.trod_string Try.underlying9 h1
    obtain ⟨a2, ha2, _, hs2⟩ := DataW.trod_string Try.underlying9 h2
    simp only [List.cons.injEq, and_true] at hk hq ha1 ha2
    simp only [Prod.mk.injEq] at hx
    obtain ⟨n1, e1⟩ := nm_of a1
    obtain ⟨n2, e2⟩ := nm_of a2
    have hl1 : n1.length ≤ maxLen := by rw [e1] at hs1; simpa [ByteArray.size] using hs1
    have hl2 : n2.length ≤ maxLen := by rw [e2] at hs2; simpa [ByteArray.size] using hs2
    have hP : ∃ (p : List Nat) (r : Option Addr × Nat), v3 = .slice r.1 p.length r.2 ∧ p.length ≤ r.2 ∧ r.2 ≤ 140737488351232 ∧ Me.Rd w w.heap.size r.1 p ∧ (r.1 = none → p.length = 0 ∧ r.2 = 0) := by
      rcases open_ints Try.underlying33 Try.underlying5 (by kernel_rfl) h3 with ⟨hcs, _⟩ | ⟨x, l, c, zs, hcs, _, hl, hm, hz, hy, hcell, hwz⟩
      · simp at hcs
        exact ⟨[], (none, 0), hcs, Nat.le_refl _, Nat.zero_le _, ⟨by simp, by simp⟩, fun _ => ⟨rfl, rfl⟩⟩
      · simp at hcs
        obtain ⟨p, b1, b2, b3, b4, b5⟩ := Me.bySlice_some hl hm (by simpa using hz) hcell hwz
        subst b1
        refine ⟨p, (some x, c), hcs, b2, ?_, b4, fun e => by cases e⟩
        have hmem : c * 1 ≤ reachBytes := by
          refine hw _ ?_
          rw [hx.1, hy]
          simp only [DataW.weights, Try.underlying36, Try.underlying33, DataW.weightsEach]
          simp only [Array.toList, List.map_cons, List.map_nil, DataW.weightsEach, List.mem_append]
          refine .inr (.inr (.inr (.inl ?_)))
          have hz' : zs.length = c := by simpa using hz
          have e : c * 1 = ((lits (H := H) .u8 (zs.take p.length)).length + (lits (H := H) .u8 (zs.drop p.length)).length) * Try.prog.bytesOf 5 := by
            rw [bytes_b]
            simp only [lits, List.length_map, List.length_take, List.length_drop]
            omega
          rw [e]
          simp [DataW.weights, Try.underlying33]
        unfold reachBytes at hmem
        show c ≤ _
        omega
    have hK : ∃ (p : List Int) (s : Option Addr × Nat), v5 = .slice s.1 p.length s.2 ∧ p.length ≤ s.2 ∧ s.2 * 8 ≤ 140737488351232 ∧ Mi.Rd w w.heap.size s.1 p ∧ (s.1 = none → p.length = 0 ∧ s.2 = 0) ∧ ∀ z ∈ p, Mi.I64 z := by
      rcases open_ints Try.underlying34 Try.underlying3 (by kernel_rfl) h5 with ⟨hcs, _⟩ | ⟨x, l, c, zs, hcs, _, hl, hm, hz, hy, hcell, hwz⟩
      · simp at hcs
        exact ⟨[], (none, 0), hcs, Nat.le_refl _, Nat.zero_le _, Mi.Rd.nil _ _ _, (fun _ => ⟨rfl, rfl⟩), by simp⟩
      · simp at hcs
        obtain ⟨p, b1, b2, b3, b4, b5, b6⟩ := Mi.bySlice_some hl hm (by simpa using hz) hcell hwz
        subst b1
        refine ⟨p, (some x, c), hcs, b2, ?_, b4, (fun e => by cases e), b6⟩
        have hmem : c * 8 ≤ reachBytes := by
          refine hw _ ?_
          rw [hx.1, hy]
          simp only [DataW.weights, Try.underlying36, Try.underlying34, DataW.weightsEach]
          simp only [Array.toList, List.map_cons, List.map_nil, DataW.weightsEach, List.mem_append]
          refine .inr (.inr (.inr (.inr (.inr (.inl ?_)))))
          have hz' : zs.length = c := by simpa using hz
          have e : c * 8 = ((lits (H := H) .i64 (zs.take p.length)).length + (lits (H := H) .i64 (zs.drop p.length)).length) * Try.prog.bytesOf 3 := by
            rw [bytes_i]
            simp only [lits, List.length_map, List.length_take, List.length_drop]
            congr 1
            omega
          rw [e]
          simp [DataW.weights, Try.underlying34]
        unfold reachBytes at hmem
        show c * 8 ≤ _
        omega
    obtain ⟨p, r, hv3, p1, p2, p3, p4⟩ := hP
    obtain ⟨kp, s, hv5, q1, q2, q3, q4, q5⟩ := hK
    exact ⟨⟨k, n1, n2, p, q, kp⟩, r, s, by rw [hk, hq, ha1, ha2, hv3, hv5, e1, e2]; rfl, p1, p2, p3, p4, q1, q2, q3, q4, q5, Mi.I64.of hkw, Mi.I64.of hqw, hl1, hl2⟩
set_option maxRecDepth 100000 in
/-- One by value. -/
theorem act_val {H : Type} {enc : TypeId × Value → H} {w : World} {base : Nat} {held : Bool} {v : Value} {D : DataW H} {Pl : List MemPlace} {r : Reach} {b0 : Nat} (hv : Value.okWide Try.prog w r b0 36 v) (h : DataW.Trod enc Try.prog w base (fun _ => true) held 36 v D Pl) (hw : ∀ x ∈ D.weights Try.prog 36, x ≤ reachBytes) :
    ∃ (a : DAc) (r s : Option Addr × Nat), v = .agg (acV a r s).toArray ∧ AcIn w a r s := by
  obtain ⟨cs, rfl, hsz⟩ := okWide_struct Try.underlying36 hv
  obtain ⟨fuel, hf⟩ := h
  obtain ⟨a, r, s, e, hi⟩ := act_in hf hw
  refine ⟨a, r, s, ?_, hi⟩
  have : cs.toList = acV a r s := by simpa [Value.cells] using e
  rw [← this]
/-- A slice's address leads to these calls. -/
def Acts (w : World) (a : Option Addr) (ls : List DAc) : Prop :=
  ∀ j, j < ls.length → ∃ b off r s, a = some ⟨b, off, none⟩ ∧ b < w.heap.size ∧ (∀ i u, (acV (acAt ls j) r s)[i]? = some u → w.cell? ⟨b, off + j * 6 + i, none⟩ = some u) ∧ AcIn w (acAt ls j) r s
set_option maxRecDepth 100000 in
theorem acts_in {H : Type} {enc : TypeId × Value → H} {w : World} {base fuel : Nat} {held : Bool} {a : Option Addr} {len cap : Nat} {d : DataW H} {pl : List MemPlace}
    (h : DataW.trod enc Try.prog w base (fun _ => true) held fuel 22 [.slice a len cap] = some (d, pl)) (hw : ∀ x ∈ d.weights Try.prog 22, x ≤ reachBytes) :
    ∃ ls : List DAc, len = ls.length ∧ len ≤ cap ∧ cap ≤ 9223372036854775807 ∧ Acts w a ls := by
  rcases open_slice Try.underlying22 h with ⟨hcs, _⟩ | ⟨ad, l, c, m, n, D, Pl, hcs, _, hl, hm, hmm, hx, hel⟩
  · simp at hcs
    obtain ⟨rfl, rfl, rfl⟩ := hcs
    exact ⟨[], rfl, Nat.le_refl _, Nat.zero_le _, fun j hj => absurd hj (by simp)⟩
  · simp at hcs
    obtain ⟨rfl, rfl, rfl⟩ := hcs
    simp only [if_true] at hmm
    subst hmm
    simp only [Prod.mk.injEq] at hx
    rw [six] at hel
    have each : ∀ i, i < len → ∃ q : DAc × (Option Addr × Nat) × (Option Addr × Nat), (∀ k u, (acV q.1 q.2.1 q.2.2)[k]? = some u → w.cell? ((ad.add (i * 6)).add k) = some u) ∧ AcIn w q.1 q.2.1 q.2.2 := by
      intro i hi
      obtain ⟨cs', h1, h2⟩ := hel i (by omega)
      obtain ⟨_, _, hcell⟩ := World.cells?_some h1
      obtain ⟨q, r, s, rfl, hi⟩ := act_in h2 fun x hxx => by
        refine hw x ?_
        rw [hx.1]
        simp only [DataW.weights, Try.underlying22]
        refine List.mem_cons_of_mem _ (List.mem_append_left _ (weightsAll_mem (d := D i) ?_ x hxx))
        exact List.mem_map.mpr ⟨i, List.mem_range.mpr hi, rfl⟩
      refine ⟨(q, r, s), fun k u hk => ?_, hi⟩
      have hk' : k < 6 := by
        have := (List.getElem?_eq_some_iff.1 hk).1
        simpa [acV] using this
      rw [hcell k hk']
      exact hk
    obtain ⟨q, hq⟩ := choose_lt (α := DAc × (Option Addr × Nat) × (Option Addr × Nat)) each
    refine ⟨(List.range len).map fun i => (q i).1, by simp, hl, by unfold maxLen at hm; omega, fun j hj => ?_⟩
    have hj' : j < len := by simpa using hj
    have hat : acAt ((List.range len).map fun i => (q i).1) j = (q j).1 := by simp [acAt, hj']
    obtain ⟨c0, g1⟩ := hq j hj'
    rw [hat]
    obtain ⟨b, off, spot⟩ := ad
    have hc00 := (hq 0 (by omega)).1 0 _ rfl
    have hspot : spot = none := by simpa [Addr.add] using World.cell?_spot hc00
    subst hspot
    simp only [add_plain] at c0
    exact ⟨b, off, (q j).2.1, (q j).2.2, rfl, World.block_lt_of_cell? w _ (c0 0 _ rfl), c0, g1⟩
end Go.Proofs.Ytdjgkoklkoahbaa.Dk
