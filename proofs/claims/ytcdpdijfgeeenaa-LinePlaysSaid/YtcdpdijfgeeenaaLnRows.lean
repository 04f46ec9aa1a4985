/- Lists of bytes that came in, none of which takes more memory than there is. -/
import Derived.Test.YtcdpdijfgeeenaaLnDef
import Derived.Test.YtcdpdijfgeeenaaRows2
import Derived.Deep.Slices
import Derived.Deep.Strs
import Derived.SizedLaws
import Derived.Lib.SmallJoins
namespace Go.Proofs.Ytcdpdijfgeeenaa.Lr2
open Go.RowKit Go.Deep
open Go.ChangeShapes Go.WideShapes
set_option linter.unusedVariables false
set_option linter.unusedSimpArgs false

instance instInhabitedLiRow : Inhabited (List Nat × Option Addr × Nat) := ⟨([], none, 0)⟩
/-- What is known of bytes that lie at R. -/
structure RowIn (w : World) (p : List Nat) (R : Option Addr) (cr : Nat) : Prop where
  le : p.length ≤ cr
  sz : cr ≤ 140737488351232
  rd : Me.Rd w w.heap.size R p
  nil : R = none → p.length = 0 ∧ cr = 0
/-- A slice's address leads to these lists. -/
def Rws (w : World) (a : Option Addr) (ls : List (List Nat)) : Prop :=
  ∀ j, j < ls.length → ∃ b off R cr, a = some ⟨b, off, none⟩ ∧ b < w.heap.size ∧ w.cell? ⟨b, off + j, none⟩ = some (.slice R (Me.lsAt ls j).length cr) ∧ RowIn w (Me.lsAt ls j) R cr
theorem RowIn.below {w w' : World} {p : List Nat} {R : Option Addr} {cr : Nat} (h : RowIn w p R cr) (hb : Below w.heap.size w w') : RowIn w' p R cr := ⟨h.le, h.sz, (h.rd.below hb).more hb.size, h.nil⟩
theorem Rws.below {w w' : World} {a : Option Addr} {ls : List (List Nat)} (h : Rws w a ls) (hb : Below w.heap.size w w') : Rws w' a ls := fun j hj => by
  obtain ⟨b, off, R, cr, e, h1, h2, h3⟩ := h j hj
  exact ⟨b, off, R, cr, e, Nat.lt_of_lt_of_le h1 hb.size, (hb.cell (p := ⟨b, off + j, none⟩) h1).trans h2, h3.below hb⟩
theorem weightsAll_mem {H : Type} {P : Program} {e : TypeId} : ∀ {l : List (DataW H)} {d : DataW H}, d ∈ l → ∀ n ∈ d.weights P e, n ∈ DataW.weightsAll P e l
  | x :: r, d, h, n, hn => by
    simp only [DataW.weightsAll, List.mem_append]
    rcases List.mem_cons.mp h with rfl | h'
    · exact .inl hn
    · exact .inr (weightsAll_mem h' n hn)
  | [], _, h, _, _ => by cases h
theorem one_sli : Try.prog.cellsOf 33 = 1 := by kernel_rfl
theorem bytes_i : Try.prog.bytesOf 5 = 1 := by kernel_rfl
set_option maxRecDepth 100000 in
theorem row_in {H : Type} {enc : TypeId × Value → H} {w : World} {base n : Nat} {held : Bool} {cs : List Value} {D : DataW H} {Pl : List MemPlace} (h : DataW.trod enc Try.prog w base (fun _ => true) held n 33 cs = some (D, Pl)) (hw : ∀ x ∈ D.weights Try.prog 33, x ≤ reachBytes) :
    ∃ (p : List Nat) (R : Option Addr) (cr : Nat), cs = [.slice R p.length cr] ∧ RowIn w p R cr := by
  rcases open_ints Try.underlying33 Try.underlying5 (by kernel_rfl) h with ⟨hcs, _⟩ | ⟨x, l, c, zs, hcs, _, hl, hm, hz, hy, hcell, hwz⟩
  · exact ⟨[], none, 0, hcs, Nat.le_refl _, Nat.zero_le _, ⟨by simp, by simp⟩, fun _ => ⟨rfl, rfl⟩⟩
  · obtain ⟨p, b1, b2, b3, b4, b5⟩ := Me.bySlice_some hl hm (by simpa using hz) hcell hwz
    subst b1
    refine ⟨p, some x, c, hcs, b2, ?_, b4, fun e => by cases e⟩
    simp only [Prod.mk.injEq] at hy
    have hmem : c * 1 ≤ reachBytes := by
      refine hw _ ?_
      rw [hy.1]
      have hz' : zs.length = c := by simpa using hz
      have e : c * 1 = ((lits (H := H) .u8 (zs.take p.length)).length + (lits (H := H) .u8 (zs.drop p.length)).length) * Try.prog.bytesOf 5 := by
        rw [bytes_i]
        simp only [lits, List.length_map, List.length_take, List.length_drop]
        omega
      rw [e]
      simp [DataW.weights, Try.underlying33]
    unfold reachBytes at hmem
    omega
set_option maxRecDepth 100000 in
theorem rows_in {H : Type} {enc : TypeId × Value → H} {w : World} {base fuel : Nat} {held : Bool} {a : Option Addr} {len cap : Nat} {d : DataW H} {pl : List MemPlace}
    (h : DataW.trod enc Try.prog w base (fun _ => true) held fuel 42 [.slice a len cap] = some (d, pl)) (hw : ∀ x ∈ d.weights Try.prog 42, x ≤ reachBytes) :
    ∃ ls : List (List Nat), len = ls.length ∧ len ≤ cap ∧ cap ≤ 9223372036854775807 ∧ Rws w a ls := by
  rcases open_slice Try.underlying42 h with ⟨hcs, _⟩ | ⟨ad, l, c, m, n, D, Pl, hcs, _, hl, hm, hmm, hx, hel⟩
  · simp at hcs
    obtain ⟨rfl, rfl, rfl⟩ := hcs
    exact ⟨[], rfl, Nat.le_refl _, Nat.zero_le _, fun j hj => absurd hj (by simp)⟩
  · simp at hcs
    obtain ⟨rfl, rfl, rfl⟩ := hcs
    simp only [if_true] at hmm
    subst hmm
    simp only [Prod.mk.injEq] at hx
    rw [one_sli] at hel
    have each : ∀ i, i < len → ∃ q : List Nat × Option Addr × Nat, w.cell? (ad.add i) = some (.slice q.2.1 q.1.length q.2.2) ∧ RowIn w q.1 q.2.1 q.2.2 := by
      intro i hi
      obtain ⟨cs', h1, h2⟩ := hel i (by omega)
      obtain ⟨_, _, hcell⟩ := World.cells?_some h1
      obtain ⟨q, R, cr, rfl, g⟩ := row_in h2 fun x hxx => by
        refine hw x ?_
        rw [hx.1]
        simp only [DataW.weights, Try.underlying42]
        refine List.mem_cons_of_mem _ (List.mem_append_left _ (weightsAll_mem (d := D i) ?_ x hxx))
        exact List.mem_map.mpr ⟨i, List.mem_range.mpr hi, rfl⟩
      have e0 := hcell 0 (by omega)
      rw [Nat.mul_one, show (ad.add i).add 0 = ad.add i by simp [Addr.add]] at e0
      exact ⟨(q, R, cr), e0, g⟩
    obtain ⟨q, hq⟩ := choose_lt (α := List Nat × Option Addr × Nat) each
    refine ⟨(List.range len).map fun i => (q i).1, by simp, hl, by unfold maxLen at hm; omega, fun j hj => ?_⟩
    have hj' : j < len := by simpa using hj
    have hat : Me.lsAt ((List.range len).map fun i => (q i).1) j = (q j).1 := by simp [Me.lsAt, hj']
    obtain ⟨c0, g⟩ := hq j hj'
    rw [hat]
    obtain ⟨b, off, spot⟩ := ad
    have hspot : spot = none := by simpa [Addr.add] using World.cell?_spot (hq 0 (by omega)).1
    subst hspot
    rw [add_plain] at c0
    exact ⟨b, off, (q j).2.1, (q j).2.2, rfl, World.block_lt_of_cell? w _ c0, c0, g⟩
end Go.Proofs.Ytcdpdijfgeeenaa.Lr2
