/- A message that came in by value. -/
import Derived.Test.YtohfoieibgmmdaaMgCheck
import Derived.Deep.Slices
import Derived.SizedLaws
import Derived.Lib.SmallJoins
namespace Go.Proofs.Ytohfoieibgmmdaa.Mg
open Go.RowKit Go.Deep
open Go.ChangeShapes Go.WideShapes Go.Joins
open Go.Proofs.Ytohfoieibgmmdaa.Me
set_option linter.unusedVariables false
set_option linter.unusedSimpArgs false

/-- Where its data leads. -/
def MsIn (w : World) (A : Option Addr) (n c : Nat) (l : List Nat) : Prop := BySlice w A n c l ∧ c ≤ 140737488351232
theorem one_int : Try.prog.cellsOf 3 = 1 := by kernel_rfl
theorem one_sl : Try.prog.cellsOf 24 = 1 := by kernel_rfl
theorem four_id : Try.prog.cellsOf 23 = 4 := by kernel_rfl
theorem five_msg : Try.prog.cellsOf 26 = 5 := by kernel_rfl
theorem bytes_b : Try.prog.bytesOf 5 = 1 := by kernel_rfl
set_option maxRecDepth 100000 in
theorem msg_in {H : Type} {enc : TypeId × Value → H} {w : World} {base n : Nat} {held : Bool} {cs : List Value} {D : DataW H} {Pl : List MemPlace} (h : DataW.trod enc Try.prog w base (fun _ => true) held n 26 cs = some (D, Pl)) (hw : ∀ x ∈ D.weights Try.prog 26, x ≤ reachBytes) :
    ∃ (i : Id4) (A : Option Addr) (k c : Nat) (l : List Nat), cs = (msgC i A k c).toList ∧ MsIn w A k c l := by
  obtain ⟨y0, y1, m, hx, hlen, h0, h1⟩ := trod_struct2 Try.underlying26 h
  rw [five_msg] at hlen
  match cs, hlen with
  | [v0, v1, v2, v3, v4], _ =>
    simp only [four_id, one_sl] at h0 h1
    simp at h0 h1
    obtain ⟨z0, z1, z2, z3, m2, _, _, g0, g1, g2, g3⟩ := Go.Joins.trod_struct4 Try.underlying23 h0
    simp only [one_int] at g0 g1 g2 g3
    simp at g0 g1 g2 g3
    obtain ⟨k0, e0, _, _⟩ := DataW.trod_int Try.underlying3 g0
    obtain ⟨k1, e1, _, _⟩ := DataW.trod_int Try.underlying3 g1
    obtain ⟨k2, e2, _, _⟩ := DataW.trod_int Try.underlying3 g2
    obtain ⟨k3, e3, _, _⟩ := DataW.trod_int Try.underlying3 g3
    simp only [List.cons.injEq, and_true] at e0 e1 e2 e3
    simp only [Prod.mk.injEq] at hx
    have hP : ∃ (l : List Nat) (A : Option Addr) (k c : Nat), v4 = .slice A k c ∧ BySlice w A k c l ∧ c ≤ 140737488351232 := by
      rcases open_ints Try.underlying24 Try.underlying5 (by kernel_rfl) h1 with ⟨hcs, _⟩ | ⟨x, k, c, zs, hcs, _, hl, hm, hz, hy, hcell, hwz⟩
      · simp at hcs
        exact ⟨[], none, 0, 0, hcs, bySlice_none w, Nat.zero_le _⟩
      · simp at hcs
        obtain ⟨l, hb⟩ := bySlice_some hl hm (by simpa using hz) hcell hwz
        refine ⟨l, some x, k, c, hcs, hb, ?_⟩
        have hmem : c * 1 ≤ reachBytes := by
          refine hw _ ?_
          rw [hx.1, hy]
          simp only [DataW.weights, Try.underlying26, Try.underlying24, DataW.weightsEach]
          simp only [Array.toList, List.map_cons, List.map_nil, DataW.weightsEach, List.mem_append]
          refine .inr (.inl ?_)
          have hz' : zs.length = c := by simpa using hz
          have e : c * 1 = ((lits (H := H) .u8 (zs.take k)).length + (lits (H := H) .u8 (zs.drop k)).length) * Try.prog.bytesOf 5 := by
            rw [bytes_b]
            simp only [lits, List.length_map, List.length_take, List.length_drop]
            omega
          rw [e]
          simp [DataW.weights, Try.underlying24]
        unfold reachBytes at hmem
        show c ≤ _
        omega
    obtain ⟨l, A, k, c, e4, hb, hc⟩ := hP
    exact ⟨⟨k0, k1, k2, k3⟩, A, k, c, l, by rw [e0, e1, e2, e3, e4]; rfl, hb, hc⟩
set_option maxRecDepth 100000 in
theorem msg_val {H : Type} {enc : TypeId × Value → H} {w : World} {base : Nat} {held : Bool} {v : Value} {D : DataW H} {Pl : List MemPlace} {r : Reach} {b0 : Nat} (hv : Value.okWide Try.prog w r b0 26 v) (h : DataW.Trod enc Try.prog w base (fun _ => true) held 26 v D Pl) (hw : ∀ x ∈ D.weights Try.prog 26, x ≤ reachBytes) :
    ∃ (i : Id4) (A : Option Addr) (k c : Nat) (l : List Nat), v = .agg (msgC i A k c) ∧ MsIn w A k c l := by
  obtain ⟨cs, rfl, hsz⟩ := okWide_struct Try.underlying26 hv
  obtain ⟨fuel, hf⟩ := h
  obtain ⟨i, A, k, c, l, e, hi⟩ := msg_in hf hw
  refine ⟨i, A, k, c, l, ?_, hi⟩
  have : cs.toList = (msgC i A k c).toList := by simpa [Value.cells] using e
  rw [Array.toList_inj.1 this]
end Go.Proofs.Ytohfoieibgmmdaa.Mg
