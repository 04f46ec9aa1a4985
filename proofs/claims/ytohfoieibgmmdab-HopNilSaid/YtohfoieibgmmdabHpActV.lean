/- A call by value: its shape. -/
import Derived.Test.YtohfoieibgmmdabHpMem
import Derived.SizedLaws
import Derived.Lib.SmallJoins
import Derived.Deep.Slices
import Derived.WideShapes
import Derived.Deep.Strs
namespace Go.Proofs.Ytohfoieibgmmdab.Hp
open Go.RowKit Go.Deep
open Go.ChangeShapes Go.WideShapes Go.Joins
open Go.Proofs.Ytohfoieibgmmdab.Me Go.Proofs.Ytohfoieibgmmdab.Sb
set_option linter.unusedVariables false
set_option linter.unusedSimpArgs false

/-- A call's cells. -/
def acC (k : Int) (x y z : Value) (f n : Int) (i : Mg.Id4) : Array Value := #[.int .i64 k, x, y, z, .int .i64 f, .int .i64 n, .int .i64 i.o, .int .i64 i.d, .int .i64 i.e, .int .i64 i.c]
theorem trod_struct7 {H : Type} {enc : TypeId × Value → H} {P : Program} {w : World} {base : Nat} {spare : TypeId → Bool} {held : Bool} {t : TypeId} {f0 f1 f2 f3 f4 f5 f6 : Field} {fuel : Nat} {cs : List Value} {x : DataW H × List MemPlace} (ht : P.underlying t = some (.struct #[f0, f1, f2, f3, f4, f5, f6])) (h : DataW.trod enc P w base spare held fuel t cs = some x) :
    ∃ y0 y1 y2 y3 y4 y5 y6 n, x = (.agg [y0.1, y1.1, y2.1, y3.1, y4.1, y5.1, y6.1], y0.2 ++ (y1.2 ++ (y2.2 ++ (y3.2 ++ (y4.2 ++ (y5.2 ++ y6.2)))))) ∧ cs.length = P.cellsOf t ∧
      DataW.trod enc P w base spare held n f0.type ((cs.drop f0.offset).take (P.cellsOf f0.type)) = some y0 ∧ DataW.trod enc P w base spare held n f1.type ((cs.drop f1.offset).take (P.cellsOf f1.type)) = some y1 ∧
      DataW.trod enc P w base spare held n f2.type ((cs.drop f2.offset).take (P.cellsOf f2.type)) = some y2 ∧ DataW.trod enc P w base spare held n f3.type ((cs.drop f3.offset).take (P.cellsOf f3.type)) = some y3 ∧
      DataW.trod enc P w base spare held n f4.type ((cs.drop f4.offset).take (P.cellsOf f4.type)) = some y4 ∧ DataW.trod enc P w base spare held n f5.type ((cs.drop f5.offset).take (P.cellsOf f5.type)) = some y5 ∧
      DataW.trod enc P w base spare held n f6.type ((cs.drop f6.offset).take (P.cellsOf f6.type)) = some y6 := by
  obtain ⟨xs, n, _, rfl, hl, hlen, hf⟩ := DataW.trod_struct ht h
  match xs, hlen with
  | [y0, y1, y2, y3, y4, y5, y6], _ => exact ⟨y0, y1, y2, y3, y4, y5, y6, n, by simp, hl, by simpa using hf 0 f0 rfl, by simpa using hf 1 f1 rfl, by simpa using hf 2 f2 rfl, by simpa using hf 3 f3 rfl, by simpa using hf 4 f4 rfl, by simpa using hf 5 f5 rfl, by simpa using hf 6 f6 rfl⟩
theorem one_i : Try.prog.cellsOf 3 = 1 := by kernel_rfl
theorem one_si : Try.prog.cellsOf 23 = 1 := by kernel_rfl
theorem one_sm : Try.prog.cellsOf 22 = 1 := by kernel_rfl
theorem four_i : Try.prog.cellsOf 25 = 4 := by kernel_rfl
theorem ten_a : Try.prog.cellsOf 27 = 10 := by kernel_rfl
theorem slice_shape {H : Type} {enc : TypeId × Value → H} {w : World} {base n : Nat} {held : Bool} {t e : TypeId} {v : Value} {x : DataW H × List MemPlace} (ht : Try.prog.underlying t = some (.slice e)) (h : DataW.trod enc Try.prog w base (fun _ => true) held n t [v] = some x) : ∃ A l c, v = .slice A l c := by
  rcases open_slice ht h with ⟨hcs, _⟩ | ⟨ad, l, c, m, n, D, Pl, hcs, _⟩
  · simp at hcs
    exact ⟨_, _, _, hcs⟩
  · simp at hcs
    exact ⟨_, _, _, hcs⟩
set_option maxRecDepth 100000 in
theorem act_val {H : Type} {enc : TypeId × Value → H} {w : World} {base : Nat} {held : Bool} {v : Value} {D : DataW H} {Pl : List MemPlace} {r : Reach} {b0 : Nat} (hv : Value.okWide Try.prog w r b0 27 v) (h : DataW.Trod enc Try.prog w base (fun _ => true) held 27 v D Pl) :
    ∃ (k : Int) (A : Option Addr) (an ac : Nat) (B : Option Addr) (bn bc : Nat) (C : Option Addr) (cn cc : Nat) (f n : Int) (i : Mg.Id4), v = .agg (acC k (.slice A an ac) (.slice B bn bc) (.slice C cn cc) f n i) := by
  obtain ⟨cs, rfl, hsz⟩ := okWide_struct Try.underlying27 hv
  obtain ⟨fuel, hf⟩ := h
  obtain ⟨y0, y1, y2, y3, y4, y5, y6, m, hx, hlen, h0, h1, h2, h3, h4, h5, h6⟩ := trod_struct7 Try.underlying27 hf
  rw [ten_a] at hlen
  have e0 : (Value.agg cs).cells = cs := rfl
  rw [e0] at hlen h0 h1 h2 h3 h4 h5 h6
  obtain ⟨l, hl⟩ : ∃ l, cs.toList = l := ⟨_, rfl⟩
  rw [hl] at hlen h0 h1 h2 h3 h4 h5 h6
  match l, hlen with
  | [v0, v1, v2, v3, v4, v5, v6, v7, v8, v9], _ =>
    simp only [one_i, one_si, one_sm, four_i] at h0 h1 h2 h3 h4 h5 h6
    simp at h0 h1 h2 h3 h4 h5 h6
    obtain ⟨k, hk, _, _⟩ := DataW.trod_int Try.underlying3 h0
    obtain ⟨A, an, ac, ha⟩ := slice_shape Try.underlying22 h1
    obtain ⟨B, bn, bc, hb⟩ := slice_shape Try.underlying23 h2
    obtain ⟨C, cn, cc, hc⟩ := slice_shape Try.underlying23 h3
    obtain ⟨f, hff, _, _⟩ := DataW.trod_int Try.underlying3 h4
    obtain ⟨n, hn, _, _⟩ := DataW.trod_int Try.underlying3 h5
    obtain ⟨z0, z1, z2, z3, m2, _, _, g0, g1, g2, g3⟩ := Go.Joins.trod_struct4 Try.underlying25 h6
    simp only [one_i] at g0 g1 g2 g3
    simp at g0 g1 g2 g3
    obtain ⟨k0, q0, _, _⟩ := DataW.trod_int Try.underlying3 g0
    obtain ⟨k1, q1, _, _⟩ := DataW.trod_int Try.underlying3 g1
    obtain ⟨k2, q2, _, _⟩ := DataW.trod_int Try.underlying3 g2
    obtain ⟨k3, q3, _, _⟩ := DataW.trod_int Try.underlying3 g3
    simp only [List.cons.injEq, and_true] at hk hff hn q0 q1 q2 q3
    refine ⟨k, A, an, ac, B, bn, bc, C, cn, cc, f, n, ⟨k0, k1, k2, k3⟩, ?_⟩
    have : cs = acC k (.slice A an ac) (.slice B bn bc) (.slice C cn cc) f n ⟨k0, k1, k2, k3⟩ := by
      rw [← Array.toList_inj, hl, hk, ha, hb, hc, hff, hn, q0, q1, q2, q3]
      rfl
    rw [this]
end Go.Proofs.Ytohfoieibgmmdab.Hp
