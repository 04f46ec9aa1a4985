/- Ways that came in, as a list. -/
import Derived.Test.YtnfjfcoonabmmaaRvRow
import Derived.Deep.Slices
import Derived.Deep.Strs
namespace Go.Proofs.Ytnfjfcoonabmmaa.Rv
open Go.RowKit Go.Deep
open Go.ChangeShapes Go.WideShapes
open Go.Proofs.Ytnfjfcoonabmmaa.Me Go.Proofs.Ytnfjfcoonabmmaa.Hd Go.Proofs.Ytnfjfcoonabmmaa.Sn
set_option linter.unusedVariables false
set_option linter.unusedSimpArgs false

def wyAt (ls : List (Int × Int)) (j : Nat) : Int × Int := ls.getD j (0, 0)
/-- A slice's address leads to these ways. -/
def Ways (w : World) (a : Option Addr) (ls : List (Int × Int)) : Prop :=
  ∀ j, j < ls.length → ∃ b off, a = some ⟨b, off, none⟩ ∧ b < w.heap.size ∧ w.cell? ⟨b, off + j * 2, none⟩ = some (.int .i64 (wyAt ls j).1) ∧ w.cell? ⟨b, off + j * 2 + 1, none⟩ = some (.int .i64 (wyAt ls j).2)
theorem two_w : Try.prog.cellsOf 43 = 2 := by kernel_rfl
theorem one_i : Try.prog.cellsOf 3 = 1 := by kernel_rfl
theorem way_in {H : Type} {enc : TypeId × Value → H} {w : World} {base n : Nat} {held : Bool} {cs : List Value} {D : DataW H} {Pl : List MemPlace} (h : DataW.trod enc Try.prog w base (fun _ => true) held n 43 cs = some (D, Pl)) :
    ∃ q : Int × Int, cs = [.int .i64 q.1, .int .i64 q.2] := by
  obtain ⟨y0, y1, m, hx, hlen, h0, h1⟩ := trod_struct2 Try.underlying43 h
  rw [two_w] at hlen
  match cs, hlen with
  | [v0, v1], _ =>
    simp only [one_i] at h0 h1
    simp at h0 h1
    obtain ⟨k, hk, _, _⟩ := DataW.trod_int Try.underlying3 h0
    obtain ⟨q, hq, _, _⟩ := DataW.trod_int Try.underlying3 h1
    simp only [List.cons.injEq, and_true] at hk hq
    exact ⟨(k, q), by rw [hk, hq]⟩
theorem ways_in {H : Type} {enc : TypeId × Value → H} {w : World} {base fuel : Nat} {held : Bool} {a : Option Addr} {len cap : Nat} {d : DataW H} {pl : List MemPlace}
    (h : DataW.trod enc Try.prog w base (fun _ => true) held fuel 38 [.slice a len cap] = some (d, pl)) :
    ∃ ls : List (Int × Int), len = ls.length ∧ len ≤ cap ∧ cap ≤ 9223372036854775807 ∧ Ways w a ls := by
  rcases open_slice Try.underlying38 h with ⟨hcs, _⟩ | ⟨ad, l, c, m, n, D, Pl, hcs, _, hl, hm, hmm, hx, hel⟩
  · simp at hcs
    obtain ⟨rfl, rfl, rfl⟩ := hcs
    exact ⟨[], rfl, Nat.le_refl _, Nat.zero_le _, fun j hj => absurd hj (by simp)⟩
  · simp at hcs
    obtain ⟨rfl, rfl, rfl⟩ := hcs
    simp only [if_true] at hmm
    subst hmm
    rw [two_w] at hel
    have each : ∀ i, i < len → ∃ q : Int × Int, w.cell? (ad.add (i * 2)) = some (.int .i64 q.1) ∧ w.cell? ((ad.add (i * 2)).add 1) = some (.int .i64 q.2) := by
      intro i hi
      obtain ⟨cs', h1, h2⟩ := hel i (by omega)
      obtain ⟨_, _, hcell⟩ := World.cells?_some h1
      obtain ⟨q, rfl⟩ := way_in h2
      have e0 := hcell 0 (by omega)
      have e1 := hcell 1 (by omega)
      rw [show (ad.add (i * 2)).add 0 = ad.add (i * 2) by simp [Addr.add]] at e0
      exact ⟨q, e0, e1⟩
    obtain ⟨q, hq⟩ := choose_lt (α := Int × Int) each
    refine ⟨(List.range len).map q, by simp, hl, by unfold maxLen at hm; omega, fun j hj => ?_⟩
    have hj' : j < len := by simpa using hj
    have hat : wyAt ((List.range len).map q) j = q j := by simp [wyAt, hj']
    obtain ⟨c0, c1⟩ := hq j hj'
    rw [hat]
    obtain ⟨b, off, spot⟩ := ad
    have hspot : spot = none := by simpa [Addr.add] using World.cell?_spot (hq 0 (by omega)).1
    subst hspot
    simp only [add_plain] at c0 c1
    exact ⟨b, off, rfl, World.block_lt_of_cell? w _ c0, c0, c1⟩
theorem run_way (W : World) (g o : Nat) (a b : Value) (h0 : W.cell? ⟨g, o, none⟩ = some a) (h1 : W.cell? ⟨g, o + 1, none⟩ = some b) : (loadVar 43 ⟨g, o, none⟩).run Try.prog W = .ok (.agg #[a, b]) W :=
  run_cells 43 _ [a, b] Try.underlying43 rfl (by kernel_rfl) W g o fun j v hj => by
    match j, hj with
    | 0, hj => rw [← Option.some.inj hj]; exact h0
    | 1, hj => rw [← Option.some.inj hj]; exact h1
end Go.Proofs.Ytnfjfcoonabmmaa.Rv
