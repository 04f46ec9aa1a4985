/- Ids that came in, as a list; cut. -/
import Derived.Test.YtjgdkpgkonnhnaaSeTieB
import Derived.Deep.Slices
import Derived.Deep.Strs
import Derived.WideShapes
import Derived.Lib.SmallJoins
namespace Go.Proofs.Ytjgdkpgkonnhnaa.Se
open Go.RowKit Go.Deep
open Go.ChangeShapes Go.WideShapes Go.Joins
open Go.Proofs.Ytjgdkpgkonnhnaa.Me Go.Proofs.Ytjgdkpgkonnhnaa.Sb
set_option linter.unusedVariables false
set_option linter.unusedSimpArgs false

instance : Inhabited Mg.Id4 := ⟨⟨0, 0, 0, 0⟩⟩
def idAt (ls : List Mg.Id4) (j : Nat) : Mg.Id4 := ls.getD j ⟨0, 0, 0, 0⟩
/-- A slice's address leads to these ids. -/
def Ids (w : World) (a : Option Addr) (ls : List Mg.Id4) : Prop :=
  ∀ j, j < ls.length → ∃ b off, a = some ⟨b, off, none⟩ ∧ b < w.heap.size ∧ w.cell? ⟨b, off + j * 4, none⟩ = some (.int .i64 (idAt ls j).o) ∧ w.cell? ⟨b, off + j * 4 + 1, none⟩ = some (.int .i64 (idAt ls j).d) ∧ w.cell? ⟨b, off + j * 4 + 2, none⟩ = some (.int .i64 (idAt ls j).e) ∧ w.cell? ⟨b, off + j * 4 + 3, none⟩ = some (.int .i64 (idAt ls j).c)
theorem four_w : Try.prog.cellsOf 39 = 4 := by kernel_rfl
theorem one_i : Try.prog.cellsOf 3 = 1 := by kernel_rfl
set_option maxRecDepth 100000 in
theorem id_in {H : Type} {enc : TypeId × Value → H} {w : World} {base n : Nat} {held : Bool} {cs : List Value} {D : DataW H} {Pl : List MemPlace} (h : DataW.trod enc Try.prog w base (fun _ => true) held n 39 cs = some (D, Pl)) :
    ∃ q : Mg.Id4, cs = [.int .i64 q.o, .int .i64 q.d, .int .i64 q.e, .int .i64 q.c] := by
  obtain ⟨y0, y1, y2, y3, m, hx, hlen, h0, h1, h2, h3⟩ := trod_struct4 Try.underlying39 h
  rw [four_w] at hlen
  match cs, hlen with
  | [v0, v1, v2, v3], _ =>
    simp only [one_i] at h0 h1 h2 h3
    simp at h0 h1 h2 h3
    obtain ⟨k0, hk0, _, _⟩ := DataW.trod_int Try.underlying3 h0
    obtain ⟨k1, hk1, _, _⟩ := DataW.trod_int Try.underlying3 h1
    obtain ⟨k2, hk2, _, _⟩ := DataW.trod_int Try.underlying3 h2
    obtain ⟨k3, hk3, _, _⟩ := DataW.trod_int Try.underlying3 h3
    simp only [List.cons.injEq, and_true] at hk0 hk1 hk2 hk3
    exact ⟨⟨k0, k1, k2, k3⟩, by rw [hk0, hk1, hk2, hk3]⟩
theorem ids_in {H : Type} {enc : TypeId × Value → H} {w : World} {base fuel : Nat} {held : Bool} {a : Option Addr} {len cap : Nat} {d : DataW H} {pl : List MemPlace}
    (h : DataW.trod enc Try.prog w base (fun _ => true) held fuel 22 [.slice a len cap] = some (d, pl)) :
    ∃ ls : List Mg.Id4, len = ls.length ∧ len ≤ cap ∧ cap ≤ 9223372036854775807 ∧ Ids w a ls := by
  rcases open_slice Try.underlying22 h with ⟨hcs, _⟩ | ⟨ad, l, c, m, n, D, Pl, hcs, _, hl, hm, hmm, hx, hel⟩
  · simp at hcs
    obtain ⟨rfl, rfl, rfl⟩ := hcs
    exact ⟨[], rfl, Nat.le_refl _, Nat.zero_le _, fun j hj => absurd hj (by simp)⟩
  · simp at hcs
    obtain ⟨rfl, rfl, rfl⟩ := hcs
    simp only [if_true] at hmm
    subst hmm
    rw [four_w] at hel
    have each : ∀ i, i < len → ∃ q : Mg.Id4, w.cell? (ad.add (i * 4)) = some (.int .i64 q.o) ∧ w.cell? ((ad.add (i * 4)).add 1) = some (.int .i64 q.d) ∧ w.cell? ((ad.add (i * 4)).add 2) = some (.int .i64 q.e) ∧ w.cell? ((ad.add (i * 4)).add 3) = some (.int .i64 q.c) := by
      intro i hi
      obtain ⟨cs', h1, h2⟩ := hel i (by omega)
      obtain ⟨_, _, hcell⟩ := World.cells?_some h1
      obtain ⟨q, rfl⟩ := id_in h2
      have e0 := hcell 0 (by omega)
      have e1 := hcell 1 (by omega)
      have e2 := hcell 2 (by omega)
      have e3 := hcell 3 (by omega)
      rw [show (ad.add (i * 4)).add 0 = ad.add (i * 4) by simp [Addr.add]] at e0
      exact ⟨q, e0, e1, e2, e3⟩
    obtain ⟨q, hq⟩ := choose_lt (α := Mg.Id4) each
    refine ⟨(List.range len).map q, by simp, hl, by unfold maxLen at hm; omega, fun j hj => ?_⟩
    have hj' : j < len := by simpa using hj
    have hat : idAt ((List.range len).map q) j = q j := by simp [idAt, hj']
    obtain ⟨c0, c1, c2, c3⟩ := hq j hj'
    rw [hat]
    obtain ⟨b, off, spot⟩ := ad
    have hspot : spot = none := by simpa [Addr.add] using World.cell?_spot (hq 0 (by omega)).1
    subst hspot
    simp only [add_mk] at c0 c1 c2 c3
    exact ⟨b, off, rfl, World.block_lt_of_cell? w _ c0, c0, c1, c2, c3⟩
set_option maxRecDepth 100000 in
set_option maxHeartbeats 4000000 in
/-- Sixty at most are looked at. -/
theorem cutL_any (A : Option Addr) (len cap : Nat) (hl : len ≤ cap) (hc : cap ≤ 9223372036854775807) (ha : 60 < len → ∃ b off, A = some ⟨b, off, none⟩) (w : World) : Calls Try.prog 12 #[.slice A len cap] w fun e w' => e = .returned (.slice A (min len 60) cap) ∧ w = w' := by
  by_cases h : 60 < len
  · obtain ⟨b, off, rfl⟩ := ha h
    have e : min len 60 = 60 := by omega
    rw [e]
    have g1 : (60 : Int) < (len : Int) := by omega
    have g2 : ¬ (cap : Int) < 60 := by omega
    clear e
    go_enter Try.func12, Try.ntmps12
    go_wp2
    go_ret
    exact ⟨rfl, rfl⟩
  · have e : min len 60 = len := by omega
    rw [e]
    have g1 : ¬ (60 : Int) < (len : Int) := by omega
    clear e
    go_enter Try.func12, Try.ntmps12
    go_wp2
    go_ret
    exact ⟨rfl, rfl⟩
end Go.Proofs.Ytjgdkpgkonnhnaa.Se
