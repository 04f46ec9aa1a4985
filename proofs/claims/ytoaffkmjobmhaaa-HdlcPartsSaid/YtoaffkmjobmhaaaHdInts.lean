/- Numbers that came in. -/
import Derived.Test.YtoaffkmjobmhaaaHdThere
namespace Go.Proofs.Ytoaffkmjobmhaaa.Me
open Go.RowKit
set_option linter.unusedVariables false

/-- A slice of numbers that came in. -/
def IntsIn (w : World) (a : Option Addr) (len : Nat) (zs : List Int) : Prop :=
  len = zs.length ∧ zs.length ≤ 9223372036854775807 ∧ (∀ z ∈ zs, -9223372036854775808 ≤ z ∧ z ≤ 9223372036854775807) ∧ (0 < zs.length → ∃ b off, a = some ⟨b, off, none⟩ ∧ b < w.heap.size ∧ ∀ i, i < zs.length → w.cell? ⟨b, off + i, none⟩ = some (.int .i64 (zs.getD i 0)))
theorem ints_none (w : World) : IntsIn w none 0 [] := ⟨rfl, by simp, by simp, by simp⟩
theorem ints_some {w : World} {x : Addr} {len cap : Nat} {zs : List Int} (hl : len ≤ cap) (hm : cap ≤ maxLen) (hz : zs.length = cap)
    (hcell : ∀ i, i < zs.length → w.cell? (x.add i) = some (.int .i64 (zs.getD i 0))) (hwz : ∀ n ∈ zs, (Lit.int .i64 n).wf = true) : ∃ l, IntsIn w (some x) len l := by
  have hlen : (zs.take len).length = len := by simp; omega
  refine ⟨zs.take len, hlen.symm, by unfold maxLen at hm; omega, ?_, fun h => ?_⟩
  · intro z hz'
    exact bounds_i64 (hwz z (List.mem_of_mem_take hz'))
  · rw [hlen] at h
    obtain ⟨b, off, rfl, hc⟩ := ints_at hcell (by omega)
    refine ⟨b, off, rfl, World.block_lt_of_cell? w _ (hc 0 (by omega)), fun i hi => ?_⟩
    rw [hlen] at hi
    rw [hc i (by omega)]
    have : (zs.take len).getD i 0 = zs.getD i 0 := by simp [hi]
    rw [this]
end Go.Proofs.Ytoaffkmjobmhaaa.Me
