/- A new receiver. -/
import Derived.Test.YtnfjfcoonabmmaaRvState
namespace Go.Proofs.Ytnfjfcoonabmmaa.Rv
open Go.RowKit
open Go.Proofs.Ytnfjfcoonabmmaa.Me Go.Proofs.Ytnfjfcoonabmmaa.Hd Go.Proofs.Ytnfjfcoonabmmaa.Sn
set_option linter.unusedVariables false
set_option linter.unusedSimpArgs false

theorem build_new (n mb : Nat) (w : World) : (Instr.build 57 #[(0, .int .i64 (n : Int)), (2, .map (some mb))]).run Try.prog w = .ok (.agg (rcs (newR n) mb)) w := by kernel_rfl
theorem exec_build (ρ : Operand → Value) (o : Oper) (x0 x1 : Operand) (n mb : Nat) (ho : o.op = .build 57 #[(0, x0), (2, x1)]) (h0 : ρ x0 = .int .i64 (n : Int)) (h1 : ρ x1 = .map (some mb)) (w : World) :
    (execOp ρ o).run Try.prog w = .ok (.value (.agg (rcs (newR n) mb))) w := by
  unfold execOp
  rw [ho]
  simp [h0, h1, build_new, Result.andThen]
theorem exec_box (ρ : Operand → Value) (o : Oper) (x : Operand) (n mb : Nat) (ho : o.op = .box 57 x) (h0 : ρ x = .agg (rcs (newR n) mb)) (w : World) :
    (execOp ρ o).run Try.prog w = .ok (.value (.pointer (some ⟨w.heap.size, 0, none⟩))) (w.alloc (.cells (rcs (newR n) mb) 57 (0, 0))) := by
  unfold execOp
  rw [ho]
  simp only [h0]
  kernel_rfl
theorem valTo {ops : Array Oper} {rest : List Oper} {o : Oper} {a : Act} {w : World} {Q : Exit → Act → World → Prop} (hg : o.guard = none) (v : Value) (hrun : (execOp a.eval o).run Try.prog w = .ok (.value v) w)
    (h : wpList Try.prog ops Q rest (a.put o.dst v) w) : wpList Try.prog ops Q (o :: rest) a w := by
  refine wpList_plain hg fun K hK => ?_
  unfold Oper.wp
  rw [hrun, Oper.upon_value]
  exact hK _ _ h
theorem New_ok (n : Nat) (h1 : 1 ≤ n) (h2 : n ≤ 63) (w : World) : Calls Try.prog 7 #[.int .i64 n] w fun e w' =>
    e = .returned (.tuple #[.pointer (some ⟨w.heap.size + 1, 0, none⟩), .int .i64 0]) ∧ Hid (Rq (fun k => w.heap.size + 2 ≤ k) w' (w.heap.size + 1) w.heap.size (newR n)) ∧ Hid (Below w.heap.size w w') := by
  have g1 : ¬ (n : Int) < 1 := by omega
  have g2 : ¬ 63 < (n : Int) := by omega
  have HR : Hid (Rq (fun k => w.heap.size + 2 ≤ k) ((w.alloc (.map #[] 0)).alloc (.cells (rcs (newR n) w.heap.size) 57 (0, 0))) (w.heap.size + 1) w.heap.size (newR n)) := by
    refine ⟨?_, (Mp.made _ w).below (by exact (Below.refl _ _).alloc (Nat.le_refl _) _), by omega, by omega⟩
    have := heap_alloc_new (w.alloc (.map #[] 0)) (.cells (rcs (newR n) w.heap.size) 57 (0, 0))
    rwa [World.size_alloc] at this
  have HB : Hid (Below w.heap.size w ((w.alloc (.map #[] 0)).alloc (.cells (rcs (newR n) w.heap.size) 57 (0, 0)))) := Me.below_alloc (Me.below_alloc (Below.refl _ _))
  have hmm : ∀ W : World, (Instr.makeMap 54 none).run Try.prog W = .ok (.map (some W.heap.size)) (W.alloc (.map #[] 0)) := fun W => by kernel_rfl
  go_enter Try.func7, Try.ntmps7
  go_wp2_with (first
    | (refine valTo rfl (.agg (rcs (newR n) w.heap.size)) (exec_build _ _ (.tmp 10) (.tmp 11) n w.heap.size rfl rfl rfl _) ?_)
    | (refine allocTo rfl (.pointer (some ⟨_, 0, none⟩)) (.cells (rcs (newR n) w.heap.size) 57 (0, 0)) (exec_box _ _ (.tmp 12) n w.heap.size rfl rfl _) ?_))

  go_returns
  exact ⟨rfl, HR, HB⟩
end Go.Proofs.Ytnfjfcoonabmmaa.Rv
