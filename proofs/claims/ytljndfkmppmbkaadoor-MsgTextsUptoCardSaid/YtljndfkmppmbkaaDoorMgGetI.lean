/- The id of bytes: GetId. -/
import Derived.Test.YtljndfkmppmbkaaDoorMgGetC
namespace Go.Proofs.YtljndfkmppmbkaaDoor.Mg
open Go.RowKit
open Go.Proofs.YtljndfkmppmbkaaDoor.Me Go.Proofs.YtljndfkmppmbkaaDoor.Ba Go.Proofs.YtljndfkmppmbkaaDoor.Ma Go.Proofs.YtljndfkmppmbkaaDoor.Bt Go.Proofs.YtljndfkmppmbkaaDoor.Hd
set_option linter.unusedVariables false
set_option linter.unusedSimpArgs false

/-- A return of a struct that lies in a block, and of a temporary. -/
theorem ret_box2 {fn : Func} {R : Ending → World → Prop} {a : Act} {w : World} {g : Nat} {cs : Array Value} {p u : Tmp} {ty t : TypeId} {fr : Nat × Nat} {d : TypeDesc} (hres : fn.results = #[.cell p ty, .tmp u]) (hp : a.tmps.getD p undef = .pointer (some ⟨g, 0, none⟩)) (hg : w.heap[g]? = some (.cells cs t fr))
    (hd : d.isRow = true) (hu : Tryd.prog.underlying ty = some d) (hi : (Tryd.prog.info? ty).map (·.size) = some cs.size) (hdef : a.defers = [])
    (hR : R (.returned (.tuple #[.agg cs, a.tmps.getD u undef])) w) : bodyPost Tryd.prog fn R .ret a w :=
  bodyPost_ret (v := .tuple #[.agg cs, a.tmps.getD u undef]) (by rw [results_cell_tmp hres, hp]; simp only [asAddr, Sem.run_pure, Result.andThen_ok, run_loadVar_row w g t ty cs fr d hg hu (by cases d <;> first | rfl | cases hd) hi]) hdef hR
/-- Where the reading stands. -/
def JG (A : Option Addr) (cap : Nat) (l : List Nat) (P Q : Nat) (W3 : World) (k : Nat) (W : World) : Prop :=
  W.heap[P]? = some (.cells #[.slice A l.length cap] 24 (0, 0)) ∧ W.heap[Q]? = some (.cells #[.int .i64 (lnK k : Int)] 3 (0, 0)) ∧ But (fun b => b = Q) W3 W
theorem jg_below {A : Option Addr} {cap : Nat} {l : List Nat} {P Q : Nat} {W3 : World} (hP : P < W3.heap.size) (hQ : Q < W3.heap.size) : ∀ k W W', JG A cap l P Q W3 k W → Below W3.heap.size W W' → JG A cap l P Q W3 k W' :=
  fun k W W' ⟨a, b, h⟩ hb => ⟨(hb.block P hP).trans a, (hb.block Q hQ).trans b, ⟨hb.os.trans h.os, hb.tape.trans h.tape, hb.output.trans h.output, Nat.le_trans h.size hb.size, fun c hc hn => (hb.block c hc).trans (h.same c hc hn)⟩⟩
theorem jg_reads {A : Option Addr} {cap : Nat} {l : List Nat} {P Q : Nat} {W3 : World} (hP : P < W3.heap.size) (hQ : Q < W3.heap.size) (hPQ : P ≠ Q) (hl : l.length = 6) (hlc : l.length ≤ cap) (hcm : cap ≤ 9223372036854775807) (hr : Rd W3 W3.heap.size A l) (hA : ∀ a, A = some a → ¬ a.block = Q) :
    Reads 41 (.pointer (some ⟨P, 0, none⟩)) (.pointer (some ⟨Q, 0, none⟩)) W3.heap.size (fun k => (numP l (lnK k) (szk k) : Int)) (JG A cap l P Q W3) := by
  intro k hk W ⟨ha, hb, h⟩ hB
  have hs : sizeB 8 (szk k) = true ∧ lnK k + szk k ≤ 6 ∧ szk k ≤ 2 ∧ lnK (k + 1) = lnK k + szk k := by
    obtain rfl | rfl | rfl | rfl : k = 0 ∨ k = 1 ∨ k = 2 ∨ k = 3 := by omega
    all_goals decide
  refine (getc (fmB k) (szk k) (lnK k) A cap l P Q W hs.1 (by omega) (by omega) hlc hcm ha hb (h.rd hr hA) hPQ hs.2.2.1).mono fun e w' ⟨he, hq, hbt⟩ => ?_
  refine ⟨he, ⟨(hbt.out.same P (Array.getElem?_eq_some_iff.1 ha).1 hPQ).trans ha, by rw [hs.2.2.2]; exact hq.out, h.trans hbt.out fun b _ e => e⟩, hbt.out.size, fun b hb1 hb2 => hbt.out.same b hb2 (by omega)⟩
end Go.Proofs.YtljndfkmppmbkaaDoor.Mg
