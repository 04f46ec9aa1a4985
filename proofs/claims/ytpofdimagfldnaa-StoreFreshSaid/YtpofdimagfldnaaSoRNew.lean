/- The document's new store; both sides' stores ahead of any event. -/
import Derived.Test.YtpofdimagfldnaaSoLv
import Derived.Test.YtpofdimagfldnaaSoIn
namespace Go.Proofs.Ytpofdimagfldnaa.So
open Go.RowKit
open Go.Proofs.Ytpofdimagfldnaa.Me Go.Proofs.Ytpofdimagfldnaa.Sb
set_option linter.unusedVariables false
set_option linter.unusedSimpArgs false

/-- A store of the document's, as it lies. -/
def rsc (a b c d e : Int) (u l : Value) (r : Int) (k : Value) : Array Value := #[.int .i64 a, .int .i64 b, .int .i64 c, .int .i64 d, .int .i64 e, u, l, .int .i64 r, k]
def rs0 : Array Value := #[.int .i64 0, .int .i64 0, .int .i64 0, .int .i64 0, .int .i64 0, .slice none 0 0, .slice none 0 0, .int .i64 0, .slice none 0 0]
def numR (n m : Int) : Bool := decide (0 ≤ n ∧ n ≤ m)
theorem numR_yes {n m : Int} (h : 0 ≤ n ∧ n ≤ m) : numR n m = true := decide_eq_true h
theorem numR_no {n m : Int} (h : ¬ (0 ≤ n ∧ n ≤ m)) : numR n m = false := decide_eq_false h
theorem number_any (n m : Int) (w : World) : Calls Try.prog 35 #[.int .i64 n, .int .i64 m] w fun e w' => e = .returned (.bool (numR n m)) ∧ w = w' := by
  by_cases a : 0 ≤ n
  · by_cases b : n ≤ m
    · rw [numR_yes ⟨a, b⟩]
      go_enter Try.func35, Try.ntmps35
      go_wp2
      go_ret
      exact ⟨rfl, rfl⟩
    · rw [numR_no fun h => b h.2]
      go_enter Try.func35, Try.ntmps35
      go_wp2
      go_ret
      exact ⟨rfl, rfl⟩
  · rw [numR_no fun h => a h.1]
    go_enter Try.func35, Try.ntmps35
    go_wp2
    go_ret
    exact ⟨rfl, rfl⟩
theorem two_new (w : World) (x y : Array Value) (T U : TypeId) : Below w.heap.size w ((w.alloc (.cells x T)).alloc (.cells y U)) ∧ ((w.alloc (.cells x T)).alloc (.cells y U)).heap[w.heap.size + 1]? = some (.cells y U (0, 0)) ∧ ((w.alloc (.cells x T)).alloc (.cells y U)).heap[w.heap.size]? = some (.cells x T (0, 0)) := by
  refine ⟨Me.below_alloc (Me.below_alloc (Below.refl _ _)), ?_, ?_⟩
  · have := heap_alloc_new (w.alloc (.cells x T)) (.cells y U)
    rwa [World.size_alloc] at this
  · exact (Below.heap_alloc _ _ _ (by simp)).trans (heap_alloc_new w _)
section
variable (me qh qb qg : Int) (w : World)
set_option maxRecDepth 100000 in
set_option maxHeartbeats 8000000 in
theorem RNew_no (h : ¬ NewOk me qh qb qg) : Calls Try.prog 21 #[.int .i64 me, .agg #[.int .i64 qh, .int .i64 qb, .int .i64 qg]] w fun e w' => e = .returned (.tuple #[.agg rs0, .int .i64 1]) ∧ Hid (Below w.heap.size w w') := by
  have HN := Lib.hid (fun n m W => number_any n m W)
  obtain ⟨hB, hD, _⟩ := two_new w #[.int .i64 qh, .int .i64 qb, .int .i64 qg] rs0 23 36
  unfold rs0 at hB hD ⊢
  have HB := Lib.hid hB
  have HD := Lib.hid hD
  have hc : numR me 63 = false ∨ (numR me 63 = true ∧ (numR qh 256 = false ∨ (numR qh 256 = true ∧ (numR qb 1048576 = false ∨ (numR qb 1048576 = true ∧ numR qg 256 = false))))) := by
    by_cases a : 0 ≤ me ∧ me ≤ 63
    · refine .inr ⟨numR_yes a, ?_⟩
      by_cases b : 0 ≤ qh ∧ qh ≤ 256
      · refine .inr ⟨numR_yes b, ?_⟩
        by_cases c : 0 ≤ qb ∧ qb ≤ 1048576
        · exact .inr ⟨numR_yes c, numR_no fun d => h ⟨a.1, by omega, b.1, b.2, c.1, c.2, d.1, d.2⟩⟩
        · exact .inl (numR_no c)
      · exact .inl (numR_no b)
    · exact .inl (numR_no a)
  clear h hB hD
  rcases hc with h | ⟨h1, h | ⟨h2, h | ⟨h3, h⟩⟩⟩
  all_goals
    go_enter Try.func21, Try.ntmps21
    go_wp2_with (first
      | (go_at_call 35; refine (HN.out _ _ _).mono ?_; rintro e w2 ⟨rfl, rfl⟩)
      | (refine wpList_store_row rfl 36 (.tmp 4) (.tmp 27) rfl (w.heap.size + 1) #[.int .i64 0, .int .i64 0, .int .i64 0, .int .i64 0, .int .i64 0, .slice none 0 0, .slice none 0 0, .int .i64 0, .slice none 0 0] rfl rfl 36 _ HD.out (by kernel_rfl) rfl (by kernel_rfl) ?_))
    exact Sb.ret_box2 (g := w.heap.size + 1) rfl (by rfl) (setRow_heap _ _ _ _ _ _ HD.out) rfl Try.underlying36 (by kernel_rfl) rfl ⟨rfl, Sb.below_setRow _ HB.out (by omega)⟩
theorem rs_one (a b c d e r : Int) (A B C : Option Addr) (n1 n2 n3 c1 c2 c3 : Nat) : (#[.int .i64 a, .int .i64 b, .int .i64 c, .int .i64 d, .int .i64 e, .slice A n1 c1, .slice B n2 c2, .int .i64 r, .slice C n3 c3] : Array Value).all (·.oneCell') = true := by simp [Value.oneCell']
set_option maxRecDepth 100000 in
set_option maxHeartbeats 8000000 in
theorem RNew_ok (h : NewOk me qh qb qg) : Calls Try.prog 21 #[.int .i64 me, .agg #[.int .i64 qh, .int .i64 qb, .int .i64 qg]] w fun e w' => e = .returned (.tuple #[.agg (rsc me qh qb qg 0 (.slice none 0 0) (.slice none 0 0) qg (.slice none 0 0)), .int .i64 0]) ∧ Hid (Below w.heap.size w w') := by
  have HN := Lib.hid (fun n m W => number_any n m W)
  obtain ⟨hB, hD, _⟩ := two_new w #[.int .i64 qh, .int .i64 qb, .int .i64 qg] rs0 23 36
  unfold rs0 at hB hD
  unfold rsc
  have HB := Lib.hid hB
  have HD := Lib.hid hD
  have h1 : numR me 63 = true := numR_yes ⟨h.s0, by have := h.s1; omega⟩
  have h2 : numR qh 256 = true := numR_yes ⟨h.h0, h.h1⟩
  have h3 : numR qb 1048576 = true := numR_yes ⟨h.b0, h.b1⟩
  have h4 : numR qg 256 = true := numR_yes ⟨h.g0, h.g1⟩
  clear h hB hD
  go_enter Try.func21, Try.ntmps21
  go_wp2_with (first
    | (go_at_call 35; refine (HN.out _ _ _).mono ?_; rintro e w2 ⟨rfl, rfl⟩)
    | (refine wpList_store_row rfl 36 (.tmp 4) (.tmp 33) rfl (w.heap.size + 1) #[.int .i64 me, .int .i64 qh, .int .i64 qb, .int .i64 qg, .int .i64 0, .slice none 0 0, .slice none 0 0, .int .i64 qg, .slice none 0 0] rfl rfl 36 _ HD.out (by kernel_rfl) rfl (rs_one _ _ _ _ _ _ _ _ _ _ _ _ _ _ _) ?_))
  exact Sb.ret_box2 (g := w.heap.size + 1) rfl (by rfl) (setRow_heap _ _ _ _ _ _ HD.out) rfl Try.underlying36 (by kernel_rfl) rfl ⟨rfl, Sb.below_setRow _ HB.out (by omega)⟩
end
end Go.Proofs.Ytpofdimagfldnaa.So
