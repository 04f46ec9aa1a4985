/- An id is taken out of a list: slices.IndexFunc, slices.DeleteFunc with release's closure. -/
import Derived.Test.YtpofdimagfldnaaSoSt
import Derived.Lib.SliceRun
namespace Go.Proofs.Ytpofdimagfldnaa.So
open Go.RowKit
open Go.Proofs.Ytpofdimagfldnaa.Me Go.Proofs.Ytpofdimagfldnaa.Sb
set_option linter.unusedVariables false
set_option linter.unusedSimpArgs false

/-! ### Pure -/
/-- The list when k of those behind i were moved up by one. -/
def mv (a : List Mg.Id4) (i : Mg.Id4) (b : List Mg.Id4) (k : Nat) : List Mg.Id4 := a ++ (b.take k ++ (i :: b).drop k)
theorem mv_zero (a : List Mg.Id4) (i : Mg.Id4) (b : List Mg.Id4) : mv a i b 0 = a ++ i :: b := by simp [mv]
theorem mv_len (a : List Mg.Id4) (i : Mg.Id4) (b : List Mg.Id4) {k : Nat} (h : k ≤ b.length) : (mv a i b k).length = a.length + b.length + 1 := by
  unfold mv
  simp
  omega
theorem mv_get (a : List Mg.Id4) (i : Mg.Id4) (b : List Mg.Id4) {k : Nat} (h : k < b.length) : idAt (mv a i b k) (a.length + 1 + k) = idAt b k := by
  unfold idAt mv
  rw [List.getD_eq_getElem?_getD, List.getD_eq_getElem?_getD, List.getElem?_append_right (by omega), List.getElem?_append_right (by simp; omega), List.getElem?_drop]
  simp only [List.length_take]
  rw [show k + (a.length + 1 + k - a.length - min k b.length) = k + 1 by omega, List.getElem?_cons_succ]
theorem mv_set (a : List Mg.Id4) (i : Mg.Id4) (b : List Mg.Id4) {k : Nat} (h : k < b.length) : (mv a i b k).set (a.length + k) (idAt b k) = mv a i b (k + 1) := by
  unfold mv
  rw [List.set_append_right _ _ (by omega), List.set_append_right _ _ (by simp; omega)]
  congr 1
  rw [show a.length + k - a.length - (b.take k).length = 0 by simp; omega]
  have e1 : (i :: b).drop k = (i :: b)[k]'(by simp; omega) :: b.drop k := by
    rw [List.drop_eq_getElem_cons (by simp; omega)]
    rfl
  rw [e1, List.set_cons_zero, List.drop_succ_cons]
  have e2 : b.take (k + 1) = b.take k ++ [idAt b k] := by
    rw [List.take_add_one, List.getElem?_eq_getElem h]
    simp [idAt, h]
  rw [e2, List.append_assoc]
  rfl
theorem mv_end (a : List Mg.Id4) (i : Mg.Id4) (b : List Mg.Id4) : (mv a i b b.length).take (a.length + b.length) = a ++ b := by
  unfold mv
  rw [List.take_length, ← List.append_assoc]
  rw [List.take_append_of_le_length (by simp)]
  rw [List.take_of_length_le (by simp)]
/-! ### In memory -/
theorem heap_setCells (g : Nat) (T : TypeId) : ∀ (vs : List Value) (o : Nat) (w : World) (cur : Array Value), w.heap[g]? = some (.cells cur T (0, 0)) →
    ∃ cur', (w.setCells g o vs).heap[g]? = some (.cells cur' T (0, 0)) ∧ cur'.size = cur.size ∧ (∀ i, i < o ∨ o + vs.length ≤ i → cur'[i]? = cur[i]?) ∧ (∀ j, j < vs.length → o + j < cur.size → cur'[o + j]? = vs[j]?)
  | [], o, w, cur, h => ⟨cur, h, rfl, fun _ _ => rfl, fun j hj => absurd hj (by simp)⟩
  | v :: r, o, w, cur, h => by
    obtain ⟨cur', h1, h2, h3, h4⟩ := heap_setCells g T r (o + 1) (w.setCell ⟨g, o, none⟩ v) _ (heap_setCell_same w g o cur T v h)
    refine ⟨cur', h1, by rw [h2]; simp, fun i hi => ?_, fun j hj hs => ?_⟩
    · rw [h3 i (by simp only [List.length_cons] at hi; omega), Array.getElem?_setIfInBounds_ne (by simp only [List.length_cons] at hi; omega)]
    · cases j with
      | zero =>
        rw [h3 (o + 0) (by omega)]
        simp at hs ⊢
        simp [hs]
      | succ j =>
        have := h4 j (by simpa using hj) (by simp; omega)
        rw [show o + (j + 1) = o + 1 + j by omega, this]
        simp
theorem but_setCells (w : World) (g o : Nat) (vs : List Value) : But (fun k => k = g) w (w.setCells g o vs) ∧ (w.setCells g o vs).heap.size = w.heap.size := by
  have hs : ∀ (vs : List Value) (o : Nat) (w : World), (w.setCells g o vs).heap.size = w.heap.size ∧ (w.setCells g o vs).os = w.os ∧ (w.setCells g o vs).tape = w.tape ∧ (w.setCells g o vs).output = w.output ∧ ∀ k, k ≠ g → (w.setCells g o vs).heap[k]? = w.heap[k]? := by
    intro vs
    induction vs with
    | nil => intro o w; exact ⟨rfl, rfl, rfl, rfl, fun _ _ => rfl⟩
    | cons v r ih =>
      intro o w
      obtain ⟨a1, a2, a3, a4, a5⟩ := ih (o + 1) (w.setCell ⟨g, o, none⟩ v)
      exact ⟨by rw [World.setCells, a1]; simp, a2, a3, a4, fun k hk => (a5 k hk).trans (Below.heap_setCell w ⟨g, o, none⟩ v k hk)⟩
  obtain ⟨a1, a2, a3, a4, a5⟩ := hs vs o w
  exact ⟨⟨a2, a3, a4, by omega, fun k _ hk => a5 k hk⟩, a1⟩
theorem idc_at (i : Mg.Id4) {j : Nat} (h : j < 4) : (idc i)[j]? = some ((idc i)[j]'h) := List.getElem?_eq_getElem h
/-- The cells of a list with one id changed. -/
theorem idsV_set {l : List Mg.Id4} {k : Nat} (hk : k < l.length) (x : Mg.Id4) (p : Nat) (hp : p < l.length * 4) : (idsV (l.set k x))[p]? = if p / 4 = k then (idc x)[p % 4]? else (idsV l)[p]? := by
  have e : p = p / 4 * 4 + p % 4 := by omega
  have h1 : p / 4 < l.length := by omega
  rw [e, idsV_get (by rw [List.length_set]; exact h1) (by omega)]
  rw [show (p / 4 * 4 + p % 4) / 4 = p / 4 by omega, show (p / 4 * 4 + p % 4) % 4 = p % 4 by omega]
  by_cases hq : p / 4 = k
  · rw [if_pos hq]
    congr 2
    unfold idAt
    rw [hq, List.getD_eq_getElem?_getD, List.getElem?_set_self hk]
    rfl
  · rw [if_neg hq, idsV_get h1 (by omega)]
    congr 2
    unfold idAt
    rw [List.getD_eq_getElem?_getD, List.getD_eq_getElem?_getD, List.getElem?_set_ne (fun h => hq h.symm)]
/-- An id is written into a list of one's own. -/
theorem Ki.set {w : World} {g n c : Nat} {l : List Mg.Id4} (h : Ki w 0 (.slice (some ⟨g, 0, none⟩) n c) l) {k : Nat} (hk : k < l.length) (x : Mg.Id4) : Ki (w.setCells g (k * 4) (idc x)) 0 (.slice (some ⟨g, 0, none⟩) n c) (l.set k x) := by
  unfold Ki at h ⊢
  rcases h.2 with ⟨h1, _⟩ | ⟨g', cap, cur, h1, h2, h3, h4, h5, h6, h7⟩
  · cases h1
  · injection h1 with e1 e2 e3
    injection e1 with e1
    injection e1 with e1 _ _
    subst e1 e2 e3
    obtain ⟨cur', q1, q2, q3, q4⟩ := heap_setCells g 28 (idc x) (k * 4) w cur h3
    have hcl : l.length * 4 ≤ cur.size := by
      have := congrArg List.length h7
      rw [idsV_len] at this
      simp at this
      omega
    refine ⟨by rw [List.length_set, idsV_len, List.length_set], .inr ⟨g, c, cur', by rw [List.length_set], h2, q1, by rw [List.length_set]; exact h4, h5, by rw [q2]; exact h6, ?_⟩⟩
    rw [List.length_set]
    apply List.ext_getElem?
    intro p
    rw [List.getElem?_take]
    by_cases hp : p < l.length * 4
    · rw [if_pos hp, idsV_set hk x p hp, Array.getElem?_toList]
      by_cases hq : p / 4 = k
      · rw [if_pos hq]
        have := q4 (p % 4) (by show p % 4 < 4; omega) (by omega)
        rw [show k * 4 + p % 4 = p by omega] at this
        exact this
      · rw [if_neg hq, q3 p (by show p < k * 4 ∨ k * 4 + 4 ≤ p; omega), ← h7, List.getElem?_take, if_pos hp, Array.getElem?_toList]
    · rw [if_neg hp, List.getElem?_eq_none (by rw [idsV_len, List.length_set]; omega)]
/-- Its first n. -/
theorem Ki.first {w : World} {A : Option Addr} {n c : Nat} {l : List Mg.Id4} (h : Ki w 0 (.slice A n c) l) {k : Nat} (hk : k ≤ l.length) : Ki w 0 (.slice A k c) (l.take k) := by
  unfold Ki at h ⊢
  have hl : (l.take k).length = k := by simp; omega
  have ht : idsV (l.take k) = (idsV l).take (k * 4) := by
    apply List.ext_getElem?
    intro p
    rw [List.getElem?_take]
    by_cases hp : p < k * 4
    · rw [if_pos hp, show p = p / 4 * 4 + p % 4 by omega, idsV_get (by rw [hl]; omega) (by omega), idsV_get (by omega) (by omega)]
      congr 2
      unfold idAt
      rw [List.getD_eq_getElem?_getD, List.getD_eq_getElem?_getD, List.getElem?_take, if_pos (by omega)]
    · rw [if_neg hp, List.getElem?_eq_none (by rw [idsV_len, hl]; omega)]
  rw [hl, ht]
  refine ⟨by rw [List.length_take, idsV_len]; omega, ?_⟩
  rcases h.2 with ⟨h1, h2⟩ | ⟨g', cap, cur, h1, h2, h3, h4, h5, h6, h7⟩
  · injection h1 with e1 e2 e3
    subst e1 e3
    obtain rfl : k = 0 := by omega
    exact .inl ⟨rfl, rfl⟩
  · injection h1 with e1 e2 e3
    subst e1 e3
    refine .inr ⟨g', c, cur, rfl, h2, h3, by omega, h5, h6, ?_⟩
    rw [← h7, List.take_take]
    congr 1
    omega
/-- A cell behind its end may be written. -/
theorem Ki.behind {w : World} {g c k o : Nat} {l : List Mg.Id4} {vs : List Value} (h : Ki w 0 (.slice (some ⟨g, 0, none⟩) k c) l) (ho : l.length * 4 ≤ o) : Ki (w.setCells g o vs) 0 (.slice (some ⟨g, 0, none⟩) k c) l := by
  unfold Ki at h ⊢
  rcases h.2 with ⟨h1, _⟩ | ⟨g', cap, cur, h1, h2, h3, h4, h5, h6, h7⟩
  · cases h1
  · injection h1 with e1 e2 e3
    injection e1 with e1
    injection e1 with e1 _ _
    subst e1 e2 e3
    obtain ⟨cur', q1, q2, q3, q4⟩ := heap_setCells g 28 vs o w cur h3
    refine ⟨h.1, .inr ⟨g, c, cur', rfl, h2, q1, h4, h5, by rw [q2]; exact h6, ?_⟩⟩
    rw [← h7]
    apply List.ext_getElem?
    intro p
    rw [List.getElem?_take, List.getElem?_take]
    by_cases hp : p < l.length * 4
    · rw [if_pos hp, if_pos hp, Array.getElem?_toList, Array.getElem?_toList, q3 p (by omega)]
    · rw [if_neg hp, if_neg hp]
theorem Ki.there {w : World} {g n c k : Nat} {l : List Mg.Id4} (h : Ki w 0 (.slice (some ⟨g, 0, none⟩) n c) l) (hk : k < l.length) : w.there g (k * 4) 4 := by
  unfold Ki at h
  rcases h.2 with ⟨h1, _⟩ | ⟨g', cap, cur, h1, h2, h3, h4, h5, h6, h7⟩
  · cases h1
  · injection h1 with e1 e2 e3
    injection e1 with e1
    injection e1 with e1 _ _
    subst e1 e2 e3
    have hcl : l.length * 4 ≤ cur.size := by
      have := congrArg List.length h7
      rw [idsV_len] at this
      simp at this
      omega
    intro j hj
    refine ⟨?_, frozen_of_row w g _ _ _ h3⟩
    rw [cell_of_row w g _ _ _ (0, 0) h3, Array.getElem?_eq_getElem (by omega)]
    rfl
/-- 'clear' of one id. -/
theorem run_clear_one (w : World) (ty : TypeId) (b o c : Nat) (h : w.there b o 4) :
    (Builtin.clear_ #[56] ty #[.slice (some ⟨b, o, none⟩) 1 c]).run Try.prog w = .ok (.tuple #[]) (w.setCells b o (idc zeroI)) := by
  have hv : ∀ w, (zeroValue 28).run Try.prog w = .ok (.agg #[.int .i64 0, .int .i64 0, .int .i64 0, .int .i64 0]) w := fun w => by kernel_rfl
  have hzc : (Builtin.zeroCells (Value.agg #[.int .i64 0, .int .i64 0, .int .i64 0, .int .i64 0]).cells 1).toList = idc zeroI := by kernel_rfl
  have hst := run_storeCells_cells (P := Try.prog) b o (idc zeroI) 0 w (fun j hj => by simpa using (h j hj).1) (fun j hj => by simpa using (h j hj).2) (by
    intro v hv'
    simp only [idc, zeroI, List.mem_cons, List.not_mem_nil, or_false] at hv'
    rcases hv' with rfl | rfl | rfl | rfl <;> rfl)
  simp only [Nat.add_zero] at hst
  have e : (Builtin.zeroCells (Value.agg #[.int .i64 0, .int .i64 0, .int .i64 0, .int .i64 0]).cells 1) = (idc zeroI).toArray := by rw [← hzc]
  simp [Builtin.clear_, run_underlying Try.underlying56, hv, e, hst, Result.andThen]
end Go.Proofs.Ytpofdimagfldnaa.So
