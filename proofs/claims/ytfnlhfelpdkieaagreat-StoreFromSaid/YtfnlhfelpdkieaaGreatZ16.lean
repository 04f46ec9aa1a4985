/- An id is taken out of a list: slices.IndexFunc, slices.DeleteFunc with release's closure. -/
import Derived.Test.YtfnlhfelpdkieaaGreatZ14
import Derived.Test.YtfnlhfelpdkieaaGreatZ17
import Derived.Lib.SliceRun
import Derived.Shelf.Abstract
namespace Go.Proofs.YtfnlhfelpdkieaaGreat.So
open Go.RowKit
open Go.Proofs.YtfnlhfelpdkieaaGreat.Me Go.Proofs.YtfnlhfelpdkieaaGreat.Sb
set_option linter.unusedVariables false
set_option linter.unusedSimpArgs false

/-! ### Pure -/
/-- The list when k of those behind i were moved up by one. -/
def mv (a : List Mg.Id4) (i : Mg.Id4) (b : List Mg.Id4) (k : Nat) : List Mg.Id4 := a ++ (b.take k ++ (i :: b).drop k)
theorem mv_zero (a : List Mg.Id4) (i : Mg.Id4) (b : List Mg.Id4) : mv a i b 0 = a ++ i :: b := by simp [mv]
theorem mv_len (a : List Mg.Id4) (i : Mg.Id4) (b : List Mg.Id4) {k : Nat} (h : k ≤ b.length) : (mv a i b k).length = a.length + b.length + 1 := by
  unfold mv
  simp
  omega
theorem mv_get (a : List Mg.Id4) (i : Mg.Id4) (b : List Mg.Id4) {k : Nat} (h : k < b.length) : idAt (mv a i b k) (a.length + 1 + k) = idAt b k := by
  unfold idAt mv
  rw [List.getD_eq_getElem?_getD, List.getD_eq_getElem?_getD, List.getElem?_append_right (by omega), List.getElem?_append_right (by simp; omega), List.getElem?_drop]
  simp only [List.length_take]
  rw [show k + (a.length + 1 + k - a.length - min k b.length) = k + 1 by omega, List.getElem?_cons_succ]
theorem mv_set (a : List Mg.Id4) (i : Mg.Id4) (b : List Mg.Id4) {k : Nat} (h : k < b.length) : (mv a i b k).set (a.length + k) (idAt b k) = mv a i b (k + 1) := by
  unfold mv
  rw [List.set_append_right _ _ (by omega), List.set_append_right _ _ (by simp; omega)]
  congr 1
  rw [show a.length + k - a.length - (b.take k).length = 0 by simp; omega]
  have e1 : (i :: b).drop k = (i :: b)[k]'(by simp; omega) :: b.drop k := by
    rw [List.drop_eq_getElem_cons (by simp; omega)]
    rfl
  rw [e1, List.set_cons_zero, List.drop_succ_cons]
  have e2 : b.take (k + 1) = b.take k ++ [idAt b k] := by
    rw [List.take_add_one, List.getElem?_eq_getElem h]
    simp [idAt, h]
  rw [e2, List.append_assoc]
  rfl
theorem mv_end (a : List Mg.Id4) (i : Mg.Id4) (b : List Mg.Id4) : (mv a i b b.length).take (a.length + b.length) = a ++ b := by
  unfold mv
  rw [List.take_length, ← List.append_assoc]
  rw [List.take_append_of_le_length (by simp)]
  rw [List.take_of_length_le (by simp)]
/-! ### In memory -/
theorem heap_setCells (g : Nat) (T : TypeId) : ∀ (vs : List Value) (o : Nat) (w : World) (cur : Array Value), w.heap[g]? = some (.cells cur T (0, 0)) →
    ∃ cur', (w.setCells g o vs).heap[g]? = some (.cells cur' T (0, 0)) ∧ cur'.size = cur.size ∧ (∀ i, i < o ∨ o + vs.length ≤ i → cur'[i]? = cur[i]?) ∧ (∀ j, j < vs.length → o + j < cur.size → cur'[o + j]? = vs[j]?)
  | [], o, w, cur, h => ⟨cur, h, rfl, fun _ _ => rfl, fun j hj => absurd hj (by simp)⟩
  | v :: r, o, w, cur, h => by
    obtain ⟨cur', h1, h2, h3, h4⟩ := heap_setCells g T r (o + 1) (w.setCell ⟨g, o, none⟩ v) _ (heap_setCell_same w g o cur T v h)
    refine ⟨cur', h1, by rw [h2]; simp, fun i hi => ?_, fun j hj hs => ?_⟩
    · rw [h3 i (by simp only [List.length_cons] at hi; omega), Array.getElem?_setIfInBounds_ne (by simp only [List.length_cons] at hi; omega)]
    · cases j with
      | zero =>
        rw [h3 (o + 0) (by omega)]
        simp at hs ⊢
        simp [hs]
      | succ j =>
        have := h4 j (by simpa using hj) (by simp; omega)
        rw [show o + (j + 1) = o + 1 + j by omega, this]
        simp
theorem but_setCells (w : World) (g o : Nat) (vs : List Value) : But (fun k => k = g) w (w.setCells g o vs) ∧ (w.setCells g o vs).heap.size = w.heap.size := by
  have hs : ∀ (vs : List Value) (o : Nat) (w : World), (w.setCells g o vs).heap.size = w.heap.size ∧ (w.setCells g o vs).os = w.os ∧ (w.setCells g o vs).tape = w.tape ∧ (w.setCells g o vs).output = w.output ∧ ∀ k, k ≠ g → (w.setCells g o vs).heap[k]? = w.heap[k]? := by
    intro vs
    induction vs with
    | nil => intro o w; exact ⟨rfl, rfl, rfl, rfl, fun _ _ => rfl⟩
    | cons v r ih =>
      intro o w
      obtain ⟨a1, a2, a3, a4, a5⟩ := ih (o + 1) (w.setCell ⟨g, o, none⟩ v)
      exact ⟨by rw [World.setCells, a1]; simp, a2, a3, a4, fun k hk => (a5 k hk).trans (Below.heap_setCell w ⟨g, o, none⟩ v k hk)⟩
  obtain ⟨a1, a2, a3, a4, a5⟩ := hs vs o w
  exact ⟨⟨a2, a3, a4, by omega, fun k _ hk => a5 k hk⟩, a1⟩
theorem idc_at (i : Mg.Id4) {j : Nat} (h : j < 4) : (idc i)[j]? = some ((idc i)[j]'h) := List.getElem?_eq_getElem h
/-- The cells of a list with one id changed. -/
theorem idsV_set {l : List Mg.Id4} {k : Nat} (hk : k < l.length) (x : Mg.Id4) (p : Nat) (hp : p < l.length * 4) : (idsV (l.set k x))[p]? = if p / 4 = k then (idc x)[p % 4]? else (idsV l)[p]? := by
  have e : p = p / 4 * 4 + p % 4 := by omega
  have h1 : p / 4 < l.length := by omega
  rw [e, idsV_get (by rw [List.length_set]; exact h1) (by omega)]
  rw [show (p / 4 * 4 + p % 4) / 4 = p / 4 by omega, show (p / 4 * 4 + p % 4) % 4 = p % 4 by omega]
  by_cases hq : p / 4 = k
  · rw [if_pos hq]
    congr 2
    unfold idAt
    rw [hq, List.getD_eq_getElem?_getD, List.getElem?_set_self hk]
    rfl
  · rw [if_neg hq, idsV_get h1 (by omega)]
    congr 2
    unfold idAt
    rw [List.getD_eq_getElem?_getD, List.getD_eq_getElem?_getD, List.getElem?_set_ne (fun h => hq h.symm)]
/-- An id is written into a list of one's own. -/
theorem Ki.set {w : World} {g n c : Nat} {l : List Mg.Id4} (h : Ki w 0 (.slice (some ⟨g, 0, none⟩) n c) l) {k : Nat} (hk : k < l.length) (x : Mg.Id4) : Ki (w.setCells g (k * 4) (idc x)) 0 (.slice (some ⟨g, 0, none⟩) n c) (l.set k x) := by
  unfold Ki at h ⊢
  rcases h.2 with ⟨h1, _⟩ | ⟨g', cap, cur, h1, h2, h3, h4, h5, h6, h7⟩
  · cases h1
  · injection h1 with e1 e2 e3
    injection e1 with e1
    injection e1 with e1 _ _
    subst e1 e2 e3
    obtain ⟨cur', q1, q2, q3, q4⟩ := heap_setCells g 43 (idc x) (k * 4) w cur h3
    have hcl : l.length * 4 ≤ cur.size := by
      have := congrArg List.length h7
      rw [idsV_len] at this
      simp at this
      omega
    refine ⟨by rw [List.length_set, idsV_len, List.length_set], .inr ⟨g, c, cur', by rw [List.length_set], h2, q1, by rw [List.length_set]; exact h4, h5, by rw [q2]; exact h6, ?_⟩⟩
    rw [List.length_set]
    apply List.ext_getElem?
    intro p
    rw [List.getElem?_take]
    by_cases hp : p < l.length * 4
    · rw [if_pos hp, idsV_set hk x p hp, Array.getElem?_toList]
      by_cases hq : p / 4 = k
      · rw [if_pos hq]
        have := q4 (p % 4) (by show p % 4 < 4; omega) (by omega)
        rw [show k * 4 + p % 4 = p by omega] at this
        exact this
      · rw [if_neg hq, q3 p (by show p < k * 4 ∨ k * 4 + 4 ≤ p; omega), ← h7, List.getElem?_take, if_pos hp, Array.getElem?_toList]
    · rw [if_neg hp, List.getElem?_eq_none (by rw [idsV_len, List.length_set]; omega)]
/-- Its first n. -/
theorem Ki.first {w : World} {A : Option Addr} {n c : Nat} {l : List Mg.Id4} (h : Ki w 0 (.slice A n c) l) {k : Nat} (hk : k ≤ l.length) : Ki w 0 (.slice A k c) (l.take k) := by
  unfold Ki at h ⊢
  have hl : (l.take k).length = k := by simp; omega
  have ht : idsV (l.take k) = (idsV l).take (k * 4) := by
    apply List.ext_getElem?
    intro p
    rw [List.getElem?_take]
    by_cases hp : p < k * 4
    · rw [if_pos hp, show p = p / 4 * 4 + p % 4 by omega, idsV_get (by rw [hl]; omega) (by omega), idsV_get (by omega) (by omega)]
      congr 2
      unfold idAt
      rw [List.getD_eq_getElem?_getD, List.getD_eq_getElem?_getD, List.getElem?_take, if_pos (by omega)]
    · rw [if_neg hp, List.getElem?_eq_none (by rw [idsV_len, hl]; omega)]
  rw [hl, ht]
  refine ⟨by rw [List.length_take, idsV_len]; omega, ?_⟩
  rcases h.2 with ⟨h1, h2⟩ | ⟨g', cap, cur, h1, h2, h3, h4, h5, h6, h7⟩
  · injection h1 with e1 e2 e3
    subst e1 e3
    obtain rfl : k = 0 := by omega
    exact .inl ⟨rfl, rfl⟩
  · injection h1 with e1 e2 e3
    subst e1 e3
    refine .inr ⟨g', c, cur, rfl, h2, h3, by omega, h5, h6, ?_⟩
    rw [← h7, List.take_take]
    congr 1
    omega
/-- A cell behind its end may be written. -/
theorem Ki.behind {w : World} {g c k o : Nat} {l : List Mg.Id4} {vs : List Value} (h : Ki w 0 (.slice (some ⟨g, 0, none⟩) k c) l) (ho : l.length * 4 ≤ o) : Ki (w.setCells g o vs) 0 (.slice (some ⟨g, 0, none⟩) k c) l := by
  unfold Ki at h ⊢
  rcases h.2 with ⟨h1, _⟩ | ⟨g', cap, cur, h1, h2, h3, h4, h5, h6, h7⟩
  · cases h1
  · injection h1 with e1 e2 e3
    injection e1 with e1
    injection e1 with e1 _ _
    subst e1 e2 e3
    obtain ⟨cur', q1, q2, q3, q4⟩ := heap_setCells g 43 vs o w cur h3
    refine ⟨h.1, .inr ⟨g, c, cur', rfl, h2, q1, h4, h5, by rw [q2]; exact h6, ?_⟩⟩
    rw [← h7]
    apply List.ext_getElem?
    intro p
    rw [List.getElem?_take, List.getElem?_take]
    by_cases hp : p < l.length * 4
    · rw [if_pos hp, if_pos hp, Array.getElem?_toList, Array.getElem?_toList, q3 p (by omega)]
    · rw [if_neg hp, if_neg hp]
theorem Ki.there {w : World} {g n c k : Nat} {l : List Mg.Id4} (h : Ki w 0 (.slice (some ⟨g, 0, none⟩) n c) l) (hk : k < l.length) : w.there g (k * 4) 4 := by
  unfold Ki at h
  rcases h.2 with ⟨h1, _⟩ | ⟨g', cap, cur, h1, h2, h3, h4, h5, h6, h7⟩
  · cases h1
  · injection h1 with e1 e2 e3
    injection e1 with e1
    injection e1 with e1 _ _
    subst e1 e2 e3
    have hcl : l.length * 4 ≤ cur.size := by
      have := congrArg List.length h7
      rw [idsV_len] at this
      simp at this
      omega
    intro j hj
    refine ⟨?_, frozen_of_row w g _ _ _ h3⟩
    rw [cell_of_row w g _ _ _ (0, 0) h3, Array.getElem?_eq_getElem (by omega)]
    rfl
/-- 'clear' of one id. -/
theorem run_clear_one (w : World) (ty : TypeId) (b o c : Nat) (h : w.there b o 4) :
    (Builtin.clear_ #[77] ty #[.slice (some ⟨b, o, none⟩) 1 c]).run Tryz.prog w = .ok (.tuple #[]) (w.setCells b o (idc zeroI)) := by
  have hv : ∀ w, (zeroValue 43).run Tryz.prog w = .ok (.agg #[.int .i64 0, .int .i64 0, .int .i64 0, .int .i64 0]) w := fun w => by kernel_rfl
  have hzc : (Builtin.zeroCells (Value.agg #[.int .i64 0, .int .i64 0, .int .i64 0, .int .i64 0]).cells 1).toList = idc zeroI := by kernel_rfl
  have hst := run_storeCells_cells (P := Tryz.prog) b o (idc zeroI) 0 w (fun j hj => by simpa using (h j hj).1) (fun j hj => by simpa using (h j hj).2) (by
    intro v hv'
    simp only [idc, zeroI, List.mem_cons, List.not_mem_nil, or_false] at hv'
    rcases hv' with rfl | rfl | rfl | rfl <;> rfl)
  simp only [Nat.add_zero] at hst
  have e : (Builtin.zeroCells (Value.agg #[.int .i64 0, .int .i64 0, .int .i64 0, .int .i64 0]).cells 1) = (idc zeroI).toArray := by rw [← hzc]
  simp [Builtin.clear_, run_underlying Tryz.underlying77, hv, e, hst, Result.andThen]
end Go.Proofs.YtfnlhfelpdkieaaGreat.So
/- slices.IndexFunc, slices.DeleteFunc with release's closure. -/
namespace Go.Proofs.YtfnlhfelpdkieaaGreat.So
open Go.RowKit
open Go.Proofs.YtfnlhfelpdkieaaGreat.Me Go.Proofs.YtfnlhfelpdkieaaGreat.Sb
set_option linter.unusedVariables false
set_option linter.unusedSimpArgs false

set_option maxHeartbeats 4000000 in
theorem same_yes (X : Nat) (i : Mg.Id4) (w : World) (hX : Hid (w.heap[X]? = some (.cells (Mg.idC i) 43 (0, 0)))) : Calls Tryz.prog 67 #[.agg (Mg.idC i), .pointer (some ⟨X, 0, none⟩)] w fun e w' => e = .returned (.bool true) ∧ Hid (Below w.heap.size w w') := by
  have HB : Hid (Below w.heap.size w (w.alloc (.cells (Mg.idC i) 43))) := Me.below_alloc (Below.refl _ _)
  have hx := (HB.out.block X (Array.getElem?_eq_some_iff.1 hX.out).1).trans hX.out
  obtain ⟨o, d, ee, c⟩ := i
  simp only [Mg.idC] at HB hx ⊢
  obtain ⟨x0, x1, x2, x3⟩ := id_cells hx
  clear hx hX
  go_enter Tryz.func67, Tryz.ntmps67
  go_wp2
  go_ret
  exact ⟨rfl, HB.out⟩
set_option maxHeartbeats 4000000 in
theorem same_no (X : Nat) (i x : Mg.Id4) (w : World) (hne : x ≠ i) (hX : Hid (w.heap[X]? = some (.cells (Mg.idC i) 43 (0, 0)))) : Calls Tryz.prog 67 #[.agg (Mg.idC x), .pointer (some ⟨X, 0, none⟩)] w fun e w' => e = .returned (.bool false) ∧ Hid (Below w.heap.size w w') := by
  have HB : Hid (Below w.heap.size w (w.alloc (.cells (Mg.idC x) 43))) := Me.below_alloc (Below.refl _ _)
  have hx := (HB.out.block X (Array.getElem?_eq_some_iff.1 hX.out).1).trans hX.out
  obtain ⟨o, d, ee, c⟩ := i
  obtain ⟨o', d', ee', c'⟩ := x
  have hc : ¬ o' = o ∨ (o' = o ∧ ¬ d' = d) ∨ (o' = o ∧ d' = d ∧ ¬ ee' = ee) ∨ (o' = o ∧ d' = d ∧ ee' = ee ∧ ¬ c' = c) := by
    by_cases a0 : o' = o
    · by_cases a1 : d' = d
      · by_cases a2 : ee' = ee
        · exact .inr (.inr (.inr ⟨a0, a1, a2, fun h => hne (by rw [a0, a1, a2, h])⟩))
        · exact .inr (.inr (.inl ⟨a0, a1, a2⟩))
      · exact .inr (.inl ⟨a0, a1⟩)
    · exact .inl a0
  clear hne
  simp only [Mg.idC] at HB hx ⊢
  obtain ⟨x0, x1, x2, x3⟩ := id_cells hx
  clear hx hX
  rcases hc with h | ⟨rfl, h⟩ | ⟨rfl, rfl, h⟩ | ⟨rfl, rfl, rfl, h⟩
  all_goals
    go_enter Tryz.func67, Tryz.ntmps67
    go_wp2
    go_ret
    exact ⟨rfl, HB.out⟩
theorem Ki.cells {w : World} {g n c : Nat} {l : List Mg.Id4} (h : Ki w 0 (.slice (some ⟨g, 0, none⟩) n c) l) {k : Nat} (hk : k < l.length) : w.cell? ⟨g, k * 4, none⟩ = some (.int .i64 (idAt l k).o) ∧ w.cell? ⟨g, k * 4 + 1, none⟩ = some (.int .i64 (idAt l k).d) ∧ w.cell? ⟨g, k * 4 + 2, none⟩ = some (.int .i64 (idAt l k).e) ∧ w.cell? ⟨g, k * 4 + 3, none⟩ = some (.int .i64 (idAt l k).c) := by
  obtain ⟨A, c', e, _, _, hi⟩ := h.form
  injection e with e1 _ _
  obtain ⟨b, off, e2, _, c0, c1, c2, c3⟩ := hi k hk
  rw [← e1] at e2
  injection e2 with e2
  injection e2 with e3 e4 _
  subst e3 e4
  simp only [Nat.zero_add] at c0 c1 c2 c3
  exact ⟨c0, c1, c2, c3⟩
set_option maxRecDepth 100000 in
set_option maxHeartbeats 8000000 in
theorem IndexFunc_any (g c X : Nat) (a : List Mg.Id4) (i : Mg.Id4) (b : List Mg.Id4) (w : World) (N M : Nat) (hN : (a ++ i :: b).length = N) (hM : a.length = M) (hNb : N ≤ 1000) (ha : i ∉ a) (hK : Hid (Ki w 0 (.slice (some ⟨g, 0, none⟩) N c) (a ++ i :: b))) (hX : Hid (w.heap[X]? = some (.cells (Mg.idC i) 43 (0, 0)))) :
    Calls Tryz.prog 93 #[.slice (some ⟨g, 0, none⟩) N c, .func (.func 67) #[] #[.pointer (some ⟨X, 0, none⟩)]] w fun e w' => e = .returned (.int .i64 (M : Int)) ∧ Hid (Below w.heap.size w w') := by
  have eg : ∀ args w, (callFunc 67 args).run Tryz.prog w = .ok (.enter 67 args) w := enters_of Tryz.func67 (by kernel_rfl) rfl
  have hMN : M < N := by rw [← hN, ← hM]; simp
  have HI : Hid (∀ W, Below w.heap.size w W → ∀ k, k < N → W.cell? ⟨g, k * 4, none⟩ = some (.int .i64 (idAt (a ++ i :: b) k).o) ∧ W.cell? ⟨g, k * 4 + 1, none⟩ = some (.int .i64 (idAt (a ++ i :: b) k).d) ∧ W.cell? ⟨g, k * 4 + 2, none⟩ = some (.int .i64 (idAt (a ++ i :: b) k).e) ∧ W.cell? ⟨g, k * 4 + 3, none⟩ = some (.int .i64 (idAt (a ++ i :: b) k).c)) := fun W hW k hk => (ki_at hK.out fun x e => hW.block x (Ki.lt hK.out e).2).cells (by omega)
  have HX : Hid (∀ W, Below w.heap.size w W → Hid (W.heap[X]? = some (.cells (Mg.idC i) 43 (0, 0)))) := fun W hW => (hW.block X (Array.getElem?_eq_some_iff.1 hX.out).1).trans hX.out
  have hat : idAt (a ++ i :: b) M = i := by unfold idAt; rw [List.getD_eq_getElem?_getD, List.getElem?_append_right (by omega)]; simp [hM]
  have hne : ∀ k, k < M → idAt (a ++ i :: b) k ≠ i := fun k hk e => ha (by
    unfold idAt at e
    rw [List.getD_eq_getElem?_getD, List.getElem?_append_left (by omega), List.getElem?_eq_getElem (by omega)] at e
    simp at e
    rw [← e]
    exact List.getElem_mem _)
  have HAt := Lib.hid hat
  have HNe := Lib.hid hne
  obtain ⟨l, hl⟩ : ∃ l, a ++ i :: b = l := ⟨_, rfl⟩
  rw [hl] at HI HAt HNe
  clear hat hne hl hN hM ha hK hX
  go_enter Tryz.func93, Tryz.ntmps93
  go_wp2
  go_loopw [8] (fun v8 wr => ∃ k : Nat, k ≤ M ∧ v8 = .int .i64 (k : Int) ∧ Hid (Below w.heap.size w wr)) (fun v8 _ => N - (intOf v8).toNat)
  case atStart => exact ⟨0, Nat.zero_le _, rfl, Below.refl _ _⟩
  case round =>
    obtain ⟨k, hk, rfl, HB⟩ := hrel
    obtain ⟨e0, e1, e2, e3⟩ := HI.out wr HB.out k (by omega)
    have g1 : (k : Int) < (N : Int) := by omega
    have g2 : ¬ (N : Int) ≤ (k : Int) := by omega
    by_cases hlt : k < M
    · have hn := HNe.out k hlt
      obtain ⟨x, hx⟩ : ∃ x, idAt l k = x := ⟨_, rfl⟩
      rw [hx] at e0 e1 e2 e3 hn
      have HF := Lib.hid (same_no X i x wr hn (HX.out wr HB.out))
      obtain ⟨o', d', ee', c'⟩ := x
      simp only [Mg.idC] at e0 e1 e2 e3 HF
      clear hx hn
      go_wp2_with (go_at_call 67; refine HF.out.mono ?_; rintro e w2 ⟨rfl, hb2⟩)
      go_roundw
      case rel => exact ⟨k + 1, by omega, by go_num, HB.out.trans (hb2.out.mono HB.out.size)⟩
      case measure => simp [intOf]; omega
    · obtain rfl : k = M := by omega
      have HF := Lib.hid (same_yes X i wr (HX.out wr HB.out))
      rw [HAt.out] at e0 e1 e2 e3
      obtain ⟨o', d', ee', c'⟩ := i
      simp only [Mg.idC] at e0 e1 e2 e3 HF
      go_wp2_with (go_at_call 67; refine HF.out.mono ?_; rintro e w2 ⟨rfl, hb2⟩)
      go_ret
      exact ⟨rfl, HB.out.trans (hb2.out.mono HB.out.size)⟩
end Go.Proofs.YtfnlhfelpdkieaaGreat.So
/- slices.DeleteFunc with release's closure. -/
namespace Go.Proofs.YtfnlhfelpdkieaaGreat.So
open Go.RowKit
open Go.Proofs.YtfnlhfelpdkieaaGreat.Me Go.Proofs.YtfnlhfelpdkieaaGreat.Sb
set_option linter.unusedVariables false
set_option linter.unusedSimpArgs false

theorem id_one (o d e c : Int) : (#[.int .i64 o, .int .i64 d, .int .i64 e, .int .i64 c] : Array Value).all (·.oneCell') = true := by simp [Value.oneCell']
set_option maxRecDepth 100000 in
set_option maxHeartbeats 16000000 in
theorem DeleteFunc_any (g c X : Nat) (a : List Mg.Id4) (i : Mg.Id4) (b : List Mg.Id4) (w : World) (N M NB : Nat) (hM : a.length = M) (hNB : b.length = NB) (hN : N = M + NB + 1) (hNb : N ≤ 1000) (ha : i ∉ a) (hb : i ∉ b) (hXg : X ≠ g) (hNc : N ≤ c) (hK : Hid (Ki w 0 (.slice (some ⟨g, 0, none⟩) N c) (a ++ i :: b))) (hX : Hid (w.heap[X]? = some (.cells (Mg.idC i) 43 (0, 0)))) :
    Calls Tryz.prog 66 #[.slice (some ⟨g, 0, none⟩) N c, .func (.func 67) #[] #[.pointer (some ⟨X, 0, none⟩)]] w fun e w' => e = .returned (.slice (some ⟨g, 0, none⟩) (M + NB) c) ∧ Hid (Ki w' 0 (.slice (some ⟨g, 0, none⟩) (M + NB) c) (a ++ b)) ∧ Hid (But (fun k => k = g) w w') := by
  have eg : ∀ args w, (callFunc 67 args).run Tryz.prog w = .ok (.enter 67 args) w := enters_of Tryz.func67 (by kernel_rfl) rfl
  have HIx := Lib.hid (IndexFunc_any g c X a i b w N M (by simp; omega) hM hNb ha hK hX)
  have HX : Hid (∀ W, But (fun k => k = g) w W → Hid (W.heap[X]? = some (.cells (Mg.idC i) 43 (0, 0)))) := fun W hW => hW.at_ hX.out hXg
  have HK0 : Hid (∀ W, Below w.heap.size w W → Ki W 0 (.slice (some ⟨g, 0, none⟩) N c) (mv a i b 0)) := fun W hW => by
    rw [mv_zero]
    exact ki_at hK.out fun x e => hW.block x (Ki.lt hK.out e).2
  have HLen : Hid (∀ k, k ≤ NB → (mv a i b k).length = N) := fun k hk => by rw [mv_len a i b (by omega)]; omega
  have HGet : Hid (∀ k, k < NB → idAt (mv a i b k) (M + 1 + k) = idAt b k) := fun k hk => by rw [← hM]; exact mv_get a i b (by omega)
  have HSet : Hid (∀ k, k < NB → (mv a i b k).set (M + k) (idAt b k) = mv a i b (k + 1)) := fun k hk => by rw [← hM]; exact mv_set a i b (by omega)
  have HEnd : Hid ((mv a i b NB).take (M + NB) = a ++ b) := by show _ = _; rw [← hM, ← hNB]; exact mv_end a i b
  have HNe : Hid (∀ k, k < NB → idAt b k ≠ i) := fun k hk e => hb (by
    unfold idAt at e
    rw [List.getD_eq_getElem?_getD, List.getElem?_eq_getElem (by omega)] at e
    simp at e
    rw [← e]
    exact List.getElem_mem _)
  have HN := Lib.hid hN
  have hMN : M < N := by omega
  have m1 : ¬ (M : Int) = -1 := by omega
  have m2 : ((M : Int) == -1) = false := by simp
  obtain ⟨L, hL⟩ : ∃ L, a ++ b = L := ⟨_, rfl⟩
  obtain ⟨mvk, hmvk⟩ : ∃ f, mv a i b = f := ⟨_, rfl⟩
  have HgX := Lib.hid hXg
  rw [hmvk] at HK0 HLen HGet HSet HEnd
  rw [hL] at HEnd ⊢
  obtain ⟨bk, hbk⟩ : ∃ f, idAt b = f := ⟨_, rfl⟩
  rw [hbk] at HGet HSet HNe
  clear hK hX ha hb hL hmvk hbk hM hNB hN m1 hXg
  go_enter Tryz.func66, Tryz.ntmps66
  go_wp2_with (go_at_call 93; refine HIx.out.mono ?_; rintro e w1 ⟨rfl, hb1⟩)
  have HKs := Lib.hid (HK0.out w1 hb1.out)
  have HBs : Hid (But (fun k => k = g) w w1) := But.of_below hb1.out
  clear HIx HK0 hb1
  go_loopw [5, 6] (fun v5 v6 wr => ∃ k q j : Nat, k ≤ NB ∧ v5 = .int .i64 (q : Int) ∧ v6 = .int .i64 (j : Int) ∧ Hid (q = M + k ∧ j = M + 1 + k) ∧ Hid (Ki wr 0 (.slice (some ⟨g, 0, none⟩) N c) (mvk k)) ∧ Hid (But (fun k => k = g) w wr)) (fun _ v6 _ => N - (intOf v6).toNat)
  case atStart => exact ⟨0, M, M + 1, Nat.zero_le _, rfl, by simp, ⟨by omega, by omega⟩, HKs, HBs⟩
  case round =>
    obtain ⟨k, q, j, hk, rfl, rfl, HQ, HK, HB⟩ := hrel
    by_cases hlt : k < NB
    · have hq := HQ.out
      have hn := HN.out
      have g1 : (j : Int) < (N : Int) := by omega
      have g2 : ¬ (N : Int) ≤ (j : Int) := by omega
      have g3 : (q : Int) < (N : Int) := by omega
      have g4 : ¬ (N : Int) ≤ (q : Int) := by omega
      have hj : j = M + 1 + k := hq.2
      obtain ⟨e0, e1, e2, e3⟩ := HK.out.cells (k := j) (by rw [HLen.out k hk]; omega)
      rw [hj, HGet.out k hlt, ← hj] at e0 e1 e2 e3
      have hne := HNe.out k hlt
      have hst := HSet.out k hlt
      obtain ⟨x, hx⟩ : ∃ x, bk k = x := ⟨_, rfl⟩
      rw [hx] at e0 e1 e2 e3 hne hst
      have HSt := Lib.hid hst
      have HF : Hid (∀ W, But (fun k => k = g) w W → Calls Tryz.prog 67 #[.agg (Mg.idC x), .pointer (some ⟨X, 0, none⟩)] W fun e w' => e = .returned (.bool false) ∧ Hid (Below W.heap.size W w')) := fun W hW => same_no X i x W hne (HX.out W hW)
      obtain ⟨o, d, ee, cc⟩ := x
      simp only [Mg.idC] at HF e0 e1 e2 e3
      have hg : g < wr.heap.size := (Ki.lt HK.out rfl).2
      have HG := Lib.hid hg
      obtain ⟨V, hV⟩ : ∃ V, (wr.alloc (.cells #[.int .i64 0, .int .i64 0, .int .i64 0, .int .i64 0] 43)).setRow wr.heap.size #[.int .i64 o, .int .i64 d, .int .i64 ee, .int .i64 cc] = V := ⟨_, rfl⟩
      have hbV : Below wr.heap.size wr V := by rw [← hV]; exact Sb.below_setRow _ (Me.below_alloc (Below.refl _ _)) (Nat.le_refl _)
      have hxV : V.heap[wr.heap.size]? = some (.cells #[.int .i64 o, .int .i64 d, .int .i64 ee, .int .i64 cc] 43 (0, 0)) := by rw [← hV]; exact setRow_heap _ _ _ _ _ _ (heap_alloc_new wr _)
      have HV := Lib.hid hV
      have HBV := Lib.hid hbV
      have HXV := Lib.hid hxV
      have HBw : Hid (But (fun k => k = g) w V) := HB.out.trans (But.of_below (S := fun k => k = g) hbV) fun _ _ h => h
      clear hV hbV hxV hq hn hj hx hne hst hg
      go_wp2_with (refine wpList_store_row rfl 43 (.tmp 7) (.tmp 25) rfl wr.heap.size #[.int .i64 o, .int .i64 d, .int .i64 ee, .int .i64 cc] rfl rfl 43 _ (heap_alloc_new wr _) (by kernel_rfl) rfl (id_one _ _ _ _) ?_; rw [HV.out]; obtain ⟨y0, y1, y2, y3⟩ := id_cells HXV.out)
      go_at_call 67
      refine (HF.out V HBw.out).mono ?_
      rintro e w3 ⟨rfl, hb3⟩
      have hb13 := Lib.hid (HBV.out.trans (hb3.out.mono HBV.out.size))
      have hx3 := (hb3.out.block _ (Array.getElem?_eq_some_iff.1 HXV.out).1).trans HXV.out
      clear y0 y1 y2 y3
      obtain ⟨y0, y1, y2, y3⟩ := id_cells hx3
      have HK3 : Hid (Ki w3 0 (.slice (some ⟨g, 0, none⟩) N c) (mvk k)) := ki_at HK.out fun x e => hb13.out.block x (Ki.lt HK.out e).2
      have HTh : Hid (w3.there g (q * 4) (#[Value.int .i64 o, .int .i64 d, .int .i64 ee, .int .i64 cc] : Array Value).size) := HK3.out.there (k := q) (by rw [HLen.out k hk]; omega)
      clear e0 e1 e2 e3 hx3 HV
      go_wp2_with (refine wpList_store_mid rfl 43 (.tmp 33) (.tmp 32) rfl g (q * 4) #[.int .i64 o, .int .i64 d, .int .i64 ee, .int .i64 cc] rfl rfl ?ht (by kernel_rfl) (id_one _ _ _ _) ?_)
      case ht => exact HTh.out
      go_roundw
      case rel =>
        refine ⟨k + 1, q + 1, j + 1, hlt, by go_num, by go_num, by have := HQ.out; exact ⟨by omega, by omega⟩, ?_, ?_⟩
        · have := HK3.out.set (k := q) (by rw [HLen.out k hk]; omega) ⟨o, d, ee, cc⟩
          rw [HQ.out.1, HSt.out] at this
          rw [← HQ.out.1] at this
          exact this
        · exact (HB.out.trans (But.of_below (S := fun k => k = g) hb13.out) fun _ _ h => h).trans (but_setCells w3 g (q * 4) _).1 fun _ _ h => h
      case measure => simp [intOf]; omega
    · obtain rfl : k = NB := by omega
      obtain ⟨rfl, hj⟩ := HQ.out
      have hn := HN.out
      have hj2 : j = M + k + 1 := by omega
      subst hj2
      obtain rfl : N = M + k + 1 := by omega
      have HTh : Hid (wr.there g ((M + k) * 4) 4) := HK.out.there (k := M + k) (by rw [HLen.out k (Nat.le_refl _)]; omega)
      have HFin : Hid (Ki (wr.setCells g ((M + k) * 4) (idc zeroI)) 0 (.slice (some ⟨g, 0, none⟩) (M + k) c) L) := by
        have h1 := HK.out.first (k := M + k) (by rw [HLen.out k (Nat.le_refl _)]; omega)
        rw [HEnd.out] at h1
        refine h1.behind ?_
        rw [← HEnd.out, List.length_take]
        omega
      have HBf : Hid (But (fun k => k = g) w (wr.setCells g ((M + k) * 4) (idc zeroI))) := HB.out.trans (but_setCells wr g _ _).1 fun _ _ h => h
      obtain ⟨q, hq⟩ : ∃ q, M + k = q := ⟨_, rfl⟩
      rw [hq] at HTh HFin HBf hNc hNb ⊢
      have hcl : ∀ ty, (Builtin.clear_ #[77] ty #[.slice (some ⟨g, q * 4, none⟩) 1 (c - q)]).run Tryz.prog wr = .ok (.tuple #[]) (wr.setCells g (q * 4) (idc zeroI)) := fun ty => run_clear_one wr ty g (q * 4) (c - q) HTh.out
      have c1 : ¬ c = q := by omega
      have c2 : ¬ (c : Int) < (q : Int) := by omega
      have c3 : ¬ ((q : Int) + 1 < (q : Int)) := by omega
      have c4 : ¬ ((q : Int) < 0) := by omega
      have HQE := Lib.hid hq
      clear hq hn hj HK HB HQ HLen HGet HSet HEnd HNe HX
      go_wp2
      go_ret
      rw [HQE.out]
      exact ⟨rfl, HFin.out, HBf.out⟩
end Go.Proofs.YtfnlhfelpdkieaaGreat.So
/- A message is let go: release. -/
namespace Go.Proofs.YtfnlhfelpdkieaaGreat.So
open Go.RowKit
open Go.Proofs.YtfnlhfelpdkieaaGreat.Me Go.Proofs.YtfnlhfelpdkieaaGreat.Sb
set_option linter.unusedVariables false
set_option linter.unusedSimpArgs false

theorem mem_split {l : List It} {i : Mg.Id4} {p : List Nat} (hd : (l.map It.i).Nodup) (h : findH l i = some p) : ∃ a b : List It, l = a ++ ⟨i, p⟩ :: b ∧ i ∉ a.map It.i ∧ i ∉ b.map It.i ∧ without l i = a ++ b := by
  obtain ⟨a, b, e⟩ := List.append_of_mem (findH_mem h)
  have hd' := hd
  rw [e, List.map_append, List.map_cons, List.nodup_append, List.nodup_cons] at hd'
  obtain ⟨_, ⟨h2, _⟩, h3⟩ := hd'
  have ha : i ∉ a.map It.i := fun hm => h3 i hm i (List.mem_cons_self ..) rfl
  refine ⟨a, b, e, ha, h2, ?_⟩
  have f1 : ∀ c : List It, i ∉ c.map It.i → c.filter (fun x => decide (x.i ≠ i)) = c := fun c hc => List.filter_eq_self.2 fun y hy => by
    simp only [ne_eq, decide_eq_true_eq]
    intro e2
    exact hc (by rw [← e2]; exact List.mem_map_of_mem hy)
  unfold without
  rw [e, List.filter_append, List.filter_cons_of_neg (by simp), f1 a ha, f1 b h2]
section
variable (E : Nat → Prop) (D hb sd sb m : Nat) (v : Value) (s : Sto) (w : World)
set_option maxRecDepth 100000 in
set_option maxHeartbeats 16000000 in
theorem release_any (i : Mg.Id4) (p : List Nat) (hr : Mg.Right i) (hyes : findH s.held i = some p) (hS : Hid (Sq E w D hb sd sb m v s)) :
    Calls Tryz.prog 36 #[.pointer (some ⟨D, 0, none⟩), .agg (Mg.idC i)] w fun e w' => (∃ x, e = .returned x) ∧ ∃ v', Hid (Sq E w' D hb sd sb m v' (relS s i)) ∧ Hid (But (Chg D hb sd sb v) w w') ∧ Hid (v'.ownBlock = v.ownBlock) := by
  obtain ⟨a1, a2, a3, a4, a5, a6, a7⟩ := hS.out.apart
  have hlen : s.held.length ≤ 256 := by have h1 := hS.out.ok.len; have h2 := hS.out.ok.h1; omega
  have hby := hS.out.ok.byt
  have hb1 := hS.out.ok.b1
  have hb0 := bytesOf_nonneg s.held
  have hpl := (find_len hS.out.ok hyes).1
  have hp48 := (msgN_zero hpl).2.2
  have hbw := bytesOf_without hS.out.ok.nod i hyes
  obtain ⟨a, b, hs, ha, hbn, hwo⟩ := mem_split hS.out.ok.nod hyes
  obtain ⟨V, hV⟩ : ∃ V, w.alloc (.cells (Mg.idC i) 43) = V := ⟨_, rfl⟩
  have hB : Below w.heap.size w V := by rw [← hV]; exact Me.below_alloc (Below.refl _ _)
  have hR : V.heap[w.heap.size]? = some (.cells (Mg.idC i) 43 (0, 0)) := by rw [← hV]; exact heap_alloc_new w _
  have hSV := hS.out.below hB
  have hids : s.held.map It.i = a.map It.i ++ i :: b.map It.i := by rw [hs]; simp
  obtain ⟨A0, c0, rfl, hnc, hc9, _⟩ := hSV.ord.form
  have hpos : 0 < (s.held.map It.i).length := by rw [hids]; simp only [List.length_append, List.length_cons]; omega
  obtain ⟨g, rfl⟩ : ∃ g, A0 = some ⟨g, 0, none⟩ := by
    rcases hSV.ord.2 with ⟨h1, h2⟩ | ⟨g, cap, cur, h1, _⟩
    · rw [h2] at hpos; exact absurd hpos (by simp)
    · injection h1 with e1 _ _; exact ⟨g, e1⟩
  obtain ⟨vx, hel, hl1, hl2⟩ := hSV.map.yes (fit_right hr) hyes
  obtain ⟨Ax, cx, rfl, _, _⟩ := hel
  have HLk : Hid (∀ W : World, W.heap[hb]? = V.heap[hb]? → (Instr.lookup 74 (.map (some hb)) (.agg (Mg.idC i)) false).run Tryz.prog W = .ok (.slice Ax p.length cx) W) := hl2
  have HV := Lib.hid hV
  have HB := Lib.hid hB
  have HR := Lib.hid hR
  have HSV := Lib.hid hSV
  have HOk := Lib.hid (hS.out.ok.rel i)
  have HYes := Lib.hid hyes
  have HFit := Lib.hid (fit_right hr)
  obtain ⟨N, hN⟩ : ∃ x, (s.held.map It.i).length = x := ⟨_, rfl⟩
  have HAp : Hid (D ≠ hb ∧ D ≠ sd ∧ D ≠ sb ∧ hb ≠ sd ∧ hb ≠ sb ∧ sd ≠ sb ∧ g ≠ D ∧ g ≠ hb ∧ g ≠ sd ∧ g ≠ sb) := ⟨a1, a2, a3, a4, a5, a6, a7 g rfl⟩
  have HLt : Hid (∀ k, Chg D hb sd sb (.slice (some ⟨g, 0, none⟩) (s.held.map It.i).length c0) k → k < w.heap.size) := hS.out.lt
  have HKd : Hid (∀ k, Chg D hb sd sb (.slice (some ⟨g, 0, none⟩) (s.held.map It.i).length c0) k → ∀ cs : Array Value, V.heap[k]? ≠ some (.cells cs 5 (0, 0)) ∧ V.heap[k]? ≠ some (.cells cs 3 (0, 0))) := fun k hk cs => hSV.no8 hk cs
  have HLen := Lib.hid hlen
  have HWr : Hid (IntKind.i64.wrap (bytesOf s.held - (p.length : Int)) = bytesOf s.held - (p.length : Int)) := Mi.fits' ⟨by omega, by omega⟩
  have HBy : Hid (bytesOf (relS s i).held = bytesOf s.held - (p.length : Int)) := hbw
  have HHeld : Hid ((relS s i).held = a ++ b) := hwo
  have HHs := Lib.hid hs
  have hNab : N = (a.map It.i).length + (b.map It.i).length + 1 := by rw [← hN, hids]; simp; omega
  have HDF : Hid (∀ X W, X ≠ g → W.heap[X]? = some (.cells (Mg.idC i) 43 (0, 0)) → Ki W 0 (.slice (some ⟨g, 0, none⟩) N c0) (s.held.map It.i) → Calls Tryz.prog 66 #[.slice (some ⟨g, 0, none⟩) N c0, .func (.func 67) #[] #[.pointer (some ⟨X, 0, none⟩)]] W fun e w' => e = .returned (.slice (some ⟨g, 0, none⟩) ((a.map It.i).length + (b.map It.i).length) c0) ∧ Hid (Ki w' 0 (.slice (some ⟨g, 0, none⟩) ((a.map It.i).length + (b.map It.i).length) c0) (a.map It.i ++ b.map It.i)) ∧ Hid (But (fun k => k = g) W w')) := fun X W hXg hX hK => by
    rw [hids] at hK
    exact DeleteFunc_any g c0 X (a.map It.i) i (b.map It.i) W N _ _ rfl rfl hNab (by rw [List.length_map] at hN; omega) ha hbn hXg (by omega) hK hX
  rw [hN] at HSV HLt HKd
  obtain ⟨nab, hnab⟩ : ∃ x, (a.map It.i).length + (b.map It.i).length = x := ⟨_, rfl⟩
  rw [hnab] at HDF
  obtain ⟨pn, hpn⟩ : ∃ x, p.length = x := ⟨_, rfl⟩
  rw [hpn] at HLk HWr HBy
  obtain ⟨by0, hby0⟩ : ∃ x, bytesOf s.held = x := ⟨_, rfl⟩
  have HBy0 := Lib.hid hby0
  rw [hby0] at HWr HBy
  have HXg : Hid (w.heap.size ≠ g ∧ w.heap.size ≠ D ∧ w.heap.size ≠ hb) := by
    refine ⟨?_, ?_, ?_⟩
    · have := HLt.out g (.inr (.inr (.inr (.inr rfl)))); omega
    · have := HLt.out D (.inl rfl); omega
    · have := HLt.out hb (.inr (.inl rfl)); omega
  have hmf : ∀ (fn : Fn) (first cap : Array Value) (w : World), (Instr.makeFunc fn first cap).run Tryz.prog w = .ok (.func fn first cap) w := fun _ _ _ _ => rfl
  have hfn : (Value.slice (some ⟨g, 0, none⟩) (s.held.map It.i).length c0).ownBlock = some g := rfl
  rw [hN]
  obtain ⟨o, d, ee, cc⟩ := i
  simp only [Mg.idC] at HV HR HLk HDF ⊢
  clear hV hB hR hSV hS hr hyes hlen hpl hp48 hby hb1 hb0 hbw hs ha hbn hwo hids hnc hc9 hpos hl1 hl2 hN hNab hnab hpn hby0 a1 a2 a3 a4 a5 a6 a7 hfn
  go_enter Tryz.func36, Tryz.ntmps36
  go_wp2
  rw [HV.out]
  have S0 : But (fun k => k = D) V V.drew := But.of_below (Below.refl _ _).drew
  have HX : Hid (∀ W, But (fun k => k = D) V W → W.heap[w.heap.size]? = some (.cells #[.int .i64 o, .int .i64 d, .int .i64 ee, .int .i64 cc] 43 (0, 0))) := fun W hW => hW.at_ HR.out HXg.out.2.1
  refine wp_region_held_drew (S := fun W => But (fun k => k = D) V W) (by kernel_rfl) S0 (fun hHeld => ?_)
  refine wpAnyH_take (i := 0) (v := .pointer (some ⟨D, 0, none⟩)) rfl (by kernel_rfl) (by kernel_rfl) (by kernel_rfl) (fun _ _ _ h => h) (Or.inl ⟨by rfl, ?_⟩) (by first | assumption | exact trivial) ?_
  · intro W hSW; go_simp; try (with_reducible rfl)
  simp only [Act.put, List.getElem_toArray, List.getElem_cons_succ, List.getElem_cons_zero, List.setIfInBounds_toArray, List.set_cons_zero, List.set_cons_succ]
  refine wpAnyH_take (i := 1) (v := .pointer (some ⟨D, 0, none⟩)) rfl (by kernel_rfl) (by kernel_rfl) (by kernel_rfl) (fun _ _ _ h => h) (Or.inl ⟨by rfl, ?_⟩) (by first | assumption | exact trivial) ?_
  · intro W hSW; go_simp; try (with_reducible rfl)
  simp only [Act.put, List.getElem_toArray, List.getElem_cons_succ, List.getElem_cons_zero, List.setIfInBounds_toArray, List.set_cons_zero, List.set_cons_succ]
  refine wpAnyH_take (i := 2) (v := .pointer (some ⟨D, 71, none⟩)) rfl (by kernel_rfl) (by kernel_rfl) (by kernel_rfl) (fun _ _ _ h => h) (Or.inl ⟨by rfl, ?_⟩) (by first | assumption | exact trivial) ?_
  · intro W hSW; go_simp; try (with_reducible rfl)
  simp only [Act.put, List.getElem_toArray, List.getElem_cons_succ, List.getElem_cons_zero, List.setIfInBounds_toArray, List.set_cons_zero, List.set_cons_succ]
  refine wpAnyH_take (i := 4) (v := .pointer (some ⟨D, 0, none⟩)) rfl (by kernel_rfl) (by kernel_rfl) (by kernel_rfl) (fun _ _ _ h => h) (Or.inl ⟨by rfl, ?_⟩) (by first | assumption | exact trivial) ?_
  · intro W hSW; go_simp; try (with_reducible rfl)
  simp only [Act.put, List.getElem_toArray, List.getElem_cons_succ, List.getElem_cons_zero, List.setIfInBounds_toArray, List.set_cons_zero, List.set_cons_succ]
  refine wpAnyH_take (i := 5) (v := .pointer (some ⟨D, 0, none⟩)) rfl (by kernel_rfl) (by kernel_rfl) (by kernel_rfl) (fun _ _ _ h => h) (Or.inl ⟨by rfl, ?_⟩) (by first | assumption | exact trivial) ?_
  · intro W hSW; go_simp; try (with_reducible rfl)
  simp only [Act.put, List.getElem_toArray, List.getElem_cons_succ, List.getElem_cons_zero, List.setIfInBounds_toArray, List.set_cons_zero, List.set_cons_succ]
  refine wpAnyH_take (i := 6) (v := .pointer (some ⟨D, 69, none⟩)) rfl (by kernel_rfl) (by kernel_rfl) (by kernel_rfl) (fun _ _ _ h => h) (Or.inl ⟨by rfl, ?_⟩) (by first | assumption | exact trivial) ?_
  · intro W hSW; go_simp; try (with_reducible rfl)
  simp only [Act.put, List.getElem_toArray, List.getElem_cons_succ, List.getElem_cons_zero, List.setIfInBounds_toArray, List.set_cons_zero, List.set_cons_succ]
  refine wpAnyH_take (i := 8) (v := .agg #[.int .i64 o, .int .i64 d, .int .i64 ee, .int .i64 cc]) rfl (by kernel_rfl) (by kernel_rfl) (by kernel_rfl) (fun _ _ _ h => h) (Or.inl ⟨by rfl, ?_⟩) (by first | assumption | exact trivial) ?_
  · intro W hSW; obtain ⟨z0, z1, z2, z3⟩ := id_cells (HX.out W hSW); go_simp; try (with_reducible rfl)
  simp only [Act.put, List.getElem_toArray, List.getElem_cons_succ, List.getElem_cons_zero, List.setIfInBounds_toArray, List.set_cons_zero, List.set_cons_succ]
  refine wpAnyH_ready (rs := [3, 7]) (by kernel_rfl) (by simp) ?_
  refine AllReadyH.cons rfl (fun K hK => ?pa) (AllReadyH.cons rfl (fun K hK => ?pb) AllReadyH.nil)
  case' pa =>
    have yD : V.drew.cell? ⟨D, 71, none⟩ = some (.int .i64 by0) := by rw [← HBy0.out]; exact HSV.out.box.byt
    go_simp
    refine hK.out _ _ (S0) (fun hHeld => ?_)
    clear hK K
    refine wpAnyH_ready (rs := [7]) (by kernel_rfl) (by simp) ?_
    refine AllReadyH.cons rfl (fun K hK => ?_) AllReadyH.nil
    have yM : V.drew.cell? ⟨D, 69, none⟩ = some (.map (some hb)) := HSV.out.box.map
    go_simp
    refine hK.out _ _ (S0) (fun hHeld => ?_)
    clear hK K
    refine wpAnyH_take (i := 9) (v := .slice Ax pn cx) rfl (by kernel_rfl) (by kernel_rfl) (by kernel_rfl) (fun _ _ _ h => h) (Or.inl ⟨by rfl, ?_⟩) (by first | assumption | exact trivial) ?_
    · intro W hSW; have y := HLk.out W (hSW.same hb HSV.out.map.lt HAp.out.1.symm); go_simp; try (with_reducible rfl)
    simp only [Act.put, List.getElem_toArray, List.getElem_cons_succ, List.getElem_cons_zero, List.setIfInBounds_toArray, List.set_cons_zero, List.set_cons_succ]
    refine wpAnyH_take (i := 10) (v := .int .i64 (pn : Int)) rfl (by kernel_rfl) (by kernel_rfl) (by kernel_rfl) (fun _ _ _ h => h) (Or.inl ⟨by rfl, ?_⟩) (by first | assumption | exact trivial) ?_
    · intro W hSW; go_simp; try (with_reducible rfl)
    simp only [Act.put, List.getElem_toArray, List.getElem_cons_succ, List.getElem_cons_zero, List.setIfInBounds_toArray, List.set_cons_zero, List.set_cons_succ]
  case' pb =>
    have yM : V.drew.cell? ⟨D, 69, none⟩ = some (.map (some hb)) := HSV.out.box.map
    go_simp
    refine hK.out _ _ (S0) (fun hHeld => ?_)
    clear hK K
    refine wpAnyH_take (i := 9) (v := .slice Ax pn cx) rfl (by kernel_rfl) (by kernel_rfl) (by kernel_rfl) (fun _ _ _ h => h) (Or.inl ⟨by rfl, ?_⟩) (by first | assumption | exact trivial) ?_
    · intro W hSW; have y := HLk.out W (hSW.same hb HSV.out.map.lt HAp.out.1.symm); go_simp; try (with_reducible rfl)
    simp only [Act.put, List.getElem_toArray, List.getElem_cons_succ, List.getElem_cons_zero, List.setIfInBounds_toArray, List.set_cons_zero, List.set_cons_succ]
    refine wpAnyH_take (i := 10) (v := .int .i64 (pn : Int)) rfl (by kernel_rfl) (by kernel_rfl) (by kernel_rfl) (fun _ _ _ h => h) (Or.inl ⟨by rfl, ?_⟩) (by first | assumption | exact trivial) ?_
    · intro W hSW; go_simp; try (with_reducible rfl)
    simp only [Act.put, List.getElem_toArray, List.getElem_cons_succ, List.getElem_cons_zero, List.setIfInBounds_toArray, List.set_cons_zero, List.set_cons_succ]
    refine wpAnyH_ready (rs := [3]) (by kernel_rfl) (by simp) ?_
    refine AllReadyH.cons rfl (fun K hK => ?_) AllReadyH.nil
    have yD : V.drew.cell? ⟨D, 71, none⟩ = some (.int .i64 by0) := by rw [← HBy0.out]; exact HSV.out.box.byt
    go_simp
    refine hK.out _ _ (S0) (fun hHeld => ?_)
    clear hK K
  all_goals
    refine wpAnyH_take (i := 11) (v := .int .i64 (by0 - (pn : Int))) rfl (by kernel_rfl) (by kernel_rfl) (by kernel_rfl) (fun _ _ _ h => h) (Or.inl ⟨by rfl, ?_⟩) (by first | assumption | exact trivial) ?_
    · intro W hSW; have q := HWr.out; go_simp; try (with_reducible rfl)
    simp only [Act.put, List.getElem_toArray, List.getElem_cons_succ, List.getElem_cons_zero, List.setIfInBounds_toArray, List.set_cons_zero, List.set_cons_succ]
    refine wpAnyH_take (i := 12) (v := .pointer (some ⟨D, 0, none⟩)) rfl (by kernel_rfl) (by kernel_rfl) (by kernel_rfl) (fun _ _ _ h => h) (Or.inl ⟨by rfl, ?_⟩) (by first | assumption | exact trivial) ?_
    · intro W hSW; go_simp; try (with_reducible rfl)
    simp only [Act.put, List.getElem_toArray, List.getElem_cons_succ, List.getElem_cons_zero, List.setIfInBounds_toArray, List.set_cons_zero, List.set_cons_succ]
    refine wpAnyH_take (i := 13) (v := .pointer (some ⟨D, 71, none⟩)) rfl (by kernel_rfl) (by kernel_rfl) (by kernel_rfl) (fun _ _ _ h => h) (Or.inl ⟨by rfl, ?_⟩) (by first | assumption | exact trivial) ?_
    · intro W hSW; go_simp; try (with_reducible rfl)
    simp only [Act.put, List.getElem_toArray, List.getElem_cons_succ, List.getElem_cons_zero, List.setIfInBounds_toArray, List.set_cons_zero, List.set_cons_succ]
    refine wpAnyH_ready (rs := [14]) (by kernel_rfl) (by simp) ?_
    refine AllReadyH.cons rfl (fun K hK => ?_) AllReadyH.nil
    have fD : V.drew.frozen? ⟨D, 71, none⟩ = false := HSV.out.box.frozen 71
    go_simp
    obtain ⟨V3, hV3⟩ : ∃ V', (V.setCell ⟨D, 71, none⟩ (.int .i64 (by0 - (pn : Int)))).drew = V' := ⟨_, rfl⟩
    rw [hV3]
    have b3 : But (fun k => k = D) V V3 := by rw [← hV3]; exact ((But.refl (fun k => k = D) V).set (p := ⟨D, 71, none⟩) (.inl rfl) _).trans (But.of_below (S := fun _ => False) (Below.refl _ _).drew) (fun _ _ h => h.elim)
    have hb3 : Box V3 D s hb sd (.slice (some ⟨g, 0, none⟩) N c0) (by0 - (pn : Int)) := by rw [← hV3]; exact HSV.out.box.setN _
    clear hV3
    refine hK.out _ _ (b3) (fun hHeld => ?_)
    clear hK K
    refine wpAnyH_done (by kernel_rfl) ?_ _
    have HB3 := Lib.hid b3
    have HX3 := Lib.hid hb3
    have HI3 := Lib.hid (HX.out V3 b3)
    clear hHeld S0 yD yM fD b3 hb3 HX HLk
    have hu3 : U8s E V V3 := U8s.but HB3.out fun k cs _ hk e => (HKd.out k (.inl e) cs).1 hk
    have HM3 : Hid (Mp E V3 hb s.held.length (findH s.held)) := HSV.out.map.keep (HB3.out.same hb HSV.out.map.lt HAp.out.1.symm) hu3 fun _ _ h => h
    clear hu3
    go_wp2
    have S0 : But (fun k => k = hb) V3 V3.drew := But.of_below (Below.refl _ _).drew
    refine wp_region_held_drew (S := fun W => But (fun k => k = hb) V3 W) (by kernel_rfl) S0 (fun hHeld => ?_)
    refine wpAnyH_take (i := 0) (v := .pointer (some ⟨D, 0, none⟩)) rfl (by kernel_rfl) (by kernel_rfl) (by kernel_rfl) (fun _ _ _ h => h) (Or.inl ⟨by rfl, ?_⟩) (by first | assumption | exact trivial) ?_
    · intro W hSW; go_simp; try (with_reducible rfl)
    simp only [Act.put, List.getElem_toArray, List.getElem_cons_succ, List.getElem_cons_zero, List.setIfInBounds_toArray, List.set_cons_zero, List.set_cons_succ]
    refine wpAnyH_take (i := 1) (v := .pointer (some ⟨D, 0, none⟩)) rfl (by kernel_rfl) (by kernel_rfl) (by kernel_rfl) (fun _ _ _ h => h) (Or.inl ⟨by rfl, ?_⟩) (by first | assumption | exact trivial) ?_
    · intro W hSW; go_simp; try (with_reducible rfl)
    simp only [Act.put, List.getElem_toArray, List.getElem_cons_succ, List.getElem_cons_zero, List.setIfInBounds_toArray, List.set_cons_zero, List.set_cons_succ]
    refine wpAnyH_take (i := 2) (v := .pointer (some ⟨D, 69, none⟩)) rfl (by kernel_rfl) (by kernel_rfl) (by kernel_rfl) (fun _ _ _ h => h) (Or.inl ⟨by rfl, ?_⟩) (by first | assumption | exact trivial) ?_
    · intro W hSW; go_simp; try (with_reducible rfl)
    simp only [Act.put, List.getElem_toArray, List.getElem_cons_succ, List.getElem_cons_zero, List.setIfInBounds_toArray, List.set_cons_zero, List.set_cons_succ]
    refine wpAnyH_take (i := 3) (v := .map (some hb)) rfl (by kernel_rfl) (by kernel_rfl) (by kernel_rfl) (fun _ _ _ h => h) (Or.inl ⟨by rfl, ?_⟩) (by first | assumption | exact trivial) ?_
    · intro W hSW; have y := (HX3.out.at_ (hSW.same D HX3.out.lt HAp.out.1)).map; go_simp; try (with_reducible rfl)
    simp only [Act.put, List.getElem_toArray, List.getElem_cons_succ, List.getElem_cons_zero, List.setIfInBounds_toArray, List.set_cons_zero, List.set_cons_succ]
    refine wpAnyH_take (i := 4) (v := .agg #[.int .i64 o, .int .i64 d, .int .i64 ee, .int .i64 cc]) rfl (by kernel_rfl) (by kernel_rfl) (by kernel_rfl) (fun _ _ _ h => h) (Or.inl ⟨by rfl, ?_⟩) (by first | assumption | exact trivial) ?_
    · intro W hSW; obtain ⟨z0, z1, z2, z3⟩ := id_cells (hSW.at_ HI3.out HXg.out.2.2); go_simp; try (with_reducible rfl)
    simp only [Act.put, List.getElem_toArray, List.getElem_cons_succ, List.getElem_cons_zero, List.setIfInBounds_toArray, List.set_cons_zero, List.set_cons_succ]
    refine wpAnyH_ready (rs := [5]) (by kernel_rfl) (by simp) ?_
    refine AllReadyH.cons rfl (fun K hK => ?_) AllReadyH.nil
    rw [if_pos (by kernel_rfl)]
    refine delW (.tmp 21) (.tmp 22) rfl E hb s.held.length (findH s.held) ⟨o, d, ee, cc⟩ rfl rfl (HM3.out.keep rfl (fun _ _ _ _ => rfl) fun _ _ h => h) HFit.out p HYes.out ?_
    intro w5 hM5 hB5 hz5
    simp only [Act.put, List.getElem_toArray, List.getElem_cons_succ, List.getElem_cons_zero, List.setIfInBounds_toArray, List.set_cons_zero, List.set_cons_succ]
    have S5 : But (fun k => k = hb) V3 w5 := S0.trans hB5 (fun _ _ h => h)
    refine hK.out _ _ (S5) (fun hHeld => ?_)
    clear hK K
    refine wpAnyH_done (by kernel_rfl) ?_ _
    have HM5 := Lib.hid hM5
    have HB5 := Lib.hid S5
    have HX5 : Hid (Box w5 D s hb sd (.slice (some ⟨g, 0, none⟩) N c0) (by0 - (pn : Int))) := HX3.out.at_ (S5.same D HX3.out.lt HAp.out.1)
    have HI5 : Hid (w5.heap[w.heap.size]? = some (.cells #[.int .i64 o, .int .i64 d, .int .i64 ee, .int .i64 cc] 43 (0, 0))) := S5.at_ HI3.out HXg.out.2.2
    have hVw5 : But (fun k => k = D ∨ k = hb) V w5 := (HB3.out.mono fun _ _ h => .inl h).trans S5 fun _ _ h => .inr h
    have HVw5 := Lib.hid hVw5
    have HK5 : Hid (Ki w5 0 (.slice (some ⟨g, 0, none⟩) N c0) (s.held.map It.i)) := ki_at HSV.out.ord fun k e => hVw5.same k (Ki.lt HSV.out.ord e).2 (by
      cases e
      rintro (h | h)
      · exact HAp.out.2.2.2.2.2.2.1 h
      · exact HAp.out.2.2.2.2.2.2.2.1 h)
    have yV := HX5.out.ord
    have HDl := Lib.hid HX5.out.lt
    clear hHeld S0 S5 hM5 hB5 hz5 hVw5
    go_wp2_with (first
      | (simp only [hmf])
      | (go_at_call 66; refine (HDF.out _ _ HXg.out.1 HI5.out HK5.out).mono ?_; rintro e w6 ⟨rfl, hK6, hB6⟩; have HX6 : Hid (Box w6 D s hb sd (.slice (some ⟨g, 0, none⟩) N c0) (by0 - (pn : Int))) := HX5.out.at_ (hB6.out.same D HDl.out HAp.out.2.2.2.2.2.2.1.symm); have yo := HX6.out.ord; have fo := HX6.out.frozen 70))
    go_end0
    have b67 : But (fun k => k = D) w6 (w6.setCell ⟨D, 70, none⟩ (.slice (some ⟨g, 0, none⟩) nab c0)) := (But.refl (fun k => k = D) w6).set (p := ⟨D, 70, none⟩) (.inl rfl) _
    have b57 : But (fun k => k = D ∨ k = g) w5 (w6.setCell ⟨D, 70, none⟩ (.slice (some ⟨g, 0, none⟩) nab c0)) := (hB6.out.mono fun _ _ h => .inr h).trans b67 fun _ _ h => .inl h
    have bV7 : But (fun k => k = D ∨ k = hb ∨ k = g) V (w6.setCell ⟨D, 70, none⟩ (.slice (some ⟨g, 0, none⟩) nab c0)) := (HVw5.out.mono fun _ _ h => h.elim .inl fun h => .inr (.inl h)).trans b57 fun _ _ h => h.elim .inl fun h => .inr (.inr h)
    have bVc : ∀ k, (k = D ∨ k = hb ∨ k = g) → Chg D hb sd sb (.slice (some ⟨g, 0, none⟩) N c0) k := by
      rintro k (h | h | h)
      · exact .inl h
      · exact .inr (.inl h)
      · exact .inr (.inr (.inr (.inr (by rw [h]; rfl))))
    have hi : Se.IntsF E V (w6.setCell ⟨D, 70, none⟩ (.slice (some ⟨g, 0, none⟩) nab c0)) := Se.IntsF.but bV7 fun k cs _ hk h => (HKd.out k (bVc k h) cs).2 hk
    have hu : U8s E w5 (w6.setCell ⟨D, 70, none⟩ (.slice (some ⟨g, 0, none⟩) nab c0)) := U8s.but b57 fun k cs _ hk h => by
      rcases h with rfl | rfl
      · have := HX5.out
        unfold Box at this
        rw [this] at hk
        simp at hk
      · obtain ⟨cur, hc⟩ := own_type HK5.out _ rfl
        rw [hc] at hk
        simp at hk
    obtain ⟨q1, q2, q3, q4, q5, q6, q7, q8, q9, q10⟩ := HAp.out
    have hheld := HHeld.out
    refine ⟨⟨_, rfl⟩, .slice (some ⟨g, 0, none⟩) nab c0, ⟨?_, ?_, ?_, ?_, HOk.out, q5⟩, (But.of_below HB.out).trans bV7 fun k _ h => bVc k h, rfl⟩
    · rw [HBy.out]; exact HX6.out.setV _
    · have h1 := HM5.out.keep (E' := E) (b57.same hb HM5.out.lt fun h => h.elim (fun h => q1 h.symm) fun h => q8 h.symm) hu fun _ _ h => h
      have e1 : findH (relS s ⟨o, d, ee, cc⟩).held = fun k => if k = ⟨o, d, ee, cc⟩ then none else findH s.held k := funext fun j => findH_without _ _ _
      have e2 : (relS s ⟨o, d, ee, cc⟩).held.length = s.held.length - 1 := by rw [hheld, HHs.out]; simp
      rw [e1, e2]
      exact h1
    · rw [hheld, List.map_append]
      exact ki_at hK6.out fun k e => b67.same k (Ki.lt hK6.out e).2 (by cases e; exact q7)
    · refine HSV.out.set.keep (bV7.same sd HSV.out.set.lt.1 ?_) (bV7.same sb HSV.out.set.lt.2 ?_) hi fun _ _ h => h
      · rintro (h | h | h)
        · exact q2 h.symm
        · exact q4 h.symm
        · exact q9 h.symm
      · rintro (h | h | h)
        · exact q3 h.symm
        · exact q5 h.symm
        · exact q10 h.symm
end
end Go.Proofs.YtfnlhfelpdkieaaGreat.So
