/- A store in memory: its block of 73 cells, its map, its list of ids, its set. -/
import Derived.Test.YtpofdimagfldnaaSoMem
import Derived.Test.YtpofdimagfldnaaSoIds
import Derived.Test.YtpofdimagfldnaaSeMem
import Derived.Deep.MidRow
namespace Go.Proofs.Ytpofdimagfldnaa.So
open Go.RowKit
open Go.Proofs.Ytpofdimagfldnaa.Me Go.Proofs.Ytpofdimagfldnaa.Sb
set_option linter.unusedVariables false
set_option linter.unusedSimpArgs false

/-- 73 cells. -/
def row (g : Nat → Value) : Array Value := ((List.range 73).map g).toArray
theorem row_size (g : Nat → Value) : (row g).size = 73 := by simp [row]
theorem row_at (g : Nat → Value) {i : Nat} (h : i < 73) : (row g)[i]? = some (g i) := by simp [row, h]
theorem row_congr {g g' : Nat → Value} (h : ∀ k, k < 73 → g k = g' k) : row g = row g' := by
  unfold row
  congr 1
  exact List.map_congr_left fun k hk => h k (List.mem_range.1 hk)
theorem row_set (g : Nat → Value) (i : Nat) (u : Value) : (row g).setIfInBounds i u = row (fun k => if k = i then u else g k) := by
  apply Array.ext_getElem?
  intro k
  rw [Array.getElem?_setIfInBounds, row_size]
  by_cases hk : k < 73
  · rw [row_at _ hk, row_at _ hk]
    by_cases e : i = k
    · subst e; rw [if_pos rfl, if_pos hk, if_pos rfl]
    · rw [if_neg e, if_neg (fun h => e h.symm)]
  · rw [Array.getElem?_eq_none (by rw [row_size]; omega), Array.getElem?_eq_none (by rw [row_size]; omega)]
    split
    · split
      · omega
      · rfl
    · rfl
/-- The cells of a store: four numbers, the epoch, 64 counters, the map, the list, the bytes, the set. -/
def gc (a b c d e : Int) (f : Nat → Int) (m v : Value) (n : Int) (p : Value) (i : Nat) : Value :=
  if i = 0 then .int .i64 a else if i = 1 then .int .i64 b else if i = 2 then .int .i64 c else if i = 3 then .int .i64 d else if i = 4 then .int .i64 e
  else if i < 69 then .int .i64 (f (i - 5)) else if i = 69 then m else if i = 70 then v else if i = 71 then .int .i64 n else p
theorem gc_last (a b c d e : Int) (f : Nat → Int) (m v : Value) (n : Int) (p : Value) {k : Nat} (h : k < 64) : gc a b c d e f m v n p (5 + k) = .int .i64 (f k) := by
  unfold gc
  rw [if_neg (by omega), if_neg (by omega), if_neg (by omega), if_neg (by omega), if_neg (by omega), if_pos (by omega), show 5 + k - 5 = k by omega]
theorem gc_setE (a b c d e e' : Int) (f : Nat → Int) (m v : Value) (n : Int) (p : Value) : (row (gc a b c d e f m v n p)).setIfInBounds 4 (.int .i64 e') = row (gc a b c d e' f m v n p) := by
  rw [row_set]
  refine row_congr fun k _ => ?_
  unfold gc
  by_cases h : k = 4 <;> simp [h]
theorem gc_setV (a b c d e : Int) (f : Nat → Int) (m v v' : Value) (n : Int) (p : Value) : (row (gc a b c d e f m v n p)).setIfInBounds 70 v' = row (gc a b c d e f m v' n p) := by
  rw [row_set]
  refine row_congr fun k _ => ?_
  unfold gc
  by_cases h : k = 70 <;> simp [h]
theorem gc_setN (a b c d e : Int) (f : Nat → Int) (m v : Value) (n n' : Int) (p : Value) : (row (gc a b c d e f m v n p)).setIfInBounds 71 (.int .i64 n') = row (gc a b c d e f m v n' p) := by
  rw [row_set]
  refine row_congr fun k _ => ?_
  unfold gc
  by_cases h : k = 71 <;> simp [h]
theorem gc_setL (a b c d e : Int) (f : Nat → Int) (m v : Value) (n : Int) (p : Value) {j : Nat} (hj : j < 64) (x : Int) : (row (gc a b c d e f m v n p)).setIfInBounds (5 + j) (.int .i64 x) = row (gc a b c d e (fun k => if k = j then x else f k) m v n p) := by
  rw [row_set]
  refine row_congr fun k _ => ?_
  by_cases h : k = 5 + j
  · subst h
    rw [if_pos rfl, gc_last _ _ _ _ _ _ _ _ _ _ hj, if_pos rfl]
  · rw [if_neg h]
    unfold gc
    repeat' split
    all_goals first
      | rfl
      | (rename_i h2 _; omega)
      | (have : ¬ k - 5 = j := by omega
         simp [this])
/-- A store's block. -/
def scs (s : Sto) (hb sd : Nat) (v : Value) (n : Int) : Array Value := row (gc s.self s.qh s.qb s.qg s.epoch s.last (.map (some hb)) v n (.pointer (some ⟨sd, 0, none⟩)))
def Box (w : World) (D : Nat) (s : Sto) (hb sd : Nat) (v : Value) (n : Int) : Prop := w.heap[D]? = some (.cells (scs s hb sd v n) 89 (0, 0))
section
variable {w w' : World} {D : Nat} {s : Sto} {hb sd : Nat} {v : Value} {n : Int}
theorem Box.cell (h : Box w D s hb sd v n) {i : Nat} (hi : i < 73) : w.cell? ⟨D, i, none⟩ = some (gc s.self s.qh s.qb s.qg s.epoch s.last (.map (some hb)) v n (.pointer (some ⟨sd, 0, none⟩)) i) := by
  rw [cell_of_row w D i _ _ (0, 0) h]
  exact row_at _ hi
theorem Box.self (h : Box w D s hb sd v n) : w.cell? ⟨D, 0, none⟩ = some (.int .i64 s.self) := h.cell (by omega)
theorem Box.qh (h : Box w D s hb sd v n) : w.cell? ⟨D, 1, none⟩ = some (.int .i64 s.qh) := h.cell (by omega)
theorem Box.qb (h : Box w D s hb sd v n) : w.cell? ⟨D, 2, none⟩ = some (.int .i64 s.qb) := h.cell (by omega)
theorem Box.epoch (h : Box w D s hb sd v n) : w.cell? ⟨D, 4, none⟩ = some (.int .i64 s.epoch) := h.cell (by omega)
theorem Box.last (h : Box w D s hb sd v n) {k : Nat} (hk : k < 64) : w.cell? ⟨D, 5 + k, none⟩ = some (.int .i64 (s.last k)) := by rw [h.cell (by omega), gc_last _ _ _ _ _ _ _ _ _ _ hk]
theorem Box.map (h : Box w D s hb sd v n) : w.cell? ⟨D, 69, none⟩ = some (.map (some hb)) := h.cell (by omega)
theorem Box.ord (h : Box w D s hb sd v n) : w.cell? ⟨D, 70, none⟩ = some v := h.cell (by omega)
theorem Box.byt (h : Box w D s hb sd v n) : w.cell? ⟨D, 71, none⟩ = some (.int .i64 n) := h.cell (by omega)
theorem Box.set (h : Box w D s hb sd v n) : w.cell? ⟨D, 72, none⟩ = some (.pointer (some ⟨sd, 0, none⟩)) := h.cell (by omega)
theorem Box.frozen (h : Box w D s hb sd v n) (i : Nat) : w.frozen? ⟨D, i, none⟩ = false := frozen_of_row w D i _ _ h
theorem Box.lt (h : Box w D s hb sd v n) : D < w.heap.size := (Array.getElem?_eq_some_iff.1 h).1
theorem Box.at_ (h : Box w D s hb sd v n) (hD : w'.heap[D]? = w.heap[D]?) : Box w' D s hb sd v n := hD.trans h
theorem Box.below (h : Box w D s hb sd v n) (hb' : Below w.heap.size w w') : Box w' D s hb sd v n := h.at_ (hb'.block _ h.lt)
theorem Box.setV (h : Box w D s hb sd v n) (v' : Value) : Box (w.setCell ⟨D, 70, none⟩ v') D s hb sd v' n := by
  unfold Box
  rw [heap_setCell_same w D 70 _ _ _ h]
  unfold scs
  rw [gc_setV]
theorem Box.setN (h : Box w D s hb sd v n) (n' : Int) : Box (w.setCell ⟨D, 71, none⟩ (.int .i64 n')) D s hb sd v n' := by
  unfold Box
  rw [heap_setCell_same w D 71 _ _ _ h]
  unfold scs
  rw [gc_setN]
theorem Box.setE (h : Box w D s hb sd v n) (e : Int) : Box (w.setCell ⟨D, 4, none⟩ (.int .i64 e)) D ⟨s.self, s.qh, s.qb, s.qg, e, s.last, s.held, s.seen⟩ hb sd v n := by
  unfold Box
  rw [heap_setCell_same w D 4 _ _ _ h]
  unfold scs
  rw [gc_setE]
theorem Box.setL (h : Box w D s hb sd v n) {j : Nat} (hj : j < 64) (x : Int) : Box (w.setCell ⟨D, 5 + j, none⟩ (.int .i64 x)) D ⟨s.self, s.qh, s.qb, s.qg, s.epoch, fun k => if k = j then x else s.last k, s.held, s.seen⟩ hb sd v n := by
  unfold Box
  rw [heap_setCell_same w D (5 + j) _ _ _ h]
  unfold scs
  rw [gc_setL _ _ _ _ _ _ _ _ _ _ hj]
end
/-- The store at D is s: its map's block, its set's two blocks, its list; data in blocks that bear E. -/
structure Sq (E : Nat → Prop) (w : World) (D hb sd sb m : Nat) (v : Value) (s : Sto) : Prop where
  box : Box w D s hb sd v (bytesOf s.held)
  map : Mp E w hb s.held.length (findH s.held)
  ord : Ki w 0 v (s.held.map It.i)
  set : Se.Set w true sd sb m s.seen
  ok : Ok s
  ne : hb ≠ sb
/-- The blocks that a store's calls turn. -/
def Chg (D hb sd sb : Nat) (v : Value) (k : Nat) : Prop := k = D ∨ k = hb ∨ k = sd ∨ k = sb ∨ v.ownBlock = some k
section
variable {E E' : Nat → Prop} {w w' : World} {D hb sd sb m : Nat} {v : Value} {s : Sto}
theorem Sq.lt (h : Sq E w D hb sd sb m v s) : ∀ k, Chg D hb sd sb v k → k < w.heap.size := by
  rintro k (rfl | rfl | rfl | rfl | e)
  · exact h.box.lt
  · exact h.map.lt
  · exact h.set.lt.1
  · exact h.set.lt.2
  · exact (Ki.lt h.ord e).2
theorem ki_at {B : Nat} {l : List Mg.Id4} (h : Ki w B v l) (hk : ∀ k, v.ownBlock = some k → w'.heap[k]? = w.heap[k]?) : Ki w' B v l := own_same h fun k e _ => hk k e
theorem Sq.keep (h : Sq E w D hb sd sb m v s) (hk : ∀ k, Chg D hb sd sb v k → w'.heap[k]? = w.heap[k]?) (hi : Se.Ints w w') (hu : U8s E w w') (hE : ∀ k, k < w.heap.size → E k → E' k) : Sq E' w' D hb sd sb m v s :=
  ⟨h.box.at_ (hk _ (.inl rfl)), h.map.keep (hk _ (.inr (.inl rfl))) hu hE, ki_at h.ord fun k e => hk k (.inr (.inr (.inr (.inr e)))), h.set.keep (hk _ (.inr (.inr (.inl rfl)))) (hk _ (.inr (.inr (.inr (.inl rfl))))) hi, h.ok, h.ne⟩
theorem Sq.below (h : Sq E w D hb sd sb m v s) (hb' : Below w.heap.size w w') : Sq E w' D hb sd sb m v s :=
  h.keep (fun k hk => hb'.block k (h.lt k hk)) (Se.Ints.below hb') (U8s.below hb') fun _ _ h => h
/-- It stays where no block of its own, none of ints and none of its data is turned. -/
theorem Sq.but {S : Nat → Prop} (h : Sq E w D hb sd sb m v s) (hb' : But S w w') (h1 : ∀ k, Chg D hb sd sb v k → ¬ S k) (h2 : ∀ (k : Nat) (cs : Array Value), S k → w.heap[k]? ≠ some (.cells cs 3 (0, 0))) (h3 : ∀ (k : Nat) (cs : Array Value), S k → E k → w.heap[k]? ≠ some (.cells cs 5 (0, 0))) : Sq E w' D hb sd sb m v s :=
  h.keep (fun k hk => hb'.same k (h.lt k hk) (h1 k hk)) (Se.Ints.but hb' fun k cs hk hs => h2 k cs hs hk) (U8s.but hb' fun k cs he hk hs => h3 k cs hs he hk) fun _ _ h => h
/-- The kinds of its blocks. -/
theorem Sq.kind (h : Sq E w D hb sd sb m v s) : (∃ cs, w.heap[D]? = some (.cells cs 89 (0, 0))) ∧ (∃ es c, w.heap[hb]? = some (.map es c)) ∧ (∃ cs, w.heap[sd]? = some (.cells cs 124 (0, 0))) ∧ (∃ es c, w.heap[sb]? = some (.map es c)) ∧ ∀ k, v.ownBlock = some k → ∃ cs, w.heap[k]? = some (.cells cs 28 (0, 0)) :=
  ⟨⟨_, h.box⟩, h.map.isMap, ⟨_, h.set.box⟩, h.set.map.isMap, own_type h.ord⟩
/-- None of them is one of ints or bytes. -/
theorem Sq.no8 (h : Sq E w D hb sd sb m v s) {k : Nat} (hk : Chg D hb sd sb v k) (cs : Array Value) : w.heap[k]? ≠ some (.cells cs 5 (0, 0)) ∧ w.heap[k]? ≠ some (.cells cs 3 (0, 0)) := by
  obtain ⟨⟨c1, h1⟩, ⟨e2, c2, h2⟩, ⟨c3, h3⟩, ⟨e4, c4, h4⟩, h5⟩ := h.kind
  rcases hk with rfl | rfl | rfl | rfl | e
  · rw [h1]; exact ⟨by simp, by simp⟩
  · rw [h2]; exact ⟨by simp, by simp⟩
  · rw [h3]; exact ⟨by simp, by simp⟩
  · rw [h4]; exact ⟨by simp, by simp⟩
  · obtain ⟨c5, h5⟩ := h5 k e
    rw [h5]; exact ⟨by simp, by simp⟩
/-- They are five. -/
theorem Sq.apart (h : Sq E w D hb sd sb m v s) : D ≠ hb ∧ D ≠ sd ∧ D ≠ sb ∧ hb ≠ sd ∧ hb ≠ sb ∧ sd ≠ sb ∧ ∀ k, v.ownBlock = some k → k ≠ D ∧ k ≠ hb ∧ k ≠ sd ∧ k ≠ sb := by
  obtain ⟨⟨c1, h1⟩, ⟨e2, c2, h2⟩, ⟨c3, h3⟩, ⟨e4, c4, h4⟩, h5⟩ := h.kind
  refine ⟨?_, ?_, ?_, ?_, h.ne, ?_, fun k e => ?_⟩
  · rintro rfl; rw [h1] at h2; cases h2
  · rintro rfl; rw [h1] at h3; simp at h3
  · rintro rfl; rw [h1] at h4; cases h4
  · rintro rfl; rw [h2] at h3; cases h3
  · rintro rfl; rw [h3] at h4; cases h4
  · obtain ⟨c5, h5⟩ := h5 k e
    refine ⟨?_, ?_, ?_, ?_⟩
    · rintro rfl; rw [h1] at h5; simp at h5
    · rintro rfl; rw [h2] at h5; cases h5
    · rintro rfl; rw [h3] at h5; simp at h5
    · rintro rfl; rw [h4] at h5; cases h5
end
end Go.Proofs.Ytpofdimagfldnaa.So
