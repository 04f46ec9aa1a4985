/- The document's Find, of a store. -/
import Derived.Test.YtfnlhfelpdkieaaGreatZ28
namespace Go.Proofs.YtfnlhfelpdkieaaGreat.So
open Go.RowKit Go.Deep
open Go.Proofs.YtfnlhfelpdkieaaGreat.Me Go.Proofs.YtfnlhfelpdkieaaGreat.Sb
set_option linter.unusedVariables false
set_option linter.unusedSimpArgs false

theorem find_at {P : List Pq} {i : Mg.Id4} : ∀ {j : Nat} {q : Pq}, (∀ (k : Nat) (q : Pq), k < j → P[k]? = some q → q.x.i ≠ i) → P[j]? = some q → q.x.i = i → findH (P.map Pq.x) i = some q.x.p := by
  induction P with
  | nil => intro j q _ h; simp at h
  | cons x r ih =>
    intro j q hn h hq
    show findH (x.x :: r.map Pq.x) i = _
    unfold findH
    cases j with
    | zero =>
      obtain rfl : x = q := by simpa using h
      rw [if_pos hq]
    | succ j =>
      rw [if_neg (hn 0 x (by omega) (by simp))]
      exact ih (j := j) (q := q) (fun k q' hk hq' => hn (k + 1) q' (Nat.succ_lt_succ hk) (by simpa using hq')) (by simpa using h) hq
theorem find_no {P : List Pq} {i : Mg.Id4} {j : Nat} (h : ∀ (k : Nat) (q : Pq), k < j → P[k]? = some q → q.x.i ≠ i) (hj : P.length ≤ j) : findH (P.map Pq.x) i = none := by
  rw [findH_none]
  intro hm
  rw [List.map_map] at hm
  obtain ⟨q, hq, e⟩ := List.mem_map.1 hm
  obtain ⟨k, hk⟩ := List.getElem?_of_mem hq
  have := (List.getElem?_eq_some_iff.1 hk).1
  exact h k q (by omega) hk e
/-- What holds over Find: the world below, the copies of what was given. -/
structure An (w : World) (C I : Array Value) (W : World) : Prop where
  below : Below w.heap.size w W
  st : W.heap[w.heap.size]? = some (.cells C 37 (0, 0))
  id : W.heap[w.heap.size + 1]? = some (.cells I 43 (0, 0))
  res : W.heap[w.heap.size + 1 + 1]? = some (.cells #[.int .i64 0, .int .i64 0, .int .i64 0, .int .i64 0, .slice none 0 0] 46 (0, 0))
theorem An.go {w : World} {C I : Array Value} {W W' : World} (h : An w C I W) (hb : Below W.heap.size W W') : An w C I W' :=
  ⟨go_on h.below hb, (hb.block _ (Array.getElem?_eq_some_iff.1 h.st).1).trans h.st, (hb.block _ (Array.getElem?_eq_some_iff.1 h.id).1).trans h.id, (hb.block _ (Array.getElem?_eq_some_iff.1 h.res).1).trans h.res⟩
theorem An.start (w : World) (C I : Array Value) : ∃ W3, ((w.alloc (.cells C 37)).alloc (.cells I 43)).alloc (.cells #[.int .i64 0, .int .i64 0, .int .i64 0, .int .i64 0, .slice none 0 0] 46) = W3 ∧ An w C I W3 := by
  obtain ⟨hB, hY, hX⟩ := two_new w C I 37 43
  obtain ⟨W2, hW2⟩ : ∃ W, (w.alloc (.cells C 37)).alloc (.cells I 43) = W := ⟨_, rfl⟩
  have z2 : W2.heap.size = w.heap.size + 1 + 1 := by rw [← hW2]; simp
  rw [hW2] at hB hY hX
  rw [hW2]
  have hb : Below W2.heap.size W2 (W2.alloc (.cells #[.int .i64 0, .int .i64 0, .int .i64 0, .int .i64 0, .slice none 0 0] 46)) := Me.below_alloc (Below.refl _ _)
  refine ⟨_, rfl, ⟨go_on hB hb, (hb.block _ (Array.getElem?_eq_some_iff.1 hX).1).trans hX, (hb.block _ (Array.getElem?_eq_some_iff.1 hY).1).trans hY, ?_⟩⟩
  rw [← z2]
  exact heap_alloc_new W2 _
theorem An.drewN {w : World} {C I : Array Value} {W : World} (h : An w C I W) (n : Nat) : An w C I (W.drewN n) := h.go (Me.below_drewN (Below.refl _ _) n)
theorem An.end {w : World} {C I : Array Value} {W : World} (h : An w C I W) (cs : Array Value) : Below w.heap.size w (W.setRow (w.heap.size + 1 + 1) cs) := Sb.below_setRow _ h.below (by omega)
theorem msg_one5' (o d e c : Int) (A : Option Addr) (n k : Nat) : (#[.int .i64 o, .int .i64 d, .int .i64 e, .int .i64 c, .slice A n k] : Array Value).all (·.oneCell') = true := by simp [Value.oneCell']
def RfndP (w : World) (held : List It) (i : Mg.Id4) (e : Ending) (w' : World) : Prop :=
  Hid (Below w.heap.size w w') ∧ ((findH held i = none ∧ e = .returned (.tuple #[.agg (Mg.msgC zeroI none 0 0), .bool false])) ∨ ∃ q : Pq, findH held i = some q.x.p ∧ e = .returned (.tuple #[.agg (Mg.msgC i q.A q.x.p.length q.c), .bool true]) ∧ Hid (Me.Own w' 0 q.v q.x.p))
end Go.Proofs.YtfnlhfelpdkieaaGreat.So
