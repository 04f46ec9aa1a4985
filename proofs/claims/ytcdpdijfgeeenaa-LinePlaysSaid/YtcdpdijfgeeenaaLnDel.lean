/- What is deleted out of a slice of one's own. -/
import Derived.Test.YtcdpdijfgeeenaaLnDef
import Derived.Test.YtcdpdijfgeeenaaLayD
import Derived.Deep.RegionHeld
namespace Go.Proofs.Ytcdpdijfgeeenaa.Li
open Go.RowKit Go.Sort
open Go.Proofs.Ytcdpdijfgeeenaa.Sb
set_option linter.unusedVariables false
set_option linter.unusedSimpArgs false

theorem take_put {α : Type} [Inhabited α] (enc : α → Value) (cur : Array Value) (l : List α) (m : Nat) (hm : m ≤ l.length) (hl : l.length ≤ cur.size) : (putCells enc 0 l.toArray cur).toList.take m = (l.take m).map enc := by
  apply List.ext_getElem?
  intro k
  by_cases hk : k < m
  · rw [List.getElem?_take_of_lt hk, List.getElem?_map, List.getElem?_take_of_lt hk, Array.getElem?_toList]
    have h1 : k < l.length := by omega
    have h2 : k < cur.size := by omega
    simp [putCells, h1, h2]
  · rw [List.getElem?_eq_none (by simp; omega), List.getElem?_eq_none (by simp; omega)]
theorem del_own {α : Type} [Inhabited α] (enc : α → Value) (zr : α) {w : World} {g cap q i j : Nat} {cur : Array Value} {T : TypeId} {l : List α} (hb : w.heap[g]? = some (.cells cur T (0, 0))) (hl : l.length ≤ cap) (hm : cap ≤ maxLen) (hs : cur.size = cap * 1) (hij : i ≤ j) (hj : j ≤ l.length) :
    (putRow enc (Sort.ahead w q) g 0 (l.take i ++ l.drop j ++ List.replicate (j - i) zr).toArray).ownsRow 0 T 1 (.slice (some ⟨g, 0, none⟩) (l.length - (j - i)) cap) (l.length - (j - i)) ((l.take i ++ l.drop j).map enc) ∧
    w.grownBy (putRow enc (Sort.ahead w q) g 0 (l.take i ++ l.drop j ++ List.replicate (j - i) zr).toArray) (some g) := by
  have hg : g < w.heap.size := (Array.getElem?_eq_some_iff.1 hb).1
  have hlen : (l.take i ++ l.drop j).length = l.length - (j - i) := by simp; omega
  have hlen2 : (l.take i ++ l.drop j ++ List.replicate (j - i) zr).length = l.length := by rw [List.length_append, hlen, List.length_replicate]; omega
  refine ⟨⟨by rw [List.length_map, hlen]; omega, .inr ⟨g, cap, putCells enc 0 (l.take i ++ l.drop j ++ List.replicate (j - i) zr).toArray cur, rfl, Nat.zero_le _, ?_, by omega, hm, by simp [putCells, hs], ?_⟩⟩, ⟨rfl, rfl, rfl, ?_, fun k hk hne => ?_⟩⟩
  · simp [putRow, mapBlock, Sort.ahead, Array.getElem?_modify, hb, onCells]
  · rw [Nat.mul_one, take_put enc cur _ _ (by rw [hlen2]; omega) (by rw [hlen2, hs]; omega)]
    rw [List.take_left' hlen]
  · simp [putRow, mapBlock, Sort.ahead]
  · have : g ≠ k := fun e => hne (by rw [e])
    simp [putRow, mapBlock, Sort.ahead, Array.getElem?_modify, this]
theorem holds_own {α : Type} [Inhabited α] (enc : α → Value) {w : World} {g : Nat} {cur : Array Value} {e : TypeId} {ss : List α} (hb : w.heap[g]? = some (.cells cur e (0, 0))) (ht : cur.toList.take ss.length = ss.map enc) : Holds enc w g 0 ss.toArray := by
  intro j hj
  have hj' : j < ss.length := by simpa using hj
  refine ⟨?_, by simp [World.frozen?, hb]⟩
  have h1 : (cur.toList.take ss.length)[j]? = (ss.map enc)[j]? := by rw [ht]
  rw [List.getElem?_take_of_lt hj'] at h1
  simp only [World.cell?, hb, Nat.zero_add]
  simp only [Option.isSome_none, Bool.false_eq_true, if_false]
  rw [← Array.getElem?_toList, h1]
  simp [hj']
theorem DelB_none (w : World) : Calls Try.prog 32 #[.slice none 0 0, .int .i64 0, .int .i64 0] w fun e w' => e = .returned (.slice none 0 0) ∧ w = w' := by
  go_enter Try.func32, Try.ntmps32
  go_wp2
  go_ret
  exact ⟨rfl, rfl⟩
theorem DelI_none (w : World) : Calls Try.prog 33 #[.slice none 0 0, .int .i64 0, .int .i64 0] w fun e w' => e = .returned (.slice none 0 0) ∧ w = w' := by
  go_enter Try.func33, Try.ntmps33
  go_wp2
  go_ret
  exact ⟨rfl, rfl⟩
/-- slices.Delete at bytes of one's own: what is left, in its old block. -/
theorem Del_b (w : World) (v : Value) (l : List Nat) (h : Me.Own w 0 v l) (i j : Nat) (hij : i ≤ j) (hj : j ≤ l.length) :
    Calls Try.prog 32 #[v, .int .i64 (i : Int), .int .i64 (j : Int)] w fun e w' => ∃ v', e = .returned v' ∧ Hid (Me.Own w' 0 v' (l.take i ++ l.drop j)) ∧ Hid (w.grownBy w' v.ownBlock) ∧ Hid (v'.ownBlock = v.ownBlock) := by
  rcases h.2 with ⟨rfl, h2⟩ | ⟨g, cap, cur, rfl, q1, q2, q3, q4, q5, q6⟩
  · obtain rfl := List.eq_nil_of_length_eq_zero h2
    have : j = 0 := by simpa using hj
    subst this
    have : i = 0 := by omega
    subst this
    refine (DelB_none w).mono ?_
    rintro e w' ⟨rfl, rfl⟩
    exact ⟨_, rfl, Me.Own.nil _ _, ⟨rfl, rfl, rfl, Nat.le_refl _, fun _ _ _ => rfl⟩, rfl⟩
  · have ht : cur.toList.take l.length = l.map Me.byV := by rw [← q6, Nat.mul_one]
    have hH := holds_own Me.byV q2 ht
    refine (AnyE.slices_Delete Try.delB_ Me.byV (fun _ => rfl) 0 Try.zeroValue5 ((Try.prog.info? 5).get (by kernel_rfl)) (by kernel_rfl) (by kernel_rfl) g 0 cap i j l.toArray w hH (by simpa using q3) (by unfold maxLen at q4; omega) hij (by simpa using hj)).mono ?_
    rintro e w' ⟨rfl, q, rfl⟩
    obtain ⟨d1, d2⟩ := del_own Me.byV 0 (q := q) q2 q3 q4 q5 hij hj
    have e1 : (l.take i ++ l.drop j).length = l.length - (j - i) := by simp; omega
    refine ⟨_, rfl, ?_, d2, rfl⟩
    show World.ownsRow _ 0 5 1 _ (l.take i ++ l.drop j).length _
    rw [e1]
    exact d1
/-- .. at numbers. -/
theorem Del_i (w : World) (v : Value) (l : List Int) (h : Mi.Own w 0 v l) (i j : Nat) (hij : i ≤ j) (hj : j ≤ l.length) :
    Calls Try.prog 33 #[v, .int .i64 (i : Int), .int .i64 (j : Int)] w fun e w' => ∃ v', e = .returned v' ∧ Hid (Mi.Own w' 0 v' (l.take i ++ l.drop j)) ∧ Hid (w.grownBy w' v.ownBlock) ∧ Hid (v'.ownBlock = v.ownBlock) := by
  rcases h.2 with ⟨rfl, h2⟩ | ⟨g, cap, cur, rfl, q1, q2, q3, q4, q5, q6⟩
  · obtain rfl := List.eq_nil_of_length_eq_zero h2
    have : j = 0 := by simpa using hj
    subst this
    have : i = 0 := by omega
    subst this
    refine (DelI_none w).mono ?_
    rintro e w' ⟨rfl, rfl⟩
    exact ⟨_, rfl, Mi.Own.nil _ _, ⟨rfl, rfl, rfl, Nat.le_refl _, fun _ _ _ => rfl⟩, rfl⟩
  · have ht : cur.toList.take l.length = l.map Mi.iV := by rw [← q6, Nat.mul_one]
    have hH := holds_own Mi.iV q2 ht
    refine (AnyE.slices_Delete Try.delI_ Mi.iV (fun _ => rfl) 0 Try.zeroValue3 ((Try.prog.info? 3).get (by kernel_rfl)) (by kernel_rfl) (by kernel_rfl) g 0 cap i j l.toArray w hH (by simpa using q3) (by unfold maxLen at q4; omega) hij (by simpa using hj)).mono ?_
    rintro e w' ⟨rfl, q, rfl⟩
    obtain ⟨d1, d2⟩ := del_own Mi.iV 0 (q := q) q2 q3 q4 q5 hij hj
    have e1 : (l.take i ++ l.drop j).length = l.length - (j - i) := by simp; omega
    refine ⟨_, rfl, ?_, d2, rfl⟩
    show World.ownsRow _ 0 3 1 _ (l.take i ++ l.drop j).length _
    rw [e1]
    exact d1
end Go.Proofs.Ytcdpdijfgeeenaa.Li
