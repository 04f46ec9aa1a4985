/- A receiver in memory: its block, its map; its small calls. -/
import Derived.Test.YtnfjfcoonabmmaaRvMem
import Derived.Test.YtnfjfcoonabmmaaRvDef
namespace Go.Proofs.Ytnfjfcoonabmmaa.Rv
open Go.RowKit
open Go.Proofs.Ytnfjfcoonabmmaa.Me Go.Proofs.Ytnfjfcoonabmmaa.Hd Go.Proofs.Ytnfjfcoonabmmaa.Sn
set_option linter.unusedVariables false
set_option linter.unusedSimpArgs false

def rcs (r : Rcv) (mb : Nat) : Array Value := ([Value.int .i64 (r.size : Int), Value.int .i64 (r.waits : Int), Value.map (some mb)] ++ (List.range 128).map (fun i => Value.bool (r.asked i))).toArray
theorem rcs_size (r : Rcv) (mb : Nat) : (rcs r mb).size = 131 := by simp [rcs]
theorem rcs_ask (r : Rcv) (mb : Nat) {i : Nat} (h : i < 128) : (rcs r mb)[3 + i]? = some (.bool (r.asked i)) := by
  unfold rcs
  rw [List.getElem?_toArray, List.getElem?_append_right (by simp)]
  simp [h]
theorem rcs_setW (r : Rcv) (mb m : Nat) : (rcs r mb).setIfInBounds 1 (.int .i64 (m : Int)) = rcs ⟨r.size, m, r.kept, r.asked⟩ mb := by simp [rcs]
theorem rcs_setA (r : Rcv) (mb : Nat) {n : Nat} (hn : n < 128) (b : Bool) : (rcs r mb).setIfInBounds (3 + n) (.bool b) = rcs ⟨r.size, r.waits, r.kept, fun k => if k = n then b else r.asked k⟩ mb := by
  apply Array.ext_getElem?
  intro i
  rw [Array.getElem?_setIfInBounds, rcs_size]
  by_cases h3 : i < 3
  · rw [if_neg (by omega)]
    match i, h3 with
    | 0, _ => rfl
    | 1, _ => rfl
    | 2, _ => rfl
  · obtain ⟨j, rfl⟩ : ∃ j, i = 3 + j := ⟨i - 3, by omega⟩
    by_cases hj : j < 128
    · rw [rcs_ask _ _ hj, rcs_ask _ _ hj]
      by_cases e : n = j
      · subst e
        rw [if_pos rfl, if_pos (by omega)]
        simp
      · rw [if_neg (by omega)]
        simp only [if_neg (fun h : j = n => e h.symm)]
    · rw [if_neg (by omega), Array.getElem?_eq_none (by rw [rcs_size]; omega), Array.getElem?_eq_none (by rw [rcs_size]; omega)]
/-- Block D is the receiver r, block mb its map; the kept payloads lie in blocks that bear E. -/
structure Rq (E : Nat → Prop) (w : World) (D mb : Nat) (r : Rcv) : Prop where
  blk : w.heap[D]? = some (.cells (rcs r mb) 57 (0, 0))
  mp : Mp E w mb r.kept
  nD : ¬ E D
  nm : ¬ E mb
section
variable {E : Nat → Prop} {w w' : World} {D mb : Nat} {r : Rcv}
theorem Rq.lt (h : Rq E w D mb r) : D < w.heap.size := (Array.getElem?_eq_some_iff.1 h.blk).1
theorem Rq.ltm (h : Rq E w D mb r) : mb < w.heap.size := h.mp.lt
theorem Rq.ne (h : Rq E w D mb r) : D ≠ mb := fun e => by
  obtain ⟨es, c, hm⟩ := h.mp.isMap
  have := h.blk
  rw [e, hm] at this
  cases this
theorem Rq.c0 (h : Rq E w D mb r) : w.cell? ⟨D, 0, none⟩ = some (.int .i64 (r.size : Int)) := cell_of_row w D 0 _ _ (0, 0) h.blk
theorem Rq.c1 (h : Rq E w D mb r) : w.cell? ⟨D, 1, none⟩ = some (.int .i64 (r.waits : Int)) := cell_of_row w D 1 _ _ (0, 0) h.blk
theorem Rq.c2 (h : Rq E w D mb r) : w.cell? ⟨D, 2, none⟩ = some (.map (some mb)) := cell_of_row w D 2 _ _ (0, 0) h.blk
theorem Rq.ca (h : Rq E w D mb r) {i : Nat} (hi : i < 128) : w.cell? ⟨D, 3 + i, none⟩ = some (.bool (r.asked i)) := by
  rw [cell_of_row w D (3 + i) _ _ (0, 0) h.blk, rcs_ask _ _ hi]
theorem Rq.frozen (h : Rq E w D mb r) (i : Nat) : w.frozen? ⟨D, i, none⟩ = false := frozen_of_row w D i _ _ h.blk
theorem Rq.kept' {E' : Nat → Prop} (h : Rq E w D mb r) (h1 : w'.heap[D]? = w.heap[D]?) (h2 : w'.heap[mb]? = w.heap[mb]?) (h3 : ∀ k cs, E k → w.heap[k]? = some (.cells cs 5 (0, 0)) → w'.heap[k]? = w.heap[k]? ∧ E' k) (n1 : ¬ E' D) (n2 : ¬ E' mb) : Rq E' w' D mb r :=
  ⟨h1.trans h.blk, h.mp.kept h2 h3, n1, n2⟩
theorem Rq.but {S : Nat → Prop} (h : Rq E w D mb r) (hb : But S w w') (h1 : ¬ S D) (h2 : ¬ S mb) (h3 : ∀ k, E k → ¬ S k) : Rq E w' D mb r :=
  h.kept' (hb.same D h.lt h1) (hb.same mb h.ltm h2) (fun k cs he hc => ⟨hb.same k (Array.getElem?_eq_some_iff.1 hc).1 (h3 k he), he⟩) h.nD h.nm
theorem Rq.below (h : Rq E w D mb r) (hb : Below w.heap.size w w') : Rq E w' D mb r := h.but (S := fun _ => False) (But.of_below hb) id id fun _ _ => id
theorem Rq.mono {E' : Nat → Prop} (h : Rq E w D mb r) (hE : ∀ k, k < w.heap.size → E k → E' k) (n1 : ¬ E' D) (n2 : ¬ E' mb) : Rq E' w D mb r :=
  h.kept' rfl rfl (fun k cs he hc => ⟨rfl, hE k (Array.getElem?_eq_some_iff.1 hc).1 he⟩) n1 n2
/-- Behind a turn of its map. -/
theorem Rq.map {kept : Nat → Option (List Nat)} (h : Rq E w D mb r) (hm : Mp E w' mb kept) (hb : But (fun k => k = mb) w w') : Rq E w' D mb ⟨r.size, r.waits, kept, r.asked⟩ :=
  ⟨(hb.same D h.lt h.ne).trans h.blk, hm, h.nD, h.nm⟩
theorem mp_set (h : Rq E w D mb r) (i : Nat) (v : Value) : Mp E (w.setCell ⟨D, i, none⟩ v) mb r.kept :=
  h.mp.kept (Below.heap_setCell w ⟨D, i, none⟩ v mb fun e => h.ne e.symm) fun k cs he hc => ⟨Below.heap_setCell w ⟨D, i, none⟩ v k fun e => h.nD (by simp only at e; exact e ▸ he), he⟩
theorem Rq.setW (h : Rq E w D mb r) (m : Nat) : Rq E (w.setCell ⟨D, 1, none⟩ (.int .i64 (m : Int))) D mb ⟨r.size, m, r.kept, r.asked⟩ :=
  ⟨by rw [heap_setCell_same w D 1 _ _ _ h.blk, rcs_setW], mp_set h _ _, h.nD, h.nm⟩
theorem Rq.setA (h : Rq E w D mb r) {n : Nat} (hn : n < 128) (b : Bool) : Rq E (w.setCell ⟨D, 3 + n, none⟩ (.bool b)) D mb ⟨r.size, r.waits, r.kept, fun k => if k = n then b else r.asked k⟩ :=
  ⟨by rw [heap_setCell_same w D (3 + n) _ _ _ h.blk, rcs_setA _ _ hn], mp_set h _ _, h.nD, h.nm⟩
end
theorem Waits_any {E : Nat → Prop} (w : World) (D mb : Nat) (r : Rcv) (h : Hid (Rq E w D mb r)) : Calls Try.prog 23 #[.pointer (some ⟨D, 0, none⟩)] w fun e w' => e = .returned (.int .i64 (r.waits : Int)) ∧ w = w' := by
  have c1 := h.out.c1
  go_enter Try.func23, Try.ntmps23
  go_wp2
  go_ret
  exact ⟨rfl, rfl⟩
theorem Waits_nil (w : World) : Calls Try.prog 23 #[.pointer none] w fun e w' => e = .returned (.int .i64 0) ∧ w = w' := by
  go_enter Try.func23, Try.ntmps23
  go_wp2
  go_ret
  exact ⟨rfl, rfl⟩
theorem Kept_nil (w : World) : Calls Try.prog 20 #[.pointer none] w fun e w' => e = .returned (.slice none 0 0) ∧ w = w' := by
  go_enter Try.func20, Try.ntmps20
  go_wp2
  go_ret
  exact ⟨rfl, rfl⟩
theorem Missing_nil (w : World) : Calls Try.prog 10 #[.pointer none] w fun e w' => e = .returned (.slice none 0 0) ∧ w = w' := by
  have HK := Lib.hid Kept_nil
  go_enter Try.func10, Try.ntmps10
  go_wp2_with (go_at_call 20; refine (HK.out _).mono ?_; rintro e w' ⟨rfl, rfl⟩)
  go_ret
  exact ⟨rfl, rfl⟩
theorem Forget_nil (w : World) : Calls Try.prog 21 #[.pointer none] w fun e w' => (∃ v, e = .returned v) ∧ w = w' := by
  go_enter Try.func21, Try.ntmps21
  go_wp2
  refine bodyPost_ret (results_none rfl _ _ _) rfl ?_
  exact ⟨⟨_, rfl⟩, rfl⟩
theorem Reset_nil (w : World) : Calls Try.prog 22 #[.pointer none] w fun e w' => (∃ v, e = .returned v) ∧ w = w' := by
  go_enter Try.func22, Try.ntmps22
  go_wp2
  refine bodyPost_ret (results_none rfl _ _ _) rfl ?_
  exact ⟨⟨_, rfl⟩, rfl⟩
theorem New_bad (n : Int) (h : n < 1 ∨ 63 < n) (w : World) : Calls Try.prog 7 #[.int .i64 n] w fun e w' => e = .returned (.tuple #[.pointer none, .int .i64 1]) ∧ w = w' := by
  by_cases h1 : n < 1
  · go_enter Try.func7, Try.ntmps7
    go_wp2
    go_returns
    exact ⟨rfl, rfl⟩
  · have h2 : 63 < n := by omega
    go_enter Try.func7, Try.ntmps7
    go_wp2
    go_returns
    exact ⟨rfl, rfl⟩
end Go.Proofs.Ytnfjfcoonabmmaa.Rv
