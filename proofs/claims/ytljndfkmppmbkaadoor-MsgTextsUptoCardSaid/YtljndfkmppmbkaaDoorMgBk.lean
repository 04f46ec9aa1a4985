/- There and back, as plain data. -/
import Derived.Test.YtljndfkmppmbkaaDoorMgGets
import Derived.Test.YtljndfkmppmbkaaDoorMgParse
namespace Go.Proofs.YtljndfkmppmbkaaDoor.Mg
open Go.RowKit
open Go.Proofs.YtljndfkmppmbkaaDoor.Me Go.Proofs.YtljndfkmppmbkaaDoor.Ba Go.Proofs.YtljndfkmppmbkaaDoor.Ma Go.Proofs.YtljndfkmppmbkaaDoor.Bt
set_option linter.unusedVariables false
set_option linter.unusedSimpArgs false

theorem idOf_idL {i : Id4} (h : Right i) : idOf (idL i) = i := by
  obtain ⟨h1, h2, h3, h4, h5, h6, h7, h8, _⟩ := h
  obtain ⟨o, d, e, c⟩ := i
  simp only at h1 h2 h3 h4 h5 h6 h7 h8
  rw [idL_six]
  simp only [idOf, numP, num, List.drop_zero, List.drop_succ_cons, List.take_succ_cons, List.take_zero, List.foldl_cons, List.foldl_nil]
  congr 1
  all_goals omega
theorem six {l : List Nat} (h : l.length = 6) : ∃ a b c d e f, l = [a, b, c, d, e, f] := by
  match l, h with
  | [a, b, c, d, e, f], _ => exact ⟨a, b, c, d, e, f, rfl⟩
theorem idL_idOf {l : List Nat} (h : l.length = 6) (hz : ∀ z ∈ l, z < 256) : idL (idOf l) = l := by
  obtain ⟨a, b, c, d, e, f, rfl⟩ := six h
  simp only [List.mem_cons, List.not_mem_nil, or_false, forall_eq_or_imp, forall_eq] at hz
  obtain ⟨h1, h2, h3, h4, h5, h6⟩ := hz
  rw [idL_six]
  simp only [idOf, numP, num, List.drop_zero, List.drop_succ_cons, List.take_succ_cons, List.take_zero, List.foldl_cons, List.foldl_nil, Int.toNat_natCast]
  simp only [List.cons.injEq, and_true]
  omega
theorem put_get {i : Id4} {l : List Nat} (h : msgN i l.length = 0) : mI (idL i ++ l) = i ∧ mD (idL i ++ l) = l ∧ mZ (idL i ++ l) = 0 := by
  obtain ⟨hr, h1, h2⟩ := msgN_zero h
  have e1 : (idL i ++ l).take 6 = idL i := List.take_left' (idL_len i)
  have e2 : (idL i ++ l).drop 6 = l := List.drop_left' (idL_len i)
  have hl := idL_len i
  have hm : mgO (idL i ++ l) := ⟨by rw [List.length_append]; omega, by rw [List.length_append]; omega, by rw [e1, idOf_idL hr]; exact right_iff.2 hr⟩
  unfold mI mD mZ
  rw [if_pos hm, if_pos hm, if_pos hm, e1, e2]
  exact ⟨idOf_idL hr, rfl, rfl⟩
theorem get_put {l : List Nat} (hz : ∀ z ∈ l, z < 256) (h : mZ l = 0) : msgN (mI l) (mD l).length = 0 ∧ idL (mI l) ++ mD l = l := by
  have hm : mgO l := by
    apply Classical.byContradiction
    intro hn
    unfold mZ at h
    rw [if_neg hn] at h
    cases h
  unfold mI mD
  rw [if_pos hm, if_pos hm]
  obtain ⟨h1, h2, h3⟩ := hm
  refine ⟨?_, ?_⟩
  · unfold msgN
    rw [h3, if_neg (by simp), if_neg (by simp; omega), if_neg (by simp; omega)]
  · rw [idL_idOf (by simp; omega) fun z hz' => hz z (List.mem_of_mem_take hz')]
    exact List.take_append_drop 6 l
theorem ps_zero {s : List UInt8} (h : psZ s = 0) : Right (psI s) ∧ txK (psI s) 4 = s := by
  have : psO s := by
    apply Classical.byContradiction
    intro hn
    unfold psZ at h
    rw [if_neg hn] at h
    cases h
  exact ⟨(ps_ok this).1, (ps_ok this).2.1⟩
end Go.Proofs.YtljndfkmppmbkaaDoor.Mg
