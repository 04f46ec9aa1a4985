/- What a line holds that gets one part each tick: pure. -/
import Derived.Test.YtcdpdijfgeeenaaLnFunB
import Derived.Test.YtcdpdijfgeeenaaRows2
namespace Go.Proofs.Ytcdpdijfgeeenaa.Li
open Go.RowKit
open Go.Proofs.Ytcdpdijfgeeenaa.Sb
set_option linter.unusedVariables false
set_option linter.unusedSimpArgs false

/-- The bytes of the first t parts. -/
def flat (P : List (List Nat)) (t : Nat) : List Nat := (P.take t).flatten
def tot (P : List (List Nat)) (t : Nat) : Nat := (flat P t).length
/-- When the bytes of the first n parts are due. -/
def dn (P : List (List Nat)) (d : Nat) : Nat → List Int
  | 0 => []
  | n + 1 => dn P d n ++ List.replicate (Me.lsAt P n).length ((n + d : Nat) : Int)
theorem flat_succ (P : List (List Nat)) (t : Nat) : flat P (t + 1) = flat P t ++ Me.lsAt P t := by
  unfold flat
  rw [List.take_add_one, List.flatten_append]
  cases h : P[t]? with
  | none => simp [Me.lsAt, h]
  | some x => simp [Me.lsAt, h]
theorem tot_succ (P : List (List Nat)) (t : Nat) : tot P (t + 1) = tot P t + (Me.lsAt P t).length := by unfold tot; rw [flat_succ, List.length_append]
theorem tot_mono (P : List (List Nat)) {s t : Nat} (h : s ≤ t) : tot P s ≤ tot P t := by
  induction h with
  | refl => exact Nat.le_refl _
  | step _ ih => rw [tot_succ]; omega
theorem flat_pre (P : List (List Nat)) : ∀ (s r : Nat), flat P s = (flat P (s + r)).take (tot P s)
  | s, 0 => by unfold tot; rw [Nat.add_zero, List.take_length]
  | s, r + 1 => by
    have ih := flat_pre P s r
    have h1 : tot P s ≤ tot P (s + r) := tot_mono P (by omega)
    rw [show s + (r + 1) = (s + r) + 1 by omega, flat_succ, List.take_append_of_le_length (by unfold tot at h1; exact h1)]
    exact ih
theorem flat_take (P : List (List Nat)) {s t : Nat} (h : s ≤ t) : flat P s = (flat P t).take (tot P s) := by
  have := flat_pre P s (t - s)
  rwa [show s + (t - s) = t by omega] at this
theorem dn_len (P : List (List Nat)) (d : Nat) : ∀ n, (dn P d n).length = tot P n
  | 0 => by simp [dn, tot, flat]
  | n + 1 => by rw [dn, List.length_append, dn_len P d n, List.length_replicate, tot_succ]
theorem at_append_left {X Y : List Int} {q : Nat} (h : q < X.length) : Mi.at_ (X ++ Y) q = Mi.at_ X q := by simp [Mi.at_, List.getElem?_append_left h]
theorem at_append_right {X Y : List Int} {q : Nat} (h : X.length ≤ q) : Mi.at_ (X ++ Y) q = Mi.at_ Y (q - X.length) := by simp [Mi.at_, List.getElem?_append_right h]
theorem dn_at (P : List (List Nat)) (d i : Nat) : ∀ (n q : Nat), q < tot P n → (Mi.at_ (dn P d n) q ≤ (i : Int) ↔ q < tot P (i + 1 - d))
  | 0, q, h => by simp [tot, flat] at h
  | n + 1, q, h => by
    rw [tot_succ] at h
    rw [dn]
    by_cases hq : q < tot P n
    · rw [at_append_left (by rw [dn_len]; exact hq)]
      exact dn_at P d i n q hq
    · rw [at_append_right (by rw [dn_len]; omega), dn_len]
      have e : Mi.at_ (List.replicate (Me.lsAt P n).length ((n + d : Nat) : Int)) (q - tot P n) = ((n + d : Nat) : Int) := by
        simp only [Mi.at_, List.getD_eq_getElem?_getD, List.getElem?_replicate]
        rw [if_pos (by omega)]
        rfl
      rw [e]
      constructor
      · intro h1
        have h2 := tot_mono P (show n + 1 ≤ i + 1 - d by omega)
        rw [tot_succ] at h2
        omega
      · intro h1
        apply Classical.byContradiction
        intro hc
        have h2 := tot_mono P (show i + 1 - d ≤ n by omega)
        omega
theorem tw_count (p : Int) (L : List Int) (m : Nat) (hm : m ≤ L.length) (h : ∀ q, q < L.length → (Mi.at_ L q ≤ p ↔ q < m)) : (L.takeWhile fun d => decide (d ≤ p)).length = m := by
  obtain ⟨c, hc⟩ : ∃ c, (L.takeWhile fun d => decide (d ≤ p)).length = c := ⟨_, rfl⟩
  have h1 := tw_lt p L
  have h2 := tw_end p L
  have h3 : (L.takeWhile fun d => decide (d ≤ p)).length ≤ L.length := List.IsPrefix.length_le (List.takeWhile_prefix _)
  rw [hc] at h1 h2 h3 ⊢
  apply Classical.byContradiction
  intro hne
  by_cases hlt : c < m
  · exact h2 (by omega) ((h c (by omega)).2 hlt)
  · have := (h m (by omega)).1 (h1 m (by omega))
    omega
/-- The line between two rounds: i parts were put in, those that are due came out. -/
def sW (P : List (List Nat)) (d i : Nat) : Ln := ⟨d, i, (flat P i).drop (tot P (i - d)), (dn P d i).drop (tot P (i - d))⟩
/-- .. behind its part. -/
def sP (P : List (List Nat)) (d i : Nat) : Ln := ⟨d, i, (flat P (i + 1)).drop (tot P (i - d)), (dn P d (i + 1)).drop (tot P (i - d))⟩
theorem sW_zero (P : List (List Nat)) (d : Nat) : sW P d 0 = newL d := by simp [sW, newL, flat, dn, tot]
theorem sW_put (P : List (List Nat)) (d i : Nat) (h : ¬ 65536 < (sW P d i).bs.length + (Me.lsAt P i).length) : putL (sW P d i) (Me.lsAt P i) = sP P d i := by
  have h1 : tot P (i - d) ≤ tot P i := tot_mono P (by omega)
  unfold putL
  rw [if_neg h]
  unfold sP sW
  simp only
  rw [flat_succ, dn, List.drop_append_of_le_length (by unfold tot at h1; exact h1), List.drop_append_of_le_length (by rw [dn_len]; exact h1)]
theorem sP_come (P : List (List Nat)) (d i : Nat) : comeN (sP P d i) = tot P (i + 1 - d) - tot P (i - d) := by
  have h1 : tot P (i + 1 - d) ≤ tot P (i + 1) := tot_mono P (by omega)
  refine tw_count _ _ _ (by show _ ≤ ((dn P d (i + 1)).drop (tot P (i - d))).length; rw [List.length_drop, dn_len]; omega) fun q hq => ?_
  have hq' : q < ((dn P d (i + 1)).drop (tot P (i - d))).length := hq
  rw [List.length_drop, dn_len] at hq'
  have e : Mi.at_ ((dn P d (i + 1)).drop (tot P (i - d))) q = Mi.at_ (dn P d (i + 1)) (tot P (i - d) + q) := by simp [Mi.at_]
  show Mi.at_ ((dn P d (i + 1)).drop (tot P (i - d))) q ≤ (i : Int) ↔ _
  rw [e, dn_at P d i (i + 1) _ (by omega)]
  omega
theorem sP_next (P : List (List Nat)) (d i : Nat) : tickL (takeL (sP P d i)) = sW P d (i + 1) := by
  have h1 : tot P (i - d) ≤ tot P (i + 1 - d) := tot_mono P (by omega)
  unfold takeL
  rw [sP_come]
  unfold tickL sP sW
  simp only [List.drop_drop]
  rw [show tot P (i - d) + (tot P (i + 1 - d) - tot P (i - d)) = tot P (i + 1 - d) by omega]
/-- What is out, with what comes out. -/
theorem out_next (P : List (List Nat)) (d i : Nat) : flat P (i - d) ++ (sP P d i).bs.take (comeN (sP P d i)) = flat P (i + 1 - d) := by
  have h1 : tot P (i - d) ≤ tot P (i + 1 - d) := tot_mono P (by omega)
  rw [sP_come, flat_take P (show i - d ≤ i + 1 by omega), flat_take P (show i + 1 - d ≤ i + 1 by omega)]
  unfold sP
  simp only
  rw [← List.take_add]
  congr 1
  omega
/-- The line at the end. -/
def sE (P : List (List Nat)) (d N k : Nat) : Ln := ⟨d, N + k, (flat P N).drop (tot P (N - d)), (dn P d N).drop (tot P (N - d))⟩
theorem sE_zero (P : List (List Nat)) (d N : Nat) : sE P d N 0 = sW P d N := rfl
theorem sE_tick (P : List (List Nat)) (d N k : Nat) : tickL (sE P d N k) = sE P d N (k + 1) := rfl
theorem sE_come (P : List (List Nat)) (d N : Nat) : comeN (sE P d N d) = tot P N - tot P (N - d) := by
  refine tw_count _ _ _ (by show _ ≤ ((dn P d N).drop (tot P (N - d))).length; rw [List.length_drop, dn_len]; omega) fun q hq => ?_
  have hq' : q < ((dn P d N).drop (tot P (N - d))).length := hq
  rw [List.length_drop, dn_len] at hq'
  have e : Mi.at_ ((dn P d N).drop (tot P (N - d))) q = Mi.at_ (dn P d N) (tot P (N - d) + q) := by simp [Mi.at_]
  show Mi.at_ ((dn P d N).drop (tot P (N - d))) q ≤ ((N + d : Nat) : Int) ↔ _
  rw [e, dn_at P d (N + d) N _ (by omega)]
  have h1 : tot P N ≤ tot P (N + d + 1 - d) := tot_mono P (by omega)
  omega
theorem sE_out (P : List (List Nat)) (d N : Nat) : flat P (N - d) ++ (sE P d N d).bs.take (comeN (sE P d N d)) = flat P N := by
  have h1 : tot P (N - d) ≤ tot P N := tot_mono P (by omega)
  rw [sE_come, flat_take P (show N - d ≤ N by omega)]
  unfold sE
  simp only
  have e : ((flat P N).drop (tot P (N - d))).take (tot P N - tot P (N - d)) = (flat P N).drop (tot P (N - d)) := List.take_of_length_le (by rw [List.length_drop]; unfold tot; omega)
  rw [e, List.take_append_drop]
theorem sE_left (P : List (List Nat)) (d N : Nat) : (takeL (sE P d N d)).bs = [] := by
  have h1 : tot P (N - d) ≤ tot P N := tot_mono P (by omega)
  unfold takeL
  rw [sE_come]
  unfold sE
  simp only [List.drop_drop]
  exact List.drop_eq_nil_of_le (by unfold tot at *; omega)
end Go.Proofs.Ytcdpdijfgeeenaa.Li
