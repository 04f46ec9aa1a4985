/- Ids that were told, each one held, are not told again: as plain data. -/
import Derived.Test.YtpofdimagfldnaaZ3
namespace Go.Proofs.Ytpofdimagfldnaa.So
open Go.RowKit
set_option linter.unusedVariables false
set_option linter.unusedSimpArgs false

/-- Each of these ids was used: of self, of an epoch that was, in this one no counter above the last. -/
def Used (s : Sto) (l : List Mg.Id4) : Prop := ∀ i ∈ l, i.e ≤ s.epoch ∧ (i.e = s.epoch → i.c ≤ s.last i.d.toNat)
theorem Used.nil (s : Sto) : Used s [] := fun _ h => by cases h
theorem useL_le (s : Sto) (i : Mg.Id4) (k : Nat) : s.last k ≤ useL s i k := by
  unfold useL
  split
  · show s.last k ≤ if (k : Int) = i.d then max (s.last k) i.c else s.last k
    split
    · exact Int.le_max_left _ _
    · exact Int.le_refl _
  · exact Int.le_refl _
theorem Used.app {s : Sto} {l : List Mg.Id4} (h : Used s l) (k : Int) (i : Mg.Id4) (p : List Nat) : Used (appE s k i p) l := by
  intro j hj
  obtain ⟨h1, h2⟩ := h j hj
  unfold appE
  split
  · exact ⟨h1, h2⟩
  · split
    · refine ⟨?_, fun e => ?_⟩
      · show j.e ≤ s.epoch + 1
        omega
      · have e' : j.e = s.epoch + 1 := e
        omega
    · split
      · refine ⟨h1, fun e => ?_⟩
        have := useL_le (holdS s i p) i j.d.toNat
        exact Int.le_trans (h2 e) this
      · split
        · exact ⟨h1, h2⟩
        · exact ⟨h1, h2⟩
theorem fr_zero {s : Sto} {d : Int} (h : frN s d = 0) : (0 ≤ d ∧ d < 64) ∧ d ≠ s.self ∧ frI s d = ⟨s.self, d, s.epoch, s.last d.toNat + 1⟩ := by
  refine ⟨?_, ?_, ?_⟩
  · unfold frN at h
    split at h
    · omega
    · split at h
      · omega
      · omega
  · unfold frN at h
    split at h
    · omega
    · split at h
      · omega
      · split at h
        · omega
        · assumption
  · unfold frI
    rw [if_pos h]
theorem Used.fresh {s : Sto} {l : List Mg.Id4} (h : Used s l) {d : Int} (hd : frN s d = 0) : ∀ i ∈ l, i ≠ frI s d := by
  intro i hi e
  obtain ⟨h1, h2⟩ := h i hi
  rw [(fr_zero hd).2.2] at e
  subst e
  have := h2 rfl
  simp only at this
  omega
theorem Used.put {s : Sto} {l : List Mg.Id4} (h : Used s l) {d : Int} (hd : frN s d = 0) {p : List Nat} (hm : mayE s 2 (frI s d) p.length = 0) : Used (appE s 2 (frI s d) p) (l ++ [frI s d]) := by
  intro j hj
  rcases List.mem_append.1 hj with hj | hj
  · exact h.app 2 (frI s d) p j hj
  · obtain rfl := List.mem_singleton.1 hj
    have e : appE s 2 (frI s d) p = useS (holdS s (frI s d) p) (frI s d) := by
      unfold appE
      rw [if_neg (by rw [hm]; simp), if_neg (by decide), if_pos rfl]
    rw [e]
    obtain ⟨h1, h2, h3⟩ := fr_zero hd
    rw [h3]
    refine ⟨Int.le_refl _, fun _ => ?_⟩
    show s.last d.toNat + 1 ≤ useL (holdS s _ p) _ d.toNat
    unfold useL
    rw [if_pos ⟨rfl, rfl⟩]
    show s.last d.toNat + 1 ≤ if (d.toNat : Int) = d then max (s.last d.toNat) (s.last d.toNat + 1) else s.last d.toNat
    rw [if_pos (by omega)]
    exact Int.le_max_right _ _
end Go.Proofs.Ytpofdimagfldnaa.So
