/- The order in which ids are added says nothing: pure. -/
import Derived.Test.YtjgdkpgkonnhnaaSeTieC
namespace Go.Proofs.Ytjgdkpgkonnhnaa.Se
open Go.RowKit
set_option linter.unusedVariables false
set_option linter.unusedSimpArgs false

/-- What is there behind ids that were added to a set with room for all. -/
structure Inv (l : List Mg.Id4) (s : St) : Prop where
  ok : Okk s
  room : s.room = 256
  gaps : s.gaps ≤ l.length
  mem : ∀ o e c, 1 ≤ c → (has (getM s.kept o e) c = true ↔ ∃ i ∈ l, Mg.Right i ∧ i.o = o ∧ i.e = e ∧ i.c = c)
  one : ∀ o e, s.kept o e ≠ none ↔ ∃ i ∈ l, Mg.Right i ∧ i.o = o ∧ i.e = e
theorem Inv.nil (h : Okk ⟨256, 0, fun _ _ => none⟩) : Inv [] ⟨256, 0, fun _ _ => none⟩ := by
  refine ⟨h, rfl, by simp, fun o e c hc => ?_, fun o e => by simp⟩
  rw [has_iff]
  simp [getM]
  omega
theorem Inv.add {l : List Mg.Id4} {s : St} (h : Inv l s) (i : Mg.Id4) (hl : l.length < 256) : Inv (l ++ [i]) (addS s i) := by
  have hmem : ∀ (P : Mg.Id4 → Prop), (∃ x ∈ l ++ [i], P x) ↔ (∃ x ∈ l, P x) ∨ P i := fun P => by
    constructor
    · rintro ⟨x, hx, hp⟩
      rcases List.mem_append.1 hx with hx | hx
      · exact .inl ⟨x, hx, hp⟩
      · obtain rfl : x = i := by simpa using hx
        exact .inr hp
    · rintro (⟨x, hx, hp⟩ | hp)
      · exact ⟨x, by simp [hx], hp⟩
      · exact ⟨i, by simp, hp⟩
  by_cases hm : mayN s i = 0
  · obtain ⟨hr, hh, _⟩ := mayN_zero hm
    have hk : (addS s i).kept = setM s.kept i.o i.e (wth (getM s.kept i.o i.e) i.c) := by unfold addS; rw [if_neg (by simp [hm])]
    have hg : (addS s i).gaps = s.gaps + ((wth (getM s.kept i.o i.e) i.c).more.length - (getM s.kept i.o i.e).more.length) := by unfold addS; rw [if_neg (by simp [hm])]
    have hw := wth_len (getM s.kept i.o i.e) i.c
    refine ⟨h.ok.addS i, (addS_room s i).trans h.room, ?_, fun o e c hc => ?_, fun o e => ?_⟩
    · rw [hg, List.length_append]
      have := h.gaps
      simp
      omega
    · rw [hk, hmem]
      by_cases hp : o = i.o ∧ e = i.e
      · obtain ⟨rfl, rfl⟩ := hp
        rw [get_set, has_wth, h.mem _ _ _ hc]
        constructor
        · rintro (h1 | h1)
          · exact .inl h1
          · exact .inr ⟨hr, rfl, rfl, h1.symm⟩
        · rintro (h1 | ⟨_, _, _, h1⟩)
          · exact .inl h1
          · exact .inr h1.symm
      · rw [get_set_ne _ _ hp, h.mem _ _ _ hc]
        constructor
        · exact .inl
        · rintro (h1 | ⟨_, h1, h2, _⟩)
          · exact h1
          · exact absurd ⟨h1.symm, h2.symm⟩ hp
    · rw [hk, hmem]
      unfold setM
      by_cases hp : o = i.o ∧ e = i.e
      · obtain ⟨rfl, rfl⟩ := hp
        simp [hr]
      · rw [if_neg hp, h.one]
        constructor
        · exact .inl
        · rintro (h1 | ⟨_, h1, h2⟩)
          · exact h1
          · exact absurd ⟨h1.symm, h2.symm⟩ hp
  · have hs : addS s i = s := by unfold addS; rw [if_pos hm]
    rw [hs]
    have key : Mg.Right i → has (getM s.kept i.o i.e) i.c = true := fun hr => by
      apply Classical.byContradiction
      intro hh
      apply hm
      unfold mayN
      rw [if_neg (by simp [Mg.right_iff.2 hr]), if_neg hh, if_neg]
      rintro ⟨_, h2⟩
      have h3 := h.gaps
      rw [h.room] at h2
      omega
    refine ⟨h.ok, h.room, by rw [List.length_append]; have := h.gaps; simp; omega, fun o e c hc => ?_, fun o e => ?_⟩
    · rw [hmem, h.mem _ _ _ hc]
      constructor
      · exact .inl
      · rintro (h1 | ⟨hr, rfl, rfl, rfl⟩)
        · exact h1
        · exact (h.mem _ _ _ hc).1 (key hr)
    · rw [hmem, h.one]
      constructor
      · exact .inl
      · rintro (h1 | ⟨hr, rfl, rfl⟩)
        · exact h1
        · obtain ⟨x, h1, h2, h3, h4, _⟩ := (h.mem _ _ _ hr.c0).1 (key hr)
          exact ⟨x, h1, h2, h3, h4⟩
theorem Inv.one_eq {l l' : List Mg.Id4} {s s' : St} (h : Inv l s) (h' : Inv l' s') (hm : ∀ x, x ∈ l ↔ x ∈ l') : s.kept = s'.kept := by
  have hp : ∀ (P : Mg.Id4 → Prop), (∃ i ∈ l, P i) ↔ ∃ i ∈ l', P i := fun P => ⟨fun ⟨i, h1, h2⟩ => ⟨i, (hm i).1 h1, h2⟩, fun ⟨i, h1, h2⟩ => ⟨i, (hm i).2 h1, h2⟩⟩
  funext o e
  have h1 : s.kept o e ≠ none ↔ s'.kept o e ≠ none := by rw [h.one, h'.one, hp]
  cases hk : s.kept o e with
  | none =>
    cases hk' : s'.kept o e with
    | none => rfl
    | some m => rw [hk, hk'] at h1; simp at h1
  | some m =>
    cases hk' : s'.kept o e with
    | none => rw [hk, hk'] at h1; simp at h1
    | some m' =>
      have g1 : getM s.kept o e = m := by unfold getM; rw [hk]; rfl
      have g2 : getM s'.kept o e = m' := by unfold getM; rw [hk']; rfl
      have o1 := h.ok.get o e
      have o2 := h'.ok.get o e
      rw [g1] at o1
      rw [g2] at o2
      have := mark_eq o1.u0 o2.u0 o1.lt o2.lt (fun x hx => (o1.gap x hx).1) (fun x hx => (o2.gap x hx).1) fun c hc => by
        rw [← has_iff, ← has_iff, ← g1, ← g2, h.mem _ _ _ hc, h'.mem _ _ _ hc, hp]
      obtain ⟨u, a⟩ := m
      obtain ⟨v, b⟩ := m'
      simp only at this
      rw [this.1, this.2]
theorem Inv.has {l : List Mg.Id4} {s : St} (h : Inv l s) {i : Mg.Id4} (hi : i ∈ l) : hasS s i = decide (Mg.chkN i = 0) := by
  unfold hasS
  by_cases hc : Mg.chkN i = 0
  · have hr := Mg.right_iff.1 hc
    simp [hc, (h.mem _ _ _ hr.c0).2 ⟨i, hi, hr, rfl, rfl, rfl⟩]
  · simp [hc]
theorem out_perm {α : Type} (d R : List α) (i : Nat) (x : α) (h : R[i]? = some x) : (d ++ [x] ++ (R.take i ++ R.drop (i + 1))).Perm (d ++ R) := by
  obtain ⟨h1, h2⟩ := List.getElem?_eq_some_iff.1 h
  have e : R = R.take i ++ x :: R.drop (i + 1) := by
    rw [← h2, List.getElem_cons_drop, List.take_append_drop]
  conv => rhs; rw [e]
  rw [List.append_assoc]
  refine List.Perm.append_left d ?_
  show (x :: (R.take i ++ R.drop (i + 1))).Perm (R.take i ++ x :: R.drop (i + 1))
  exact List.perm_middle.symm
end Go.Proofs.Ytjgdkpgkonnhnaa.Se
