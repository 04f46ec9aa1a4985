/- The marks that are told, on both sides: pure. -/
import Derived.Test.YtjgdkpgkonnhnaaSeTieB
import Derived.Test.YtjgdkpgkonnhnaaSeMarks
namespace Go.Proofs.Ytjgdkpgkonnhnaa.Se
open Go.RowKit
set_option linter.unusedVariables false
set_option linter.unusedSimpArgs false

/-- Rising lists of places of the same members are one. -/
theorem plP_eq : ∀ (a b : Pls), a.Pairwise ltP → b.Pairwise ltP → (∀ x, x ∈ a ↔ x ∈ b) → a = b
  | [], [], _, _, _ => rfl
  | [], y :: b, _, _, h => by have := (h y).2 (by simp); simp at this
  | x :: a, [], _, _, h => by have := (h x).1 (by simp); simp at this
  | x :: a, y :: b, ha, hb, h => by
    rw [List.pairwise_cons] at ha hb
    have irr : ∀ z : Int × Int, ¬ ltP z z := fun z hz => by unfold ltP at hz; omega
    have asy : ∀ z u : Int × Int, ltP z u → ¬ ltP u z := fun z u h1 h2 => by unfold ltP at h1 h2; omega
    have e : x = y := by
      rcases List.mem_cons.1 ((h x).1 (by simp)) with h1 | h1
      · exact h1
      · rcases List.mem_cons.1 ((h y).2 (by simp)) with h2 | h2
        · exact h2.symm
        · exact absurd (hb.1 x h1) (asy _ _ (ha.1 y h2))
    subst e
    rw [plP_eq a b ha.2 hb.2 fun z => ?_]
    constructor
    · intro hz
      rcases List.mem_cons.1 ((h z).1 (by simp [hz])) with h1 | h1
      · subst h1; exact absurd (ha.1 z hz) (irr z)
      · exact h1
    · intro hz
      rcases List.mem_cons.1 ((h z).2 (by simp [hz])) with h1 | h1
      · subst h1; exact absurd (hb.1 z hz) (irr z)
      · exact h1
theorem Rel.marks {s : St} {K : Ks} (h : Rel s K) {n : Nat} {L : Pls} (ho : Ord s.kept n L) : L.map (mrOf s.kept) = marksL K := by
  have hL : L = (marksL K).map fun m => (m.o, m.e) := by
    refine plP_eq _ _ ho.srt ?_ fun x => ?_
    · rw [List.pairwise_map]
      exact h.mok.pl
    · constructor
      · intro hx
        obtain ⟨m, hm, h1, h2⟩ := (h.place x.1 x.2).1 (ho.all x hx).2
        exact List.mem_map.2 ⟨m, hm, Prod.ext h1 h2⟩
      · intro hx
        obtain ⟨m, hm, rfl⟩ := List.mem_map.1 hx
        have hk := (h.place m.o m.e).2 ⟨m, hm, rfl, rfl⟩
        obtain ⟨q, hq⟩ := Option.ne_none_iff_exists'.1 hk
        exact ho.fin _ (h.ok.mkOk _ _ _ hq).1 hk
  rw [hL, List.map_map]
  conv => rhs; rw [← List.map_id (marksL K)]
  refine List.map_congr_left fun m hm => ?_
  obtain ⟨h1, h2⟩ := h.mark hm
  simp only [Function.comp, mrOf, h1, h2, id]
theorem Ord.one {kept : Int → Int → Option Mk} {n n' : Nat} {L L' : Pls} (h : Ord kept n L) (h' : Ord kept n' L') : L = L' :=
  plP_eq _ _ h.srt h'.srt fun x => ⟨fun hx => h'.fin x (h.all x hx).1 (h.all x hx).2, fun hx => h.fin x (h'.all x hx).1 (h'.all x hx).2⟩
end Go.Proofs.Ytjgdkpgkonnhnaa.Se
