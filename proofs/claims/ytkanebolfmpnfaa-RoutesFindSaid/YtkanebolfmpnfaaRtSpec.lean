/- A table's ways: what the arrays say. -/
import Derived.Test.YtkanebolfmpnfaaRtWoke
import Derived.Test.YtkanebolfmpnfaaRtAct
namespace Go.Proofs.Ytkanebolfmpnfaa.Rt
open Go.RowKit
set_option linter.unusedVariables false
set_option linter.unusedSimpArgs false

/-- What the arrays say of one destination behind the neighbours L. -/
def Spec (kept : Nat → Option Nw) (L : List Nat) (d : Nat) (C H : Int) : Prop := C ≤ 16 ∧ (∀ f ∈ L, C ≤ costsOf kept f d + 1) ∧ ((C = 16 ∧ H = -1) ∨ (C < 16 ∧ ∃ f ∈ L, H = (f : Int) ∧ C = costsOf kept f d + 1 ∧ ∀ f' ∈ L, f' < f → C < costsOf kept f' d + 1))
theorem Spec.step {kept : Nat → Option Nw} {L : List Nat} {d f : Nat} {P : Two} (h : Spec kept L d (P.1 d) (P.2 d)) (hf : ∀ x ∈ L, x < f) : Spec kept (L ++ [f]) d ((stF kept P f).1 d) ((stF kept P f).2 d) := by
  obtain ⟨h1, h2, h3⟩ := h
  show Spec kept (L ++ [f]) d (if costsOf kept f d + 1 < P.1 d then costsOf kept f d + 1 else P.1 d) (if costsOf kept f d + 1 < P.1 d then (f : Int) else P.2 d)
  by_cases hc : costsOf kept f d + 1 < P.1 d
  · rw [if_pos hc, if_pos hc]
    refine ⟨by omega, fun x hx => ?_, .inr ⟨by omega, f, by simp, rfl, rfl, fun x hx hlt => ?_⟩⟩
    · rcases List.mem_append.1 hx with hx | hx
      · have := h2 x hx; omega
      · rw [List.mem_singleton.1 hx]; exact Int.le_refl _
    · rcases List.mem_append.1 hx with hx | hx
      · have := h2 x hx; omega
      · rw [List.mem_singleton.1 hx] at hlt; omega
  · rw [if_neg hc, if_neg hc]
    refine ⟨h1, fun x hx => ?_, ?_⟩
    · rcases List.mem_append.1 hx with hx | hx
      · exact h2 x hx
      · rw [List.mem_singleton.1 hx]; omega
    · rcases h3 with h3 | ⟨h3, g, hg, e1, e2, e3⟩
      · exact .inl h3
      · refine .inr ⟨h3, g, by simp [hg], e1, e2, fun x hx hlt => ?_⟩
        rcases List.mem_append.1 hx with hx | hx
        · exact e3 x hx hlt
        · rw [List.mem_singleton.1 hx] at hlt
          have := hf g hg
          omega
theorem Spec.fold {kept : Nat → Option Nw} {d : Nat} : ∀ (L2 L1 : List Nat) (P : Two), (L1 ++ L2).Pairwise (· < ·) → Spec kept L1 d (P.1 d) (P.2 d) → Spec kept (L1 ++ L2) d ((L2.foldl (stF kept) P).1 d) ((L2.foldl (stF kept) P).2 d)
  | [], L1, P, _, h => by simpa using h
  | f :: L2, L1, P, hp, h => by
    have h1 : Spec kept (L1 ++ [f]) d ((stF kept P f).1 d) ((stF kept P f).2 d) := h.step fun x hx => (List.pairwise_append.1 hp).2.2 x hx f (by simp)
    have h2 := Spec.fold L2 (L1 ++ [f]) (stF kept P f) (by simpa using hp) h1
    simpa using h2
theorem ways_spec (kept : Nat → Option Nw) (d : Nat) : Spec kept (froms kept) d ((ways0 kept (froms kept)).1 d) ((ways0 kept (froms kept)).2 d) := by
  have := Spec.fold (kept := kept) (d := d) (froms kept) [] (fun _ => 16, fun _ => -1) (by simpa using froms_lt kept) ⟨Int.le_refl _, by simp, .inl ⟨rfl, rfl⟩⟩
  rw [List.nil_append] at this
  exact this
theorem costsOf_some {kept : Nat → Option Nw} {n : Nat} {p : Nw} (h : kept n = some p) : costsOf kept n = p.c := by unfold costsOf; rw [h]
theorem wC_self (t : Tb) : waysC t t.self = 0 := by simp [waysC, upd]
theorem wH_self (t : Tb) : waysH t t.self = -1 := by simp [waysH, upd]
theorem wC_set {t : Tb} {d : Nat} (hd : d < 64) (hs : d ≠ t.self) (h : t.set d ≠ -1) : waysC t d = byN t.heard (t.set d).toNat d := by
  unfold waysC upd
  rw [if_neg hs]
  show (if d < 64 ∧ t.set d ≠ -1 then _ else _) = _
  rw [if_pos ⟨hd, h⟩]
theorem wH_set {t : Tb} {d : Nat} (hd : d < 64) (hs : d ≠ t.self) (h : t.set d ≠ -1) : waysH t d = t.set d := by
  unfold waysH upd
  rw [if_neg hs]
  show (if d < 64 ∧ t.set d ≠ -1 then _ else _) = _
  rw [if_pos ⟨hd, h⟩]
theorem wC_way {t : Tb} {d : Nat} (hs : d ≠ t.self) (h : t.set d = -1) : waysC t d = (ways0 t.heard (froms t.heard)).1 d := by
  unfold waysC upd
  rw [if_neg hs]
  show (if d < 64 ∧ t.set d ≠ -1 then _ else _) = _
  rw [if_neg (fun e => e.2 h)]
theorem wH_way {t : Tb} {d : Nat} (hs : d ≠ t.self) (h : t.set d = -1) : waysH t d = (ways0 t.heard (froms t.heard)).2 d := by
  unfold waysH upd
  rw [if_neg hs]
  show (if d < 64 ∧ t.set d ≠ -1 then _ else _) = _
  rw [if_neg (fun e => e.2 h)]
theorem Ok.set {t : Tb} (ok : t.Ok) {m : Nat} {via : Int} (hE : setE t (m : Int) via = 0) : Tb.Ok ⟨t.self, t.nbs, t.age, upd t.set m via, t.heard⟩ := by
  have hm : (m : Int) ≠ (t.self : Int) ∧ ¬ (via ≠ -1 ∧ t.nbs.contains via = false) := by
    unfold setE at hE
    split at hE
    · cases hE
    · split at hE
      · cases hE
      · rename_i h2
        split at hE
        · cases hE
        · rename_i h3
          exact ⟨h2, h3⟩
  refine ⟨ok.self, ok.age, ok.nbs, ok.ris, fun d hd => ?_, ?_, ok.heard⟩
  · show upd t.set m via d = -1 ∨ upd t.set m via d ∈ t.nbs
    unfold upd
    split
    · by_cases hv : via = -1
      · exact .inl hv
      · right
        cases hc : t.nbs.contains via with
        | true => exact List.contains_iff_mem.1 hc
        | false => exact absurd ⟨hv, hc⟩ hm.2
    · exact ok.set d hd
  · show upd t.set m via t.self = -1
    unfold upd
    rw [if_neg (by have := hm.1; omega)]
    exact ok.sself
theorem hearE_ok {t : Tb} {n : Int} {l : List Int} (h : hearE t n l = 0) : n ∈ t.nbs ∧ l.length = 64 ∧ ∀ d, d < 64 → 0 ≤ Mi.at_ l d ∧ Mi.at_ l d ≤ 16 := by
  unfold Rt.hearE at h
  split at h
  · cases h
  · rename_i h1
    split at h
    · cases h
    · rename_i h2
      have hl : l.length = 64 := by
        apply Classical.byContradiction
        intro hc
        exact h2 (.inl hc)
      refine ⟨List.contains_iff_mem.1 (by simpa using h1), hl, fun d hd => ?_⟩
      have hb : l.any badC = false := by
        cases hb : l.any badC with
        | false => rfl
        | true => exact absurd (.inr hb) h2
      have := List.any_eq_false.1 hb (Mi.at_ l d) (by rw [Mi.at_get (by omega)]; exact List.getElem_mem _)
      simp only [badC, Bool.or_eq_true, decide_eq_true_eq, not_or] at this
      omega
theorem Ok.hear {t : Tb} (ok : t.Ok) {n : Nat} {l : List Int} (hn : n < 64) (hE : hearE t (n : Int) l = 0) : Tb.Ok ⟨t.self, t.nbs, t.age, t.set, putK t.heard n (nwOf l)⟩ := by
  obtain ⟨h1, h2, h3⟩ := hearE_ok hE
  refine ⟨ok.self, ok.age, ok.nbs, ok.ris, ok.set, ok.sself, fun m p hm hk => ?_⟩
  simp only [putK] at hk
  split at hk
  · rename_i e
    subst e
    cases hk
    exact ⟨h1, fun d hd => h3 d hd, by have := ok.age; exact this.1⟩
  · exact ok.heard m p hm hk
theorem Ok.tick {t : Tb} (ok : t.Ok) : (t.with (tickK t.age t.heard)).Ok := by
  refine ⟨ok.self, ok.age, ok.nbs, ok.ris, ok.set, ok.sself, fun m p hm hk => ?_⟩
  have hk' : tickK t.age t.heard m = some p := hk
  unfold tickK at hk'
  cases hh : t.heard m with
  | none => rw [hh] at hk'; cases hk'
  | some r =>
    rw [hh] at hk'
    simp only at hk'
    split at hk'
    · rename_i hlt
      cases hk'
      obtain ⟨a, b, _⟩ := ok.heard m r hm hh
      exact ⟨a, b, hlt⟩
    · cases hk'
end Go.Proofs.Ytkanebolfmpnfaa.Rt
