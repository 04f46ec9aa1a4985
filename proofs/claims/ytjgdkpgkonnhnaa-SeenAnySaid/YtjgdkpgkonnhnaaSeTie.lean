/- What the marks of keys in order say of the keys: pure. -/
import Derived.Test.YtjgdkpgkonnhnaaSeRMay
import Derived.Test.YtjgdkpgkonnhnaaSeMath
namespace Go.Proofs.Ytjgdkpgkonnhnaa.Se
open Go.RowKit
set_option linter.unusedVariables false
set_option linter.unusedSimpArgs false

/-- The marks speak of these keys. -/
structure MOk (L : Ks) (ms : List Mr) : Prop where
  pl : ms.Pairwise (fun a b => a.o < b.o ∨ a.o = b.o ∧ a.e < b.e)
  key : ∀ k ∈ L, ∃ m ∈ ms, m.o = k.o ∧ m.e = k.e
  one : ∀ m ∈ ms, ∃ c, (⟨m.o, m.e, c⟩ : Ky) ∈ L
  mem : ∀ m ∈ ms, ∀ c, 1 ≤ c → ((⟨m.o, m.e, c⟩ : Ky) ∈ L ↔ c ≤ m.up ∨ c ∈ m.more)
  fit : ∀ m ∈ ms, 0 ≤ m.up ∧ m.more.Pairwise (· < ·) ∧ ∀ x ∈ m.more, m.up + 2 ≤ x
theorem mput_o (m : Mr) (c : Int) : (mPut m c).o = m.o ∧ (mPut m c).e = m.e := by unfold mPut; split <;> exact ⟨rfl, rfl⟩
theorem mput_fit {m : Mr} {c : Int} (h : 0 ≤ m.up ∧ m.more.Pairwise (· < ·) ∧ ∀ x ∈ m.more, m.up + 2 ≤ x) (hu : m.up < c) (hm : ∀ x ∈ m.more, x < c) :
    (0 ≤ (mPut m c).up ∧ (mPut m c).more.Pairwise (· < ·) ∧ ∀ x ∈ (mPut m c).more, (mPut m c).up + 2 ≤ x) ∧ ∀ d, (d ≤ (mPut m c).up ∨ d ∈ (mPut m c).more) ↔ (d ≤ m.up ∨ d ∈ m.more) ∨ d = c := by
  obtain ⟨h0, h1, h2⟩ := h
  unfold mPut
  split
  · rename_i h3
    have h4 := List.eq_nil_of_length_eq_zero h3.1
    simp only [h4]
    refine ⟨⟨by omega, List.Pairwise.nil, by simp⟩, fun d => ?_⟩
    simp only [List.not_mem_nil, or_false]
    have := h3.2
    omega
  · rename_i h3
    have hc : m.up + 2 ≤ c := by
      by_cases h4 : m.more = []
      · have : ¬ c = m.up + 1 := fun e => h3 ⟨by simp [h4], e⟩
        omega
      · obtain ⟨x, hx⟩ := List.exists_mem_of_ne_nil _ h4
        have := h2 x hx
        have := hm x hx
        omega
    refine ⟨⟨h0, ?_, ?_⟩, fun d => ?_⟩
    · rw [List.pairwise_append]
      refine ⟨h1, by simp, fun x hx y hy => ?_⟩
      obtain rfl : y = c := by simpa using hy
      exact hm x hx
    · intro x hx
      rcases List.mem_append.1 hx with hx | hx
      · exact h2 x hx
      · obtain rfl : x = c := by simpa using hx
        exact hc
    · rw [List.mem_append, List.mem_singleton, or_assoc]
theorem ltK_iff (a b : Ky) : ltK a b = true ↔ a.o < b.o ∨ a.o = b.o ∧ (a.e < b.e ∨ a.e = b.e ∧ a.c < b.c) := by
  unfold ltK
  split
  · split
    · simp only [decide_eq_true_eq]; omega
    · simp only [decide_eq_true_eq]; omega
  · simp only [decide_eq_true_eq]; omega
theorem mok_snoc {L : Ks} {ms : List Mr} {k : Ky} (h : MOk L ms) (hk : ∀ x ∈ L, ltK x k = true) (hc : 1 ≤ k.c) : MOk (L ++ [k]) (mStep ms k) := by
  obtain ⟨o, e, c⟩ := k
  simp only at hc
  have hlt : ∀ a b d, (⟨a, b, d⟩ : Ky) ∈ L → a < o ∨ a = o ∧ (b < e ∨ b = e ∧ d < c) := fun a b d hx => (ltK_iff _ _).1 (hk _ hx)
  have h0 := mput_fit (m := ⟨o, e, 0, []⟩) (c := c) ⟨Int.le_refl _, List.Pairwise.nil, by simp⟩ (by show 0 < c; omega) (by simp)
  -- a new mark behind all
  have hnew : (∀ m ∈ ms, m.o < o ∨ m.o = o ∧ m.e < e) → MOk (L ++ [⟨o, e, c⟩]) (ms ++ [mPut ⟨o, e, 0, []⟩ c]) := fun hall => by
    obtain ⟨e1, e2⟩ := mput_o ⟨o, e, 0, []⟩ c
    obtain ⟨f1, f2⟩ := h0
    refine ⟨?_, ?_, ?_, ?_, ?_⟩
    · rw [List.pairwise_append]
      refine ⟨h.pl, by simp, fun a ha b hb => ?_⟩
      rw [List.mem_singleton.1 hb, e1, e2]
      exact hall a ha
    · intro x hx
      rcases List.mem_append.1 hx with hx | hx
      · obtain ⟨m, hm, h1⟩ := h.key x hx
        exact ⟨m, by simp [hm], h1⟩
      · rw [List.mem_singleton.1 hx]
        exact ⟨_, by simp, e1, e2⟩
    · intro m hm
      rcases List.mem_append.1 hm with hm | hm
      · obtain ⟨d, hd⟩ := h.one m hm
        exact ⟨d, by simp [hd]⟩
      · rw [List.mem_singleton.1 hm, e1, e2]
        exact ⟨c, by simp⟩
    · intro m hm d hd
      rcases List.mem_append.1 hm with hm | hm
      · rw [List.mem_append, h.mem m hm d hd]
        have hn : ¬ (⟨m.o, m.e, d⟩ : Ky) ∈ [(⟨o, e, c⟩ : Ky)] := by
          intro h1
          have h2 := List.mem_singleton.1 h1
          have h3 : m.o = o := congrArg Ky.o h2
          have h4 : m.e = e := congrArg Ky.e h2
          have := hall m hm
          omega
        simp only [hn, or_false]
      · rw [List.mem_singleton.1 hm, e1, e2, List.mem_append, f2 d]
        have hn : ¬ (⟨o, e, d⟩ : Ky) ∈ L := fun h1 => by
          obtain ⟨m, hm, h2, h3⟩ := h.key _ h1
          simp only at h2 h3
          have := hall m hm
          omega
        simp only [hn, false_or, List.mem_singleton, Ky.mk.injEq, true_and, List.not_mem_nil, or_false]
        have : ¬ d ≤ 0 := by omega
        simp only [this, false_or]
    · intro m hm
      rcases List.mem_append.1 hm with hm | hm
      · exact h.fit m hm
      · rw [List.mem_singleton.1 hm]
        exact f1
  rcases List.eq_nil_or_concat ms with rfl | ⟨I, m, rfl⟩
  · rw [mStep_nil]
    simpa using hnew (by simp)
  · rw [List.concat_eq_append] at h hnew ⊢
    have hpl := List.pairwise_append.1 h.pl
    obtain ⟨d0, hd0⟩ := h.one m (by simp)
    have hm0 := hlt _ _ _ hd0
    by_cases hs : m.o = o ∧ m.e = e
    · rw [mStep_same I m ⟨o, e, c⟩ hs]
      obtain ⟨rfl, rfl⟩ := hs
      obtain ⟨e1, e2⟩ := mput_o m c
      have hf := h.fit m (by simp)
      have hmem := h.mem m (by simp)
      have hI : ∀ x ∈ I, x.o < m.o ∨ x.o = m.o ∧ x.e < m.e := fun x hx => hpl.2.2 x hx m (by simp)
      have hup : m.up < c := by
        by_cases h1 : 1 ≤ m.up
        · have := hlt _ _ _ ((hmem m.up h1).2 (.inl (Int.le_refl _)))
          omega
        · omega
      have hmo : ∀ x ∈ m.more, x < c := fun x hx => by
        have h1 := hf.2.2 x hx
        have := hlt _ _ _ ((hmem x (by omega)).2 (.inr hx))
        omega
      obtain ⟨f1, f2⟩ := mput_fit hf hup hmo
      refine ⟨?_, ?_, ?_, ?_, ?_⟩
      · rw [List.pairwise_append]
        refine ⟨hpl.1, by simp, fun a ha b hb => ?_⟩
        rw [List.mem_singleton.1 hb, e1, e2]
        exact hI a ha
      · intro x hx
        rcases List.mem_append.1 hx with hx | hx
        · obtain ⟨q, hq, h1⟩ := h.key x hx
          rcases List.mem_append.1 hq with hq | hq
          · exact ⟨q, by simp [hq], h1⟩
          · rw [List.mem_singleton.1 hq] at h1
            exact ⟨_, by simp, e1.trans h1.1, e2.trans h1.2⟩
        · rw [List.mem_singleton.1 hx]
          exact ⟨_, by simp, e1, e2⟩
      · intro q hq
        rcases List.mem_append.1 hq with hq | hq
        · obtain ⟨d, hd⟩ := h.one q (by simp [hq])
          exact ⟨d, by simp [hd]⟩
        · rw [List.mem_singleton.1 hq, e1, e2]
          exact ⟨c, by simp⟩
      · intro q hq d hd
        rcases List.mem_append.1 hq with hq | hq
        · rw [List.mem_append, h.mem q (by simp [hq]) d hd]
          have hn : ¬ (⟨q.o, q.e, d⟩ : Ky) ∈ [(⟨m.o, m.e, c⟩ : Ky)] := by
            intro h1
            have h2 := List.mem_singleton.1 h1
            have h3 : q.o = m.o := congrArg Ky.o h2
            have h4 : q.e = m.e := congrArg Ky.e h2
            have := hI q hq
            omega
          simp only [hn, or_false]
        · rw [List.mem_singleton.1 hq, e1, e2, List.mem_append, f2 d, hmem d hd]
          simp only [List.mem_singleton, Ky.mk.injEq, true_and]
      · intro q hq
        rcases List.mem_append.1 hq with hq | hq
        · exact h.fit q (by simp [hq])
        · rw [List.mem_singleton.1 hq]
          exact f1
    · rw [mStep_new I m ⟨o, e, c⟩ hs]
      refine hnew fun q hq => ?_
      obtain ⟨d, hd⟩ := h.one q hq
      have h1 := hlt _ _ _ hd
      rcases List.mem_append.1 hq with hq | hq
      · have := hpl.2.2 q hq m (by simp)
        omega
      · rw [List.mem_singleton.1 hq] at h1 ⊢
        omega
theorem mok_all : ∀ (n : Nat) (L : Ks), L.length = n → L.Pairwise (fun a b => ltK a b = true) → (∀ k ∈ L, 1 ≤ k.c) → MOk L (marksL L)
  | 0, L, hl, _, _ => by
    obtain rfl := List.eq_nil_of_length_eq_zero hl
    exact ⟨List.Pairwise.nil, by simp, by simp [marksL], by simp [marksL], by simp [marksL]⟩
  | n + 1, L, hl, hp, hc => by
    rcases List.eq_nil_or_concat L with rfl | ⟨I, k, rfl⟩
    · simp at hl
    · rw [List.concat_eq_append] at hl hp hc ⊢
      rw [List.pairwise_append] at hp
      rw [marks_snoc]
      exact mok_snoc (mok_all n I (by simpa using hl) hp.1 fun x hx => hc x (by simp [hx])) (fun x hx => hp.2.2 x hx k (by simp)) (hc k (by simp))
end Go.Proofs.Ytjgdkpgkonnhnaa.Se
