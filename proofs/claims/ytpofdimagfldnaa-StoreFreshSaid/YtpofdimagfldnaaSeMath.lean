/- Marks stay right, whatever is put into them. -/
import Derived.Test.YtpofdimagfldnaaSeDef
namespace Go.Proofs.Ytpofdimagfldnaa.Se
open Go.RowKit
set_option linter.unusedVariables false
set_option linter.unusedSimpArgs false

theorem lb_cut : ∀ (l : List Int) (c : Int), l.Pairwise (· < ·) → (∀ x ∈ l.take (lb l c), x < c) ∧ (∀ x ∈ l.drop (lb l c), ¬ x < c)
  | [], c, _ => by simp [lb]
  | x :: r, c, h => by
    rw [List.pairwise_cons] at h
    by_cases hx : x < c
    · have e : lb (x :: r) c = lb r c + 1 := by unfold lb; rw [List.countP_cons_of_pos (by simpa using hx)]
      obtain ⟨h1, h2⟩ := lb_cut r c h.2
      rw [e, List.take_succ_cons, List.drop_succ_cons]
      exact ⟨fun y hy => by rcases List.mem_cons.1 hy with rfl | hy; exact hx; exact h1 y hy, h2⟩
    · have e : lb (x :: r) c = 0 := by
        unfold lb
        rw [List.countP_eq_zero]
        intro y hy
        rcases List.mem_cons.1 hy with rfl | hy
        · simpa using hx
        · have := h.1 y hy
          simp; omega
      rw [e]
      refine ⟨by simp, fun y hy => ?_⟩
      rw [List.drop_zero] at hy
      rcases List.mem_cons.1 hy with rfl | hy
      · exact hx
      · have := h.1 y hy; omega
theorem mem_ins {l : List Int} {c x : Int} : x ∈ ins l c ↔ x = c ∨ x ∈ l := by
  unfold ins
  rw [List.mem_append, List.mem_cons]
  have h : x ∈ l ↔ x ∈ l.take (lb l c) ∨ x ∈ l.drop (lb l c) := by
    rw [← List.mem_append, List.take_append_drop]
  rw [h]
  constructor
  · rintro (h | h | h)
    · exact .inr (.inl h)
    · exact .inl h
    · exact .inr (.inr h)
  · rintro (h | h | h)
    · exact .inr (.inl h)
    · exact .inl h
    · exact .inr (.inr h)
theorem ins_lt {l : List Int} {c : Int} (h : l.Pairwise (· < ·)) (hc : c ∉ l) : (ins l c).Pairwise (· < ·) := by
  obtain ⟨h1, h2⟩ := lb_cut l c h
  unfold ins
  rw [List.pairwise_append, List.pairwise_cons]
  have hd : ∀ x ∈ l.drop (lb l c), c < x := fun x hx => by
    have a := h2 x hx
    have b : x ≠ c := fun e => hc (e ▸ List.mem_of_mem_drop hx)
    omega
  refine ⟨h.sublist (List.take_sublist _ _), ⟨hd, h.sublist (List.drop_sublist _ _)⟩, fun x hx y hy => ?_⟩
  rcases List.mem_cons.1 hy with rfl | hy
  · exact h1 x hx
  · have a := h1 x hx
    have b := hd y hy
    omega
theorem run_ok : ∀ (l : List Int) (u : Int), l.Pairwise (· < ·) → (∀ x ∈ l, u + 1 ≤ x ∧ x ≤ 65535) → u ≤ 65535 → u + run u l ≤ 65535 ∧ ∀ x ∈ l.drop (run u l), u + run u l + 2 ≤ x ∧ x ≤ 65535
  | [], u, _, _, hu => by simp [run]; exact hu
  | x :: r, u, h, hb, hu => by
    rw [List.pairwise_cons] at h
    have hx := hb x (by simp)
    unfold run
    by_cases e : x = u + 1
    · rw [if_pos e]
      obtain ⟨h1, h2⟩ := run_ok r (u + 1) h.2 (fun y hy => by have a := h.1 y hy; have b := hb y (by simp [hy]); omega) (by omega)
      rw [List.drop_succ_cons]
      refine ⟨by push_cast; omega, fun y hy => ?_⟩
      have := h2 y hy
      push_cast; omega
    · rw [if_neg e]
      refine ⟨by simp; exact hu, fun y hy => ?_⟩
      rw [List.drop_zero] at hy
      rcases List.mem_cons.1 hy with rfl | hy
      · simp; omega
      · have a := h.1 y hy
        have b := hb y (by simp [hy])
        simp; omega
theorem Ok.wth {m : Mk} {c : Int} (h : Ok m) (hn : has m c = false) (h1 : c ≤ 65535) : Ok (wth m c) := by
  unfold has at hn
  rw [Bool.or_eq_false_iff] at hn
  have hc : c ∉ m.more := fun hm => by have := hn.1; simp at this; exact this hm
  have hu : ¬ c ≤ m.up := by have := hn.2; simpa using this
  have hl := ins_lt h.lt hc
  have hb : ∀ x ∈ ins m.more c, m.up + 1 ≤ x ∧ x ≤ 65535 := fun x hx => by
    rcases mem_ins.1 hx with rfl | hx
    · omega
    · have := h.gap x hx; omega
  obtain ⟨r1, r2⟩ := run_ok _ m.up hl hb h.u1
  exact ⟨by have := h.u0; simp only [Se.wth]; omega, r1, hl.sublist (List.drop_sublist _ _), r2⟩
/-- How many stand behind gaps, when one is put in. -/
theorem wth_len (m : Mk) (c : Int) : (wth m c).more.length ≤ m.more.length + 1 := by
  simp only [wth, List.length_drop, ins_len]
  omega
theorem wth_next {m : Mk} (h : Ok m) : (wth m (m.up + 1)).more.length ≤ m.more.length := by
  have e : lb m.more (m.up + 1) = 0 := by
    unfold lb
    rw [List.countP_eq_zero]
    intro y hy
    have := h.gap y hy
    simp; omega
  have e2 : ins m.more (m.up + 1) = (m.up + 1) :: m.more := by unfold ins; rw [e]; simp
  simp only [wth, e2, run, if_pos, List.drop_succ_cons, List.length_drop]
  omega
theorem mayN_zero {s : St} {i : Mg.Id4} (h : mayN s i = 0) : Mg.Right i ∧ has (getM s.kept i.o i.e) i.c = false ∧ (i.c = (getM s.kept i.o i.e).up + 1 ∨ s.gaps ≠ s.room) := by
  unfold mayN at h
  by_cases h0 : Mg.chkN i = 0
  · rw [if_neg (by simp [h0])] at h
    by_cases h1 : has (getM s.kept i.o i.e) i.c = true
    · rw [if_pos h1] at h; cases h
    · rw [if_neg h1] at h
      refine ⟨Mg.right_iff.1 h0, by simpa using h1, ?_⟩
      by_cases h2 : i.c ≠ (getM s.kept i.o i.e).up + 1 ∧ s.gaps = s.room
      · rw [if_pos h2] at h; cases h
      · by_cases h3 : i.c = (getM s.kept i.o i.e).up + 1
        · exact .inl h3
        · exact .inr fun h4 => h2 ⟨h3, h4⟩
  · rw [if_pos h0] at h
    exact absurd h h0
theorem Okk.addS {s : St} (h : Okk s) (i : Mg.Id4) : Okk (addS s i) := by
  unfold Se.addS
  by_cases hm : mayN s i = 0
  · rw [if_neg (by simp [hm])]
    obtain ⟨hr, hh, hg⟩ := mayN_zero hm
    have ho := h.get i.o i.e
    have hp : Pp i.o i.e := ⟨hr.o0, by have := hr.o1; omega, hr.e0, hr.e1⟩
    have hw := ho.wth hh hr.c1
    have hl := wth_len (getM s.kept i.o i.e) i.c
    refine ⟨h.r0, h.r1, fun o e m hk => ?_, ?_, ?_⟩
    · simp only [setM] at hk
      split at hk
      · rename_i he
        cases hk
        rw [he.1, he.2]
        exact ⟨hp, hw⟩
      · exact h.mkOk o e m hk
    · show s.gaps + _ ≤ s.room
      have := h.g1
      rcases hg with hg | hg
      · have hn := wth_next ho
        rw [← hg] at hn
        omega
      · omega
    · obtain ⟨pl, h1, h2, h3⟩ := h.cnt
      by_cases hk : s.kept i.o i.e = none
      · have hnm : (i.o, i.e) ∉ pl := fun hm => (h2 i.o i.e).2 hm hk
        refine ⟨(i.o, i.e) :: pl, List.nodup_cons.2 ⟨hnm, h1⟩, fun a b => ?_, ?_⟩
        · simp only [setM, List.mem_cons, Prod.mk.injEq]
          by_cases he : a = i.o ∧ b = i.e
          · rw [if_pos he]; simp [he]
          · rw [if_neg he, h2 a b]; simp [he]
        · show s.gaps + _ = total _ ((i.o, i.e) :: pl)
          have e0 : total (setM s.kept i.o i.e (Se.wth (getM s.kept i.o i.e) i.c)) ((i.o, i.e) :: pl) = ((Se.wth (getM s.kept i.o i.e) i.c).more.length : Int) + total (setM s.kept i.o i.e (Se.wth (getM s.kept i.o i.e) i.c)) pl := by
            unfold total
            rw [List.map_cons, List.sum_cons]
            simp only [get_set]
          rw [e0, total_other _ _ _ _ _ hnm, h3]
          have : getM s.kept i.o i.e = ⟨0, []⟩ := by unfold getM; rw [hk]; rfl
          rw [this]
          simp
          omega
      · have hmm := (h2 i.o i.e).1 hk
        refine ⟨pl, h1, fun a b => ?_, ?_⟩
        · simp only [setM]
          by_cases he : a = i.o ∧ b = i.e
          · rw [if_pos he]; simp [he, hmm]
          · rw [if_neg he]; exact h2 a b
        · show s.gaps + _ = total _ pl
          rw [total_set _ _ _ _ pl h1 hmm, h3]
  · rw [if_pos hm]
    exact h
end Go.Proofs.Ytpofdimagfldnaa.Se
