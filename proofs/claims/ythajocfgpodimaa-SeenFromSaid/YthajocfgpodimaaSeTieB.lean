/- The kept map beside the reference's keys: pure. -/
import Derived.Test.YthajocfgpodimaaZ7
import Derived.Test.YthajocfgpodimaaZ8
namespace Go.Proofs.Ythajocfgpodimaa.Se
open Go.RowKit
set_option linter.unusedVariables false
set_option linter.unusedSimpArgs false

/-- A set and the keys that are there. -/
structure Rel (s : St) (L : Ks) : Prop where
  ok : Okk s
  srt : L.Pairwise (fun a b => ltK a b = true)
  rt : ∀ k ∈ L, 1 ≤ k.c
  mem : ∀ k : Ky, 1 ≤ k.c → (k ∈ L ↔ has (getM s.kept k.o k.e) k.c = true)
  one : ∀ o e, s.kept o e ≠ none → ∃ c, (⟨o, e, c⟩ : Ky) ∈ L
theorem Rel.mok {s : St} {L : Ks} (h : Rel s L) : MOk L (marksL L) := mok_all L.length L rfl h.srt h.rt
theorem has_iff (m : Mk) (c : Int) : has m c = true ↔ c ≤ m.up ∨ c ∈ m.more := by
  unfold has
  rw [Bool.or_eq_true, decide_eq_true_eq, List.contains_iff_mem, or_comm]
/-- Rising lists of the same members are one. -/
theorem rise_eq : ∀ (a b : List Int), a.Pairwise (· < ·) → b.Pairwise (· < ·) → (∀ x, x ∈ a ↔ x ∈ b) → a = b
  | [], [], _, _, _ => rfl
  | [], y :: b, _, _, h => by have := (h y).2 (by simp); simp at this
  | x :: a, [], _, _, h => by have := (h x).1 (by simp); simp at this
  | x :: a, y :: b, ha, hb, h => by
    rw [List.pairwise_cons] at ha hb
    have e : x = y := by
      rcases List.mem_cons.1 ((h x).1 (by simp)) with h1 | h1
      · exact h1
      · rcases List.mem_cons.1 ((h y).2 (by simp)) with h2 | h2
        · exact h2.symm
        · have := hb.1 x h1
          have := ha.1 y h2
          omega
    subst e
    rw [rise_eq a b ha.2 hb.2 fun z => ?_]
    constructor
    · intro hz
      rcases List.mem_cons.1 ((h z).1 (by simp [hz])) with h1 | h1
      · have := ha.1 z hz; omega
      · exact h1
    · intro hz
      rcases List.mem_cons.1 ((h z).2 (by simp [hz])) with h1 | h1
      · have := hb.1 z hz; omega
      · exact h1
theorem mark_eq {u v : Int} {a b : List Int} (h0 : 0 ≤ u) (h1 : 0 ≤ v) (ha : a.Pairwise (· < ·)) (hb : b.Pairwise (· < ·)) (ga : ∀ x ∈ a, u + 2 ≤ x) (gb : ∀ x ∈ b, v + 2 ≤ x) (h : ∀ c, 1 ≤ c → ((c ≤ u ∨ c ∈ a) ↔ (c ≤ v ∨ c ∈ b))) : u = v ∧ a = b := by
  have e : u = v := by
    have h2 : ¬ u < v := fun hlt => by
      rcases (h (u + 1) (by omega)).2 (.inl (by omega)) with h3 | h3
      · omega
      · have := ga _ h3; omega
    have h3 : ¬ v < u := fun hlt => by
      rcases (h (v + 1) (by omega)).1 (.inl (by omega)) with h3 | h3
      · omega
      · have := gb _ h3; omega
    omega
  subst e
  refine ⟨rfl, rise_eq a b ha hb fun x => ⟨fun hx => ?_, fun hx => ?_⟩⟩
  · have h2 := ga x hx
    rcases (h x (by omega)).1 (.inr hx) with h3 | h3
    · omega
    · exact h3
  · have h2 := gb x hx
    rcases (h x (by omega)).2 (.inr hx) with h3 | h3
    · omega
    · exact h3
theorem Rel.mark {s : St} {L : Ks} (h : Rel s L) {m : Mr} (hm : m ∈ marksL L) : (getM s.kept m.o m.e).up = m.up ∧ (getM s.kept m.o m.e).more = m.more := by
  have ho := h.ok.get m.o m.e
  obtain ⟨f1, f2, f3⟩ := h.mok.fit m hm
  refine mark_eq ho.u0 f1 ho.lt f2 (fun x hx => (ho.gap x hx).1) f3 fun c hc => ?_
  rw [← has_iff, ← h.mok.mem m hm c hc, h.mem _ hc]
theorem next_none : ∀ (ms : List Mr) (o e : Int), (∀ m ∈ ms, ¬ (m.o = o ∧ m.e = e)) → nextL ms o e = 1
  | [], _, _, _ => rfl
  | m :: r, o, e, h => by
    unfold nextL
    rw [if_neg (h m (by simp))]
    exact next_none r o e fun x hx => h x (by simp [hx])
theorem next_some : ∀ (ms : List Mr) (o e u : Int), (∃ m ∈ ms, m.o = o ∧ m.e = e) → (∀ m ∈ ms, m.o = o ∧ m.e = e → m.up = u) → nextL ms o e = u + 1
  | [], _, _, _, h, _ => by simp at h
  | m :: r, o, e, u, h, hu => by
    unfold nextL
    by_cases hm : m.o = o ∧ m.e = e
    · rw [if_pos hm, hu m (by simp) hm]
    · rw [if_neg hm]
      refine next_some r o e u ?_ fun x hx => hu x (by simp [hx])
      obtain ⟨q, hq, h1⟩ := h
      rcases List.mem_cons.1 hq with rfl | hq
      · exact absurd h1 hm
      · exact ⟨q, hq, h1⟩
theorem Rel.place {s : St} {L : Ks} (h : Rel s L) (o e : Int) : s.kept o e ≠ none ↔ ∃ m ∈ marksL L, m.o = o ∧ m.e = e := by
  constructor
  · intro hk
    obtain ⟨c, hc⟩ := h.one o e hk
    exact h.mok.key _ hc
  · rintro ⟨m, hm, rfl, rfl⟩ hk
    obtain ⟨c, hc⟩ := h.mok.one m hm
    have h1 := h.rt _ hc
    have h2 := (h.mem _ h1).1 hc
    rw [has_iff] at h2
    simp only [getM, hk, Option.getD_none, List.not_mem_nil, or_false] at h2
    simp only at h1
    omega
theorem Rel.next {s : St} {L : Ks} (h : Rel s L) (o e : Int) : nextL (marksL L) o e = (getM s.kept o e).up + 1 := by
  by_cases hk : s.kept o e = none
  · have h0 : (getM s.kept o e).up = 0 := by simp [getM, hk]
    rw [h0, next_none]
    · rfl
    · intro m hm hp
      exact (h.place o e).2 ⟨m, hm, hp⟩ hk
  · refine next_some _ _ _ _ ((h.place o e).1 hk) fun m hm hp => ?_
    obtain ⟨rfl, rfl⟩ := hp
    exact (h.mark hm).1.symm
theorem perm_sum {α : Type} (f : α → Int) {a b : List α} (h : a.Perm b) : (a.map f).sum = (b.map f).sum := by
  induction h with
  | nil => rfl
  | cons x _ ih => simp [ih]
  | swap x y l => simp only [List.map_cons, List.sum_cons]; omega
  | trans _ _ h1 h2 => exact h1.trans h2
theorem Rel.gaps {s : St} {L : Ks} (h : Rel s L) : gapsL (marksL L) = s.gaps := by
  obtain ⟨pl, h1, h2, h3⟩ := h.ok.cnt
  have e1 : gapsL (marksL L) = total s.kept ((marksL L).map fun m => (m.o, m.e)) := by
    unfold gapsL total
    rw [List.map_map]
    congr 1
    refine List.map_congr_left fun m hm => ?_
    show _ = ((getM s.kept m.o m.e).more.length : Int)
    rw [(h.mark hm).2]
  have hnd : ((marksL L).map fun m => (m.o, m.e)).Nodup := by
    unfold List.Nodup
    rw [List.pairwise_map]
    refine h.mok.pl.imp fun {a b} hab e => ?_
    simp only [Prod.mk.injEq] at e
    omega
  rw [e1, h3]
  refine perm_sum _ ((List.perm_ext_iff_of_nodup hnd h1).2 fun p => ?_)
  obtain ⟨o, e⟩ := p
  rw [← h2 o e, h.place o e, List.mem_map]
  constructor
  · rintro ⟨m, hm, hp⟩
    simp only [Prod.mk.injEq] at hp
    exact ⟨m, hm, hp⟩
  · rintro ⟨m, hm, h4, h5⟩
    exact ⟨m, hm, by rw [h4, h5]⟩
theorem Rel.may {s : St} {L : Ks} (h : Rel s L) (i : Mg.Id4) : rmayN s.room L i = mayN s i := by
  unfold rmayN mayN
  by_cases h0 : Mg.chkN i = 0
  · have hr := Mg.right_iff.1 h0
    rw [if_neg (fun h1 : Mg.chkN i ≠ 0 => h1 h0), if_neg (fun h1 : Mg.chkN i ≠ 0 => h1 h0), h.next, h.gaps]
    have hm := h.mem ⟨i.o, i.e, i.c⟩ hr.c0
    have hg := h.ok.g1
    by_cases h1 : (⟨i.o, i.e, i.c⟩ : Ky) ∈ L
    · rw [if_pos h1, if_pos (hm.1 h1)]
    · rw [if_neg h1, if_neg (fun h2 => h1 (hm.2 h2))]
      have : (s.room ≤ s.gaps) ↔ (s.gaps = s.room) := by omega
      simp only [this]
  · rw [if_pos h0, if_pos h0]
theorem Rel.has {s : St} {L : Ks} (h : Rel s L) (i : Mg.Id4) : rhas L i = hasS s i := by
  unfold rhas hasS
  by_cases h0 : Mg.chkN i = 0
  · have hr := Mg.right_iff.1 h0
    have hm := h.mem ⟨i.o, i.e, i.c⟩ hr.c0
    simp only at hm
    congr 1
    by_cases h1 : (⟨i.o, i.e, i.c⟩ : Ky) ∈ L
    · rw [decide_eq_true h1, hm.1 h1]
    · rw [decide_eq_false h1]
      cases h2 : Se.has (getM s.kept i.o i.e) i.c with
      | false => rfl
      | true => exact absurd (hm.2 h2) h1
  · simp [h0]
theorem run_mem : ∀ (l : List Int) (u d : Int), (d ≤ u + run u l ∨ d ∈ l.drop (run u l)) ↔ (d ≤ u ∨ d ∈ l)
  | [], u, d => by simp [run]
  | x :: r, u, d => by
    unfold run
    by_cases hx : x = u + 1
    · rw [if_pos hx, List.drop_succ_cons]
      have ih := run_mem r (u + 1) d
      have e : u + 1 + ((run (u + 1) r : Nat) : Int) = u + ((run (u + 1) r + 1 : Nat) : Int) := by push_cast; omega
      rw [e] at ih
      rw [ih, List.mem_cons, hx]
      have : (d ≤ u + 1) ↔ (d ≤ u ∨ d = u + 1) := by omega
      rw [this, or_assoc]
    · rw [if_neg hx]
      simp
theorem has_wth (m : Mk) (c d : Int) : has (wth m c) d = true ↔ has m d = true ∨ d = c := by
  rw [has_iff, has_iff]
  unfold wth
  simp only
  rw [run_mem, mem_ins, or_comm (a := d = c), or_assoc]
theorem ltK_trans {a b c : Ky} (h : ltK a b = true) (k : ltK b c = true) : ltK a c = true := by
  rw [ltK_iff] at h k ⊢
  omega
theorem ltK_total {a b : Ky} (h : ltK a b = false) (hne : b ≠ a) : ltK b a = true := by
  have h1 : ¬ ltK a b = true := by simp [h]
  rw [ltK_iff] at h1 ⊢
  have h2 : ¬ (b.o = a.o ∧ b.e = a.e ∧ b.c = a.c) := fun ⟨h3, h4, h5⟩ => hne (by cases a; cases b; simp_all)
  omega
theorem put_cons_lt {k y : Ky} {r : Ks} (h : ltK k y = true) : putL (y :: r) k = k :: y :: r := by
  unfold putL
  simp [List.takeWhile_cons, List.dropWhile_cons, h]
theorem put_cons_ge {k y : Ky} {r : Ks} (h : ltK k y = false) : putL (y :: r) k = y :: putL r k := by
  unfold putL
  simp [List.takeWhile_cons, List.dropWhile_cons, h]
theorem mem_put : ∀ (L : Ks) (k x : Ky), x ∈ putL L k ↔ x ∈ L ∨ x = k
  | [], k, x => by simp [putL]
  | y :: r, k, x => by
    cases h : ltK k y with
    | true =>
      rw [put_cons_lt h, List.mem_cons, or_comm]
    | false =>
      rw [put_cons_ge h, List.mem_cons, List.mem_cons, mem_put r k x, or_assoc]
theorem put_len : ∀ (L : Ks) (k : Ky), (putL L k).length = L.length + 1
  | [], k => by simp [putL]
  | y :: r, k => by
    cases h : ltK k y with
    | true => rw [put_cons_lt h]; simp
    | false => rw [put_cons_ge h, List.length_cons, put_len r k]; simp
theorem put_rise : ∀ (L : Ks) (k : Ky), L.Pairwise (fun a b => ltK a b = true) → k ∉ L → (putL L k).Pairwise (fun a b => ltK a b = true)
  | [], k, _, _ => by simp [putL]
  | y :: r, k, h, hk => by
    have hp := h
    rw [List.pairwise_cons] at h
    cases hy : ltK k y with
    | true =>
      rw [put_cons_lt hy, List.pairwise_cons]
      refine ⟨fun x hx => ?_, hp⟩
      rcases List.mem_cons.1 hx with rfl | hx
      · exact hy
      · exact ltK_trans hy (h.1 x hx)
    | false =>
      rw [put_cons_ge hy, List.pairwise_cons]
      refine ⟨fun x hx => ?_, put_rise r k h.2 fun h1 => hk (by simp [h1])⟩
      rcases (mem_put r k x).1 hx with hx | rfl
      · exact h.1 x hx
      · exact ltK_total hy fun e => hk (by simp [e])
theorem Rel.nil {s : St} (h : Okk s) (hk : ∀ o e, s.kept o e = none) : Rel s [] := by
  refine ⟨h, List.Pairwise.nil, by simp, fun k hc => ?_, fun o e h1 => absurd (hk o e) h1⟩
  rw [has_iff]
  simp only [getM, hk, Option.getD_none, List.not_mem_nil, or_false, false_iff]
  omega
theorem addS_room (s : St) (i : Mg.Id4) : (addS s i).room = s.room := by unfold addS; split <;> rfl
theorem Rel.add {s : St} {L : Ks} (h : Rel s L) (i : Mg.Id4) : Rel (addS s i) (raddL s.room L i) := by
  unfold raddL
  rw [h.may]
  have hok := h.ok.addS i
  by_cases h0 : mayN s i = 0
  · rw [if_pos h0]
    obtain ⟨hr, hn, _⟩ := mayN_zero h0
    have hkept : (addS s i).kept = setM s.kept i.o i.e (wth (getM s.kept i.o i.e) i.c) := by unfold addS; rw [if_neg (fun h1 : mayN s i ≠ 0 => h1 h0)]
    have hnot : (⟨i.o, i.e, i.c⟩ : Ky) ∉ L := fun h1 => by
      have := (h.mem _ hr.c0).1 h1
      simp only at this
      rw [hn] at this
      cases this
    refine ⟨hok, put_rise L _ h.srt hnot, fun k hk => ?_, fun k hc => ?_, fun o e hk => ?_⟩
    · rcases (mem_put L _ k).1 hk with hk | rfl
      · exact h.rt k hk
      · exact hr.c0
    · rw [mem_put, h.mem k hc, hkept]
      obtain ⟨o, e, c⟩ := k
      simp only
      by_cases hp : o = i.o ∧ e = i.e
      · obtain ⟨rfl, rfl⟩ := hp
        rw [get_set, has_wth]
        simp only [Ky.mk.injEq, true_and]
      · rw [get_set_ne _ _ hp]
        have : ¬ (⟨o, e, c⟩ : Ky) = ⟨i.o, i.e, i.c⟩ := fun h1 => hp ⟨congrArg Ky.o h1, congrArg Ky.e h1⟩
        simp only [this, or_false]
    · rw [hkept] at hk
      by_cases hp : o = i.o ∧ e = i.e
      · obtain ⟨rfl, rfl⟩ := hp
        exact ⟨i.c, (mem_put L _ _).2 (.inr rfl)⟩
      · have hk2 : s.kept o e ≠ none := by
          unfold setM at hk
          rw [if_neg hp] at hk
          exact hk
        obtain ⟨c, hc⟩ := h.one o e hk2
        exact ⟨c, (mem_put L _ _).2 (.inl hc)⟩
  · rw [if_neg h0]
    have e : addS s i = s := by unfold addS; rw [if_pos h0]
    rw [e]
    exact h
theorem radd_len (room : Int) (L : Ks) (i : Mg.Id4) : (raddL room L i).length ≤ L.length + 1 := by
  unfold raddL
  split
  · rw [put_len]; exact Nat.le_refl _
  · omega
end Go.Proofs.Ythajocfgpodimaa.Se
