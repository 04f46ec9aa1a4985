/- Marks stay right, whatever is put into them. -/
import Derived.Test.YtfnlhfelpdkieaaGreatZ2
namespace Go.Proofs.YtfnlhfelpdkieaaGreat.Se
open Go.RowKit
set_option linter.unusedVariables false
set_option linter.unusedSimpArgs false

theorem lb_cut : ∀ (l : List Int) (c : Int), l.Pairwise (· < ·) → (∀ x ∈ l.take (lb l c), x < c) ∧ (∀ x ∈ l.drop (lb l c), ¬ x < c)
  | [], c, _ => by simp [lb]
  | x :: r, c, h => by
    rw [List.pairwise_cons] at h
    by_cases hx : x < c
    · have e : lb (x :: r) c = lb r c + 1 := by unfold lb; rw [List.countP_cons_of_pos (by simpa using hx)]
      obtain ⟨h1, h2⟩ := lb_cut r c h.2
      rw [e, List.take_succ_cons, List.drop_succ_cons]
      exact ⟨fun y hy => by rcases List.mem_cons.1 hy with rfl | hy; exact hx; exact h1 y hy, h2⟩
    · have e : lb (x :: r) c = 0 := by
        unfold lb
        rw [List.countP_eq_zero]
        intro y hy
        rcases List.mem_cons.1 hy with rfl | hy
        · simpa using hx
        · have := h.1 y hy
          simp; omega
      rw [e]
      refine ⟨by simp, fun y hy => ?_⟩
      rw [List.drop_zero] at hy
      rcases List.mem_cons.1 hy with rfl | hy
      · exact hx
      · have := h.1 y hy; omega
theorem mem_ins {l : List Int} {c x : Int} : x ∈ ins l c ↔ x = c ∨ x ∈ l := by
  unfold ins
  rw [List.mem_append, List.mem_cons]
  have h : x ∈ l ↔ x ∈ l.take (lb l c) ∨ x ∈ l.drop (lb l c) := by
    rw [← List.mem_append, List.take_append_drop]
  rw [h]
  constructor
  · rintro (h | h | h)
    · exact .inr (.inl h)
    · exact .inl h
    · exact .inr (.inr h)
  · rintro (h | h | h)
    · exact .inr (.inl h)
    · exact .inl h
    · exact .inr (.inr h)
theorem ins_lt {l : List Int} {c : Int} (h : l.Pairwise (· < ·)) (hc : c ∉ l) : (ins l c).Pairwise (· < ·) := by
  obtain ⟨h1, h2⟩ := lb_cut l c h
  unfold ins
  rw [List.pairwise_append, List.pairwise_cons]
  have hd : ∀ x ∈ l.drop (lb l c), c < x := fun x hx => by
    have a := h2 x hx
    have b : x ≠ c := fun e => hc (e ▸ List.mem_of_mem_drop hx)
    omega
  refine ⟨h.sublist (List.take_sublist _ _), ⟨hd, h.sublist (List.drop_sublist _ _)⟩, fun x hx y hy => ?_⟩
  rcases List.mem_cons.1 hy with rfl | hy
  · exact h1 x hx
  · have a := h1 x hx
    have b := hd y hy
    omega
theorem run_ok : ∀ (l : List Int) (u : Int), l.Pairwise (· < ·) → (∀ x ∈ l, u + 1 ≤ x ∧ x ≤ 65535) → u ≤ 65535 → u + run u l ≤ 65535 ∧ ∀ x ∈ l.drop (run u l), u + run u l + 2 ≤ x ∧ x ≤ 65535
  | [], u, _, _, hu => by simp [run]; exact hu
  | x :: r, u, h, hb, hu => by
    rw [List.pairwise_cons] at h
    have hx := hb x (by simp)
    unfold run
    by_cases e : x = u + 1
    · rw [if_pos e]
      obtain ⟨h1, h2⟩ := run_ok r (u + 1) h.2 (fun y hy => by have a := h.1 y hy; have b := hb y (by simp [hy]); omega) (by omega)
      rw [List.drop_succ_cons]
      refine ⟨by push_cast; omega, fun y hy => ?_⟩
      have := h2 y hy
      push_cast; omega
    · rw [if_neg e]
      refine ⟨by simp; exact hu, fun y hy => ?_⟩
      rw [List.drop_zero] at hy
      rcases List.mem_cons.1 hy with rfl | hy
      · simp; omega
      · have a := h.1 y hy
        have b := hb y (by simp [hy])
        simp; omega
theorem Ok.wth {m : Mk} {c : Int} (h : Ok m) (hn : has m c = false) (h1 : c ≤ 65535) : Ok (wth m c) := by
  unfold has at hn
  rw [Bool.or_eq_false_iff] at hn
  have hc : c ∉ m.more := fun hm => by have := hn.1; simp at this; exact this hm
  have hu : ¬ c ≤ m.up := by have := hn.2; simpa using this
  have hl := ins_lt h.lt hc
  have hb : ∀ x ∈ ins m.more c, m.up + 1 ≤ x ∧ x ≤ 65535 := fun x hx => by
    rcases mem_ins.1 hx with rfl | hx
    · omega
    · have := h.gap x hx; omega
  obtain ⟨r1, r2⟩ := run_ok _ m.up hl hb h.u1
  exact ⟨by have := h.u0; simp only [Se.wth]; omega, r1, hl.sublist (List.drop_sublist _ _), r2⟩
/-- How many stand behind gaps, when one is put in. -/
theorem wth_len (m : Mk) (c : Int) : (wth m c).more.length ≤ m.more.length + 1 := by
  simp only [wth, List.length_drop, ins_len]
  omega
theorem wth_next {m : Mk} (h : Ok m) : (wth m (m.up + 1)).more.length ≤ m.more.length := by
  have e : lb m.more (m.up + 1) = 0 := by
    unfold lb
    rw [List.countP_eq_zero]
    intro y hy
    have := h.gap y hy
    simp; omega
  have e2 : ins m.more (m.up + 1) = (m.up + 1) :: m.more := by unfold ins; rw [e]; simp
  simp only [wth, e2, run, if_pos, List.drop_succ_cons, List.length_drop]
  omega
theorem mayN_zero {s : St} {i : Mg.Id4} (h : mayN s i = 0) : Mg.Right i ∧ has (getM s.kept i.o i.e) i.c = false ∧ (i.c = (getM s.kept i.o i.e).up + 1 ∨ s.gaps ≠ s.room) := by
  unfold mayN at h
  by_cases h0 : Mg.chkN i = 0
  · rw [if_neg (by simp [h0])] at h
    by_cases h1 : has (getM s.kept i.o i.e) i.c = true
    · rw [if_pos h1] at h; cases h
    · rw [if_neg h1] at h
      refine ⟨Mg.right_iff.1 h0, by simpa using h1, ?_⟩
      by_cases h2 : i.c ≠ (getM s.kept i.o i.e).up + 1 ∧ s.gaps = s.room
      · rw [if_pos h2] at h; cases h
      · by_cases h3 : i.c = (getM s.kept i.o i.e).up + 1
        · exact .inl h3
        · exact .inr fun h4 => h2 ⟨h3, h4⟩
  · rw [if_pos h0] at h
    exact absurd h h0
theorem Okk.addS {s : St} (h : Okk s) (i : Mg.Id4) : Okk (addS s i) := by
  unfold Se.addS
  by_cases hm : mayN s i = 0
  · rw [if_neg (by simp [hm])]
    obtain ⟨hr, hh, hg⟩ := mayN_zero hm
    have ho := h.get i.o i.e
    have hp : Pp i.o i.e := ⟨hr.o0, by have := hr.o1; omega, hr.e0, hr.e1⟩
    have hw := ho.wth hh hr.c1
    have hl := wth_len (getM s.kept i.o i.e) i.c
    refine ⟨h.r0, h.r1, fun o e m hk => ?_, ?_, ?_⟩
    · simp only [setM] at hk
      split at hk
      · rename_i he
        cases hk
        rw [he.1, he.2]
        exact ⟨hp, hw⟩
      · exact h.mkOk o e m hk
    · show s.gaps + _ ≤ s.room
      have := h.g1
      rcases hg with hg | hg
      · have hn := wth_next ho
        rw [← hg] at hn
        omega
      · omega
    · obtain ⟨pl, h1, h2, h3⟩ := h.cnt
      by_cases hk : s.kept i.o i.e = none
      · have hnm : (i.o, i.e) ∉ pl := fun hm => (h2 i.o i.e).2 hm hk
        refine ⟨(i.o, i.e) :: pl, List.nodup_cons.2 ⟨hnm, h1⟩, fun a b => ?_, ?_⟩
        · simp only [setM, List.mem_cons, Prod.mk.injEq]
          by_cases he : a = i.o ∧ b = i.e
          · rw [if_pos he]; simp [he]
          · rw [if_neg he, h2 a b]; simp [he]
        · show s.gaps + _ = total _ ((i.o, i.e) :: pl)
          have e0 : total (setM s.kept i.o i.e (Se.wth (getM s.kept i.o i.e) i.c)) ((i.o, i.e) :: pl) = ((Se.wth (getM s.kept i.o i.e) i.c).more.length : Int) + total (setM s.kept i.o i.e (Se.wth (getM s.kept i.o i.e) i.c)) pl := by
            unfold total
            rw [List.map_cons, List.sum_cons]
            simp only [get_set]
          rw [e0, total_other _ _ _ _ _ hnm, h3]
          have : getM s.kept i.o i.e = ⟨0, []⟩ := by unfold getM; rw [hk]; rfl
          rw [this]
          simp
          omega
      · have hmm := (h2 i.o i.e).1 hk
        refine ⟨pl, h1, fun a b => ?_, ?_⟩
        · simp only [setM]
          by_cases he : a = i.o ∧ b = i.e
          · rw [if_pos he]; simp [he, hmm]
          · rw [if_neg he]; exact h2 a b
        · show s.gaps + _ = total _ pl
          rw [total_set _ _ _ _ pl h1 hmm, h3]
  · rw [if_pos hm]
    exact h
end Go.Proofs.YtfnlhfelpdkieaaGreat.Se
/- What a node has in its custody, as plain data: messages, counters, what events make of them. -/
namespace Go.Proofs.YtfnlhfelpdkieaaGreat.So
open Go.RowKit
set_option linter.unusedVariables false
set_option linter.unusedSimpArgs false

instance idEq : DecidableEq Mg.Id4 := fun a b => decidable_of_iff (a.o = b.o ∧ a.d = b.d ∧ a.e = b.e ∧ a.c = b.c) ⟨fun h => by
  cases a
  cases b
  obtain ⟨h1, h2, h3, h4⟩ := h
  simp only at h1 h2 h3 h4
  rw [h1, h2, h3, h4], fun h => by rw [h]; exact ⟨rfl, rfl, rfl, rfl⟩⟩
/-- A message that is held. -/
structure It where
  i : Mg.Id4
  p : List Nat
structure Sto where
  self : Int
  qh : Int
  qb : Int
  qg : Int
  epoch : Int
  last : Nat → Int
  held : List It
  seen : Se.St
def bytesOf : List It → Int
  | [] => 0
  | x :: r => (x.p.length : Int) + bytesOf r
/-- The data of a message that is held. -/
def findH : List It → Mg.Id4 → Option (List Nat)
  | [], _ => none
  | x :: r, i => if x.i = i then some x.p else findH r i
def hasH (l : List It) (i : Mg.Id4) : Bool := (findH l i).isSome
def zeroI : Mg.Id4 := ⟨0, 0, 0, 0⟩
/-- What the check of an event answers, by its kind, id and how many bytes it has. -/
def chkE (k : Int) (i : Mg.Id4) (n : Nat) : Nat :=
  if k = 1 then (if i = zeroI ∧ n = 0 then 0 else 2)
  else if k = 2 then Mg.msgN i n
  else if k = 3 ∨ k = 4 then (if Mg.chkN i ≠ 0 then Mg.chkN i else if n = 0 then 0 else 2)
  else 1
def fitsB (i : Mg.Id4) (self epoch : Int) : Bool := decide (i.d ≠ self ∧ (i.o ≠ self ∨ i.e ≤ epoch))
def mayB (s : Sto) : Nat := if s.epoch = 65535 then 10 else 0
def mayH (s : Sto) (i : Mg.Id4) (n : Nat) : Nat :=
  if fitsB i s.self s.epoch = false then 2 else if hasH s.held i = true then 5 else if s.qh ≤ s.held.length ∨ s.qb < bytesOf s.held + n then 6 else 0
def mayR (s : Sto) (i : Mg.Id4) : Nat := if hasH s.held i = true then 0 else 4
def mayD (s : Sto) (i : Mg.Id4) : Nat := if i.d ≠ s.self then 2 else Se.mayN s.seen i
/-- What May answers. -/
def mayE (s : Sto) (k : Int) (i : Mg.Id4) (n : Nat) : Nat :=
  if chkE k i n ≠ 0 then chkE k i n
  else if k = 1 then mayB s
  else if k = 2 then mayH s i n
  else if k = 3 then mayR s i
  else mayD s i
def useL (s : Sto) (i : Mg.Id4) : Nat → Int := if i.o = s.self ∧ i.e = s.epoch then (fun k => if (k : Int) = i.d then max (s.last k) i.c else s.last k) else s.last
def without (l : List It) (i : Mg.Id4) : List It := l.filter fun x => decide (x.i ≠ i)
def bootS (s : Sto) : Sto := ⟨s.self, s.qh, s.qb, s.qg, s.epoch + 1, fun _ => 0, s.held, s.seen⟩
def holdS (s : Sto) (i : Mg.Id4) (p : List Nat) : Sto := ⟨s.self, s.qh, s.qb, s.qg, s.epoch, s.last, s.held ++ [⟨i, p⟩], s.seen⟩
def useS (s : Sto) (i : Mg.Id4) : Sto := ⟨s.self, s.qh, s.qb, s.qg, s.epoch, useL s i, s.held, s.seen⟩
def relS (s : Sto) (i : Mg.Id4) : Sto := ⟨s.self, s.qh, s.qb, s.qg, s.epoch, s.last, without s.held i, s.seen⟩
def delS (s : Sto) (i : Mg.Id4) : Sto := ⟨s.self, s.qh, s.qb, s.qg, s.epoch, s.last, s.held, Se.addS s.seen i⟩
/-- The store behind Apply. -/
def appE (s : Sto) (k : Int) (i : Mg.Id4) (p : List Nat) : Sto :=
  if mayE s k i p.length ≠ 0 then s
  else if k = 1 then bootS s
  else if k = 2 then useS (holdS s i p) i
  else if k = 3 then relS s i
  else delS s i
/-- What Fresh answers. -/
def frN (s : Sto) (d : Int) : Nat :=
  if s.epoch = 0 then 7 else if ¬ (0 ≤ d ∧ d < 64) then 1 else if d = s.self then 2 else if s.last d.toNat = 65535 then 10 else 0
def frI (s : Sto) (d : Int) : Mg.Id4 := if frN s d = 0 then ⟨s.self, d, s.epoch, s.last d.toNat + 1⟩ else zeroI
/-- A store is right. -/
structure Ok (s : Sto) : Prop where
  s0 : 0 ≤ s.self
  s1 : s.self < 64
  h0 : 0 ≤ s.qh
  h1 : s.qh ≤ 256
  b0 : 0 ≤ s.qb
  b1 : s.qb ≤ 1048576
  e0 : 0 ≤ s.epoch
  e1 : s.epoch ≤ 65535
  l0 : ∀ k, k < 64 → 0 ≤ s.last k ∧ s.last k ≤ 65535
  len : (s.held.length : Int) ≤ s.qh
  byt : bytesOf s.held ≤ s.qb
  nod : (s.held.map It.i).Nodup
  all : ∀ x ∈ s.held, Mg.msgN x.i x.p.length = 0 ∧ fitsB x.i s.self s.epoch = true ∧ (∀ z ∈ x.p, z < 256)
  room : s.seen.room = s.qg
  sok : Se.Okk s.seen
theorem bytesOf_nonneg : ∀ l : List It, 0 ≤ bytesOf l
  | [] => Int.le_refl _
  | x :: r => by have := bytesOf_nonneg r; show (0 : Int) ≤ (x.p.length : Int) + bytesOf r; omega
theorem bytesOf_app : ∀ (l r : List It), bytesOf (l ++ r) = bytesOf l + bytesOf r
  | [], r => by simp [bytesOf]
  | x :: l, r => by
    have := bytesOf_app l r
    show (x.p.length : Int) + bytesOf (l ++ r) = ((x.p.length : Int) + bytesOf l) + bytesOf r
    omega
theorem findH_none {l : List It} {i : Mg.Id4} : findH l i = none ↔ i ∉ l.map It.i := by
  induction l with
  | nil => simp [findH]
  | cons x r ih =>
    unfold findH
    by_cases h : x.i = i
    · rw [if_pos h]; simp [h]
    · rw [if_neg h, ih]
      simp only [List.map_cons, List.mem_cons]
      constructor
      · rintro h1 (h2 | h2)
        · exact h h2.symm
        · exact h1 h2
      · intro h1 h2; exact h1 (.inr h2)
theorem hasH_iff {l : List It} {i : Mg.Id4} : hasH l i = true ↔ i ∈ l.map It.i := by
  unfold hasH
  cases h : findH l i with
  | none => have := findH_none.1 h; simp only [Option.isSome_none]; constructor <;> intro h' <;> simp_all
  | some p =>
    constructor
    · intro _
      by_cases hm : i ∈ l.map It.i
      · exact hm
      · rw [findH_none.2 hm] at h; cases h
    · intro _; rfl
theorem findH_mem : ∀ {l : List It} {i : Mg.Id4} {p : List Nat}, findH l i = some p → (⟨i, p⟩ : It) ∈ l
  | [], _, _, h => by simp [findH] at h
  | x :: r, i, p, h => by
    unfold findH at h
    by_cases e : x.i = i
    · rw [if_pos e] at h
      cases h
      subst e
      exact List.mem_cons.2 (.inl rfl)
    · rw [if_neg e] at h
      exact List.mem_cons_of_mem _ (findH_mem h)
theorem findH_of_mem : ∀ {l : List It}, (l.map It.i).Nodup → ∀ {x : It}, x ∈ l → findH l x.i = some x.p
  | [], _, x, h => by simp at h
  | y :: r, hd, x, h => by
    rw [List.map_cons, List.nodup_cons] at hd
    unfold findH
    rcases List.mem_cons.1 h with rfl | h
    · rw [if_pos rfl]
    · rw [if_neg (fun e => hd.1 (by rw [e]; exact List.mem_map_of_mem h))]
      exact findH_of_mem hd.2 h
theorem findH_app {l : List It} {i j : Mg.Id4} {p : List Nat} (h : findH l i = none) : findH (l ++ [⟨i, p⟩]) j = if j = i then some p else findH l j := by
  induction l with
  | nil =>
    simp only [List.nil_append, findH]
    by_cases e : i = j
    · rw [if_pos e, if_pos e.symm]
    · rw [if_neg e, if_neg (fun h => e h.symm)]
  | cons x r ih =>
    unfold findH at h
    by_cases e : x.i = i
    · rw [if_pos e] at h; cases h
    · rw [if_neg e] at h
      rw [List.cons_append]
      simp only [findH]
      by_cases e2 : x.i = j
      · rw [if_pos e2, if_pos e2, if_neg (fun h => e (e2.trans h))]
      · rw [if_neg e2, if_neg e2]; exact ih h
theorem findH_without (l : List It) (i j : Mg.Id4) : findH (without l i) j = if j = i then none else findH l j := by
  induction l with
  | nil => simp [without, findH]
  | cons x r ih =>
    unfold without at ih ⊢
    by_cases e : x.i = i
    · rw [List.filter_cons_of_neg (by simp [e]), ih]
      by_cases e2 : j = i
      · rw [if_pos e2, if_pos e2]
      · rw [if_neg e2, if_neg e2]
        simp only [findH]
        rw [if_neg (fun h => e2 (h.symm.trans e))]
    · rw [List.filter_cons_of_pos (by simp [e])]
      simp only [findH]
      by_cases e2 : x.i = j
      · rw [if_pos e2, if_pos e2, if_neg (fun h => e (e2.trans h))]
      · rw [if_neg e2, if_neg e2, ih]
theorem bytesOf_without : ∀ {l : List It}, (l.map It.i).Nodup → ∀ (i : Mg.Id4) {p : List Nat}, findH l i = some p → bytesOf (without l i) = bytesOf l - p.length
  | [], _, i, p, h => by simp [findH] at h
  | x :: r, hd, i, p, h => by
    rw [List.map_cons, List.nodup_cons] at hd
    unfold findH at h
    unfold without
    by_cases e : x.i = i
    · rw [if_pos e] at h
      cases h
      subst e
      rw [List.filter_cons_of_neg (by simp)]
      have : r.filter (fun y => decide (y.i ≠ x.i)) = r := List.filter_eq_self.2 fun y hy => by
        simp only [ne_eq, decide_eq_true_eq]
        intro h2
        exact hd.1 (by rw [← h2]; exact List.mem_map_of_mem hy)
      rw [this]
      simp only [bytesOf]
      omega
    · rw [if_neg e] at h
      rw [List.filter_cons_of_pos (by simp [e])]
      have := bytesOf_without hd.2 i h
      unfold without at this
      simp only [bytesOf]
      omega
theorem without_none {l : List It} {i : Mg.Id4} (h : findH l i = none) : without l i = l := by
  unfold without
  refine List.filter_eq_self.2 fun y hy => ?_
  simp only [ne_eq, decide_eq_true_eq]
  intro e
  exact findH_none.1 h (by rw [← e]; exact List.mem_map_of_mem hy)
theorem find_len {s : Sto} (h : Ok s) {i : Mg.Id4} {p : List Nat} (hf : findH s.held i = some p) : Mg.msgN i p.length = 0 ∧ fitsB i s.self s.epoch = true ∧ ∀ z ∈ p, z < 256 := h.all _ (findH_mem hf)
theorem msgN_zero {i : Mg.Id4} {n : Nat} (h : Mg.msgN i n = 0) : Mg.Right i ∧ 1 ≤ n ∧ n ≤ 48 := by
  unfold Mg.msgN at h
  split at h
  · rename_i h1; exact absurd h h1
  · rename_i h1
    refine ⟨Mg.right_iff.1 (by simpa using h1), ?_⟩
    split at h
    · cases h
    · split at h
      · cases h
      · omega
theorem Ok.boot {s : Sto} (h : Ok s) (he : ¬ s.epoch = 65535) : Ok (bootS s) :=
  ⟨h.s0, h.s1, h.h0, h.h1, h.b0, h.b1, by have := h.e0; show 0 ≤ s.epoch + 1; omega, by have := h.e1; show s.epoch + 1 ≤ 65535; omega, fun _ _ => ⟨Int.le_refl _, by show (0 : Int) ≤ 65535; omega⟩, h.len, h.byt, h.nod, fun x hx => by
    obtain ⟨h1, h2, h3⟩ := h.all x hx
    refine ⟨h1, ?_, h3⟩
    unfold fitsB at h2 ⊢
    simp only [decide_eq_true_eq] at h2 ⊢
    refine ⟨h2.1, ?_⟩
    rcases h2.2 with h4 | h4
    · exact .inl h4
    · exact .inr (by show x.i.e ≤ s.epoch + 1; omega), h.room, h.sok⟩
theorem Ok.hold {s : Sto} (h : Ok s) {i : Mg.Id4} {p : List Nat} (hm : mayH s i p.length = 0) (hg : Mg.msgN i p.length = 0) (hp : ∀ z ∈ p, z < 256) : Ok (holdS s i p) := by
  unfold mayH at hm
  split at hm
  · cases hm
  rename_i h1
  split at hm
  · cases hm
  rename_i h2
  split at hm
  · cases hm
  rename_i h3
  have hn : findH s.held i = none := by
    cases hf : findH s.held i with
    | none => rfl
    | some q => exact absurd (by unfold hasH; rw [hf]; rfl) h2
  refine ⟨h.s0, h.s1, h.h0, h.h1, h.b0, h.b1, h.e0, h.e1, h.l0, ?_, ?_, ?_, fun x hx => ?_, h.room, h.sok⟩
  · show ((s.held ++ [(⟨i, p⟩ : It)]).length : Int) ≤ s.qh
    rw [List.length_append]
    simp only [List.length_cons, List.length_nil]
    omega
  · show bytesOf (s.held ++ [(⟨i, p⟩ : It)]) ≤ s.qb
    rw [bytesOf_app]
    simp only [bytesOf]
    omega
  · show ((s.held ++ [(⟨i, p⟩ : It)]).map It.i).Nodup
    rw [List.map_append, List.nodup_append]
    refine ⟨h.nod, by simp, fun a ha b hb e => ?_⟩
    simp at hb
    subst hb
    exact findH_none.1 hn (e ▸ ha)
  · rcases List.mem_append.1 hx with hx | hx
    · exact h.all x hx
    · obtain rfl : x = ⟨i, p⟩ := by simpa using hx
      exact ⟨hg, by show fitsB i s.self s.epoch = true; simpa using h1, hp⟩
theorem Ok.use {s : Sto} (h : Ok s) {i : Mg.Id4} (hr : Mg.Right i) : Ok (useS s i) := by
  refine ⟨h.s0, h.s1, h.h0, h.h1, h.b0, h.b1, h.e0, h.e1, fun k hk => ?_, h.len, h.byt, h.nod, h.all, h.room, h.sok⟩
  show 0 ≤ useL s i k ∧ useL s i k ≤ 65535
  unfold useL
  have h1 := h.l0 k hk
  have h2 := hr.c0
  have h3 := hr.c1
  split
  · show 0 ≤ (if (k : Int) = i.d then max (s.last k) i.c else s.last k) ∧ (if (k : Int) = i.d then max (s.last k) i.c else s.last k) ≤ 65535
    split
    · omega
    · exact h1
  · exact h1
theorem without_sub (l : List It) (i : Mg.Id4) : (without l i).Sublist l := List.filter_sublist
theorem bytesOf_sub (l : List It) (i : Mg.Id4) : bytesOf (without l i) ≤ bytesOf l := by
  induction l with
  | nil => exact Int.le_refl _
  | cons x r ih =>
    unfold without at ih ⊢
    by_cases e : x.i = i
    · rw [List.filter_cons_of_neg (by simp [e])]
      simp only [bytesOf]; omega
    · rw [List.filter_cons_of_pos (by simp [e])]
      simp only [bytesOf]; omega
theorem Ok.rel {s : Sto} (h : Ok s) (i : Mg.Id4) : Ok (relS s i) :=
  ⟨h.s0, h.s1, h.h0, h.h1, h.b0, h.b1, h.e0, h.e1, h.l0, by
    have h1 := (without_sub s.held i).length_le
    have h2 := h.len
    show ((without s.held i).length : Int) ≤ s.qh
    omega, by
    have h1 := bytesOf_sub s.held i
    have h2 := h.byt
    show bytesOf (without s.held i) ≤ s.qb
    omega, List.Nodup.sublist ((without_sub s.held i).map It.i) h.nod, fun x hx => h.all x ((without_sub s.held i).subset hx), h.room, h.sok⟩
theorem addS_room (s : Se.St) (i : Mg.Id4) : (Se.addS s i).room = s.room := by unfold Se.addS; split <;> rfl
theorem Ok.del {s : Sto} (h : Ok s) (i : Mg.Id4) : Ok (delS s i) :=
  ⟨h.s0, h.s1, h.h0, h.h1, h.b0, h.b1, h.e0, h.e1, h.l0, h.len, h.byt, h.nod, h.all, by show (Se.addS s.seen i).room = s.qg; rw [addS_room]; exact h.room, h.sok.addS i⟩
theorem Ok.app {s : Sto} (h : Ok s) (k : Int) (i : Mg.Id4) {p : List Nat} (hp : ∀ z ∈ p, z < 256) : Ok (appE s k i p) := by
  unfold appE
  split
  · exact h
  rename_i h0
  have h0 : mayE s k i p.length = 0 := Decidable.not_not.1 h0
  unfold mayE at h0
  split at h0
  · rename_i h1; exact absurd h0 h1
  rename_i h1
  have h1 : chkE k i p.length = 0 := Decidable.not_not.1 h1
  split
  · rename_i hk
    rw [if_pos hk] at h0
    unfold mayB at h0
    split at h0
    · cases h0
    rename_i he
    exact h.boot he
  rename_i k1
  rw [if_neg k1] at h0
  split
  · rename_i hk
    rw [if_pos hk] at h0
    unfold chkE at h1
    rw [if_neg k1, if_pos hk] at h1
    exact (h.hold h0 h1 hp).use (msgN_zero h1).1
  split
  · exact h.rel i
  · exact h.del i
end Go.Proofs.YtfnlhfelpdkieaaGreat.So
/- The counters that are used, in order: as plain data. -/
namespace Go.Proofs.YtfnlhfelpdkieaaGreat.So
set_option linter.unusedVariables false
set_option linter.unusedSimpArgs false

/-- The counters of destinations below k. -/
def usedTo (f : Nat → Int) (k : Nat) : List (Int × Int) := ((List.range k).filter fun (d : Nat) => decide (0 < f d)).map fun (d : Nat) => ((d : Int), f d)
def usedL (s : Sto) : List (Int × Int) := usedTo s.last 64
theorem usedTo_zero (f : Nat → Int) : usedTo f 0 = [] := rfl
theorem usedTo_yes {f : Nat → Int} {k : Nat} (h : 0 < f k) : usedTo f (k + 1) = usedTo f k ++ [((k : Int), f k)] := by
  unfold usedTo
  rw [List.range_succ, List.filter_append, List.map_append]
  simp [h]
theorem usedTo_no {f : Nat → Int} {k : Nat} (h : ¬ 0 < f k) : usedTo f (k + 1) = usedTo f k := by
  unfold usedTo
  rw [List.range_succ, List.filter_append, List.map_append]
  simp [h]
theorem usedTo_len (f : Nat → Int) (k : Nat) : (usedTo f k).length ≤ k := by
  unfold usedTo
  rw [List.length_map]
  have := List.length_filter_le (fun d => decide (0 < f d)) (List.range k)
  rw [List.length_range] at this
  exact this
end Go.Proofs.YtfnlhfelpdkieaaGreat.So
/- The document's counters: the last of a destination, one more used: as plain data. -/
namespace Go.Proofs.YtfnlhfelpdkieaaGreat.So
open Go.RowKit
set_option linter.unusedVariables false
set_option linter.unusedSimpArgs false

def lastU : List (Int × Int) → Int → Int
  | [], _ => 0
  | p :: r, d => if p.1 = d then p.2 else lastU r d
theorem lastU_none {l : List (Int × Int)} {d : Int} (h : ∀ p ∈ l, p.1 ≠ d) : lastU l d = 0 := by
  induction l with
  | nil => rfl
  | cons p r ih =>
    unfold lastU
    rw [if_neg (h p (by simp)), ih fun q hq => h q (by simp [hq])]
theorem lastU_app {l r : List (Int × Int)} {d : Int} (h : ∀ p ∈ l, p.1 ≠ d) : lastU (l ++ r) d = lastU r d := by
  induction l with
  | nil => rfl
  | cons p t ih =>
    show lastU (p :: (t ++ r)) d = _
    rw [lastU, if_neg (h p (by simp)), ih fun q hq => h q (by simp [hq])]
/-- What is found at place j. -/
theorem lastU_at {l : List (Int × Int)} {d : Int} {j : Nat} {p : Int × Int} (h : ∀ k (q : Int × Int), k < j → l[k]? = some q → q.1 ≠ d) (hj : l[j]? = some p) (hp : p.1 = d) : lastU l d = p.2 := by
  have hl := (List.getElem?_eq_some_iff.1 hj).1
  have e : l = l.take j ++ l.drop j := (List.take_append_drop j l).symm
  rw [e, lastU_app fun q hq => ?_]
  · rw [List.drop_eq_getElem_cons hl]
    have : l[j] = p := (List.getElem?_eq_some_iff.1 hj).2
    rw [this, lastU, if_pos hp]
  · obtain ⟨k, hk⟩ := List.getElem?_of_mem hq
    have hk' := (List.getElem?_eq_some_iff.1 hk).1
    rw [List.length_take] at hk'
    rw [List.getElem?_take, if_pos (by omega)] at hk
    exact h k q (by omega) hk
theorem usedTo_mem {f : Nat → Int} {k : Nat} {p : Int × Int} (h : p ∈ usedTo f k) : ∃ d, d < k ∧ 0 < f d ∧ p = ((d : Int), f d) := by
  unfold usedTo at h
  obtain ⟨d, hd, e⟩ := List.mem_map.1 h
  obtain ⟨h1, h2⟩ := List.mem_filter.1 hd
  exact ⟨d, List.mem_range.1 h1, by simpa using h2, e.symm⟩
theorem lastU_used (f : Nat → Int) (d : Nat) : ∀ k, d < k → lastU (usedTo f k) d = if 0 < f d then f d else 0
  | 0, h => absurd h (by omega)
  | k + 1, h => by
    have hne : ∀ p ∈ usedTo f k, d = k → p.1 ≠ (d : Int) := fun p hp e => by
      obtain ⟨x, h1, _, rfl⟩ := usedTo_mem hp
      show (x : Int) ≠ _
      omega
    by_cases hk : 0 < f k
    · rw [usedTo_yes hk]
      by_cases e : d = k
      · rw [lastU_app fun p hp => hne p hp e, e, lastU, if_pos rfl, if_pos hk]
      · have ih := lastU_used f d k (by omega)
        by_cases hd : 0 < f d
        · rw [if_pos hd] at ih ⊢
          have hm : ∀ l : List (Int × Int), (∃ p ∈ l, p.1 = (d : Int)) → ∀ r, lastU (l ++ r) d = lastU l d := by
            intro l
            induction l with
            | nil => rintro ⟨p, hp, _⟩; cases hp
            | cons q t iht =>
              rintro ⟨p, hp, e1⟩ r
              show lastU (q :: (t ++ r)) d = _
              unfold lastU
              by_cases hq : q.1 = (d : Int)
              · rw [if_pos hq, if_pos hq]
              · rw [if_neg hq, if_neg hq]
                refine iht ⟨p, ?_, e1⟩ r
                rcases List.mem_cons.1 hp with rfl | hp
                · exact absurd e1 hq
                · exact hp
          rw [hm _ ⟨((d : Int), f d), ?_, rfl⟩, ih]
          unfold usedTo
          exact List.mem_map.2 ⟨d, List.mem_filter.2 ⟨List.mem_range.2 (by omega), by simpa using hd⟩, rfl⟩
        · rw [if_neg hd]
          exact lastU_none fun p hp => by
            rcases List.mem_append.1 hp with hp | hp
            · obtain ⟨x, h1, h2, rfl⟩ := usedTo_mem hp
              intro e1
              have : x = d := by have e2 : (x : Int) = d := e1; omega
              subst this
              exact hd h2
            · obtain rfl := List.mem_singleton.1 hp
              show (k : Int) ≠ d
              omega
    · rw [usedTo_no hk]
      by_cases e : d = k
      · rw [if_neg (by rw [e]; exact hk)]
        exact lastU_none fun p hp => hne p hp e
      · exact lastU_used f d k (by omega)
/-- One step of use. -/
def uStep (d c : Int) (s : List (Int × Int) × Bool) (p : Int × Int) : List (Int × Int) × Bool :=
  if p.1 = d then s else if s.2 = false ∧ d < p.1 then (s.1 ++ [(d, c)] ++ [p], true) else (s.1 ++ [p], s.2)
def uGo (d c : Int) (l : List (Int × Int)) : List (Int × Int) × Bool := l.foldl (uStep d c) ([], false)
def useU (d c : Int) (l : List (Int × Int)) : List (Int × Int) := if (uGo d c l).2 = false then (uGo d c l).1 ++ [(d, c)] else (uGo d c l).1
theorem uGo_snoc (d c : Int) (l : List (Int × Int)) (p : Int × Int) : uGo d c (l ++ [p]) = uStep d c (uGo d c l) p := by unfold uGo; rw [List.foldl_append]; rfl
theorem uGo_len (d c : Int) : ∀ l : List (Int × Int), (uGo d c l).1.length ≤ 2 * l.length := by
  have h : ∀ (l : List (Int × Int)) (s : List (Int × Int) × Bool), (l.foldl (uStep d c) s).1.length ≤ s.1.length + 2 * l.length := by
    intro l
    induction l with
    | nil => intro s; simp
    | cons p r ih =>
      intro s
      have h1 := ih (uStep d c s p)
      have h2 : (uStep d c s p).1.length ≤ s.1.length + 2 := by
        unfold uStep
        split
        · omega
        · split <;> simp
      simp only [List.foldl_cons, List.length_cons]
      omega
  intro l
  have := h l ([], false)
  simpa [uGo] using this
def putF (f : Nat → Int) (d : Nat) (c : Int) : Nat → Int := fun x => if x = d then c else f x
theorem usedTo_congr {f g : Nat → Int} {k : Nat} (h : ∀ x, x < k → f x = g x) : usedTo f k = usedTo g k := by
  induction k with
  | zero => rfl
  | succ k ih =>
    have e := h k (by omega)
    have i := ih fun x hx => h x (by omega)
    by_cases hk : 0 < f k
    · rw [usedTo_yes hk, usedTo_yes (by rw [← e]; exact hk), i, e]
    · rw [usedTo_no hk, usedTo_no (by rw [← e]; exact hk), i]
theorem uGo_used (f : Nat → Int) (d : Nat) (c : Int) (hc : 0 < c) : ∀ k, (k ≤ d → uGo d c (usedTo f k) = (usedTo f k, false)) ∧ (d < k → uGo d c (usedTo f k) = (usedTo (putF f d c) k, true) ∨ (uGo d c (usedTo f k) = (usedTo f d, false) ∧ usedTo (putF f d c) k = usedTo f d ++ [((d : Int), c)]))
  | 0 => ⟨fun _ => rfl, fun h => absurd h (by omega)⟩
  | k + 1 => by
    obtain ⟨i1, i2⟩ := uGo_used f d c hc k
    constructor
    · intro h
      have i := i1 (by omega)
      by_cases hk : 0 < f k
      · rw [usedTo_yes hk, uGo_snoc, i]
        unfold uStep
        rw [if_neg (by show ¬ (k : Int) = d; omega), if_neg (by rintro ⟨_, h2⟩; have h3 : (d : Int) < k := h2; omega)]
      · rw [usedTo_no hk, i]
    · intro h
      have hpd : usedTo (putF f d c) d = usedTo f d := usedTo_congr fun x hx => by unfold putF; rw [if_neg (by omega)]
      by_cases e : k = d
      · subst e
        have i := i1 (Nat.le_refl _)
        have hP : usedTo (putF f k c) (k + 1) = usedTo f k ++ [((k : Int), c)] := by
          have e1 : putF f k c k = c := by unfold putF; rw [if_pos rfl]
          rw [usedTo_yes (by rw [e1]; exact hc), hpd, e1]
        refine .inr ⟨?_, hP⟩
        by_cases hk : 0 < f k
        · rw [usedTo_yes hk, uGo_snoc, i]
          unfold uStep
          rw [if_pos rfl]
        · rw [usedTo_no hk, i]
      · have hek : putF f d c k = f k := by unfold putF; rw [if_neg e]
        by_cases hk : 0 < f k
        · rw [usedTo_yes hk, uGo_snoc, usedTo_yes (f := putF f d c) (by rw [hek]; exact hk), hek]
          left
          rcases i2 (by omega) with i | ⟨i, hP⟩
          · rw [i]
            unfold uStep
            rw [if_neg (by show ¬ (k : Int) = d; omega), if_neg (by rintro ⟨h2, _⟩; cases h2)]
          · rw [i]
            unfold uStep
            rw [if_neg (by show ¬ (k : Int) = d; omega), if_pos ⟨rfl, by show (d : Int) < k; omega⟩, hP]
        · rw [usedTo_no hk, usedTo_no (f := putF f d c) (by rw [hek]; exact hk)]
          exact i2 (by omega)
theorem useU_used (f : Nat → Int) (d : Nat) (c : Int) (hc : 0 < c) (hd : d < 64) : useU d c (usedTo f 64) = usedTo (putF f d c) 64 := by
  unfold useU
  rcases (uGo_used f d c hc 64).2 hd with h | ⟨h, hP⟩
  · rw [h]; rfl
  · rw [h, hP]; rfl
end Go.Proofs.YtfnlhfelpdkieaaGreat.So
/- A state as plain data: which counters and messages are right, what countersOf makes of them. -/
namespace Go.Proofs.YtfnlhfelpdkieaaGreat.So
open Go.RowKit
set_option linter.unusedVariables false
set_option linter.unusedSimpArgs false

abbrev Ns := List (Int × Int)
theorem snocInd {α : Type} {motive : List α → Prop} (nil : motive []) (snoc : ∀ r x, motive r → motive (r ++ [x])) (l : List α) : motive l := by
  have h : ∀ m : List α, motive m.reverse := by
    intro m
    induction m with
    | nil => exact nil
    | cons x r ih => rw [List.reverse_cons]; exact snoc _ _ ih
  have := h l.reverse
  rwa [List.reverse_reverse] at this
/-- What countersOf makes of counters. -/
def cntOf (N : Ns) : Nat → Int := N.foldl (fun f p => fun k : Nat => if (k : Int) = p.1 then p.2 else f k) fun _ => 0
theorem cntOf_snoc (N : Ns) (p : Int × Int) : cntOf (N ++ [p]) = fun k : Nat => if (k : Int) = p.1 then p.2 else cntOf N k := by unfold cntOf; rw [List.foldl_append]; rfl
/-- Counters in order, from a least destination on. -/
def nxB (me : Int) : Int → Ns → Bool
  | _, [] => true
  | l, p :: r => if p.1 < 0 ∨ 64 ≤ p.1 ∨ p.1 < l ∨ p.1 = me ∨ p.2 < 1 ∨ 65535 < p.2 then false else nxB me (p.1 + 1) r
def OkN (me : Int) (p : Int × Int) : Prop := 0 ≤ p.1 ∧ p.1 < 64 ∧ p.1 ≠ me ∧ 1 ≤ p.2 ∧ p.2 ≤ 65535
theorem nxB_iff {me : Int} : ∀ {N : Ns} {l : Int}, nxB me l N = true ↔ (∀ p ∈ N, OkN me p ∧ l ≤ p.1) ∧ N.Pairwise fun a b => a.1 < b.1
  | [], l => by simp [nxB]
  | p :: r, l => by
    unfold nxB
    by_cases h : p.1 < 0 ∨ 64 ≤ p.1 ∨ p.1 < l ∨ p.1 = me ∨ p.2 < 1 ∨ 65535 < p.2
    · rw [if_pos h]
      constructor
      · intro h'; cases h'
      · rintro ⟨h1, _⟩
        obtain ⟨⟨a, b, c, d, e⟩, f⟩ := h1 p (by simp)
        exfalso
        rcases h with h | h | h | h | h | h
        · omega
        · omega
        · omega
        · exact c h
        · omega
        · omega
    · rw [if_neg h, nxB_iff (N := r)]
      have hp : OkN me p ∧ l ≤ p.1 := ⟨⟨by omega, by omega, fun e => h (.inr (.inr (.inr (.inl e)))), by omega, by omega⟩, by omega⟩
      constructor
      · rintro ⟨h1, h2⟩
        refine ⟨fun q hq => ?_, List.pairwise_cons.2 ⟨fun q hq => by have := (h1 q hq).2; omega, h2⟩⟩
        rcases List.mem_cons.1 hq with rfl | hq
        · exact hp
        · have := h1 q hq; exact ⟨this.1, by omega⟩
      · rintro ⟨h1, h2⟩
        rw [List.pairwise_cons] at h2
        exact ⟨fun q hq => ⟨(h1 q (List.mem_cons_of_mem _ hq)).1, by have := h2.1 q hq; omega⟩, h2.2⟩
theorem cntOf_none {N : Ns} {k : Nat} (h : ∀ p ∈ N, p.1 ≠ (k : Int)) : cntOf N k = 0 := by
  induction N using snocInd with
  | nil => rfl
  | snoc r p ih =>
    rw [cntOf_snoc]
    show (if (k : Int) = p.1 then p.2 else cntOf r k) = 0
    rw [if_neg (fun e => h p (by simp) e.symm)]
    exact ih fun q hq => h q (by simp [hq])
theorem cntOf_mem {N : Ns} (hN : N.Pairwise fun a b => a.1 < b.1) {k : Nat} {c : Int} (h : ((k : Int), c) ∈ N) : cntOf N k = c := by
  induction N using snocInd with
  | nil => simp at h
  | snoc r p ih =>
    rw [cntOf_snoc]
    show (if (k : Int) = p.1 then p.2 else cntOf r k) = c
    rw [List.pairwise_append] at hN
    rcases List.mem_append.1 h with h' | h'
    · have := hN.2.2 _ h' p (by simp)
      rw [if_neg (by show ¬ (k : Int) = p.1; have h2 : (k : Int) < p.1 := this; omega)]
      exact ih hN.1 h'
    · obtain rfl : ((k : Int), c) = p := by simpa using h'
      rw [if_pos rfl]
/-- The last counter of a destination, as the document finds it. -/
theorem cntOf_last {N : Ns} (hN : N.Pairwise fun a b => a.1 < b.1) (k : Nat) : lastU N (k : Int) = cntOf N k := by
  by_cases h : ∃ p ∈ N, p.1 = (k : Int)
  · obtain ⟨p, hp, e⟩ := h
    have hc : cntOf N k = p.2 := cntOf_mem hN (by rw [← e]; exact hp)
    rw [hc]
    clear hc
    induction N with
    | nil => simp at hp
    | cons q r ih =>
      unfold lastU
      rw [List.pairwise_cons] at hN
      rcases List.mem_cons.1 hp with rfl | hp'
      · rw [if_pos e]
      · have := hN.1 p hp'
        rw [if_neg (by omega)]
        exact ih hN.2 hp'
  · rw [lastU_none fun p hp e => h ⟨p, hp, e⟩, cntOf_none fun p hp e => h ⟨p, hp, e⟩]
theorem filter_split {N : Ns} (hN : N.Pairwise fun a b => a.1 < b.1) (k : Int) : N.filter (fun p => decide (p.1 < k + 1)) = N.filter (fun p => decide (p.1 < k)) ++ N.filter (fun p => decide (p.1 = k)) := by
  induction N with
  | nil => rfl
  | cons q r ih =>
    rw [List.pairwise_cons] at hN
    have ih := ih hN.2
    by_cases h1 : q.1 < k
    · rw [List.filter_cons_of_pos (by simp; omega), List.filter_cons_of_pos (by simpa using h1), List.filter_cons_of_neg (by simp; omega), ih]; rfl
    · by_cases h2 : q.1 = k
      · rw [List.filter_cons_of_pos (by simp; omega), List.filter_cons_of_neg (by simpa using h1), List.filter_cons_of_pos (by simpa using h2), ih]
        have : r.filter (fun p => decide (p.1 < k)) = [] := List.filter_eq_nil_iff.2 fun p hp => by have := hN.1 p hp; simp; omega
        rw [this]; rfl
      · rw [List.filter_cons_of_neg (by simp; omega), List.filter_cons_of_neg (by simpa using h1), List.filter_cons_of_neg (by simpa using h2), ih]
theorem filter_one {N : Ns} (hN : N.Pairwise fun a b => a.1 < b.1) (hp : ∀ p ∈ N, 0 < p.2) (k : Nat) : N.filter (fun p => decide (p.1 = (k : Int))) = if 0 < cntOf N k then [((k : Int), cntOf N k)] else [] := by
  by_cases h : ∃ p ∈ N, p.1 = (k : Int)
  · obtain ⟨p, hm, e⟩ := h
    have hc : cntOf N k = p.2 := cntOf_mem hN (by rw [← e]; exact hm)
    have h0 := hp p hm
    rw [if_pos (by omega), hc]
    have ep : p = ((k : Int), p.2) := Prod.ext e rfl
    clear hc
    induction N with
    | nil => simp at hm
    | cons q r ih =>
      rw [List.pairwise_cons] at hN
      rcases List.mem_cons.1 hm with rfl | hm'
      · rw [List.filter_cons_of_pos (by simpa using e)]
        have : r.filter (fun q => decide (q.1 = (k : Int))) = [] := List.filter_eq_nil_iff.2 fun q hq => by have := hN.1 q hq; simp; omega
        rw [this, ← ep]
      · have := hN.1 p hm'
        rw [List.filter_cons_of_neg (by simp; omega)]
        exact ih hN.2 (fun q hq => hp q (List.mem_cons_of_mem _ hq)) hm'
  · rw [cntOf_none fun p hm e => h ⟨p, hm, e⟩, if_neg (by omega)]
    exact List.filter_eq_nil_iff.2 fun p hm => by simpa using fun e => h ⟨p, hm, e⟩
theorem usedTo_cnt {N : Ns} (hN : N.Pairwise fun a b => a.1 < b.1) (hp : ∀ p ∈ N, 0 < p.2) (h0 : ∀ p ∈ N, 0 ≤ p.1) : ∀ k : Nat, usedTo (cntOf N) k = N.filter fun p => decide (p.1 < (k : Int))
  | 0 => (List.filter_eq_nil_iff.2 fun p hm => by have := h0 p hm; simp; omega).symm
  | k + 1 => by
    have e : (((k + 1 : Nat) : Int)) = (k : Int) + 1 := by omega
    rw [e, filter_split hN, filter_one hN hp, ← usedTo_cnt hN hp h0 k]
    by_cases h : 0 < cntOf N k
    · rw [usedTo_yes h, if_pos h]
    · rw [usedTo_no h, if_neg h, List.append_nil]
theorem usedTo_all {me l : Int} {N : Ns} (h : nxB me l N = true) : usedTo (cntOf N) 64 = N := by
  obtain ⟨h1, h2⟩ := nxB_iff.1 h
  rw [usedTo_cnt h2 (fun p hp => by have := (h1 p hp).1.2.2.2.1; omega) (fun p hp => (h1 p hp).1.1)]
  exact List.filter_eq_self.2 fun p hp => by have := (h1 p hp).1.2.1; simpa using this
theorem nxB_len {me : Int} : ∀ {N : Ns} {l : Int}, l ≤ 64 → nxB me l N = true → (N.length : Int) + l ≤ 64
  | [], l, hl, _ => by simpa using hl
  | p :: r, l, hl, h => by
    unfold nxB at h
    split at h
    · cases h
    · rename_i h1
      have h2 := nxB_len (N := r) (l := p.1 + 1) (by omega) h
      rw [List.length_cons]
      omega
/-- The counters of right ones. -/
theorem cntOf_le {me l : Int} {N : Ns} (h : nxB me l N = true) (k : Nat) : 0 ≤ cntOf N k ∧ cntOf N k ≤ 65535 := by
  obtain ⟨h1, h2⟩ := nxB_iff.1 h
  by_cases hm : ∃ p ∈ N, p.1 = (k : Int)
  · obtain ⟨p, hp, e⟩ := hm
    rw [cntOf_mem h2 (c := p.2) (by rw [← e]; exact hp)]
    have := (h1 p hp).1
    exact ⟨by have := this.2.2.2.1; omega, this.2.2.2.2⟩
  · rw [cntOf_none fun p hp e => hm ⟨p, hp, e⟩]; omega
/-- The first id twice is passed over. -/
def addI (S : List Mg.Id4) (i : Mg.Id4) : List Mg.Id4 := if i ∈ S then S else S ++ [i]
def setI (l : List Mg.Id4) : List Mg.Id4 := l.foldl addI []
theorem setI_snoc (l : List Mg.Id4) (i : Mg.Id4) : setI (l ++ [i]) = addI (setI l) i := by unfold setI; rw [List.foldl_append]; rfl
theorem setI_mem (l : List Mg.Id4) (i : Mg.Id4) : i ∈ setI l ↔ i ∈ l := by
  induction l using snocInd with
  | nil => simp [setI]
  | snoc r p ih =>
    rw [setI_snoc]
    unfold addI
    split
    · rename_i h
      rw [ih]
      constructor
      · intro h2; simp [h2]
      · intro h2
        rcases List.mem_append.1 h2 with h3 | h3
        · exact h3
        · obtain rfl : i = p := by simpa using h3
          exact ih.1 (by assumption) |> fun h => h
    · simp [ih]
theorem setI_len (l : List Mg.Id4) : (setI l).length ≤ l.length ∧ ((setI l).length = l.length ↔ l.Nodup) := by
  induction l using snocInd with
  | nil => simp [setI]
  | snoc r p ih =>
    rw [setI_snoc]
    unfold addI
    rw [List.length_append, List.length_singleton, List.nodup_append]
    split
    · rename_i h
      have hr := (setI_mem r p).1 h
      refine ⟨by omega, ⟨fun e => by omega, fun hn => ?_⟩⟩
      exact absurd rfl (hn.2.2 p hr p (by simp))
    · rename_i h
      have hr : p ∉ r := fun hp => h ((setI_mem r p).2 hp)
      rw [List.length_append, List.length_singleton]
      refine ⟨by omega, ⟨fun e => ⟨ih.2.1 (by omega), by simp, fun a ha b hb e2 => ?_⟩, fun hn => by have := ih.2.2 hn.1; omega⟩⟩
      obtain rfl : b = p := by simpa using hb
      subst e2
      exact hr ha
/-- A message that a node may hold. -/
def hdB (me ep : Int) (f : Nat → Int) (x : It) : Bool := decide (Mg.msgN x.i x.p.length = 0 ∧ fitsB x.i me ep = true ∧ ¬ (x.i.o = me ∧ x.i.e = ep ∧ f x.i.d.toNat < x.i.c))
end Go.Proofs.YtfnlhfelpdkieaaGreat.So
