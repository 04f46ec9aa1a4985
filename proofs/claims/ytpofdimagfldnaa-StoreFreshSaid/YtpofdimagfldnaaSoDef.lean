/- What a node has in its custody, as plain data: messages, counters, what events make of them. -/
import Derived.Test.YtpofdimagfldnaaSeMath
namespace Go.Proofs.Ytpofdimagfldnaa.So
open Go.RowKit
set_option linter.unusedVariables false
set_option linter.unusedSimpArgs false

instance idEq : DecidableEq Mg.Id4 := fun a b => decidable_of_iff (a.o = b.o ∧ a.d = b.d ∧ a.e = b.e ∧ a.c = b.c) ⟨fun h => by
  cases a
  cases b
  obtain ⟨h1, h2, h3, h4⟩ := h
  simp only at h1 h2 h3 h4
  rw [h1, h2, h3, h4], fun h => by rw [h]; exact ⟨rfl, rfl, rfl, rfl⟩⟩
/-- A message that is held. -/
structure It where
  i : Mg.Id4
  p : List Nat
structure Sto where
  self : Int
  qh : Int
  qb : Int
  qg : Int
  epoch : Int
  last : Nat → Int
  held : List It
  seen : Se.St
def bytesOf : List It → Int
  | [] => 0
  | x :: r => (x.p.length : Int) + bytesOf r
/-- The data of a message that is held. -/
def findH : List It → Mg.Id4 → Option (List Nat)
  | [], _ => none
  | x :: r, i => if x.i = i then some x.p else findH r i
def hasH (l : List It) (i : Mg.Id4) : Bool := (findH l i).isSome
def zeroI : Mg.Id4 := ⟨0, 0, 0, 0⟩
/-- What the check of an event answers, by its kind, id and how many bytes it has. -/
def chkE (k : Int) (i : Mg.Id4) (n : Nat) : Nat :=
  if k = 1 then (if i = zeroI ∧ n = 0 then 0 else 2)
  else if k = 2 then Mg.msgN i n
  else if k = 3 ∨ k = 4 then (if Mg.chkN i ≠ 0 then Mg.chkN i else if n = 0 then 0 else 2)
  else 1
def fitsB (i : Mg.Id4) (self epoch : Int) : Bool := decide (i.d ≠ self ∧ (i.o ≠ self ∨ i.e ≤ epoch))
def mayB (s : Sto) : Nat := if s.epoch = 65535 then 10 else 0
def mayH (s : Sto) (i : Mg.Id4) (n : Nat) : Nat :=
  if fitsB i s.self s.epoch = false then 2 else if hasH s.held i = true then 5 else if s.qh ≤ s.held.length ∨ s.qb < bytesOf s.held + n then 6 else 0
def mayR (s : Sto) (i : Mg.Id4) : Nat := if hasH s.held i = true then 0 else 4
def mayD (s : Sto) (i : Mg.Id4) : Nat := if i.d ≠ s.self then 2 else Se.mayN s.seen i
/-- What May answers. -/
def mayE (s : Sto) (k : Int) (i : Mg.Id4) (n : Nat) : Nat :=
  if chkE k i n ≠ 0 then chkE k i n
  else if k = 1 then mayB s
  else if k = 2 then mayH s i n
  else if k = 3 then mayR s i
  else mayD s i
def useL (s : Sto) (i : Mg.Id4) : Nat → Int := if i.o = s.self ∧ i.e = s.epoch then (fun k => if (k : Int) = i.d then max (s.last k) i.c else s.last k) else s.last
def without (l : List It) (i : Mg.Id4) : List It := l.filter fun x => decide (x.i ≠ i)
def bootS (s : Sto) : Sto := ⟨s.self, s.qh, s.qb, s.qg, s.epoch + 1, fun _ => 0, s.held, s.seen⟩
def holdS (s : Sto) (i : Mg.Id4) (p : List Nat) : Sto := ⟨s.self, s.qh, s.qb, s.qg, s.epoch, s.last, s.held ++ [⟨i, p⟩], s.seen⟩
def useS (s : Sto) (i : Mg.Id4) : Sto := ⟨s.self, s.qh, s.qb, s.qg, s.epoch, useL s i, s.held, s.seen⟩
def relS (s : Sto) (i : Mg.Id4) : Sto := ⟨s.self, s.qh, s.qb, s.qg, s.epoch, s.last, without s.held i, s.seen⟩
def delS (s : Sto) (i : Mg.Id4) : Sto := ⟨s.self, s.qh, s.qb, s.qg, s.epoch, s.last, s.held, Se.addS s.seen i⟩
/-- The store behind Apply. -/
def appE (s : Sto) (k : Int) (i : Mg.Id4) (p : List Nat) : Sto :=
  if mayE s k i p.length ≠ 0 then s
  else if k = 1 then bootS s
  else if k = 2 then useS (holdS s i p) i
  else if k = 3 then relS s i
  else delS s i
/-- What Fresh answers. -/
def frN (s : Sto) (d : Int) : Nat :=
  if s.epoch = 0 then 7 else if ¬ (0 ≤ d ∧ d < 64) then 1 else if d = s.self then 2 else if s.last d.toNat = 65535 then 10 else 0
def frI (s : Sto) (d : Int) : Mg.Id4 := if frN s d = 0 then ⟨s.self, d, s.epoch, s.last d.toNat + 1⟩ else zeroI
/-- A store is right. -/
structure Ok (s : Sto) : Prop where
  s0 : 0 ≤ s.self
  s1 : s.self < 64
  h0 : 0 ≤ s.qh
  h1 : s.qh ≤ 256
  b0 : 0 ≤ s.qb
  b1 : s.qb ≤ 1048576
  e0 : 0 ≤ s.epoch
  e1 : s.epoch ≤ 65535
  l0 : ∀ k, k < 64 → 0 ≤ s.last k ∧ s.last k ≤ 65535
  len : (s.held.length : Int) ≤ s.qh
  byt : bytesOf s.held ≤ s.qb
  nod : (s.held.map It.i).Nodup
  all : ∀ x ∈ s.held, Mg.msgN x.i x.p.length = 0 ∧ fitsB x.i s.self s.epoch = true ∧ (∀ z ∈ x.p, z < 256)
  room : s.seen.room = s.qg
  sok : Se.Okk s.seen
theorem bytesOf_nonneg : ∀ l : List It, 0 ≤ bytesOf l
  | [] => Int.le_refl _
  | x :: r => by have := bytesOf_nonneg r; show (0 : Int) ≤ (x.p.length : Int) + bytesOf r; omega
theorem bytesOf_app : ∀ (l r : List It), bytesOf (l ++ r) = bytesOf l + bytesOf r
  | [], r => by simp [bytesOf]
  | x :: l, r => by
    have := bytesOf_app l r
    show (x.p.length : Int) + bytesOf (l ++ r) = ((x.p.length : Int) + bytesOf l) + bytesOf r
    omega
theorem findH_none {l : List It} {i : Mg.Id4} : findH l i = none ↔ i ∉ l.map It.i := by
  induction l with
  | nil => simp [findH]
  | cons x r ih =>
    unfold findH
    by_cases h : x.i = i
    · rw [if_pos h]; simp [h]
    · rw [if_neg h, ih]
      simp only [List.map_cons, List.mem_cons]
      constructor
      · rintro h1 (h2 | h2)
        · exact h h2.symm
        · exact h1 h2
      · intro h1 h2; exact h1 (.inr h2)
theorem hasH_iff {l : List It} {i : Mg.Id4} : hasH l i = true ↔ i ∈ l.map It.i := by
  unfold hasH
  cases h : findH l i with
  | none => have := findH_none.1 h; simp only [Option.isSome_none]; constructor <;> intro h' <;> simp_all
  | some p =>
    constructor
    · intro _
      by_cases hm : i ∈ l.map It.i
      · exact hm
      · rw [findH_none.2 hm] at h; cases h
    · intro _; rfl
theorem findH_mem : ∀ {l : List It} {i : Mg.Id4} {p : List Nat}, findH l i = some p → (⟨i, p⟩ : It) ∈ l
  | [], _, _, h => by simp [findH] at h
  | x :: r, i, p, h => by
    unfold findH at h
    by_cases e : x.i = i
    · rw [if_pos e] at h
      cases h
      subst e
      exact List.mem_cons.2 (.inl rfl)
    · rw [if_neg e] at h
      exact List.mem_cons_of_mem _ (findH_mem h)
theorem findH_of_mem : ∀ {l : List It}, (l.map It.i).Nodup → ∀ {x : It}, x ∈ l → findH l x.i = some x.p
  | [], _, x, h => by simp at h
  | y :: r, hd, x, h => by
    rw [List.map_cons, List.nodup_cons] at hd
    unfold findH
    rcases List.mem_cons.1 h with rfl | h
    · rw [if_pos rfl]
    · rw [if_neg (fun e => hd.1 (by rw [e]; exact List.mem_map_of_mem h))]
      exact findH_of_mem hd.2 h
theorem findH_app {l : List It} {i j : Mg.Id4} {p : List Nat} (h : findH l i = none) : findH (l ++ [⟨i, p⟩]) j = if j = i then some p else findH l j := by
  induction l with
  | nil =>
    simp only [List.nil_append, findH]
    by_cases e : i = j
    · rw [if_pos e, if_pos e.symm]
    · rw [if_neg e, if_neg (fun h => e h.symm)]
  | cons x r ih =>
    unfold findH at h
    by_cases e : x.i = i
    · rw [if_pos e] at h; cases h
    · rw [if_neg e] at h
      rw [List.cons_append]
      simp only [findH]
      by_cases e2 : x.i = j
      · rw [if_pos e2, if_pos e2, if_neg (fun h => e (e2.trans h))]
      · rw [if_neg e2, if_neg e2]; exact ih h
theorem findH_without (l : List It) (i j : Mg.Id4) : findH (without l i) j = if j = i then none else findH l j := by
  induction l with
  | nil => simp [without, findH]
  | cons x r ih =>
    unfold without at ih ⊢
    by_cases e : x.i = i
    · rw [List.filter_cons_of_neg (by simp [e]), ih]
      by_cases e2 : j = i
      · rw [if_pos e2, if_pos e2]
      · rw [if_neg e2, if_neg e2]
        simp only [findH]
        rw [if_neg (fun h => e2 (h.symm.trans e))]
    · rw [List.filter_cons_of_pos (by simp [e])]
      simp only [findH]
      by_cases e2 : x.i = j
      · rw [if_pos e2, if_pos e2, if_neg (fun h => e (e2.trans h))]
      · rw [if_neg e2, if_neg e2, ih]
theorem bytesOf_without : ∀ {l : List It}, (l.map It.i).Nodup → ∀ (i : Mg.Id4) {p : List Nat}, findH l i = some p → bytesOf (without l i) = bytesOf l - p.length
  | [], _, i, p, h => by simp [findH] at h
  | x :: r, hd, i, p, h => by
    rw [List.map_cons, List.nodup_cons] at hd
    unfold findH at h
    unfold without
    by_cases e : x.i = i
    · rw [if_pos e] at h
      cases h
      subst e
      rw [List.filter_cons_of_neg (by simp)]
      have : r.filter (fun y => decide (y.i ≠ x.i)) = r := List.filter_eq_self.2 fun y hy => by
        simp only [ne_eq, decide_eq_true_eq]
        intro h2
        exact hd.1 (by rw [← h2]; exact List.mem_map_of_mem hy)
      rw [this]
      simp only [bytesOf]
      omega
    · rw [if_neg e] at h
      rw [List.filter_cons_of_pos (by simp [e])]
      have := bytesOf_without hd.2 i h
      unfold without at this
      simp only [bytesOf]
      omega
theorem without_none {l : List It} {i : Mg.Id4} (h : findH l i = none) : without l i = l := by
  unfold without
  refine List.filter_eq_self.2 fun y hy => ?_
  simp only [ne_eq, decide_eq_true_eq]
  intro e
  exact findH_none.1 h (by rw [← e]; exact List.mem_map_of_mem hy)
theorem find_len {s : Sto} (h : Ok s) {i : Mg.Id4} {p : List Nat} (hf : findH s.held i = some p) : Mg.msgN i p.length = 0 ∧ fitsB i s.self s.epoch = true ∧ ∀ z ∈ p, z < 256 := h.all _ (findH_mem hf)
theorem msgN_zero {i : Mg.Id4} {n : Nat} (h : Mg.msgN i n = 0) : Mg.Right i ∧ 1 ≤ n ∧ n ≤ 48 := by
  unfold Mg.msgN at h
  split at h
  · rename_i h1; exact absurd h h1
  · rename_i h1
    refine ⟨Mg.right_iff.1 (by simpa using h1), ?_⟩
    split at h
    · cases h
    · split at h
      · cases h
      · omega
theorem Ok.boot {s : Sto} (h : Ok s) (he : ¬ s.epoch = 65535) : Ok (bootS s) :=
  ⟨h.s0, h.s1, h.h0, h.h1, h.b0, h.b1, by have := h.e0; show 0 ≤ s.epoch + 1; omega, by have := h.e1; show s.epoch + 1 ≤ 65535; omega, fun _ _ => ⟨Int.le_refl _, by show (0 : Int) ≤ 65535; omega⟩, h.len, h.byt, h.nod, fun x hx => by
    obtain ⟨h1, h2, h3⟩ := h.all x hx
    refine ⟨h1, ?_, h3⟩
    unfold fitsB at h2 ⊢
    simp only [decide_eq_true_eq] at h2 ⊢
    refine ⟨h2.1, ?_⟩
    rcases h2.2 with h4 | h4
    · exact .inl h4
    · exact .inr (by show x.i.e ≤ s.epoch + 1; omega), h.room, h.sok⟩
theorem Ok.hold {s : Sto} (h : Ok s) {i : Mg.Id4} {p : List Nat} (hm : mayH s i p.length = 0) (hg : Mg.msgN i p.length = 0) (hp : ∀ z ∈ p, z < 256) : Ok (holdS s i p) := by
  unfold mayH at hm
  split at hm
  · cases hm
  rename_i h1
  split at hm
  · cases hm
  rename_i h2
  split at hm
  · cases hm
  rename_i h3
  have hn : findH s.held i = none := by
    cases hf : findH s.held i with
    | none => rfl
    | some q => exact absurd (by unfold hasH; rw [hf]; rfl) h2
  refine ⟨h.s0, h.s1, h.h0, h.h1, h.b0, h.b1, h.e0, h.e1, h.l0, ?_, ?_, ?_, fun x hx => ?_, h.room, h.sok⟩
  · show ((s.held ++ [(⟨i, p⟩ : It)]).length : Int) ≤ s.qh
    rw [List.length_append]
    simp only [List.length_cons, List.length_nil]
    omega
  · show bytesOf (s.held ++ [(⟨i, p⟩ : It)]) ≤ s.qb
    rw [bytesOf_app]
    simp only [bytesOf]
    omega
  · show ((s.held ++ [(⟨i, p⟩ : It)]).map It.i).Nodup
    rw [List.map_append, List.nodup_append]
    refine ⟨h.nod, by simp, fun a ha b hb e => ?_⟩
    simp at hb
    subst hb
    exact findH_none.1 hn (e ▸ ha)
  · rcases List.mem_append.1 hx with hx | hx
    · exact h.all x hx
    · obtain rfl : x = ⟨i, p⟩ := by simpa using hx
      exact ⟨hg, by show fitsB i s.self s.epoch = true; simpa using h1, hp⟩
theorem Ok.use {s : Sto} (h : Ok s) {i : Mg.Id4} (hr : Mg.Right i) : Ok (useS s i) := by
  refine ⟨h.s0, h.s1, h.h0, h.h1, h.b0, h.b1, h.e0, h.e1, fun k hk => ?_, h.len, h.byt, h.nod, h.all, h.room, h.sok⟩
  show 0 ≤ useL s i k ∧ useL s i k ≤ 65535
  unfold useL
  have h1 := h.l0 k hk
  have h2 := hr.c0
  have h3 := hr.c1
  split
  · show 0 ≤ (if (k : Int) = i.d then max (s.last k) i.c else s.last k) ∧ (if (k : Int) = i.d then max (s.last k) i.c else s.last k) ≤ 65535
    split
    · omega
    · exact h1
  · exact h1
theorem without_sub (l : List It) (i : Mg.Id4) : (without l i).Sublist l := List.filter_sublist
theorem bytesOf_sub (l : List It) (i : Mg.Id4) : bytesOf (without l i) ≤ bytesOf l := by
  induction l with
  | nil => exact Int.le_refl _
  | cons x r ih =>
    unfold without at ih ⊢
    by_cases e : x.i = i
    · rw [List.filter_cons_of_neg (by simp [e])]
      simp only [bytesOf]; omega
    · rw [List.filter_cons_of_pos (by simp [e])]
      simp only [bytesOf]; omega
theorem Ok.rel {s : Sto} (h : Ok s) (i : Mg.Id4) : Ok (relS s i) :=
  ⟨h.s0, h.s1, h.h0, h.h1, h.b0, h.b1, h.e0, h.e1, h.l0, by
    have h1 := (without_sub s.held i).length_le
    have h2 := h.len
    show ((without s.held i).length : Int) ≤ s.qh
    omega, by
    have h1 := bytesOf_sub s.held i
    have h2 := h.byt
    show bytesOf (without s.held i) ≤ s.qb
    omega, List.Nodup.sublist ((without_sub s.held i).map It.i) h.nod, fun x hx => h.all x ((without_sub s.held i).subset hx), h.room, h.sok⟩
theorem addS_room (s : Se.St) (i : Mg.Id4) : (Se.addS s i).room = s.room := by unfold Se.addS; split <;> rfl
theorem Ok.del {s : Sto} (h : Ok s) (i : Mg.Id4) : Ok (delS s i) :=
  ⟨h.s0, h.s1, h.h0, h.h1, h.b0, h.b1, h.e0, h.e1, h.l0, h.len, h.byt, h.nod, h.all, by show (Se.addS s.seen i).room = s.qg; rw [addS_room]; exact h.room, h.sok.addS i⟩
theorem Ok.app {s : Sto} (h : Ok s) (k : Int) (i : Mg.Id4) {p : List Nat} (hp : ∀ z ∈ p, z < 256) : Ok (appE s k i p) := by
  unfold appE
  split
  · exact h
  rename_i h0
  have h0 : mayE s k i p.length = 0 := Decidable.not_not.1 h0
  unfold mayE at h0
  split at h0
  · rename_i h1; exact absurd h0 h1
  rename_i h1
  have h1 : chkE k i p.length = 0 := Decidable.not_not.1 h1
  split
  · rename_i hk
    rw [if_pos hk] at h0
    unfold mayB at h0
    split at h0
    · cases h0
    rename_i he
    exact h.boot he
  rename_i k1
  rw [if_neg k1] at h0
  split
  · rename_i hk
    rw [if_pos hk] at h0
    unfold chkE at h1
    rw [if_neg k1, if_pos hk] at h1
    exact (h.hold h0 h1 hp).use (msgN_zero h1).1
  split
  · exact h.rel i
  · exact h.del i
end Go.Proofs.Ytpofdimagfldnaa.So
