/- What was delivered, as plain data: marks, what is put into them. -/
import Derived.Test.YtpofdimagfldnaaMgCheck
namespace Go.Proofs.Ytpofdimagfldnaa.Se
open Go.RowKit
set_option linter.unusedVariables false
set_option linter.unusedSimpArgs false

/-- A mark: all counters up to one, and some more. -/
structure Mk where
  up : Int
  more : List Int
/-- It is right: what stands behind the gap rises. -/
structure Ok (m : Mk) : Prop where
  u0 : 0 ≤ m.up
  u1 : m.up ≤ 65535
  lt : m.more.Pairwise (· < ·)
  gap : ∀ x ∈ m.more, m.up + 2 ≤ x ∧ x ≤ 65535
def has (m : Mk) (c : Int) : Bool := m.more.contains c || decide (c ≤ m.up)
/-- Where a counter has its place. -/
def lb (l : List Int) (c : Int) : Nat := l.countP (· < c)
def ins (l : List Int) (c : Int) : List Int := l.take (lb l c) ++ c :: l.drop (lb l c)
/-- How many of a list go on from a number, one by one. -/
def run : Int → List Int → Nat
  | _, [] => 0
  | u, x :: r => if x = u + 1 then run (u + 1) r + 1 else 0
def wth (m : Mk) (c : Int) : Mk := ⟨m.up + run m.up (ins m.more c), (ins m.more c).drop (run m.up (ins m.more c))⟩
theorem run_le : ∀ (l : List Int) (u : Int), run u l ≤ l.length
  | [], u => by simp [run]
  | x :: r, u => by
    unfold run
    split
    · have := run_le r (u + 1)
      simp; omega
    · simp
/-- The first n go on, and the next one does if n is below the run. -/
theorem run_at : ∀ (l : List Int) (u : Int) (n : Nat), n ≤ run u l → n < l.length → (n < run u l ↔ l.getD n 0 = u + 1 + n)
  | [], u, n, h, hl => by simp at hl
  | x :: r, u, n, h, hl => by
    unfold run at h ⊢
    by_cases hx : x = u + 1
    · rw [if_pos hx] at h ⊢
      cases n with
      | zero => simp [hx]
      | succ n =>
        have := run_at r (u + 1) n (by omega) (by simp at hl; omega)
        simp only [List.getD_cons_succ]
        constructor
        · intro h1
          have := this.1 (by omega)
          rw [this]; push_cast; omega
        · intro h1
          have := this.2 (by rw [h1]; push_cast; omega)
          omega
    · rw [if_neg hx] at h ⊢
      obtain rfl : n = 0 := by omega
      simp only [List.getD_cons_zero]
      constructor
      · intro h1; omega
      · intro h1; exact absurd (by rw [h1]; simp) hx
theorem lb_le (l : List Int) (c : Int) : lb l c ≤ l.length := List.countP_le_length
theorem ins_len (l : List Int) (c : Int) : (ins l c).length = l.length + 1 := by
  have := lb_le l c
  unfold ins
  simp
  omega
/-- A set: room, how many stand behind gaps, the marks. -/
structure St where
  room : Int
  gaps : Int
  kept : Int → Int → Option Mk
def getM (k : Int → Int → Option Mk) (o e : Int) : Mk := (k o e).getD ⟨0, []⟩
def setM (k : Int → Int → Option Mk) (o e : Int) (m : Mk) : Int → Int → Option Mk := fun a b => if a = o ∧ b = e then some m else k a b
/-- A right place. -/
def Pp (o e : Int) : Prop := 0 ≤ o ∧ o ≤ 63 ∧ 1 ≤ e ∧ e ≤ 65535
/-- What May answers. -/
def mayN (s : St) (i : Mg.Id4) : Nat :=
  if Mg.chkN i ≠ 0 then Mg.chkN i
  else if has (getM s.kept i.o i.e) i.c = true then 5
  else if i.c ≠ (getM s.kept i.o i.e).up + 1 ∧ s.gaps = s.room then 6 else 0
/-- The set behind Add. -/
def addS (s : St) (i : Mg.Id4) : St :=
  if mayN s i ≠ 0 then s
  else ⟨s.room, s.gaps + ((wth (getM s.kept i.o i.e) i.c).more.length - (getM s.kept i.o i.e).more.length), setM s.kept i.o i.e (wth (getM s.kept i.o i.e) i.c)⟩
def hasS (s : St) (i : Mg.Id4) : Bool := decide (Mg.chkN i = 0) && has (getM s.kept i.o i.e) i.c
/-- How many stand behind gaps, over places. -/
def total (k : Int → Int → Option Mk) (pl : List (Int × Int)) : Int := (pl.map fun p => ((getM k p.1 p.2).more.length : Int)).sum
/-- A set is right: its marks are, and gaps counts what stands behind them. -/
structure Okk (s : St) : Prop where
  r0 : 0 ≤ s.room
  r1 : s.room ≤ 256
  mkOk : ∀ o e m, s.kept o e = some m → Pp o e ∧ Ok m
  g1 : s.gaps ≤ s.room
  cnt : ∃ pl : List (Int × Int), pl.Nodup ∧ (∀ o e, (s.kept o e ≠ none ↔ (o, e) ∈ pl)) ∧ s.gaps = total s.kept pl
theorem ok_zero : Ok ⟨0, []⟩ := ⟨by simp, by simp, by simp, by simp⟩
theorem Okk.get {s : St} (h : Okk s) (o e : Int) : Ok (getM s.kept o e) := by
  unfold getM
  cases hk : s.kept o e with
  | none => exact ok_zero
  | some m => exact (h.mkOk o e m hk).2
theorem total_nonneg (k : Int → Int → Option Mk) : ∀ pl, 0 ≤ total k pl
  | [] => by simp [total]
  | p :: r => by
    have := total_nonneg k r
    unfold total at this ⊢
    simp only [List.map_cons, List.sum_cons]
    omega
theorem total_mem (k : Int → Int → Option Mk) : ∀ (pl : List (Int × Int)) (o e : Int), (o, e) ∈ pl → ((getM k o e).more.length : Int) ≤ total k pl
  | [], o, e, h => by simp at h
  | p :: r, o, e, h => by
    have h1 := total_nonneg k r
    unfold total at h1 ⊢
    simp only [List.map_cons, List.sum_cons]
    rcases List.mem_cons.1 h with rfl | h
    · simp only
      omega
    · have := total_mem k r o e h
      unfold total at this
      omega
theorem Okk.more_le {s : St} (h : Okk s) (o e : Int) : ((getM s.kept o e).more.length : Int) ≤ s.gaps := by
  obtain ⟨pl, _, h2, h3⟩ := h.cnt
  by_cases hk : s.kept o e = none
  · unfold getM
    rw [hk, h3]
    exact total_nonneg _ _
  · rw [h3]
    exact total_mem _ _ _ _ ((h2 o e).1 hk)
theorem Okk.g0 {s : St} (h : Okk s) : 0 ≤ s.gaps := by
  obtain ⟨pl, _, _, h3⟩ := h.cnt
  rw [h3]
  exact total_nonneg _ _
theorem get_set (k : Int → Int → Option Mk) (o e : Int) (m : Mk) : getM (setM k o e m) o e = m := by simp [getM, setM]
theorem get_set_ne (k : Int → Int → Option Mk) {o e a b : Int} (m : Mk) (h : ¬ (a = o ∧ b = e)) : getM (setM k o e m) a b = getM k a b := by simp [getM, setM, h]
theorem total_other (k : Int → Int → Option Mk) (o e : Int) (m : Mk) : ∀ pl : List (Int × Int), (o, e) ∉ pl → total (setM k o e m) pl = total k pl
  | [], _ => rfl
  | p :: r, h => by
    have := total_other k o e m r (fun h' => h (by simp [h']))
    unfold total at this ⊢
    simp only [List.map_cons, List.sum_cons]
    rw [this, get_set_ne k m (fun h' => h (by obtain ⟨h1, h2⟩ := h'; rw [List.mem_cons]; left; rw [← h1, ← h2]))]
theorem total_set (k : Int → Int → Option Mk) (o e : Int) (m : Mk) : ∀ pl : List (Int × Int), pl.Nodup → (o, e) ∈ pl → total (setM k o e m) pl = total k pl + (m.more.length - (getM k o e).more.length)
  | [], _, h => by simp at h
  | p :: r, hd, h => by
    rw [List.nodup_cons] at hd
    by_cases hp : p = (o, e)
    · subst hp
      have := total_other k o e m r hd.1
      unfold total at this ⊢
      simp only [List.map_cons, List.sum_cons]
      rw [this, get_set]
      omega
    · have h2 : (o, e) ∈ r := by
        rcases List.mem_cons.1 h with h | h
        · exact absurd h.symm hp
        · exact h
      have := total_set k o e m r hd.2 h2
      unfold total at this ⊢
      simp only [List.map_cons, List.sum_cons]
      rw [this, get_set_ne k m (fun h' => hp (by obtain ⟨h1, h2⟩ := h'; rw [← h1, ← h2]))]
      omega
end Go.Proofs.Ytpofdimagfldnaa.Se
