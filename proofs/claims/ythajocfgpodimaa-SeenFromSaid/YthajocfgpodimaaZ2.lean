/- Ids and messages as plain data: are they right, their bytes, their texts, their order. -/
import Derived.Test.YthajocfgpodimaaKit
import Derived.Test.YthajocfgpodimaaZ1
import Derived.Lib.SmallJoins
import Derived.Handy
import Derived.Maps.AppendAt
namespace Go.Proofs.Ythajocfgpodimaa.Mg
open Go.RowKit
open Go.Proofs.Ythajocfgpodimaa.Me
set_option linter.unusedVariables false

structure Id4 where
  o : Int
  d : Int
  e : Int
  c : Int
def idC (i : Id4) : Array Value := #[.int .i64 i.o, .int .i64 i.d, .int .i64 i.e, .int .i64 i.c]
def nodeB (n : Int) : Bool := decide (0 ≤ n ∧ n < 64)
def numB (n : Int) : Bool := decide (1 ≤ n ∧ n ≤ 65535)
/-- What Check answers. -/
def chkN (i : Id4) : Nat := if nodeB i.o && nodeB i.d && numB i.e && numB i.c then (if i.o = i.d then 2 else 0) else 1
/-- What CheckMsg answers of a message with n bytes. -/
def msgN (i : Id4) (n : Nat) : Nat := if chkN i ≠ 0 then chkN i else if n = 0 then 2 else if 48 < n then 3 else 0
structure Right (i : Id4) : Prop where
  o0 : 0 ≤ i.o
  o1 : i.o < 64
  d0 : 0 ≤ i.d
  d1 : i.d < 64
  e0 : 1 ≤ i.e
  e1 : i.e ≤ 65535
  c0 : 1 ≤ i.c
  c1 : i.c ≤ 65535
  ne : ¬ i.o = i.d
theorem nodeB_iff {n : Int} : nodeB n = true ↔ 0 ≤ n ∧ n < 64 := by simp [nodeB]
theorem numB_iff {n : Int} : numB n = true ↔ 1 ≤ n ∧ n ≤ 65535 := by simp [numB]
theorem right_iff {i : Id4} : chkN i = 0 ↔ Right i := by
  unfold chkN
  constructor
  · intro h
    split at h
    · rename_i hb
      simp only [Bool.and_eq_true, nodeB_iff, numB_iff] at hb
      split at h
      · cases h
      · rename_i hn
        exact ⟨hb.1.1.1.1, hb.1.1.1.2, hb.1.1.2.1, hb.1.1.2.2, hb.1.2.1, hb.1.2.2, hb.2.1, hb.2.2, hn⟩
    · cases h
  · intro h
    rw [if_pos (by simp only [Bool.and_eq_true, nodeB_iff, numB_iff]; exact ⟨⟨⟨⟨h.o0, h.o1⟩, h.d0, h.d1⟩, h.e0, h.e1⟩, h.c0, h.c1⟩), if_neg h.ne]
/-- Is a ahead of b? -/
def ltB (a b : Id4) : Bool := if a.o = b.o then (if a.d = b.d then (if a.e = b.e then decide (a.c < b.c) else decide (a.e < b.e)) else decide (a.d < b.d)) else decide (a.o < b.o)
/-- What slices.Compare answers of two ids' numbers. -/
def cmp1 (x y : Int) : Int := if x < y then -1 else if y < x then 1 else 0
def cmpN (a b : Id4) : Int := if a.o = b.o then (if a.d = b.d then (if a.e = b.e then cmp1 a.c b.c else cmp1 a.e b.e) else cmp1 a.d b.d) else cmp1 a.o b.o
theorem cmp1_neg (x y : Int) : decide (cmp1 x y < 0) = decide (x < y) := by
  unfold cmp1
  split
  · rename_i h; simp [h]
  · rename_i h
    split
    · simp [h]
    · simp [h]
theorem cmpN_neg (a b : Id4) : decide (cmpN a b < 0) = ltB a b := by
  unfold cmpN ltB
  repeat' split
  all_goals exact cmp1_neg _ _
/-- Number k of an id. -/
def ix (i : Id4) (k : Nat) : Int := if k = 0 then i.o else if k = 1 then i.d else if k = 2 then i.e else i.c
theorem cmp1_self (x : Int) : cmp1 x x = 0 := by unfold cmp1; simp
theorem cmp1_ne {x y : Int} (h : ¬ x = y) : ¬ cmp1 x y = 0 := by
  unfold cmp1
  split
  · omega
  · split
    · omega
    · omega
theorem cmpN_at {a b : Id4} {k : Nat} (hk : k < 4) (h : ∀ j, j < k → ix a j = ix b j) (hne : ¬ ix a k = ix b k) : cmpN a b = cmp1 (ix a k) (ix b k) := by
  obtain rfl | rfl | rfl | rfl : k = 0 ∨ k = 1 ∨ k = 2 ∨ k = 3 := by omega
  · have hne : ¬ a.o = b.o := hne
    unfold cmpN; rw [if_neg hne]; rfl
  · have h0 : a.o = b.o := h 0 (by omega)
    have hne : ¬ a.d = b.d := hne
    unfold cmpN; rw [if_pos h0, if_neg hne]; rfl
  · have h0 : a.o = b.o := h 0 (by omega)
    have h1 : a.d = b.d := h 1 (by omega)
    have hne : ¬ a.e = b.e := hne
    unfold cmpN; rw [if_pos h0, if_pos h1, if_neg hne]; rfl
  · have h0 : a.o = b.o := h 0 (by omega)
    have h1 : a.d = b.d := h 1 (by omega)
    have h2 : a.e = b.e := h 2 (by omega)
    unfold cmpN; rw [if_pos h0, if_pos h1, if_pos h2]; rfl
theorem cmpN_eq {a b : Id4} (h : ∀ j, j < 4 → ix a j = ix b j) : cmpN a b = 0 := by
  have h0 : a.o = b.o := h 0 (by omega)
  have h1 : a.d = b.d := h 1 (by omega)
  have h2 : a.e = b.e := h 2 (by omega)
  have h3 : a.c = b.c := h 3 (by omega)
  unfold cmpN; rw [if_pos h0, if_pos h1, if_pos h2, h3, cmp1_self]
theorem ltB_at {a b : Id4} {k : Nat} (hk : k < 4) (h : ∀ j, j < k → ix a j = ix b j) (hne : ¬ ix a k = ix b k) : ltB a b = decide (ix a k < ix b k) := by
  rw [← cmpN_neg, cmpN_at hk h hne, cmp1_neg]
theorem ltB_eq {a b : Id4} (h : ∀ j, j < 4 → ix a j = ix b j) : ltB a b = false := by
  rw [← cmpN_neg, cmpN_eq h]; rfl
end Go.Proofs.Ythajocfgpodimaa.Mg
/- Check and CheckMsg of both sides. -/
namespace Go.Proofs.Ythajocfgpodimaa.Mg
open Go.RowKit
open Go.Proofs.Ythajocfgpodimaa.Me
set_option linter.unusedVariables false
set_option linter.unusedSimpArgs false

theorem isNode_any (n : Int) (w : World) : Calls Try.prog 43 #[.int .i64 n] w fun e w' => e = .returned (.bool (nodeB n)) ∧ w = w' := by
  by_cases a : 0 ≤ n
  · by_cases b : n < 64
    · have HE : Hid (nodeB n = true) := decide_eq_true ⟨a, b⟩
      rw [HE.out]
      go_enter Try.func43, Try.ntmps43
      go_wp2
      go_ret
      exact ⟨rfl, rfl⟩
    · have HE : Hid (nodeB n = false) := decide_eq_false fun h => b h.2
      rw [HE.out]
      go_enter Try.func43, Try.ntmps43
      go_wp2
      go_ret
      exact ⟨rfl, rfl⟩
  · have HE : Hid (nodeB n = false) := decide_eq_false fun h => a h.1
    rw [HE.out]
    go_enter Try.func43, Try.ntmps43
    go_wp2
    go_ret
    exact ⟨rfl, rfl⟩
theorem isNumber_any (n : Int) (w : World) : Calls Try.prog 44 #[.int .i64 n] w fun e w' => e = .returned (.bool (numB n)) ∧ w = w' := by
  by_cases a : 1 ≤ n
  · by_cases b : n ≤ 65535
    · have HE : Hid (numB n = true) := decide_eq_true ⟨a, b⟩
      rw [HE.out]
      go_enter Try.func44, Try.ntmps44
      go_wp2
      go_ret
      exact ⟨rfl, rfl⟩
    · have HE : Hid (numB n = false) := decide_eq_false fun h => b h.2
      rw [HE.out]
      go_enter Try.func44, Try.ntmps44
      go_wp2
      go_ret
      exact ⟨rfl, rfl⟩
  · have HE : Hid (numB n = false) := decide_eq_false fun h => a h.1
    rw [HE.out]
    go_enter Try.func44, Try.ntmps44
    go_wp2
    go_ret
    exact ⟨rfl, rfl⟩
theorem bel_tac {w w' : World} (h : w' = w) : Below w.heap.size w w' := h ▸ Below.refl _ _
set_option maxHeartbeats 4000000 in
theorem Check_any (i : Id4) (w : World) : Calls Try.prog 32 #[.agg (idC i)] w fun e w' => e = .returned (.int .i64 (chkN i : Int)) ∧ Hid (Below w.heap.size w w') := by
  obtain ⟨o, d, ee, c⟩ := i
  have HO : Hid (∀ W, Calls Try.prog 43 #[.int .i64 o] W fun e w' => e = .returned (.bool (nodeB o)) ∧ W = w') := fun W => isNode_any o W
  have HD : Hid (∀ W, Calls Try.prog 43 #[.int .i64 d] W fun e w' => e = .returned (.bool (nodeB d)) ∧ W = w') := fun W => isNode_any d W
  have HE : Hid (∀ W, Calls Try.prog 44 #[.int .i64 ee] W fun e w' => e = .returned (.bool (numB ee)) ∧ W = w') := fun W => isNumber_any ee W
  have HC : Hid (∀ W, Calls Try.prog 44 #[.int .i64 c] W fun e w' => e = .returned (.bool (numB c)) ∧ W = w') := fun W => isNumber_any c W

  simp only [idC]
  unfold chkN
  simp only
  obtain ⟨b1, h1⟩ : ∃ b, nodeB o = b := ⟨_, rfl⟩
  obtain ⟨b2, h2⟩ : ∃ b, nodeB d = b := ⟨_, rfl⟩
  obtain ⟨b3, h3⟩ : ∃ b, numB ee = b := ⟨_, rfl⟩
  obtain ⟨b4, h4⟩ : ∃ b, numB c = b := ⟨_, rfl⟩
  rw [h1] at HO ⊢
  rw [h2] at HD ⊢
  rw [h3] at HE ⊢
  rw [h4] at HC ⊢
  clear h1 h2 h3 h4
  cases b1 with
  | false =>
    simp only [Bool.false_and, Bool.and_false, Bool.false_eq_true, if_false, Bool.true_and, Bool.and_true]
    go_enter Try.func32, Try.ntmps32
    go_wp2_with (first
      | (go_at_call 43; (with_reducible refine (HO.out _).mono ?_); rintro e w' ⟨rfl, rfl⟩)
      | (go_at_call 43; (with_reducible refine (HD.out _).mono ?_); rintro e w' ⟨rfl, rfl⟩)
      | (go_at_call 44; (with_reducible refine (HE.out _).mono ?_); rintro e w' ⟨rfl, rfl⟩)
      | (go_at_call 44; (with_reducible refine (HC.out _).mono ?_); rintro e w' ⟨rfl, rfl⟩))
    go_ret
    exact ⟨rfl, by show Below _ _ _; repeat (first | exact Below.refl _ _ | apply Me.below_alloc)⟩
  | true =>
    cases b2 with
    | false =>
      simp only [Bool.false_and, Bool.and_false, Bool.false_eq_true, if_false, Bool.true_and, Bool.and_true]
      go_enter Try.func32, Try.ntmps32
      go_wp2_with (first
        | (go_at_call 43; (with_reducible refine (HO.out _).mono ?_); rintro e w' ⟨rfl, rfl⟩)
        | (go_at_call 43; (with_reducible refine (HD.out _).mono ?_); rintro e w' ⟨rfl, rfl⟩)
        | (go_at_call 44; (with_reducible refine (HE.out _).mono ?_); rintro e w' ⟨rfl, rfl⟩)
        | (go_at_call 44; (with_reducible refine (HC.out _).mono ?_); rintro e w' ⟨rfl, rfl⟩))
      go_ret
      exact ⟨rfl, by show Below _ _ _; repeat (first | exact Below.refl _ _ | apply Me.below_alloc)⟩
    | true =>
      cases b3 with
      | false =>
        simp only [Bool.false_and, Bool.and_false, Bool.false_eq_true, if_false, Bool.true_and, Bool.and_true]
        go_enter Try.func32, Try.ntmps32
        go_wp2_with (first
          | (go_at_call 43; (with_reducible refine (HO.out _).mono ?_); rintro e w' ⟨rfl, rfl⟩)
          | (go_at_call 43; (with_reducible refine (HD.out _).mono ?_); rintro e w' ⟨rfl, rfl⟩)
          | (go_at_call 44; (with_reducible refine (HE.out _).mono ?_); rintro e w' ⟨rfl, rfl⟩)
          | (go_at_call 44; (with_reducible refine (HC.out _).mono ?_); rintro e w' ⟨rfl, rfl⟩))
        go_ret
        exact ⟨rfl, by show Below _ _ _; repeat (first | exact Below.refl _ _ | apply Me.below_alloc)⟩
      | true =>
        cases b4 with
        | false =>
          simp only [Bool.false_and, Bool.and_false, Bool.false_eq_true, if_false, Bool.true_and, Bool.and_true]
          go_enter Try.func32, Try.ntmps32
          go_wp2_with (first
            | (go_at_call 43; (with_reducible refine (HO.out _).mono ?_); rintro e w' ⟨rfl, rfl⟩)
            | (go_at_call 43; (with_reducible refine (HD.out _).mono ?_); rintro e w' ⟨rfl, rfl⟩)
            | (go_at_call 44; (with_reducible refine (HE.out _).mono ?_); rintro e w' ⟨rfl, rfl⟩)
            | (go_at_call 44; (with_reducible refine (HC.out _).mono ?_); rintro e w' ⟨rfl, rfl⟩))
          go_ret
          exact ⟨rfl, by show Below _ _ _; repeat (first | exact Below.refl _ _ | apply Me.below_alloc)⟩
        | true =>
          simp only [Bool.and_true, if_true]
          by_cases q : o = d
          · subst q
            rw [if_pos rfl]
            go_enter Try.func32, Try.ntmps32
            go_wp2_with (first
              | (go_at_call 43; (with_reducible refine (HO.out _).mono ?_); rintro e w' ⟨rfl, rfl⟩)
              | (go_at_call 43; (with_reducible refine (HD.out _).mono ?_); rintro e w' ⟨rfl, rfl⟩)
              | (go_at_call 44; (with_reducible refine (HE.out _).mono ?_); rintro e w' ⟨rfl, rfl⟩)
              | (go_at_call 44; (with_reducible refine (HC.out _).mono ?_); rintro e w' ⟨rfl, rfl⟩))
            go_ret
            exact ⟨rfl, by show Below _ _ _; repeat (first | exact Below.refl _ _ | apply Me.below_alloc)⟩
          · rw [if_neg q]
            have hq : (o == d) = false := by simpa using q
            go_enter Try.func32, Try.ntmps32
            go_wp2_with (first
              | (go_at_call 43; (with_reducible refine (HO.out _).mono ?_); rintro e w' ⟨rfl, rfl⟩)
              | (go_at_call 43; (with_reducible refine (HD.out _).mono ?_); rintro e w' ⟨rfl, rfl⟩)
              | (go_at_call 44; (with_reducible refine (HE.out _).mono ?_); rintro e w' ⟨rfl, rfl⟩)
              | (go_at_call 44; (with_reducible refine (HC.out _).mono ?_); rintro e w' ⟨rfl, rfl⟩))
            go_ret
            exact ⟨rfl, by show Below _ _ _; repeat (first | exact Below.refl _ _ | apply Me.below_alloc)⟩
set_option maxHeartbeats 4000000 in
theorem RCheck_any (i : Id4) (w : World) : Calls Try.prog 28 #[.agg (idC i)] w fun e w' => e = .returned (.int .i64 (chkN i : Int)) ∧ Hid (Below w.heap.size w w') := by
  obtain ⟨o, d, ee, c⟩ := i
  obtain ⟨r, hr⟩ : ∃ r, chkN ⟨o, d, ee, c⟩ = r := ⟨_, rfl⟩
  rw [hr]
  unfold chkN at hr
  simp only [nodeB, numB, Bool.and_eq_true, decide_eq_true_eq] at hr
  simp only [idC]
  by_cases t0 : 0 ≤ o
  case neg =>
    obtain rfl : r = 1 := by rw [← hr]; exact if_neg fun h => by omega
    clear hr
    go_enter Try.func28, Try.ntmps28
    go_wp2
    go_ret
    exact ⟨rfl, by show Below _ _ _; repeat (first | exact Below.refl _ _ | apply Me.below_alloc)⟩
  by_cases t1 : o < 64
  case neg =>
    obtain rfl : r = 1 := by rw [← hr]; exact if_neg fun h => by omega
    clear hr
    go_enter Try.func28, Try.ntmps28
    go_wp2
    go_ret
    exact ⟨rfl, by show Below _ _ _; repeat (first | exact Below.refl _ _ | apply Me.below_alloc)⟩
  by_cases t2 : 0 ≤ d
  case neg =>
    obtain rfl : r = 1 := by rw [← hr]; exact if_neg fun h => by omega
    clear hr
    go_enter Try.func28, Try.ntmps28
    go_wp2
    go_ret
    exact ⟨rfl, by show Below _ _ _; repeat (first | exact Below.refl _ _ | apply Me.below_alloc)⟩
  by_cases t3 : d < 64
  case neg =>
    obtain rfl : r = 1 := by rw [← hr]; exact if_neg fun h => by omega
    clear hr
    go_enter Try.func28, Try.ntmps28
    go_wp2
    go_ret
    exact ⟨rfl, by show Below _ _ _; repeat (first | exact Below.refl _ _ | apply Me.below_alloc)⟩
  by_cases t4 : 1 ≤ ee
  case neg =>
    obtain rfl : r = 1 := by rw [← hr]; exact if_neg fun h => by omega
    clear hr
    go_enter Try.func28, Try.ntmps28
    go_wp2
    go_ret
    exact ⟨rfl, by show Below _ _ _; repeat (first | exact Below.refl _ _ | apply Me.below_alloc)⟩
  by_cases t5 : ee ≤ 65535
  case neg =>
    obtain rfl : r = 1 := by rw [← hr]; exact if_neg fun h => by omega
    clear hr
    go_enter Try.func28, Try.ntmps28
    go_wp2
    go_ret
    exact ⟨rfl, by show Below _ _ _; repeat (first | exact Below.refl _ _ | apply Me.below_alloc)⟩
  by_cases t6 : 1 ≤ c
  case neg =>
    obtain rfl : r = 1 := by rw [← hr]; exact if_neg fun h => by omega
    clear hr
    go_enter Try.func28, Try.ntmps28
    go_wp2
    go_ret
    exact ⟨rfl, by show Below _ _ _; repeat (first | exact Below.refl _ _ | apply Me.below_alloc)⟩
  by_cases t7 : c ≤ 65535
  case neg =>
    obtain rfl : r = 1 := by rw [← hr]; exact if_neg fun h => by omega
    clear hr
    go_enter Try.func28, Try.ntmps28
    go_wp2
    go_ret
    exact ⟨rfl, by show Below _ _ _; repeat (first | exact Below.refl _ _ | apply Me.below_alloc)⟩
  rw [if_pos ⟨⟨⟨⟨t0, t1⟩, t2, t3⟩, t4, t5⟩, t6, t7⟩] at hr
  by_cases q : o = d
  · subst q
    rw [if_pos rfl] at hr
    subst hr
    go_enter Try.func28, Try.ntmps28
    go_wp2
    go_ret
    exact ⟨rfl, by show Below _ _ _; repeat (first | exact Below.refl _ _ | apply Me.below_alloc)⟩
  · rw [if_neg q] at hr
    subst hr
    have hq : (o == d) = false := by simpa using q
    go_enter Try.func28, Try.ntmps28
    go_wp2
    go_ret
    exact ⟨rfl, by show Below _ _ _; repeat (first | exact Below.refl _ _ | apply Me.below_alloc)⟩
/-- A message as a value. -/
def msgC (i : Id4) (A : Option Addr) (n c : Nat) : Array Value := #[.int .i64 i.o, .int .i64 i.d, .int .i64 i.e, .int .i64 i.c, .slice A n c]
theorem nz {c : Nat} (h : ¬ c = 0) : ((c : Int) == 0) = false := by
  have : ¬ (c : Int) = 0 := by omega
  simpa using this
end Go.Proofs.Ythajocfgpodimaa.Mg
/- What was delivered, as plain data: marks, what is put into them. -/
namespace Go.Proofs.Ythajocfgpodimaa.Se
open Go.RowKit
set_option linter.unusedVariables false
set_option linter.unusedSimpArgs false

/-- A mark: all counters up to one, and some more. -/
structure Mk where
  up : Int
  more : List Int
/-- It is right: what stands behind the gap rises. -/
structure Ok (m : Mk) : Prop where
  u0 : 0 ≤ m.up
  u1 : m.up ≤ 65535
  lt : m.more.Pairwise (· < ·)
  gap : ∀ x ∈ m.more, m.up + 2 ≤ x ∧ x ≤ 65535
def has (m : Mk) (c : Int) : Bool := m.more.contains c || decide (c ≤ m.up)
/-- Where a counter has its place. -/
def lb (l : List Int) (c : Int) : Nat := l.countP (· < c)
def ins (l : List Int) (c : Int) : List Int := l.take (lb l c) ++ c :: l.drop (lb l c)
/-- How many of a list go on from a number, one by one. -/
def run : Int → List Int → Nat
  | _, [] => 0
  | u, x :: r => if x = u + 1 then run (u + 1) r + 1 else 0
def wth (m : Mk) (c : Int) : Mk := ⟨m.up + run m.up (ins m.more c), (ins m.more c).drop (run m.up (ins m.more c))⟩
theorem run_le : ∀ (l : List Int) (u : Int), run u l ≤ l.length
  | [], u => by simp [run]
  | x :: r, u => by
    unfold run
    split
    · have := run_le r (u + 1)
      simp; omega
    · simp
/-- The first n go on, and the next one does if n is below the run. -/
theorem run_at : ∀ (l : List Int) (u : Int) (n : Nat), n ≤ run u l → n < l.length → (n < run u l ↔ l.getD n 0 = u + 1 + n)
  | [], u, n, h, hl => by simp at hl
  | x :: r, u, n, h, hl => by
    unfold run at h ⊢
    by_cases hx : x = u + 1
    · rw [if_pos hx] at h ⊢
      cases n with
      | zero => simp [hx]
      | succ n =>
        have := run_at r (u + 1) n (by omega) (by simp at hl; omega)
        simp only [List.getD_cons_succ]
        constructor
        · intro h1
          have := this.1 (by omega)
          rw [this]; push_cast; omega
        · intro h1
          have := this.2 (by rw [h1]; push_cast; omega)
          omega
    · rw [if_neg hx] at h ⊢
      obtain rfl : n = 0 := by omega
      simp only [List.getD_cons_zero]
      constructor
      · intro h1; omega
      · intro h1; exact absurd (by rw [h1]; simp) hx
theorem lb_le (l : List Int) (c : Int) : lb l c ≤ l.length := List.countP_le_length
theorem ins_len (l : List Int) (c : Int) : (ins l c).length = l.length + 1 := by
  have := lb_le l c
  unfold ins
  simp
  omega
/-- A set: room, how many stand behind gaps, the marks. -/
structure St where
  room : Int
  gaps : Int
  kept : Int → Int → Option Mk
def getM (k : Int → Int → Option Mk) (o e : Int) : Mk := (k o e).getD ⟨0, []⟩
def setM (k : Int → Int → Option Mk) (o e : Int) (m : Mk) : Int → Int → Option Mk := fun a b => if a = o ∧ b = e then some m else k a b
/-- A right place. -/
def Pp (o e : Int) : Prop := 0 ≤ o ∧ o ≤ 63 ∧ 1 ≤ e ∧ e ≤ 65535
/-- What May answers. -/
def mayN (s : St) (i : Mg.Id4) : Nat :=
  if Mg.chkN i ≠ 0 then Mg.chkN i
  else if has (getM s.kept i.o i.e) i.c = true then 5
  else if i.c ≠ (getM s.kept i.o i.e).up + 1 ∧ s.gaps = s.room then 6 else 0
/-- The set behind Add. -/
def addS (s : St) (i : Mg.Id4) : St :=
  if mayN s i ≠ 0 then s
  else ⟨s.room, s.gaps + ((wth (getM s.kept i.o i.e) i.c).more.length - (getM s.kept i.o i.e).more.length), setM s.kept i.o i.e (wth (getM s.kept i.o i.e) i.c)⟩
def hasS (s : St) (i : Mg.Id4) : Bool := decide (Mg.chkN i = 0) && has (getM s.kept i.o i.e) i.c
/-- How many stand behind gaps, over places. -/
def total (k : Int → Int → Option Mk) (pl : List (Int × Int)) : Int := (pl.map fun p => ((getM k p.1 p.2).more.length : Int)).sum
/-- A set is right: its marks are, and gaps counts what stands behind them. -/
structure Okk (s : St) : Prop where
  r0 : 0 ≤ s.room
  r1 : s.room ≤ 256
  mkOk : ∀ o e m, s.kept o e = some m → Pp o e ∧ Ok m
  g1 : s.gaps ≤ s.room
  cnt : ∃ pl : List (Int × Int), pl.Nodup ∧ (∀ o e, (s.kept o e ≠ none ↔ (o, e) ∈ pl)) ∧ s.gaps = total s.kept pl
theorem ok_zero : Ok ⟨0, []⟩ := ⟨by simp, by simp, by simp, by simp⟩
theorem Okk.get {s : St} (h : Okk s) (o e : Int) : Ok (getM s.kept o e) := by
  unfold getM
  cases hk : s.kept o e with
  | none => exact ok_zero
  | some m => exact (h.mkOk o e m hk).2
theorem total_nonneg (k : Int → Int → Option Mk) : ∀ pl, 0 ≤ total k pl
  | [] => by simp [total]
  | p :: r => by
    have := total_nonneg k r
    unfold total at this ⊢
    simp only [List.map_cons, List.sum_cons]
    omega
theorem total_mem (k : Int → Int → Option Mk) : ∀ (pl : List (Int × Int)) (o e : Int), (o, e) ∈ pl → ((getM k o e).more.length : Int) ≤ total k pl
  | [], o, e, h => by simp at h
  | p :: r, o, e, h => by
    have h1 := total_nonneg k r
    unfold total at h1 ⊢
    simp only [List.map_cons, List.sum_cons]
    rcases List.mem_cons.1 h with rfl | h
    · simp only
      omega
    · have := total_mem k r o e h
      unfold total at this
      omega
theorem Okk.more_le {s : St} (h : Okk s) (o e : Int) : ((getM s.kept o e).more.length : Int) ≤ s.gaps := by
  obtain ⟨pl, _, h2, h3⟩ := h.cnt
  by_cases hk : s.kept o e = none
  · unfold getM
    rw [hk, h3]
    exact total_nonneg _ _
  · rw [h3]
    exact total_mem _ _ _ _ ((h2 o e).1 hk)
theorem Okk.g0 {s : St} (h : Okk s) : 0 ≤ s.gaps := by
  obtain ⟨pl, _, _, h3⟩ := h.cnt
  rw [h3]
  exact total_nonneg _ _
theorem get_set (k : Int → Int → Option Mk) (o e : Int) (m : Mk) : getM (setM k o e m) o e = m := by simp [getM, setM]
theorem get_set_ne (k : Int → Int → Option Mk) {o e a b : Int} (m : Mk) (h : ¬ (a = o ∧ b = e)) : getM (setM k o e m) a b = getM k a b := by simp [getM, setM, h]
theorem total_other (k : Int → Int → Option Mk) (o e : Int) (m : Mk) : ∀ pl : List (Int × Int), (o, e) ∉ pl → total (setM k o e m) pl = total k pl
  | [], _ => rfl
  | p :: r, h => by
    have := total_other k o e m r (fun h' => h (by simp [h']))
    unfold total at this ⊢
    simp only [List.map_cons, List.sum_cons]
    rw [this, get_set_ne k m (fun h' => h (by obtain ⟨h1, h2⟩ := h'; rw [List.mem_cons]; left; rw [← h1, ← h2]))]
theorem total_set (k : Int → Int → Option Mk) (o e : Int) (m : Mk) : ∀ pl : List (Int × Int), pl.Nodup → (o, e) ∈ pl → total (setM k o e m) pl = total k pl + (m.more.length - (getM k o e).more.length)
  | [], _, h => by simp at h
  | p :: r, hd, h => by
    rw [List.nodup_cons] at hd
    by_cases hp : p = (o, e)
    · subst hp
      have := total_other k o e m r hd.1
      unfold total at this ⊢
      simp only [List.map_cons, List.sum_cons]
      rw [this, get_set]
      omega
    · have h2 : (o, e) ∈ r := by
        rcases List.mem_cons.1 h with h | h
        · exact absurd h.symm hp
        · exact h
      have := total_set k o e m r hd.2 h2
      unfold total at this ⊢
      simp only [List.map_cons, List.sum_cons]
      rw [this, get_set_ne k m (fun h' => hp (by obtain ⟨h1, h2⟩ := h'; rw [← h1, ← h2]))]
      omega
end Go.Proofs.Ythajocfgpodimaa.Se
/- The reference's keys: rows of three numbers; slices of them that are read, slices that are made. -/
namespace Go.Proofs.Ythajocfgpodimaa.Se
open Go.RowKit
open Go.Proofs.Ythajocfgpodimaa.Me Go.Proofs.Ythajocfgpodimaa.Sb
set_option linter.unusedVariables false
set_option linter.unusedSimpArgs false

structure Ky where
  o : Int
  e : Int
  c : Int
deriving DecidableEq
abbrev Ks := List Ky
theorem add_mk (g off n : Nat) : (⟨g, off, none⟩ : Addr).add n = ⟨g, off + n, none⟩ := by unfold Addr.add; split <;> simp_all
/-- A file as cells. -/
def kyV (p : Ky) : List Value := [.int .i64 p.o, .int .i64 p.e, .int .i64 p.c]
def kyAt (L : Ks) (j : Nat) : Ky := L.getD j ⟨0, 0, 0⟩
theorem kyAt_get {L : Ks} {j : Nat} (h : j < L.length) : kyAt L j = L[j] := by simp [kyAt, h]
def kysV (L : Ks) : List Value := L.flatMap kyV
theorem kyV_len (p : Ky) : (kyV p).length = 3 := rfl
theorem kysV_len (L : Ks) : (kysV L).length = L.length * 3 := by
  induction L with
  | nil => rfl
  | cons p r ih => unfold kysV at ih ⊢; rw [List.flatMap_cons, List.length_append, ih, kyV_len, List.length_cons]; omega
theorem kysV_get {L : Ks} : ∀ {j : Nat}, j < L.length → ∀ {i : Nat}, i < 3 → (kysV L)[j * 3 + i]? = (kyV (kyAt L j))[i]? := by
  induction L with
  | nil => intro j h; exact absurd h (by simp)
  | cons p r ih =>
    intro j h i hi
    have e : kysV (p :: r) = kyV p ++ kysV r := by unfold kysV; rw [List.flatMap_cons]
    rw [e]
    cases j with
    | zero => rw [List.getElem?_append_left (by rw [kyV_len]; omega)]; simp [kyAt]
    | succ j =>
      rw [List.getElem?_append_right (by rw [kyV_len]; omega), kyV_len]
      have h2 := ih (j := j) (by simpa using h) hi
      rw [show (j + 1) * 3 + i - 3 = j * 3 + i by omega, h2]
      simp [kyAt]
theorem kysV_snoc (L : Ks) (p : Ky) : kysV (L ++ [p]) = kysV L ++ kyV p := by unfold kysV; rw [List.flatMap_append]; simp
/-- A slice of files that is read: in a block that bears Q. -/
def Kv (Q : Nat → Prop) (w : World) (v : Value) (L : Ks) : Prop :=
  ∃ A c, v = .slice A L.length c ∧ L.length ≤ c ∧ c ≤ 9223372036854775807 ∧ ∀ j, j < L.length → ∃ g, A = some ⟨g, 0, none⟩ ∧ g < w.heap.size ∧ Q g ∧ ∀ i u, (kyV (kyAt L j))[i]? = some u → w.cell? ⟨g, j * 3 + i, none⟩ = some u
theorem Kv.nil (Q : Nat → Prop) (w : World) : Kv Q w (.slice none 0 0) [] := ⟨none, 0, rfl, Nat.le_refl _, Nat.zero_le _, fun j hj => absurd hj (by simp)⟩
theorem Kv.but {Q S : Nat → Prop} {w w' : World} {v : Value} {L : Ks} (h : Kv Q w v L) (hb : But S w w') (hS : ∀ k, Q k → ¬ S k) : Kv Q w' v L := by
  obtain ⟨A, c, e, h1, h2, h3⟩ := h
  refine ⟨A, c, e, h1, h2, fun j hj => ?_⟩
  obtain ⟨g, e1, e2, e3, e4⟩ := h3 j hj
  exact ⟨g, e1, Nat.lt_of_lt_of_le e2 hb.size, e3, fun i u hu => (World.cell?_of_block (w := w) (a := ⟨g, j * 3 + i, none⟩) (hb.same g e2 (hS g e3))).trans (e4 i u hu)⟩
theorem Kv.below {Q : Nat → Prop} {w w' : World} {v : Value} {L : Ks} (h : Kv Q w v L) (hb : Below w.heap.size w w') : Kv Q w' v L := h.but (S := fun _ => False) (But.of_below hb) fun _ _ => id
theorem Kv.mono {Q Q' : Nat → Prop} {w : World} {v : Value} {L : Ks} (h : Kv Q w v L) (hQ : ∀ k, k < w.heap.size → Q k → Q' k) : Kv Q' w v L := by
  obtain ⟨A, c, e, h1, h2, h3⟩ := h
  refine ⟨A, c, e, h1, h2, fun j hj => ?_⟩
  obtain ⟨g, e1, e2, e3, e4⟩ := h3 j hj
  exact ⟨g, e1, e2, hQ g e2 e3, e4⟩
/-- The cells of the file at a place. -/
theorem Kv.at_ {Q : Nat → Prop} {w : World} {A : Option Addr} {n c : Nat} {L : Ks} (h : Kv Q w (.slice A n c) L) {j : Nat} (hj : j < L.length) :
    ∃ g, A = some ⟨g, 0, none⟩ ∧ g < w.heap.size ∧ ∀ W, Below w.heap.size w W → W.cell? ⟨g, j * 3, none⟩ = some (.int .i64 (kyAt L j).o) ∧ W.cell? ⟨g, j * 3 + 1, none⟩ = some (.int .i64 (kyAt L j).e) ∧ W.cell? ⟨g, j * 3 + 2, none⟩ = some (.int .i64 (kyAt L j).c) := by
  obtain ⟨A', c', e, h1, h2, h3⟩ := h
  simp only [Value.slice.injEq] at e
  obtain ⟨rfl, _, _⟩ := e
  obtain ⟨g, e1, e2, _, e4⟩ := h3 j hj
  refine ⟨g, e1, e2, fun W hW => ?_⟩
  have hx : ∀ i u, (kyV (kyAt L j))[i]? = some u → W.cell? ⟨g, j * 3 + i, none⟩ = some u := fun i u hu => (hW.cell (p := ⟨g, j * 3 + i, none⟩) e2).trans (e4 i u hu)
  exact ⟨hx 0 _ rfl, hx 1 _ rfl, hx 2 _ rfl⟩
theorem Kv.form {Q : Nat → Prop} {w : World} {v : Value} {L : Ks} (h : Kv Q w v L) : ∃ A c, v = .slice A L.length c ∧ L.length ≤ c ∧ c ≤ 9223372036854775807 := by
  obtain ⟨A, c, e, h1, h2, _⟩ := h
  exact ⟨A, c, e, h1, h2⟩
/-- A slice of files of the call's own. -/
def Ko (w : World) (B : Nat) (v : Value) (L : Ks) : Prop := w.ownsRow B 68 3 v L.length (kysV L)
theorem Ko.lit {w0 w : World} (hb : w0.heap.size ≤ w.heap.size) : Ko (w.alloc (.cells #[] 68)) w0.heap.size (.slice (some ⟨w.heap.size, 0, none⟩) 0 0) [] :=
  World.ownsRow_made w #[] 0 hb (by unfold maxLen; omega) rfl
theorem Ko.kv {w : World} {B : Nat} {v : Value} {L : Ks} (h : Ko w B v L) : Kv (fun k => B ≤ k) w v L := by
  have h0 := h
  rcases h.2 with ⟨h1, h2⟩ | ⟨g, cap, cur, h1, h2, h3, h4, h5, h6, h7⟩
  · have : L = [] := by simpa using h2
    subst this
    subst h1
    exact Kv.nil _ _
  · have hlt := h.lt g (by rw [h1]; rfl)
    refine ⟨some ⟨g, 0, none⟩, cap, h1, h4, by unfold maxLen at h5; omega, fun j hj => ⟨g, rfl, hlt.2, hlt.1, fun i u hu => ?_⟩⟩
    have hi : i < 3 := by have := (List.getElem?_eq_some_iff.1 hu).1; rwa [kyV_len] at this
    subst h1
    have := h0.cells (g := g) rfl (j * 3 + i) u (by rw [kysV_get hj hi]; exact hu)
    rwa [add_mk, Nat.zero_add] at this
theorem Ko.alloc {w : World} {B : Nat} {v : Value} {L : Ks} (h : Ko w B v L) (o : Obj) : Ko (w.alloc o) B v L := World.ownsRow.kept h (World.grownBy_alloc w o none) (by cases v.ownBlock <;> simp)
theorem Ko.below {w w' : World} {B : Nat} {v : Value} {L : Ks} (h : Ko w B v L) (hb : Below w.heap.size w w') : Ko w' B v L := own_same h fun k _ hk => hb.block k hk
theorem Ko.form {w : World} {B : Nat} {v : Value} {L : Ks} (h : Ko w B v L) : ∃ A c, v = .slice A L.length c ∧ L.length ≤ c ∧ c ≤ 9223372036854775807 := h.kv.form
theorem infoKy : (Try.prog.info? 68).map (fun i => (i.zero, i.size, i.bytes)) = some (some (.agg #[.int .i64 0, .int .i64 0, .int .i64 0]), 3, 24) := by kernel_rfl
theorem ky_one (p : Ky) : ∀ v ∈ kyV p, v.oneCell' = true := by
  intro v hv
  simp only [kyV, List.mem_cons, List.not_mem_nil, or_false] at hv
  rcases hv with rfl | rfl | rfl <;> rfl
theorem ky_new (w : World) (p : Ky) (T : TypeId) (fr : Nat × Nat) : ∀ j u, (kyV p)[j]? = some u → (w.alloc (.cells (kyV p).toArray T fr)).cell? ((⟨w.heap.size, 0, none⟩ : Addr).add j) = some u := by
  intro j u hu
  rw [add_mk, Nat.zero_add, cell_of_row _ w.heap.size j _ T fr (heap_alloc_new w _)]
  simpa using hu
/-- One file appended to a slice of the call's own. -/
theorem appKy {w0 w wl : World} {ops : Array Oper} {rest : List Oper} {o : Oper} {a : Act} {Q : Exit → Act → World → Prop} (hgd : o.guard = none) (s x : Operand)
    (ho : o.op = .call { callee := .builtin .append, args := #[s, x], argTypes := #[27, 27] })
    (B : Nat) (v : Value) (L : Ks) (p : Ky) (hs : a.eval s = v) (hw : w = wl.alloc (.cells (kyV p).toArray 68)) (hown : Ko wl B v L) (hb : Below B w0 wl) (hB : B ≤ wl.heap.size)
    (g : Nat) (hg : g = wl.heap.size) (hx : a.eval x = .slice (some ⟨g, 0, none⟩) 1 1) (hlen : L.length ≤ 1000)
    (h : ∀ v' w', Ko w' B v' (L ++ [p]) → Below B w0 w' → wl.grownBy w' v.ownBlock → (∀ k, v'.ownBlock = some k → v.ownBlock = some k ∨ wl.heap.size ≤ k) → wpList Try.prog ops Q rest (a.put o.dst v') w') : wpList Try.prog ops Q (o :: rest) a w := by
  subst hw hg
  obtain ⟨i0, hi, hz0, hz1, hz2⟩ := info_parts infoKy
  refine wpList_append_own_at (wl.alloc (.cells (kyV p).toArray 68)) hgd s x 27 ho B 68 i0 (.agg #[.int .i64 0, .int .i64 0, .int .i64 0]) 3 24 Try.underlying27 hi hz0 hz1 hz2 rfl (by decide) v L.length (kysV L) hs (hown.alloc _) ⟨wl.heap.size, 0, none⟩ 1 1 (kyV p) hx rfl (ky_new wl p _ _) (ky_one p) (by unfold maxLen; omega) (by omega) (by simp; omega) ?_
  intro v' w' h1 h2 _ h4
  have hb1 : Below B w0 (wl.alloc (.cells (kyV p).toArray 68)) := hb.alloc hB _
  refine h v' w' ?_ (hb1.grown h2 (by simp; omega) fun k hk => (hown.lt k hk).1) ⟨h2.os, h2.tape, h2.output, Nat.le_trans (by simp) h2.size, fun k hk hne => ?_⟩ fun k hk => ?_
  · unfold Ko
    rw [List.length_append, kysV_snoc]; exact h1
  · exact (h2.block k (by simp; omega) hne).trans (Below.heap_alloc wl _ k hk)
  · rcases h4 with h4 | h4
    · rw [h4] at hk; exact .inl hk
    · rw [h4] at hk
      simp only [World.size_alloc, Option.some.injEq] at hk
      exact .inr (by omega)
end Go.Proofs.Ythajocfgpodimaa.Se
