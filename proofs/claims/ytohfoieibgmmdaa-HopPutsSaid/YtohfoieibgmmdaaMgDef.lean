/- Ids and messages as plain data: are they right, their bytes, their texts, their order. -/
import Derived.Test.YtohfoieibgmmdaaKit
import Derived.Test.YtohfoieibgmmdaaIKit
import Derived.Lib.SmallJoins
import Derived.Handy
namespace Go.Proofs.Ytohfoieibgmmdaa.Mg
open Go.RowKit
open Go.Proofs.Ytohfoieibgmmdaa.Me
set_option linter.unusedVariables false

structure Id4 where
  o : Int
  d : Int
  e : Int
  c : Int
def idC (i : Id4) : Array Value := #[.int .i64 i.o, .int .i64 i.d, .int .i64 i.e, .int .i64 i.c]
def nodeB (n : Int) : Bool := decide (0 ≤ n ∧ n < 64)
def numB (n : Int) : Bool := decide (1 ≤ n ∧ n ≤ 65535)
/-- What Check answers. -/
def chkN (i : Id4) : Nat := if nodeB i.o && nodeB i.d && numB i.e && numB i.c then (if i.o = i.d then 2 else 0) else 1
/-- What CheckMsg answers of a message with n bytes. -/
def msgN (i : Id4) (n : Nat) : Nat := if chkN i ≠ 0 then chkN i else if n = 0 then 2 else if 48 < n then 3 else 0
structure Right (i : Id4) : Prop where
  o0 : 0 ≤ i.o
  o1 : i.o < 64
  d0 : 0 ≤ i.d
  d1 : i.d < 64
  e0 : 1 ≤ i.e
  e1 : i.e ≤ 65535
  c0 : 1 ≤ i.c
  c1 : i.c ≤ 65535
  ne : ¬ i.o = i.d
theorem nodeB_iff {n : Int} : nodeB n = true ↔ 0 ≤ n ∧ n < 64 := by simp [nodeB]
theorem numB_iff {n : Int} : numB n = true ↔ 1 ≤ n ∧ n ≤ 65535 := by simp [numB]
theorem right_iff {i : Id4} : chkN i = 0 ↔ Right i := by
  unfold chkN
  constructor
  · intro h
    split at h
    · rename_i hb
      simp only [Bool.and_eq_true, nodeB_iff, numB_iff] at hb
      split at h
      · cases h
      · rename_i hn
        exact ⟨hb.1.1.1.1, hb.1.1.1.2, hb.1.1.2.1, hb.1.1.2.2, hb.1.2.1, hb.1.2.2, hb.2.1, hb.2.2, hn⟩
    · cases h
  · intro h
    rw [if_pos (by simp only [Bool.and_eq_true, nodeB_iff, numB_iff]; exact ⟨⟨⟨⟨h.o0, h.o1⟩, h.d0, h.d1⟩, h.e0, h.e1⟩, h.c0, h.c1⟩), if_neg h.ne]
/-- Is a ahead of b? -/
def ltB (a b : Id4) : Bool := if a.o = b.o then (if a.d = b.d then (if a.e = b.e then decide (a.c < b.c) else decide (a.e < b.e)) else decide (a.d < b.d)) else decide (a.o < b.o)
/-- What slices.Compare answers of two ids' numbers. -/
def cmp1 (x y : Int) : Int := if x < y then -1 else if y < x then 1 else 0
def cmpN (a b : Id4) : Int := if a.o = b.o then (if a.d = b.d then (if a.e = b.e then cmp1 a.c b.c else cmp1 a.e b.e) else cmp1 a.d b.d) else cmp1 a.o b.o
theorem cmp1_neg (x y : Int) : decide (cmp1 x y < 0) = decide (x < y) := by
  unfold cmp1
  split
  · rename_i h; simp [h]
  · rename_i h
    split
    · simp [h]
    · simp [h]
theorem cmpN_neg (a b : Id4) : decide (cmpN a b < 0) = ltB a b := by
  unfold cmpN ltB
  repeat' split
  all_goals exact cmp1_neg _ _
/-- Number k of an id. -/
def ix (i : Id4) (k : Nat) : Int := if k = 0 then i.o else if k = 1 then i.d else if k = 2 then i.e else i.c
theorem cmp1_self (x : Int) : cmp1 x x = 0 := by unfold cmp1; simp
theorem cmp1_ne {x y : Int} (h : ¬ x = y) : ¬ cmp1 x y = 0 := by
  unfold cmp1
  split
  · omega
  · split
    · omega
    · omega
theorem cmpN_at {a b : Id4} {k : Nat} (hk : k < 4) (h : ∀ j, j < k → ix a j = ix b j) (hne : ¬ ix a k = ix b k) : cmpN a b = cmp1 (ix a k) (ix b k) := by
  obtain rfl | rfl | rfl | rfl : k = 0 ∨ k = 1 ∨ k = 2 ∨ k = 3 := by omega
  · have hne : ¬ a.o = b.o := hne
    unfold cmpN; rw [if_neg hne]; rfl
  · have h0 : a.o = b.o := h 0 (by omega)
    have hne : ¬ a.d = b.d := hne
    unfold cmpN; rw [if_pos h0, if_neg hne]; rfl
  · have h0 : a.o = b.o := h 0 (by omega)
    have h1 : a.d = b.d := h 1 (by omega)
    have hne : ¬ a.e = b.e := hne
    unfold cmpN; rw [if_pos h0, if_pos h1, if_neg hne]; rfl
  · have h0 : a.o = b.o := h 0 (by omega)
    have h1 : a.d = b.d := h 1 (by omega)
    have h2 : a.e = b.e := h 2 (by omega)
    unfold cmpN; rw [if_pos h0, if_pos h1, if_pos h2]; rfl
theorem cmpN_eq {a b : Id4} (h : ∀ j, j < 4 → ix a j = ix b j) : cmpN a b = 0 := by
  have h0 : a.o = b.o := h 0 (by omega)
  have h1 : a.d = b.d := h 1 (by omega)
  have h2 : a.e = b.e := h 2 (by omega)
  have h3 : a.c = b.c := h 3 (by omega)
  unfold cmpN; rw [if_pos h0, if_pos h1, if_pos h2, h3, cmp1_self]
theorem ltB_at {a b : Id4} {k : Nat} (hk : k < 4) (h : ∀ j, j < k → ix a j = ix b j) (hne : ¬ ix a k = ix b k) : ltB a b = decide (ix a k < ix b k) := by
  rw [← cmpN_neg, cmpN_at hk h hne, cmp1_neg]
theorem ltB_eq {a b : Id4} (h : ∀ j, j < 4 → ix a j = ix b j) : ltB a b = false := by
  rw [← cmpN_neg, cmpN_eq h]; rfl
end Go.Proofs.Ytohfoieibgmmdaa.Mg
