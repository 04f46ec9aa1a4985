/- Contracts of bits' Get and of its reference's, over bytes that lie anywhere in memory (stage 1's texts over the common kit). -/
import Derived.Test.YtohfoieibgmmdabBase
import Derived.Test.YtohfoieibgmmdabKit
namespace Go.Proofs.Ytohfoieibgmmdab.Bt
open Go.RowKit
open Go.Proofs.Ytohfoieibgmmdab.Ma
open Go.Proofs.Ytohfoieibgmmdab.Ba
open Go.Proofs.Ytohfoieibgmmdab.Me
set_option linter.unusedVariables false

/-- The number of k bytes of l from place a on. -/
def numP (l : List Nat) (a k : Nat) : Nat := num ((l.drop a).take k)
theorem numP_step {l : List Nat} {a k : Nat} (h : a + k < l.length) : numP l a (k + 1) = numP l a k * 256 + by_ l (a + k) := by
  rw [by_get h]; exact num_step h
theorem numP_lt {l : List Nat} (hz : ∀ b ∈ l, b < 256) (a : Nat) {k : Nat} (hk : k ≤ 8) : numP l a k < U := by
  refine Nat.lt_of_lt_of_le (num_part_lt hz a k) ?_
  have e : (256 : Nat) ^ k = 2 ^ (8 * k) := by rw [Nat.pow_mul]
  have h8 : 8 * k ≤ 64 := by omega
  rw [e]; exact Nat.pow_le_pow_right (by decide) h8
theorem or_byte {x b : Nat} (hb : b < 256) (hx : x * 256 + b < U) : bits .or .u64 (IntKind.u64.wrap ((x : Int) * 256)) (b : Int) = ((x * 256 + b : Nat) : Int) := by
  have e1 : ((x : Int) * (256 : Int)) = ((x <<< 8 : Nat) : Int) := by simp [Nat.shiftLeft_eq]
  have hx' : x <<< 8 < U := Nat.lt_of_le_of_lt (show x <<< 8 ≤ x * 256 + b by rw [Nat.shiftLeft_eq]; omega) hx
  rw [e1, wrapU_nat hx', orU hx' (by unfold U; omega)]
  congr 1
  rw [← Nat.shiftLeft_add_eq_or_of_lt (b := b) (i := 8) (by omega) x, Nat.shiftLeft_eq]
/-- The answer of Get. -/
def getE (l : List Nat) (a s : Int) : Value :=
  if sizeB 8 s = true ∧ 0 ≤ a then (if a + s ≤ l.length then .tuple #[.int .u64 (numP l a.toNat s.toNat : Int), .int .i64 0] else .tuple #[.int .u64 0, .int .i64 2]) else .tuple #[.int .u64 0, .int .i64 1]
theorem getE_size {l : List Nat} {a s : Int} (h : ¬ (sizeB 8 s = true ∧ 0 ≤ a)) : getE l a s = .tuple #[.int .u64 0, .int .i64 1] := by unfold getE; rw [if_neg h]
theorem getE_form {l : List Nat} {a s : Int} (h : sizeB 8 s = true) (h0 : 0 ≤ a) (h1 : ¬ a + s ≤ l.length) : getE l a s = .tuple #[.int .u64 0, .int .i64 2] := by unfold getE; rw [if_pos ⟨h, h0⟩, if_neg h1]
theorem getE_ok {l : List Nat} {a s : Nat} (h : sizeB 8 s = true) (h1 : (a : Int) + s ≤ l.length) : getE l a s = .tuple #[.int .u64 (numP l a s : Int), .int .i64 0] := by
  unfold getE; rw [if_pos ⟨h, by omega⟩, if_pos h1]; rfl
theorem mul_byte {x b : Nat} (hx : x * 256 + b < U) : IntKind.u64.wrap (IntKind.u64.wrap (256 * (x : Int)) + (b : Int)) = ((x * 256 + b : Nat) : Int) := by
  have e1 : (256 * (x : Int)) = ((x * 256 : Nat) : Int) := by simp; omega
  rw [e1, wrapU_nat (Nat.lt_of_le_of_lt (Nat.le_add_right _ b) hx), ← Int.natCast_add, wrapU_nat hx]
end Go.Proofs.Ytohfoieibgmmdab.Bt
