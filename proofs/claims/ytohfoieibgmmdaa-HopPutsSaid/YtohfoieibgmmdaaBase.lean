/- Contracts of the small functions of bits and of its reference that make no memory: what each returns, for all arguments that they are called with. -/
import Derived.Test.YtohfoieibgmmdaaRows
import Derived.Test.YtohfoieibgmmdaaMath
import Derived.WalkKit
import Derived.ProofKit
import Derived.OpenShut
import Derived.Below
import Derived.Lib.Hide
import Derived.Deep.QuietTactic
import Derived.BigQuiet
namespace Go.Proofs.Ytohfoieibgmmdaa.Ba
open Go.RowKit
open Go.Proofs.Ytohfoieibgmmdaa.Ma
set_option linter.unusedVariables false

/-- The numbers that a uint64 holds are those below U. -/
def U : Nat := 2 ^ 64
theorem wrapU (n : Int) : IntKind.u64.wrap n = n % 2 ^ 64 := by simp [IntKind.wrap, IntKind.bits, IntKind.signed]
theorem wrapU_nat {n : Nat} (h : n < U) : IntKind.u64.wrap (n : Int) = n := by
  unfold U at h; rw [wrapU]; omega
theorem andU {a b : Nat} (ha : a < U) (hb : b < U) : bits .and .u64 (a : Int) (b : Int) = ((a &&& b : Nat) : Int) := bits_and_u64_nat a b ha hb
theorem orU {a b : Nat} (ha : a < U) (hb : b < U) : bits .or .u64 (a : Int) (b : Int) = ((a ||| b : Nat) : Int) := bits_or_u64_nat a b ha hb
theorem ofIntU {a : Nat} (ha : a < U) : (BitVec.ofInt 64 (a : Int)).toNat = a := by
  unfold U at ha
  rw [BitVec.ofInt_natCast, BitVec.toNat_ofNat]; exact Nat.mod_eq_of_lt (by omega)
theorem andNotU {a b : Nat} (ha : a < U) (hb : b < U) : bits .andNot .u64 (a : Int) (b : Int) = ((a &&& (2 ^ 64 - 1 - b) : Nat) : Int) := by
  have hx : a &&& (2 ^ 64 - 1 - b) < U := by unfold U at ha ⊢; exact Nat.lt_of_le_of_lt Nat.and_le_left ha
  show IntKind.u64.wrap ((BitVec.ofInt 64 (a : Int) &&& ~~~BitVec.ofInt 64 (b : Int)).toNat : Int) = _
  rw [BitVec.toNat_and, BitVec.toNat_not, ofIntU ha, ofIntU hb]
  exact wrapU_nat hx

/-- A bool is n's bit. -/
def bitB (n i : Nat) : Bool := n.testBit i
def bitN (n i : Nat) : Nat := (n.testBit i).toNat
theorem bitN_le (n i : Nat) : bitN n i ≤ 1 := by unfold bitN; cases n.testBit i <;> simp
theorem bitN_div (n i : Nat) : bitN n i = n / 2 ^ i % 2 := by
  unfold bitN; rw [Nat.testBit_eq_decide_div_mod_eq]
  by_cases h : n / 2 ^ i % 2 = 1 <;> simp [h] <;> omega
theorem and_one (n i : Nat) (hn : n < U) : bits BinOp.and IntKind.u64 ((n : Int) / 2 ^ i) 1 = (bitN n i : Int) := by
  have e : ((n : Int) / 2 ^ i) = ((n / 2 ^ i : Nat) : Int) := by simp
  have h1 : n / 2 ^ i < U := Nat.lt_of_le_of_lt (Nat.div_le_self _ _) hn
  have h2 : (1 : Int) = ((1 : Nat) : Int) := rfl
  rw [e, h2, andU h1 (by decide), bitN_div, Nat.and_one_is_mod]

theorem ret_u {a b : Int} (h : a = b) : Ending.returned (.int .u64 a) = .returned (.int .u64 b) := by rw [h]
theorem ret_b {a b : Bool} (h : a = b) : Ending.returned (.bool a) = .returned (.bool b) := by rw [h]
theorem ret_ue {a b : Int} {e : Int} (h : a = b) : Ending.returned (.tuple #[.int .u64 a, .int .i64 e]) = .returned (.tuple #[.int .u64 b, .int .i64 e]) := by rw [h]

def onesN (s : Nat) : Nat := 2 ^ s - 1
theorem ones_lt {s : Nat} (h : s ≤ 64) : onesN s < U := by
  unfold onesN U
  have := Nat.pow_le_pow_right (n := 2) (by decide) h
  have := Nat.two_pow_pos s
  omega
theorem ones_shr {s : Nat} (h2 : s ≤ 64) : (18446744073709551615 : Int) / 2 ^ (64 - s) = (onesN s : Int) := by
  unfold onesN
  have e : (18446744073709551615 : Int) / 2 ^ (64 - s) = ((18446744073709551615 / 2 ^ (64 - s) : Nat) : Int) := by simp
  rw [e]
  congr 1
  have hp : 2 ^ (64 - s) * 2 ^ s = 18446744073709551616 := by
    rw [← Nat.pow_add]
    have : 64 - s + s = 64 := by omega
    rw [this]
  have h0 := Nat.two_pow_pos (64 - s)
  have h1 := Nat.two_pow_pos s
  rw [Nat.div_eq_iff h0]
  have hmul : 2 ^ (64 - s) * (2 ^ s - 1) = 18446744073709551616 - 2 ^ (64 - s) := by rw [Nat.mul_sub, hp, Nat.mul_one]
  rw [Nat.mul_comm (2 ^ s - 1), hmul]
  have hle : 2 ^ (64 - s) ≤ 18446744073709551616 := by
    have := Nat.pow_le_pow_right (n := 2) (by decide) (show 64 - s ≤ 64 by omega)
    simpa using this
  omega

/-- Is s from 1 to hi? -/
def sizeB (hi s : Int) : Bool := decide (1 ≤ s ∧ s ≤ hi)
/-- May a field be? -/
def rightB (a s : Int) : Bool := decide (1 ≤ s ∧ s ≤ 64 ∧ 0 ≤ a ∧ a + s ≤ 64)
theorem sizeInBytes_any (s : Int) (w : World) :
    Calls Try.prog 68 #[.int .i64 s] w fun e w' => e = .returned (.bool (sizeB 8 s)) ∧ w = w' := by
  by_cases h1 : 1 ≤ s <;> by_cases h2 : s ≤ 8
  all_goals
    first
    | (have H := Lib.hid (show sizeB 8 s = true from decide_eq_true (by omega)); go_enter Try.func68, Try.ntmps68; go_wp2; go_ret; exact ⟨ret_b H.out.symm, rfl⟩)
    | (have H := Lib.hid (show sizeB 8 s = false from decide_eq_false (by omega)); go_enter Try.func68, Try.ntmps68; go_wp2; go_ret; exact ⟨ret_b H.out.symm, rfl⟩)
def pw (k : Nat) : Nat := 2 ^ k
theorem pw_lt {k : Nat} (h : k < 64) : pw k < U := Nat.pow_lt_pow_right (by decide) h
theorem pw_step {j : Nat} (h : j + 1 < 64) : IntKind.u64.wrap ((pw j : Int) * 2) = (pw (j + 1) : Int) := by
  have e : ((pw j : Int) * 2) = ((pw (j + 1) : Nat) : Int) := by simp [pw, Nat.pow_succ]
  rw [e]; exact wrapU_nat (pw_lt h)
/-- Does a number need no more than so many bits? -/
def fitsB (n s : Nat) : Bool := decide (n < 2 ^ s)
def cntN (n k : Nat) : Nat := cnt n.testBit k
theorem cntN_le (n k : Nat) : cntN n k ≤ k := cnt_le _ _
theorem cntN_step (n k : Nat) : cntN n (k + 1) = cntN n k + bitN n k := rfl
theorem bit_no {n k : Nat} (h : bitB n k = false) : bitN n k = 0 := by unfold bitB at h; simp [bitN, h]
theorem bit_yes {n k : Nat} (h : bitB n k = true) : bitN n k = 1 := by unfold bitB at h; simp [bitN, h]
end Go.Proofs.Ytohfoieibgmmdaa.Ba
