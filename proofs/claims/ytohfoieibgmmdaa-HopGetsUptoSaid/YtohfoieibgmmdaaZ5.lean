/- Plain facts on natural numbers, their bits and their byts, that the proofs of the layer bits need; nothing here speaks of the program. -/
import Derived.Test.YtohfoieibgmmdaaRows
import Derived.Test.YtohfoieibgmmdaaZ1
import Derived.WalkKit
import Derived.ProofKit
import Derived.OpenShut
import Derived.Below
import Derived.Lib.Hide
import Derived.Deep.QuietTactic
import Derived.BigQuiet
namespace Go.Proofs.Ytohfoieibgmmdaa.Ma

/-- The bits that f tells, the first told the highest. -/
def acc (f : Nat → Bool) : Nat → Nat
  | 0 => 0
  | k + 1 => 2 * acc f k + (f k).toNat
/-- How many of the first k that f tells are 1. -/
def cnt (f : Nat → Bool) : Nat → Nat
  | 0 => 0
  | k + 1 => cnt f k + (f k).toNat

theorem acc_lt (f : Nat → Bool) : ∀ k, acc f k < 2 ^ k
  | 0 => by simp [acc]
  | k + 1 => by
    have := acc_lt f k
    have h : (f k).toNat ≤ 1 := by cases f k <;> simp
    simp only [acc, Nat.pow_succ]; omega
theorem acc_bit (f : Nat → Bool) : ∀ k i, (acc f k).testBit i = (decide (i < k) && f (k - 1 - i))
  | 0, i => by simp [acc]
  | k + 1, 0 => by
    have h2 : (f k).toNat ≤ 1 := by cases f k <;> simp
    simp only [acc, Nat.testBit_zero]
    cases h : f k <;> simp [h] <;> omega
  | k + 1, i + 1 => by
    have hd : (2 * acc f k + (f k).toNat) / 2 = acc f k := by
      have h2 : (f k).toNat ≤ 1 := by cases f k <;> simp
      omega
    rw [acc, Nat.testBit_succ, hd, acc_bit f k i]
    have e : k + 1 - 1 - (i + 1) = k - 1 - i := by omega
    rw [e]
    congr 1
    simp
theorem acc_ext {f g : Nat → Bool} (h : ∀ i, f i = g i) (k : Nat) : acc f k = acc g k := by
  have : f = g := funext h
  rw [this]
/-- A number whose bits f tells is what acc makes of f. -/
theorem acc_eq {f : Nat → Bool} {k n : Nat} (hn : n < 2 ^ k) (h : ∀ i, i < k → n.testBit i = f (k - 1 - i)) : acc f k = n := by
  apply Nat.eq_of_testBit_eq
  intro i
  rw [acc_bit]
  by_cases hi : i < k
  · simp [hi, h i hi]
  · have : n.testBit i = false := Nat.testBit_lt_two_pow (Nat.lt_of_lt_of_le hn (Nat.pow_le_pow_right (by decide) (by omega)))
    simp [hi, this]

theorem cnt_le (f : Nat → Bool) : ∀ k, cnt f k ≤ k
  | 0 => by simp [cnt]
  | k + 1 => by
    have := cnt_le f k
    have h : (f k).toNat ≤ 1 := by cases f k <;> simp
    simp only [cnt]; omega
theorem cnt_front (f : Nat → Bool) : ∀ k, cnt f (k + 1) = (f 0).toNat + cnt (fun i => f (i + 1)) k
  | 0 => by simp [cnt]
  | k + 1 => by
    rw [cnt, cnt_front f k, cnt, Nat.add_assoc]
theorem cnt_ext {f g : Nat → Bool} : ∀ {k : Nat}, (∀ i, i < k → f i = g i) → cnt f k = cnt g k
  | 0, _ => rfl
  | k + 1, h => by rw [cnt, cnt, cnt_ext (fun i hi => h i (by omega)), h k (by omega)]
theorem cnt_back (f : Nat → Bool) : ∀ k, cnt (fun i => f (k - 1 - i)) k = cnt f k
  | 0 => rfl
  | k + 1 => by
    rw [cnt_front, cnt]
    have e : cnt (fun i => f (k + 1 - 1 - (i + 1))) k = cnt (fun i => f (k - 1 - i)) k := cnt_ext fun i _ => by congr 1; omega
    have e0 : k + 1 - 1 - 0 = k := by omega
    rw [e, cnt_back f k, e0]; omega
theorem cnt_add (f : Nat → Bool) (s : Nat) : ∀ t, (∀ i, s ≤ i → f i = false) → cnt f (s + t) = cnt f s
  | 0, _ => rfl
  | t + 1, h => by
    have e : s + (t + 1) = s + t + 1 := rfl
    rw [e, cnt, cnt_add f s t h, h (s + t) (by omega)]; rfl

/-! ### The numbers of the layer -/

/-- A field of n. -/
def fld (n at_ s : Nat) : Nat := n / 2 ^ at_ % 2 ^ s
theorem fld_lt (n at_ s : Nat) : fld n at_ s < 2 ^ s := Nat.mod_lt _ (Nat.two_pow_pos s)
theorem fld_bit (n at_ s i : Nat) : (fld n at_ s).testBit i = (decide (i < s) && n.testBit (at_ + i)) := by
  rw [fld, Nat.testBit_mod_two_pow, Nat.testBit_div_two_pow, Nat.add_comm i at_]
theorem acc_fld (n at_ s : Nat) : acc (fun j => n.testBit (at_ + (s - 1 - j))) s = fld n at_ s := by
  refine acc_eq (fld_lt n at_ s) fun i hi => ?_
  rw [fld_bit]
  have e : s - 1 - (s - 1 - i) = i := by omega
  simp [hi, e]
theorem and_ones (m s : Nat) : m &&& (2 ^ s - 1) = m % 2 ^ s := Nat.and_two_pow_sub_one_eq_mod m s
theorem field_go (n at_ s : Nat) : (n / 2 ^ at_) &&& (2 ^ s - 1) = fld n at_ s := and_ones _ _

/-- The bits the other way round. -/
def mir (n s : Nat) : Nat := acc n.testBit s
theorem mir_lt (n s : Nat) : mir n s < 2 ^ s := acc_lt _ _
theorem mir_mir {n s : Nat} (h : n < 2 ^ s) : mir (mir n s) s = n := by
  refine acc_eq h fun i hi => ?_
  rw [mir, acc_bit]
  have e : s - 1 - (s - 1 - i) = i := by omega
  have e2 : s - 1 - i < s := by omega
  simp [e, e2]
theorem cnt_mir {n s : Nat} (h : n < 2 ^ s) (hs : s ≤ 64) : cnt (mir n s).testBit 64 = cnt n.testBit 64 := by
  have e : 64 = s + (64 - s) := by omega
  rw [e, cnt_add _ s (64 - s) fun i hi => Nat.testBit_lt_two_pow (Nat.lt_of_lt_of_le (mir_lt n s) (Nat.pow_le_pow_right (by decide) hi)),
    cnt_add _ s (64 - s) fun i hi => Nat.testBit_lt_two_pow (Nat.lt_of_lt_of_le h (Nat.pow_le_pow_right (by decide) hi)), ← cnt_back n.testBit s]
  refine cnt_ext fun i hi => ?_
  rw [mir, acc_bit]; simp [hi]

/-- Bit i of n with v in a field. -/
def setBit (n at_ s v i : Nat) : Bool := if at_ ≤ i ∧ i < at_ + s then v.testBit (i - at_) else n.testBit i
/-- n with v in a field. -/
def set_ (n at_ s v : Nat) : Nat := acc (fun j => setBit n at_ s v (63 - j)) 64
theorem set_lt (n at_ s v : Nat) : set_ n at_ s v < 2 ^ 64 := acc_lt _ _
theorem set_bit (n at_ s v i : Nat) : (set_ n at_ s v).testBit i = (decide (i < 64) && setBit n at_ s v i) := by
  rw [set_, acc_bit]
  by_cases h : i < 64
  · have e : 63 - (64 - 1 - i) = i := by omega
    simp [h, e]
  · simp [h]
/-- What the code makes of it: the field cleared, v laid over it. -/
theorem set_go {n at_ s v : Nat} (hv : v < 2 ^ s) (h : at_ + s ≤ 64) :
    (n &&& (2 ^ 64 - 1 - (2 ^ s - 1) * 2 ^ at_)) ||| v * 2 ^ at_ = set_ n at_ s v := by
  have hm : (2 ^ s - 1) * 2 ^ at_ < 2 ^ 64 := by
    have h1 : (2 ^ s - 1) * 2 ^ at_ < 2 ^ s * 2 ^ at_ := Nat.mul_lt_mul_of_pos_right (by have := Nat.two_pow_pos s; omega) (Nat.two_pow_pos _)
    have h2 : 2 ^ s * 2 ^ at_ ≤ 2 ^ 64 := by rw [← Nat.pow_add]; exact Nat.pow_le_pow_right (by decide) (by omega)
    omega
  apply Nat.eq_of_testBit_eq
  intro i
  rw [set_bit, Nat.testBit_or, Nat.testBit_and, ← Nat.shiftLeft_eq, ← Nat.shiftLeft_eq, Nat.testBit_shiftLeft]
  have hm' : (2 ^ s - 1) <<< at_ < 2 ^ 64 := by rw [Nat.shiftLeft_eq]; exact hm
  have e : 2 ^ 64 - 1 - (2 ^ s - 1) <<< at_ = 2 ^ 64 - ((2 ^ s - 1) <<< at_ + 1) := by omega
  rw [e, Nat.testBit_two_pow_sub_succ hm', Nat.testBit_shiftLeft, Nat.testBit_two_pow_sub_one]
  unfold setBit
  by_cases h64 : i < 64
  · by_cases ha : at_ ≤ i
    · by_cases hs : i < at_ + s
      · have : i - at_ < s := by omega
        simp [h64, ha, hs, this]
      · have h3 : ¬ i - at_ < s := by omega
        have h4 : v.testBit (i - at_) = false := Nat.testBit_lt_two_pow (Nat.lt_of_lt_of_le hv (Nat.pow_le_pow_right (by decide) (by omega)))
        simp [h64, ha, hs, h3, h4]
    · simp [h64, ha]
  · have h4 : v.testBit (i - at_) = false := Nat.testBit_lt_two_pow (Nat.lt_of_lt_of_le hv (Nat.pow_le_pow_right (by decide) (by omega)))
    simp [h64, h4]
theorem fld_set {n at_ s v : Nat} (hv : v < 2 ^ s) (h : at_ + s ≤ 64) : fld (set_ n at_ s v) at_ s = v := by
  apply Nat.eq_of_testBit_eq
  intro i
  rw [fld_bit, set_bit]
  by_cases hi : i < s
  · have h1 : at_ + i < 64 := by omega
    simp [hi, h1, setBit]
  · have h4 : v.testBit i = false := Nat.testBit_lt_two_pow (Nat.lt_of_lt_of_le hv (Nat.pow_le_pow_right (by decide) (by omega)))
    simp [hi, h4]
theorem fld_set_other {n at_ s v a t : Nat} (h2 : a + t ≤ 64) (hd : at_ + s ≤ a ∨ a + t ≤ at_) : fld (set_ n at_ s v) a t = fld n a t := by
  apply Nat.eq_of_testBit_eq
  intro i
  rw [fld_bit, fld_bit, set_bit]
  by_cases hi : i < t
  · have h1 : a + i < 64 := by omega
    have h3 : ¬ (at_ ≤ a + i ∧ a + i < at_ + s) := by omega
    simp [hi, h1, setBit, h3]
  · simp [hi]

/-! ### Bytes -/

/-- The lowest k byts of n, the highest first. -/
def byts (n : Nat) : Nat → List Nat
  | 0 => []
  | k + 1 => n / 256 ^ k % 256 :: byts n k
/-- The number of byts, the highest first. -/
def num (l : List Nat) : Nat := l.foldl (fun n b => n * 256 + b) 0
theorem length_byts (n : Nat) : ∀ k, (byts n k).length = k
  | 0 => rfl
  | k + 1 => by simp [byts, length_byts n k]
theorem byts_lt (n : Nat) : ∀ k, ∀ b ∈ byts n k, b < 256
  | 0, b, h => by simp [byts] at h
  | k + 1, b, h => by
    simp only [byts, List.mem_cons] at h
    rcases h with rfl | h
    · exact Nat.mod_lt _ (by decide)
    · exact byts_lt n k b h
theorem num_from (l : List Nat) : ∀ a, l.foldl (fun n b => n * 256 + b) a = a * 256 ^ l.length + num l := by
  unfold num
  induction l with
  | nil => intro a; simp
  | cons b r ih =>
    intro a
    simp only [List.foldl_cons, List.length_cons]
    rw [ih, ih (0 * 256 + b), Nat.pow_succ, Nat.zero_mul, Nat.zero_add, Nat.add_mul, Nat.mul_assoc, Nat.mul_comm 256 (256 ^ r.length)]
    omega
theorem num_cons (b : Nat) (l : List Nat) : num (b :: l) = b * 256 ^ l.length + num l := by
  have := num_from l (0 * 256 + b)
  rw [show num (b :: l) = l.foldl (fun n b => n * 256 + b) (0 * 256 + b) from rfl, this]; simp
theorem num_snoc (l : List Nat) (b : Nat) : num (l ++ [b]) = num l * 256 + b := by simp [num]
theorem num_lt : ∀ l : List Nat, (∀ b ∈ l, b < 256) → num l < 256 ^ l.length
  | [], _ => by simp [num]
  | b :: l, h => by
    have h1 := num_lt l fun x hx => h x (List.mem_cons_of_mem _ hx)
    have h2 : b < 256 := h b List.mem_cons_self
    rw [num_cons, List.length_cons, Nat.pow_succ]
    have h3 : b * 256 ^ l.length ≤ 255 * 256 ^ l.length := Nat.mul_le_mul_right _ (by omega)
    omega
theorem num_byts (n : Nat) : ∀ k, num (byts n k) = n % 256 ^ k
  | 0 => by simp [byts, num, Nat.mod_one]
  | k + 1 => by
    rw [byts, num_cons, num_byts n k, length_byts, Nat.pow_succ, Nat.mod_mul]
    rw [Nat.mul_comm (256 ^ k) (n / 256 ^ k % 256)]; omega
/-- The number of the byts from place a on, told byte by byte. -/
theorem num_step {zs : List Nat} {a k : Nat} (h : a + k < zs.length) : num ((zs.drop a).take (k + 1)) = num ((zs.drop a).take k) * 256 + zs[a + k] := by
  rw [List.take_succ_eq_append_getElem (by simp; omega), num_snoc]
  simp
theorem num_part_lt {zs : List Nat} (hz : ∀ b ∈ zs, b < 256) (a k : Nat) : num ((zs.drop a).take k) < 256 ^ k := by
  refine Nat.lt_of_lt_of_le (num_lt _ fun b hb => hz b (List.mem_of_mem_drop (List.mem_of_mem_take hb))) (Nat.pow_le_pow_right (by decide) ?_)
  simp; omega

#print axioms set_go
end Go.Proofs.Ytohfoieibgmmdaa.Ma
/- Contracts of the small functions of bits and of its reference that make no memory: what each returns, for all arguments that they are called with. -/
namespace Go.Proofs.Ytohfoieibgmmdaa.Ba
open Go.RowKit
open Go.Proofs.Ytohfoieibgmmdaa.Ma
set_option linter.unusedVariables false

/-- The numbers that a uint64 holds are those below U. -/
def U : Nat := 2 ^ 64
theorem wrapU (n : Int) : IntKind.u64.wrap n = n % 2 ^ 64 := by simp [IntKind.wrap, IntKind.bits, IntKind.signed]
theorem wrapU_nat {n : Nat} (h : n < U) : IntKind.u64.wrap (n : Int) = n := by
  unfold U at h; rw [wrapU]; omega
theorem andU {a b : Nat} (ha : a < U) (hb : b < U) : bits .and .u64 (a : Int) (b : Int) = ((a &&& b : Nat) : Int) := bits_and_u64_nat a b ha hb
theorem orU {a b : Nat} (ha : a < U) (hb : b < U) : bits .or .u64 (a : Int) (b : Int) = ((a ||| b : Nat) : Int) := bits_or_u64_nat a b ha hb
theorem ofIntU {a : Nat} (ha : a < U) : (BitVec.ofInt 64 (a : Int)).toNat = a := by
  unfold U at ha
  rw [BitVec.ofInt_natCast, BitVec.toNat_ofNat]; exact Nat.mod_eq_of_lt (by omega)
theorem andNotU {a b : Nat} (ha : a < U) (hb : b < U) : bits .andNot .u64 (a : Int) (b : Int) = ((a &&& (2 ^ 64 - 1 - b) : Nat) : Int) := by
  have hx : a &&& (2 ^ 64 - 1 - b) < U := by unfold U at ha ⊢; exact Nat.lt_of_le_of_lt Nat.and_le_left ha
  show IntKind.u64.wrap ((BitVec.ofInt 64 (a : Int) &&& ~~~BitVec.ofInt 64 (b : Int)).toNat : Int) = _
  rw [BitVec.toNat_and, BitVec.toNat_not, ofIntU ha, ofIntU hb]
  exact wrapU_nat hx

/-- A bool is n's bit. -/
def bitB (n i : Nat) : Bool := n.testBit i
def bitN (n i : Nat) : Nat := (n.testBit i).toNat
theorem bitN_le (n i : Nat) : bitN n i ≤ 1 := by unfold bitN; cases n.testBit i <;> simp
theorem bitN_div (n i : Nat) : bitN n i = n / 2 ^ i % 2 := by
  unfold bitN; rw [Nat.testBit_eq_decide_div_mod_eq]
  by_cases h : n / 2 ^ i % 2 = 1 <;> simp [h] <;> omega
theorem and_one (n i : Nat) (hn : n < U) : bits BinOp.and IntKind.u64 ((n : Int) / 2 ^ i) 1 = (bitN n i : Int) := by
  have e : ((n : Int) / 2 ^ i) = ((n / 2 ^ i : Nat) : Int) := by simp
  have h1 : n / 2 ^ i < U := Nat.lt_of_le_of_lt (Nat.div_le_self _ _) hn
  have h2 : (1 : Int) = ((1 : Nat) : Int) := rfl
  rw [e, h2, andU h1 (by decide), bitN_div, Nat.and_one_is_mod]

theorem ret_u {a b : Int} (h : a = b) : Ending.returned (.int .u64 a) = .returned (.int .u64 b) := by rw [h]
theorem ret_b {a b : Bool} (h : a = b) : Ending.returned (.bool a) = .returned (.bool b) := by rw [h]
theorem ret_ue {a b : Int} {e : Int} (h : a = b) : Ending.returned (.tuple #[.int .u64 a, .int .i64 e]) = .returned (.tuple #[.int .u64 b, .int .i64 e]) := by rw [h]

def onesN (s : Nat) : Nat := 2 ^ s - 1
theorem ones_lt {s : Nat} (h : s ≤ 64) : onesN s < U := by
  unfold onesN U
  have := Nat.pow_le_pow_right (n := 2) (by decide) h
  have := Nat.two_pow_pos s
  omega
theorem ones_shr {s : Nat} (h2 : s ≤ 64) : (18446744073709551615 : Int) / 2 ^ (64 - s) = (onesN s : Int) := by
  unfold onesN
  have e : (18446744073709551615 : Int) / 2 ^ (64 - s) = ((18446744073709551615 / 2 ^ (64 - s) : Nat) : Int) := by simp
  rw [e]
  congr 1
  have hp : 2 ^ (64 - s) * 2 ^ s = 18446744073709551616 := by
    rw [← Nat.pow_add]
    have : 64 - s + s = 64 := by omega
    rw [this]
  have h0 := Nat.two_pow_pos (64 - s)
  have h1 := Nat.two_pow_pos s
  rw [Nat.div_eq_iff h0]
  have hmul : 2 ^ (64 - s) * (2 ^ s - 1) = 18446744073709551616 - 2 ^ (64 - s) := by rw [Nat.mul_sub, hp, Nat.mul_one]
  rw [Nat.mul_comm (2 ^ s - 1), hmul]
  have hle : 2 ^ (64 - s) ≤ 18446744073709551616 := by
    have := Nat.pow_le_pow_right (n := 2) (by decide) (show 64 - s ≤ 64 by omega)
    simpa using this
  omega

/-- Is s from 1 to hi? -/
def sizeB (hi s : Int) : Bool := decide (1 ≤ s ∧ s ≤ hi)
/-- May a field be? -/
def rightB (a s : Int) : Bool := decide (1 ≤ s ∧ s ≤ 64 ∧ 0 ≤ a ∧ a + s ≤ 64)
theorem sizeInBytes_any (s : Int) (w : World) :
    Calls Try.prog 68 #[.int .i64 s] w fun e w' => e = .returned (.bool (sizeB 8 s)) ∧ w = w' := by
  by_cases h1 : 1 ≤ s <;> by_cases h2 : s ≤ 8
  all_goals
    first
    | (have H := Lib.hid (show sizeB 8 s = true from decide_eq_true (by omega)); go_enter Try.func68, Try.ntmps68; go_wp2; go_ret; exact ⟨ret_b H.out.symm, rfl⟩)
    | (have H := Lib.hid (show sizeB 8 s = false from decide_eq_false (by omega)); go_enter Try.func68, Try.ntmps68; go_wp2; go_ret; exact ⟨ret_b H.out.symm, rfl⟩)
def pw (k : Nat) : Nat := 2 ^ k
theorem pw_lt {k : Nat} (h : k < 64) : pw k < U := Nat.pow_lt_pow_right (by decide) h
theorem pw_step {j : Nat} (h : j + 1 < 64) : IntKind.u64.wrap ((pw j : Int) * 2) = (pw (j + 1) : Int) := by
  have e : ((pw j : Int) * 2) = ((pw (j + 1) : Nat) : Int) := by simp [pw, Nat.pow_succ]
  rw [e]; exact wrapU_nat (pw_lt h)
/-- Does a number need no more than so many bits? -/
def fitsB (n s : Nat) : Bool := decide (n < 2 ^ s)
def cntN (n k : Nat) : Nat := cnt n.testBit k
theorem cntN_le (n k : Nat) : cntN n k ≤ k := cnt_le _ _
theorem cntN_step (n k : Nat) : cntN n (k + 1) = cntN n k + bitN n k := rfl
theorem bit_no {n k : Nat} (h : bitB n k = false) : bitN n k = 0 := by unfold bitB at h; simp [bitN, h]
theorem bit_yes {n k : Nat} (h : bitB n k = true) : bitN n k = 1 := by unfold bitB at h; simp [bitN, h]
end Go.Proofs.Ytohfoieibgmmdaa.Ba
/- Contracts of bits' Get and of its reference's, over bytes that lie anywhere in memory (stage 1's texts over the common kit). -/
namespace Go.Proofs.Ytohfoieibgmmdaa.Bt
open Go.RowKit
open Go.Proofs.Ytohfoieibgmmdaa.Ma
open Go.Proofs.Ytohfoieibgmmdaa.Ba
open Go.Proofs.Ytohfoieibgmmdaa.Me
set_option linter.unusedVariables false

/-- The number of k bytes of l from place a on. -/
def numP (l : List Nat) (a k : Nat) : Nat := num ((l.drop a).take k)
theorem numP_step {l : List Nat} {a k : Nat} (h : a + k < l.length) : numP l a (k + 1) = numP l a k * 256 + by_ l (a + k) := by
  rw [by_get h]; exact num_step h
theorem numP_lt {l : List Nat} (hz : ∀ b ∈ l, b < 256) (a : Nat) {k : Nat} (hk : k ≤ 8) : numP l a k < U := by
  refine Nat.lt_of_lt_of_le (num_part_lt hz a k) ?_
  have e : (256 : Nat) ^ k = 2 ^ (8 * k) := by rw [Nat.pow_mul]
  have h8 : 8 * k ≤ 64 := by omega
  rw [e]; exact Nat.pow_le_pow_right (by decide) h8
theorem or_byte {x b : Nat} (hb : b < 256) (hx : x * 256 + b < U) : bits .or .u64 (IntKind.u64.wrap ((x : Int) * 256)) (b : Int) = ((x * 256 + b : Nat) : Int) := by
  have e1 : ((x : Int) * (256 : Int)) = ((x <<< 8 : Nat) : Int) := by simp [Nat.shiftLeft_eq]
  have hx' : x <<< 8 < U := Nat.lt_of_le_of_lt (show x <<< 8 ≤ x * 256 + b by rw [Nat.shiftLeft_eq]; omega) hx
  rw [e1, wrapU_nat hx', orU hx' (by unfold U; omega)]
  congr 1
  rw [← Nat.shiftLeft_add_eq_or_of_lt (b := b) (i := 8) (by omega) x, Nat.shiftLeft_eq]
/-- The answer of Get. -/
def getE (l : List Nat) (a s : Int) : Value :=
  if sizeB 8 s = true ∧ 0 ≤ a then (if a + s ≤ l.length then .tuple #[.int .u64 (numP l a.toNat s.toNat : Int), .int .i64 0] else .tuple #[.int .u64 0, .int .i64 2]) else .tuple #[.int .u64 0, .int .i64 1]
theorem getE_size {l : List Nat} {a s : Int} (h : ¬ (sizeB 8 s = true ∧ 0 ≤ a)) : getE l a s = .tuple #[.int .u64 0, .int .i64 1] := by unfold getE; rw [if_neg h]
theorem getE_form {l : List Nat} {a s : Int} (h : sizeB 8 s = true) (h0 : 0 ≤ a) (h1 : ¬ a + s ≤ l.length) : getE l a s = .tuple #[.int .u64 0, .int .i64 2] := by unfold getE; rw [if_pos ⟨h, h0⟩, if_neg h1]
theorem getE_ok {l : List Nat} {a s : Nat} (h : sizeB 8 s = true) (h1 : (a : Int) + s ≤ l.length) : getE l a s = .tuple #[.int .u64 (numP l a s : Int), .int .i64 0] := by
  unfold getE; rw [if_pos ⟨h, by omega⟩, if_pos h1]; rfl
theorem Get_any (l : List Nat) (a s : Int) (A : Option Addr) (cap B : Nat) (hl : l.length ≤ cap) (hc : cap ≤ 9223372036854775807) (w : World)
    (hr : Hid (Rd w B A l)) (ha : a ≤ 9223372036854775807) :
    Calls Try.prog 72 #[.slice A l.length cap, .int .i64 a, .int .i64 s] w fun e w' => e = .returned (getE l a s) ∧ w = w' := by
  by_cases hs : sizeB 8 s = true
  · have hsb : 1 ≤ s ∧ s ≤ 8 := of_decide_eq_true hs
    obtain ⟨hs1, hs2⟩ := hsb
    by_cases h0 : 0 ≤ a
    · by_cases h1 : (l.length : Int) - a < s
      · have HE := Lib.hid (getE_form (l := l) hs h0 (by omega))
        go_enter Try.func72, Try.ntmps72
        go_wp2_with (go_at_call 68; refine (sizeInBytes_any _ _).mono ?_; rintro e w' ⟨rfl, rfl⟩)
        go_ret2
        exact ⟨congrArg Ending.returned HE.out.symm, rfl⟩
      · obtain ⟨a, rfl⟩ : ∃ a' : Nat, a = a' := ⟨a.toNat, by omega⟩
        obtain ⟨s, rfl⟩ : ∃ s' : Nat, s = s' := ⟨s.toNat, by omega⟩
        have HE := Lib.hid (getE_ok (l := l) (a := a) (s := s) hs (by omega))
        obtain ⟨b, off, rfl, hb, hcell⟩ := hr.out.2 (by omega)
        have HC := Lib.hid hcell
        clear hcell
        go_enter Try.func72, Try.ntmps72
        go_wp2_with (go_at_call 68; refine (sizeInBytes_any _ _).mono ?_; rintro e w' ⟨rfl, rfl⟩)
        go_loop [8, 31] (fun n i => ∃ k : Nat, k ≤ s ∧ i = .int .i64 k ∧ n = .int .u64 (numP l a k : Int)) (fun _ i => s - (intOf i).toNat)
        case atStart => exact ⟨0, Nat.zero_le _, rfl, rfl⟩
        case round =>
          obtain ⟨k, hk, rfl, rfl⟩ := hrel
          by_cases hlt : k < s
          · have hcell := HC.out (a + k) (by omega)
            rw [← Nat.add_assoc] at hcell
            have HB := hr.out.lt (i := a + k) (by omega)
            have H := Lib.hid (or_byte (x := numP l a k) HB (by rw [← numP_step (by omega)]; exact numP_lt hr.out.1 a (by omega)))
            go_wp2
            go_round
            case rel => exact ⟨k + 1, by omega, by go_num, by rw [H.out, numP_step (by omega)]⟩
            case measure => simp [intOf]; omega
          · obtain rfl : k = s := by omega
            go_wp2
            go_ret2
            exact ⟨congrArg Ending.returned HE.out.symm, rfl⟩
    · have HE := Lib.hid (getE_size (l := l) (a := a) (s := s) (fun h => h0 h.2))
      go_enter Try.func72, Try.ntmps72
      go_wp2_with (go_at_call 68; refine (sizeInBytes_any _ _).mono ?_; rintro e w' ⟨rfl, rfl⟩)
      go_ret2
      exact ⟨congrArg Ending.returned HE.out.symm, rfl⟩
  · have HE := Lib.hid (getE_size (l := l) (a := a) (s := s) (fun h => hs h.1))
    have hs : sizeB 8 s = false := by simpa using hs
    go_enter Try.func72, Try.ntmps72
    go_wp2_with (go_at_call 68; refine (sizeInBytes_any _ _).mono ?_; rintro e w' ⟨rfl, rfl⟩)
    go_ret2
    exact ⟨congrArg Ending.returned HE.out.symm, rfl⟩
theorem mul_byte {x b : Nat} (hx : x * 256 + b < U) : IntKind.u64.wrap (IntKind.u64.wrap (256 * (x : Int)) + (b : Int)) = ((x * 256 + b : Nat) : Int) := by
  have e1 : (256 * (x : Int)) = ((x * 256 : Nat) : Int) := by simp; omega
  rw [e1, wrapU_nat (Nat.lt_of_le_of_lt (Nat.le_add_right _ b) hx), ← Int.natCast_add, wrapU_nat hx]
theorem RGet_any (l : List Nat) (a s : Int) (A : Option Addr) (cap B : Nat) (hl : l.length ≤ cap) (hc : cap ≤ 9223372036854775807) (w : World)
    (hr : Hid (Rd w B A l)) (ha : a ≤ 9223372036854775807) :
    Calls Try.prog 75 #[.slice A l.length cap, .int .i64 a, .int .i64 s] w fun e w' => e = .returned (getE l a s) ∧ w = w' := by
  by_cases hs : sizeB 8 s = true
  · have hsb : 1 ≤ s ∧ s ≤ 8 := of_decide_eq_true hs
    obtain ⟨hs1, hs2⟩ := hsb
    by_cases h0 : 0 ≤ a
    · by_cases h1 : a + s ≤ l.length
      · obtain ⟨a, rfl⟩ : ∃ a' : Nat, a = a' := ⟨a.toNat, by omega⟩
        obtain ⟨s, rfl⟩ : ∃ s' : Nat, s = s' := ⟨s.toNat, by omega⟩
        have HE := Lib.hid (getE_ok (l := l) (a := a) (s := s) hs (by omega))
        obtain ⟨b, off, rfl, hb, hcell⟩ := hr.out.2 (by omega)
        have HC := Lib.hid hcell
        clear hcell
        go_enter Try.func75, Try.ntmps75
        go_wp2
        go_loop [8, 9] (fun n i => ∃ k : Nat, k ≤ s ∧ i = .int .i64 k ∧ n = .int .u64 (numP l a k : Int)) (fun _ i => s - (intOf i).toNat)
        case atStart => exact ⟨0, Nat.zero_le _, rfl, rfl⟩
        case round =>
          obtain ⟨k, hk, rfl, rfl⟩ := hrel
          by_cases hlt : k < s
          · have hcell := HC.out (a + k) (by omega)
            have HB := hr.out.lt (i := a + k) (by omega)
            have H := Lib.hid (mul_byte (x := numP l a k) (b := by_ l (a + k)) (by rw [← numP_step (by omega)]; exact numP_lt hr.out.1 a (by omega)))
            go_wp2
            go_round
            case rel => exact ⟨k + 1, by omega, by go_num, by rw [H.out, numP_step (by omega)]⟩
            case measure => simp [intOf]; omega
          · obtain rfl : k = s := by omega
            go_wp2
            go_ret2
            exact ⟨congrArg Ending.returned HE.out.symm, rfl⟩
      · have HE := Lib.hid (getE_form (l := l) hs h0 h1)
        by_cases h2 : (l.length : Int) < a
        all_goals
          go_enter Try.func75, Try.ntmps75
          go_wp2
          go_ret2
          exact ⟨congrArg Ending.returned HE.out.symm, rfl⟩
    · have HE := Lib.hid (getE_size (l := l) (a := a) (s := s) (fun h => h0 h.2))
      go_enter Try.func75, Try.ntmps75
      go_wp2
      go_ret2
      exact ⟨congrArg Ending.returned HE.out.symm, rfl⟩
  · have HE := Lib.hid (getE_size (l := l) (a := a) (s := s) (fun h => hs h.1))
    have hsb : ¬ (1 ≤ s ∧ s ≤ 8) := fun h => hs (decide_eq_true h)
    by_cases h1 : 1 ≤ s
    all_goals
      go_enter Try.func75, Try.ntmps75
      go_wp2
      go_ret2
      exact ⟨congrArg Ending.returned HE.out.symm, rfl⟩
end Go.Proofs.Ytohfoieibgmmdaa.Bt
/- The contract of bits' Put: what it returns, and what lies in the new memory that it made (stage 1's text over the common kit). -/
namespace Go.Proofs.Ytohfoieibgmmdaa.Bt
open Go.RowKit
open Go.Proofs.Ytohfoieibgmmdaa.Ma
open Go.Proofs.Ytohfoieibgmmdaa.Ba
open Go.Proofs.Ytohfoieibgmmdaa.Me
set_option linter.unusedVariables false

/-- Behind j rounds of Put: l, the noughts that are left, the j lowest byts. -/
def put_ (l : List Nat) (n s j : Nat) : List Nat := l ++ (List.replicate (s - j) 0 ++ byts n j)
theorem put_length {l : List Nat} {n s j : Nat} (h : j ≤ s) : (put_ l n s j).length = l.length + s := by
  simp [put_, length_byts]; omega
theorem put_set {l : List Nat} {n s j : Nat} (h : j < s) : (put_ l n s j).set (l.length + (s - 1 - j)) (n / 256 ^ j % 256) = put_ l n s (j + 1) := by
  unfold put_
  rw [List.set_append_right _ _ (by omega), Nat.add_sub_cancel_left]
  congr 1
  obtain ⟨t, ht⟩ : ∃ t, s - j = t + 1 := ⟨s - j - 1, by omega⟩
  rw [show s - 1 - j = t by omega, show s - (j + 1) = t by omega, ht, byts, List.replicate_succ', List.append_assoc, List.set_append_right _ _ (by simp)]
  simp
theorem byts_nought {n j : Nat} (h : n / 256 ^ j = 0) : ∀ t, byts n (t + j) = List.replicate t 0 ++ byts n j
  | 0 => by simp
  | t + 1 => by
    have e : t + 1 + j = t + j + 1 := by omega
    have h0 : n / 256 ^ (t + j) % 256 = 0 := by
      rw [Nat.add_comm, Nat.pow_add, ← Nat.div_div_eq_div_mul, h]; simp
    rw [e, byts, byts_nought h t, h0]; rfl
theorem put_end {l : List Nat} {n s j : Nat} (hj : j ≤ s) (h : n / 256 ^ j = 0) : put_ l n s j = l ++ byts n s := by
  have := byts_nought h (s - j)
  rw [show s - j + j = s by omega] at this
  rw [put_, this]
theorem Put_size (l : List Nat) (n : Nat) (s : Int) (A : Option Addr) (cap : Nat) (hs : sizeB 8 s = false) (w : World) :
    Calls Try.prog 38 #[.slice A l.length cap, .int .u64 (n : Int), .int .i64 s] w fun e w' => e = .returned (.tuple #[.slice none 0 0, .int .i64 1]) ∧ w = w' := by
  go_enter Try.func38, Try.ntmps38
  go_wp2
  go_step3
  go_wp2_with (go_at_call 68; refine (sizeInBytes_any _ _).mono ?_; rintro e w' ⟨rfl, rfl⟩)
  try rw [Exit.noGoto_ret]
  go_ret2
  exact ⟨rfl, rfl⟩
/-- n behind j rounds. -/
def sh (n j : Nat) : Nat := n / 256 ^ j
theorem sh_succ (n j : Nat) : sh n (j + 1) = sh n j / 256 := by unfold sh; rw [Nat.pow_succ, Nat.div_div_eq_div_mul]
/-- Where the loop stands: t rounds are ahead. -/
def AtL (l : List Nat) (n s : Nat) (g : Nat) (w : World) (m p : Value) (wr : World) : Prop :=
  ∃ t q : Nat, t ≤ s ∧ q = l.length + t ∧ p = .int .i64 (q : Int) ∧ m = .int .u64 (sh n (s - t) : Int) ∧ Row wr g (put_ l n s (s - t)) ∧ Below g w wr
theorem atL_step {l : List Nat} {n s g u p : Nat} {w wr : World} (hu : u + 1 ≤ s) (hp : p = l.length + u) (hr : Row wr g (put_ l n s (s - (u + 1)))) (hb : Below g w wr) :
    AtL l n s g w (.int .u64 ((sh n (s - (u + 1)) : Int) / 256)) (.int .i64 (p : Int)) (wr.setCell ⟨g, p, none⟩ (.int .u8 ((sh n (s - (u + 1)) : Int) % 256))) := by
  obtain ⟨j, hj⟩ : ∃ j, s - (u + 1) = j := ⟨_, rfl⟩
  have hj1 : s - u = j + 1 := by omega
  rw [hj] at hr ⊢
  refine ⟨u, p, by omega, hp, rfl, ?_, ?_, hb.setCell (Nat.le_refl _) _⟩
  · rw [hj1, sh_succ]; simp
  · have h := hr.store p (sh n j % 256)
    have e : l.length + (s - 1 - j) = p := by omega
    rw [hj1, ← put_set (by omega), e]
    exact h
/-- What Put answers where the size is right, and what lies in its new block. -/
def PutR (l : List Nat) (n s : Nat) (w : World) (e : Ending) (w' : World) : Prop :=
  (n < 256 ^ s ∧ e = .returned (.tuple #[.slice (some ⟨w.heap.size, 0, none⟩) (l.length + s) (l.length + s), .int .i64 0]) ∧ Row w' w.heap.size (l ++ byts n s) ∧ Below w.heap.size w w') ∨
  (256 ^ s ≤ n ∧ e = .returned (.tuple #[.slice none 0 0, .int .i64 3]) ∧ Below w.heap.size w w')
set_option maxRecDepth 20000 in
theorem Put_any (l : List Nat) (n s : Nat) (A : Option Addr) (cap B : Nat) (hs : sizeB 8 s = true) (w : World)
    (hr : Hid (Rd w B A l)) (hB : B ≤ w.heap.size) (hl : l.length ≤ 140737488351232) :
    Calls Try.prog 38 #[.slice A l.length cap, .int .u64 (n : Int), .int .i64 (s : Int)] w (PutR l n s w) := by
  have hsb : 1 ≤ s ∧ s ≤ 8 := by have := of_decide_eq_true hs; omega
  obtain ⟨hs1, hs2⟩ := hsb
  obtain ⟨i0, hi, hz0, hz1, hz2⟩ := info_parts info8
  go_enter Try.func38, Try.ntmps38
  go_wp2
  go_step3
  go_wp2_with (first
    | (go_at_call 68; refine (sizeInBytes_any _ _).mono ?_; rintro e w' ⟨rfl, rfl⟩)
    | (at_make; refine wpList_make_full _ rfl (.tmp 16) (.tmp 16) 24 rfl w.heap.size 5 i0 (.int .u8 0) 1 Try.underlying24 hi hz0 hz1 .i64 .i64 _ _ (l.length + s) rfl rfl (by omega) (by omega) (by rw [hz2]; omega) (by unfold maxLen; omega) (Nat.le_refl _) ?_; intro w1 hown1 hg1; obtain ⟨HR1, hb1⟩ := made_row hown1 hg1; clear hown1 hg1)
    | (with_reducible refine wpList_copy_splice rfl (.tmp 18) (.tmp 19) 24 24 rfl 5 Try.underlying24 size8 _ _ _ _ _ _ rfl rfl w.heap.size 0 _ 5 HR1.out (l.map byV) (min_len l s) (fun h => ⟨rfl, cells_of l A B w w1 hr.out (hb1.mono hB) h⟩) (fit_len l s) (one_cells l) w.heap.size w hb1 (Nat.le_refl _) ?_; intro w2 HR2 hb2; have HR3 := copied_row HR2; clear HR2))
  go_step3
  go_wp2
  go_loopw [1, 9] (fun m p wr => AtL l n s w.heap.size w m p wr) (fun _ p _ => (intOf p).toNat)
  case atStart =>
    refine ⟨s, l.length + s, Nat.le_refl _, rfl, by go_num, by rw [Nat.sub_self]; simp [sh], ?_, hb2⟩
    rw [Nat.sub_self]
    have := HR3.out
    unfold put_ byts
    simpa using this
  case round =>
    obtain ⟨t, q, ht, hq, rfl, rfl, hrow, hbel⟩ := hrel
    by_cases hz : sh n (s - t) < 1
    · have HE : Hid (Row wr w.heap.size (l ++ byts n s)) := by
        rw [← put_end (l := l) (n := n) (s := s) (j := s - t) (by omega) (Nat.lt_one_iff.mp hz)]; exact hrow
      have HN : Hid (n < 256 ^ s) := by
        have h1 : n < 256 ^ (s - t) := Nat.lt_of_div_eq_zero (Nat.pow_pos (by decide)) (Nat.lt_one_iff.mp hz)
        exact Nat.lt_of_lt_of_le h1 (Nat.pow_le_pow_right (by decide) (by omega))
      clear hrow hq
      have hz : ((sh n (s - t) : Int) == 0) = true := by simp only [beq_iff_eq]; omega
      go_wp2
      try rw [Exit.noGoto_ret]
      go_ret2
      exact .inl ⟨HN.out, rfl, HE.out, hbel⟩
    · rcases t with _ | u
      · have HN : Hid (256 ^ s ≤ n) := by
          apply Classical.byContradiction
          intro h
          apply hz
          unfold sh
          rw [Nat.sub_zero, Nat.div_eq_of_lt (Nat.not_le.mp h)]
          decide
        have HB := Lib.hid hbel
        rw [Nat.sub_zero] at hz
        have hq1 : l.length ≤ q := by omega
        have hq2 : q ≤ l.length := by omega
        clear hrow hbel hq
        go_wp2
        try rw [Exit.noGoto_ret]
        go_ret2
        exact .inr ⟨HN.out, rfl, HB.out⟩
      · obtain ⟨p, rfl⟩ : ∃ p, q = p + 1 := ⟨l.length + u, by omega⟩
        have hp1 : l.length + u ≤ p := by omega
        have hp2 : p ≤ l.length + u := by omega
        clear hq
        have hlen : p < (put_ l n s (s - (u + 1))).length := by rw [put_length (by omega)]; omega
        have hcell := hrow.cell hlen
        have hfree := hrow.frozen p
        have HR := Lib.hid hrow
        have HB := Lib.hid hbel
        clear hrow hbel hlen
        go_wp2
        go_roundw
        case rel => exact atL_step ht (by omega) HR.out HB.out
        case measure => simp [intOf]
end Go.Proofs.Ytohfoieibgmmdaa.Bt
