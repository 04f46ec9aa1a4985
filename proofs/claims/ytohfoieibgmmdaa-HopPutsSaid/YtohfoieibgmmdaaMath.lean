/- Plain facts on natural numbers, their bits and their byts, that the proofs of the layer bits need; nothing here speaks of the program. -/
import Derived.WalkKit
namespace Go.Proofs.Ytohfoieibgmmdaa.Ma

/-- The bits that f tells, the first told the highest. -/
def acc (f : Nat → Bool) : Nat → Nat
  | 0 => 0
  | k + 1 => 2 * acc f k + (f k).toNat
/-- How many of the first k that f tells are 1. -/
def cnt (f : Nat → Bool) : Nat → Nat
  | 0 => 0
  | k + 1 => cnt f k + (f k).toNat

theorem acc_lt (f : Nat → Bool) : ∀ k, acc f k < 2 ^ k
  | 0 => by simp [acc]
  | k + 1 => by
    have := acc_lt f k
    have h : (f k).toNat ≤ 1 := by cases f k <;> simp
    simp only [acc, Nat.pow_succ]; omega
theorem acc_bit (f : Nat → Bool) : ∀ k i, (acc f k).testBit i = (decide (i < k) && f (k - 1 - i))
  | 0, i => by simp [acc]
  | k + 1, 0 => by
    have h2 : (f k).toNat ≤ 1 := by cases f k <;> simp
    simp only [acc, Nat.testBit_zero]
    cases h : f k <;> simp [h] <;> omega
  | k + 1, i + 1 => by
    have hd : (2 * acc f k + (f k).toNat) / 2 = acc f k := by
      have h2 : (f k).toNat ≤ 1 := by cases f k <;> simp
      omega
    rw [acc, Nat.testBit_succ, hd, acc_bit f k i]
    have e : k + 1 - 1 - (i + 1) = k - 1 - i := by omega
    rw [e]
    congr 1
    simp
theorem acc_ext {f g : Nat → Bool} (h : ∀ i, f i = g i) (k : Nat) : acc f k = acc g k := by
  have : f = g := funext h
  rw [this]
/-- A number whose bits f tells is what acc makes of f. -/
theorem acc_eq {f : Nat → Bool} {k n : Nat} (hn : n < 2 ^ k) (h : ∀ i, i < k → n.testBit i = f (k - 1 - i)) : acc f k = n := by
  apply Nat.eq_of_testBit_eq
  intro i
  rw [acc_bit]
  by_cases hi : i < k
  · simp [hi, h i hi]
  · have : n.testBit i = false := Nat.testBit_lt_two_pow (Nat.lt_of_lt_of_le hn (Nat.pow_le_pow_right (by decide) (by omega)))
    simp [hi, this]

theorem cnt_le (f : Nat → Bool) : ∀ k, cnt f k ≤ k
  | 0 => by simp [cnt]
  | k + 1 => by
    have := cnt_le f k
    have h : (f k).toNat ≤ 1 := by cases f k <;> simp
    simp only [cnt]; omega
theorem cnt_front (f : Nat → Bool) : ∀ k, cnt f (k + 1) = (f 0).toNat + cnt (fun i => f (i + 1)) k
  | 0 => by simp [cnt]
  | k + 1 => by
    rw [cnt, cnt_front f k, cnt, Nat.add_assoc]
theorem cnt_ext {f g : Nat → Bool} : ∀ {k : Nat}, (∀ i, i < k → f i = g i) → cnt f k = cnt g k
  | 0, _ => rfl
  | k + 1, h => by rw [cnt, cnt, cnt_ext (fun i hi => h i (by omega)), h k (by omega)]
theorem cnt_back (f : Nat → Bool) : ∀ k, cnt (fun i => f (k - 1 - i)) k = cnt f k
  | 0 => rfl
  | k + 1 => by
    rw [cnt_front, cnt]
    have e : cnt (fun i => f (k + 1 - 1 - (i + 1))) k = cnt (fun i => f (k - 1 - i)) k := cnt_ext fun i _ => by congr 1; omega
    have e0 : k + 1 - 1 - 0 = k := by omega
    rw [e, cnt_back f k, e0]; omega
theorem cnt_add (f : Nat → Bool) (s : Nat) : ∀ t, (∀ i, s ≤ i → f i = false) → cnt f (s + t) = cnt f s
  | 0, _ => rfl
  | t + 1, h => by
    have e : s + (t + 1) = s + t + 1 := rfl
    rw [e, cnt, cnt_add f s t h, h (s + t) (by omega)]; rfl

/-! ### The numbers of the layer -/

/-- A field of n. -/
def fld (n at_ s : Nat) : Nat := n / 2 ^ at_ % 2 ^ s
theorem fld_lt (n at_ s : Nat) : fld n at_ s < 2 ^ s := Nat.mod_lt _ (Nat.two_pow_pos s)
theorem fld_bit (n at_ s i : Nat) : (fld n at_ s).testBit i = (decide (i < s) && n.testBit (at_ + i)) := by
  rw [fld, Nat.testBit_mod_two_pow, Nat.testBit_div_two_pow, Nat.add_comm i at_]
theorem acc_fld (n at_ s : Nat) : acc (fun j => n.testBit (at_ + (s - 1 - j))) s = fld n at_ s := by
  refine acc_eq (fld_lt n at_ s) fun i hi => ?_
  rw [fld_bit]
  have e : s - 1 - (s - 1 - i) = i := by omega
  simp [hi, e]
theorem and_ones (m s : Nat) : m &&& (2 ^ s - 1) = m % 2 ^ s := Nat.and_two_pow_sub_one_eq_mod m s
theorem field_go (n at_ s : Nat) : (n / 2 ^ at_) &&& (2 ^ s - 1) = fld n at_ s := and_ones _ _

/-- The bits the other way round. -/
def mir (n s : Nat) : Nat := acc n.testBit s
theorem mir_lt (n s : Nat) : mir n s < 2 ^ s := acc_lt _ _
theorem mir_mir {n s : Nat} (h : n < 2 ^ s) : mir (mir n s) s = n := by
  refine acc_eq h fun i hi => ?_
  rw [mir, acc_bit]
  have e : s - 1 - (s - 1 - i) = i := by omega
  have e2 : s - 1 - i < s := by omega
  simp [e, e2]
theorem cnt_mir {n s : Nat} (h : n < 2 ^ s) (hs : s ≤ 64) : cnt (mir n s).testBit 64 = cnt n.testBit 64 := by
  have e : 64 = s + (64 - s) := by omega
  rw [e, cnt_add _ s (64 - s) fun i hi => Nat.testBit_lt_two_pow (Nat.lt_of_lt_of_le (mir_lt n s) (Nat.pow_le_pow_right (by decide) hi)),
    cnt_add _ s (64 - s) fun i hi => Nat.testBit_lt_two_pow (Nat.lt_of_lt_of_le h (Nat.pow_le_pow_right (by decide) hi)), ← cnt_back n.testBit s]
  refine cnt_ext fun i hi => ?_
  rw [mir, acc_bit]; simp [hi]

/-- Bit i of n with v in a field. -/
def setBit (n at_ s v i : Nat) : Bool := if at_ ≤ i ∧ i < at_ + s then v.testBit (i - at_) else n.testBit i
/-- n with v in a field. -/
def set_ (n at_ s v : Nat) : Nat := acc (fun j => setBit n at_ s v (63 - j)) 64
theorem set_lt (n at_ s v : Nat) : set_ n at_ s v < 2 ^ 64 := acc_lt _ _
theorem set_bit (n at_ s v i : Nat) : (set_ n at_ s v).testBit i = (decide (i < 64) && setBit n at_ s v i) := by
  rw [set_, acc_bit]
  by_cases h : i < 64
  · have e : 63 - (64 - 1 - i) = i := by omega
    simp [h, e]
  · simp [h]
/-- What the code makes of it: the field cleared, v laid over it. -/
theorem set_go {n at_ s v : Nat} (hv : v < 2 ^ s) (h : at_ + s ≤ 64) :
    (n &&& (2 ^ 64 - 1 - (2 ^ s - 1) * 2 ^ at_)) ||| v * 2 ^ at_ = set_ n at_ s v := by
  have hm : (2 ^ s - 1) * 2 ^ at_ < 2 ^ 64 := by
    have h1 : (2 ^ s - 1) * 2 ^ at_ < 2 ^ s * 2 ^ at_ := Nat.mul_lt_mul_of_pos_right (by have := Nat.two_pow_pos s; omega) (Nat.two_pow_pos _)
    have h2 : 2 ^ s * 2 ^ at_ ≤ 2 ^ 64 := by rw [← Nat.pow_add]; exact Nat.pow_le_pow_right (by decide) (by omega)
    omega
  apply Nat.eq_of_testBit_eq
  intro i
  rw [set_bit, Nat.testBit_or, Nat.testBit_and, ← Nat.shiftLeft_eq, ← Nat.shiftLeft_eq, Nat.testBit_shiftLeft]
  have hm' : (2 ^ s - 1) <<< at_ < 2 ^ 64 := by rw [Nat.shiftLeft_eq]; exact hm
  have e : 2 ^ 64 - 1 - (2 ^ s - 1) <<< at_ = 2 ^ 64 - ((2 ^ s - 1) <<< at_ + 1) := by omega
  rw [e, Nat.testBit_two_pow_sub_succ hm', Nat.testBit_shiftLeft, Nat.testBit_two_pow_sub_one]
  unfold setBit
  by_cases h64 : i < 64
  · by_cases ha : at_ ≤ i
    · by_cases hs : i < at_ + s
      · have : i - at_ < s := by omega
        simp [h64, ha, hs, this]
      · have h3 : ¬ i - at_ < s := by omega
        have h4 : v.testBit (i - at_) = false := Nat.testBit_lt_two_pow (Nat.lt_of_lt_of_le hv (Nat.pow_le_pow_right (by decide) (by omega)))
        simp [h64, ha, hs, h3, h4]
    · simp [h64, ha]
  · have h4 : v.testBit (i - at_) = false := Nat.testBit_lt_two_pow (Nat.lt_of_lt_of_le hv (Nat.pow_le_pow_right (by decide) (by omega)))
    simp [h64, h4]
theorem fld_set {n at_ s v : Nat} (hv : v < 2 ^ s) (h : at_ + s ≤ 64) : fld (set_ n at_ s v) at_ s = v := by
  apply Nat.eq_of_testBit_eq
  intro i
  rw [fld_bit, set_bit]
  by_cases hi : i < s
  · have h1 : at_ + i < 64 := by omega
    simp [hi, h1, setBit]
  · have h4 : v.testBit i = false := Nat.testBit_lt_two_pow (Nat.lt_of_lt_of_le hv (Nat.pow_le_pow_right (by decide) (by omega)))
    simp [hi, h4]
theorem fld_set_other {n at_ s v a t : Nat} (h2 : a + t ≤ 64) (hd : at_ + s ≤ a ∨ a + t ≤ at_) : fld (set_ n at_ s v) a t = fld n a t := by
  apply Nat.eq_of_testBit_eq
  intro i
  rw [fld_bit, fld_bit, set_bit]
  by_cases hi : i < t
  · have h1 : a + i < 64 := by omega
    have h3 : ¬ (at_ ≤ a + i ∧ a + i < at_ + s) := by omega
    simp [hi, h1, setBit, h3]
  · simp [hi]

/-! ### Bytes -/

/-- The lowest k byts of n, the highest first. -/
def byts (n : Nat) : Nat → List Nat
  | 0 => []
  | k + 1 => n / 256 ^ k % 256 :: byts n k
/-- The number of byts, the highest first. -/
def num (l : List Nat) : Nat := l.foldl (fun n b => n * 256 + b) 0
theorem length_byts (n : Nat) : ∀ k, (byts n k).length = k
  | 0 => rfl
  | k + 1 => by simp [byts, length_byts n k]
theorem byts_lt (n : Nat) : ∀ k, ∀ b ∈ byts n k, b < 256
  | 0, b, h => by simp [byts] at h
  | k + 1, b, h => by
    simp only [byts, List.mem_cons] at h
    rcases h with rfl | h
    · exact Nat.mod_lt _ (by decide)
    · exact byts_lt n k b h
theorem num_from (l : List Nat) : ∀ a, l.foldl (fun n b => n * 256 + b) a = a * 256 ^ l.length + num l := by
  unfold num
  induction l with
  | nil => intro a; simp
  | cons b r ih =>
    intro a
    simp only [List.foldl_cons, List.length_cons]
    rw [ih, ih (0 * 256 + b), Nat.pow_succ, Nat.zero_mul, Nat.zero_add, Nat.add_mul, Nat.mul_assoc, Nat.mul_comm 256 (256 ^ r.length)]
    omega
theorem num_cons (b : Nat) (l : List Nat) : num (b :: l) = b * 256 ^ l.length + num l := by
  have := num_from l (0 * 256 + b)
  rw [show num (b :: l) = l.foldl (fun n b => n * 256 + b) (0 * 256 + b) from rfl, this]; simp
theorem num_snoc (l : List Nat) (b : Nat) : num (l ++ [b]) = num l * 256 + b := by simp [num]
theorem num_lt : ∀ l : List Nat, (∀ b ∈ l, b < 256) → num l < 256 ^ l.length
  | [], _ => by simp [num]
  | b :: l, h => by
    have h1 := num_lt l fun x hx => h x (List.mem_cons_of_mem _ hx)
    have h2 : b < 256 := h b List.mem_cons_self
    rw [num_cons, List.length_cons, Nat.pow_succ]
    have h3 : b * 256 ^ l.length ≤ 255 * 256 ^ l.length := Nat.mul_le_mul_right _ (by omega)
    omega
theorem num_byts (n : Nat) : ∀ k, num (byts n k) = n % 256 ^ k
  | 0 => by simp [byts, num, Nat.mod_one]
  | k + 1 => by
    rw [byts, num_cons, num_byts n k, length_byts, Nat.pow_succ, Nat.mod_mul]
    rw [Nat.mul_comm (256 ^ k) (n / 256 ^ k % 256)]; omega
/-- The number of the byts from place a on, told byte by byte. -/
theorem num_step {zs : List Nat} {a k : Nat} (h : a + k < zs.length) : num ((zs.drop a).take (k + 1)) = num ((zs.drop a).take k) * 256 + zs[a + k] := by
  rw [List.take_succ_eq_append_getElem (by simp; omega), num_snoc]
  simp
theorem num_part_lt {zs : List Nat} (hz : ∀ b ∈ zs, b < 256) (a k : Nat) : num ((zs.drop a).take k) < 256 ^ k := by
  refine Nat.lt_of_lt_of_le (num_lt _ fun b hb => hz b (List.mem_of_mem_drop (List.mem_of_mem_take hb))) (Nat.pow_le_pow_right (by decide) ?_)
  simp; omega

#print axioms set_go
end Go.Proofs.Ytohfoieibgmmdaa.Ma
