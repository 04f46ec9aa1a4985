/- Plain facts on bytes of which bits are turned, told by a mask; nothing here speaks of the program. -/
import Derived.Test.YtlkkindahmnoiaaTurns
namespace Go.Proofs.Ytlkkindahmnoiaa.Cr

/-- A number's bytes, the lowest first. -/
def lowB (N : Nat) : Nat → List Nat
  | 0 => []
  | k + 1 => N % 256 :: lowB (N / 256) k
theorem length_lowB : ∀ (k N : Nat), (lowB N k).length = k
  | 0, _ => rfl
  | k + 1, N => by simp [lowB, length_lowB k]
theorem lowB_lt : ∀ (k N : Nat), ∀ b ∈ lowB N k, b < 256
  | 0, _, _, h => by simp [lowB] at h
  | k + 1, N, b, h => by
    simp only [lowB, List.mem_cons] at h
    rcases h with rfl | h
    · exact Nat.mod_lt _ (by decide)
    · exact lowB_lt k _ b h
theorem low_lowB : ∀ (k N : Nat), low (lowB N k) = N % 256 ^ k
  | 0, N => by simp [lowB, low, Nat.mod_one]
  | k + 1, N => by
    rw [lowB, low, low_lowB k, Nat.pow_succ, Nat.mul_comm (256 ^ k) 256, Nat.mod_mul]
/-- Bytes of which a number's bits are turned, the first byte's lowest bit the first. -/
def trn (l : List Nat) (N : Nat) : List Nat := over l (lowB N l.length)
theorem trn_cons (b : Nat) (l : List Nat) (N : Nat) : trn (b :: l) N = (b ^^^ N % 256) :: trn l (N / 256) := rfl
theorem trn_nil (N : Nat) : trn [] N = [] := rfl
theorem length_trn (l : List Nat) (N : Nat) : (trn l N).length = l.length := over_length (length_lowB _ _)
theorem trn_lt {l : List Nat} (h : ∀ b ∈ l, b < 256) (N : Nat) : ∀ b ∈ trn l N, b < 256 := over_lt _ _ h (lowB_lt _ _)
theorem trn_zero : ∀ l : List Nat, trn l 0 = l
  | [] => rfl
  | b :: l => by rw [trn_cons, Nat.zero_div, trn_zero l]; simp
theorem trn_bit : ∀ (l : List Nat) (N t : Nat) (h : t / 8 < (trn l N).length), trn l (N ^^^ 2 ^ t) = (trn l N).set (t / 8) ((trn l N)[t / 8] ^^^ 2 ^ (t % 8))
  | [], N, t, h => by simp [trn_nil] at h
  | b :: l, N, t, h => by
    simp only [trn_cons]
    have hm : (N ^^^ 2 ^ t) % 256 = N % 256 ^^^ 2 ^ t % 256 := Nat.xor_mod_two_pow (n := 8)
    have hd : (N ^^^ 2 ^ t) / 256 = N / 256 ^^^ 2 ^ t / 256 := by
      apply Nat.eq_of_testBit_eq; intro i
      rw [show (256 : Nat) = 2 ^ 8 from rfl, Nat.testBit_xor, Nat.testBit_div_two_pow, Nat.testBit_div_two_pow, Nat.testBit_div_two_pow, Nat.testBit_xor]
    rw [hm, hd]
    by_cases h8 : t < 8
    · have e0 : t / 8 = 0 := by omega
      have e1 : t % 8 = t := by omega
      have e2 : 2 ^ t < 256 := Nat.pow_lt_pow_right (n := 8) (by decide) h8
      simp only [e0, e1, List.set_cons_zero, List.getElem_cons_zero]
      rw [Nat.mod_eq_of_lt e2, Nat.div_eq_of_lt e2, Nat.xor_zero, Nat.xor_assoc]
    · obtain ⟨s, rfl⟩ : ∃ s, t = s + 8 := ⟨t - 8, by omega⟩
      have e0 : (s + 8) / 8 = s / 8 + 1 := by omega
      have e1 : (s + 8) % 8 = s % 8 := by omega
      have e2 : 2 ^ (s + 8) = 2 ^ s * 256 := Nat.pow_add 2 s 8
      have h' : s / 8 < (trn l (N / 256)).length := by
        rw [length_trn] at h ⊢; simp at h; omega
      simp only [e0, e1, e2, List.set_cons_succ, List.getElem_cons_succ]
      rw [Nat.mul_mod_left, Nat.mul_div_cancel _ (by decide), Nat.xor_zero, trn_bit l (N / 256) s h']
theorem mod_bit_one {m k : Nat} (h : m.testBit k = true) : m % 2 ^ (k + 1) = m % 2 ^ k ^^^ 2 ^ k := by
  apply Nat.eq_of_testBit_eq; intro i
  rw [Nat.testBit_mod_two_pow, Nat.testBit_xor, Nat.testBit_mod_two_pow, Nat.testBit_two_pow]
  by_cases h1 : i = k
  · subst h1; simp [h]
  · have h2 : ¬ k = i := fun e => h1 e.symm
    by_cases h3 : i < k
    · have h4 : i < k + 1 := by omega
      simp [h3, h4, h2]
    · have h4 : ¬ i < k + 1 := by omega
      simp [h3, h4, h2]
theorem mod_bit_no {m k : Nat} (h : m.testBit k = false) : m % 2 ^ (k + 1) = m % 2 ^ k := by
  apply Nat.eq_of_testBit_eq; intro i
  rw [Nat.testBit_mod_two_pow, Nat.testBit_mod_two_pow]
  by_cases h1 : i = k
  · subst h1; simp [h]
  · by_cases h3 : i < k
    · have h4 : i < k + 1 := by omega
      simp [h3, h4]
    · have h4 : ¬ i < k + 1 := by omega
      simp [h3, h4]
/-- The mask's bits that are turned behind k rounds, over s bits. -/
def mk (m s k : Nat) : Nat := m % 2 ^ (min k s)
theorem mk_zero (m s : Nat) : mk m s 0 = 0 := by simp [mk, Nat.mod_one]
theorem mk_no {m s k : Nat} (h : m.testBit k = false) : mk m s (k + 1) = mk m s k := by
  unfold mk
  by_cases hk : k < s
  · rw [Nat.min_eq_left (by omega), Nat.min_eq_left (by omega), mod_bit_no h]
  · rw [Nat.min_eq_right (by omega), Nat.min_eq_right (by omega)]
theorem mk_far {m s k : Nat} (h : ¬ k < s) : mk m s (k + 1) = mk m s k := by
  unfold mk; rw [Nat.min_eq_right (by omega), Nat.min_eq_right (by omega)]
theorem mk_one {m s k : Nat} (h : m.testBit k = true) (hk : k < s) : mk m s (k + 1) = mk m s k ^^^ 2 ^ k := by
  unfold mk; rw [Nat.min_eq_left (by omega), Nat.min_eq_left (by omega), mod_bit_one h]
theorem mk_one_ne {m s k : Nat} (h : m.testBit k = true) (hk : k < s) : mk m s (k + 1) ≠ 0 := by
  rw [mk_one h hk]
  intro e
  have : (mk m s k ^^^ 2 ^ k).testBit k = true := by
    rw [Nat.testBit_xor, Nat.testBit_two_pow_self]
    unfold mk
    rw [Nat.testBit_mod_two_pow, Nat.min_eq_left (by omega)]; simp
  rw [e] at this; simp at this
/-- The bytes behind k rounds. -/
def tk (l : List Nat) (a m k : Nat) : List Nat := trn l (2 ^ a * mk m (8 * l.length - a) k)
def tt (l : List Nat) (a m k : Nat) : Bool := decide (mk m (8 * l.length - a) k ≠ 0)
theorem tk_zero (l : List Nat) (a m : Nat) : tk l a m 0 = l := by rw [tk, mk_zero, Nat.mul_zero, trn_zero]
theorem tt_zero (l : List Nat) (a m : Nat) : tt l a m 0 = false := by simp [tt, mk_zero]
theorem length_tk (l : List Nat) (a m k : Nat) : (tk l a m k).length = l.length := length_trn _ _
theorem tk_lt {l : List Nat} (h : ∀ b ∈ l, b < 256) (a m k : Nat) : ∀ b ∈ tk l a m k, b < 256 := trn_lt h _
theorem tk_no {l : List Nat} {a m k : Nat} (h : m.testBit k = false) : tk l a m (k + 1) = tk l a m k ∧ tt l a m (k + 1) = tt l a m k := by
  unfold tk tt; rw [mk_no h]; exact ⟨rfl, rfl⟩
theorem tk_far {l : List Nat} {a m k : Nat} (h : ¬ a + k < 8 * l.length) : tk l a m (k + 1) = tk l a m k ∧ tt l a m (k + 1) = tt l a m k := by
  unfold tk tt; rw [mk_far (by omega)]; exact ⟨rfl, rfl⟩
theorem mul_xor_pow (a x k : Nat) : 2 ^ a * (x ^^^ 2 ^ k) = 2 ^ a * x ^^^ 2 ^ (a + k) := by
  rw [Nat.mul_comm, ← Nat.shiftLeft_eq, Nat.shiftLeft_xor_distrib, Nat.shiftLeft_eq, Nat.shiftLeft_eq, Nat.mul_comm x, ← Nat.pow_add, Nat.add_comm k a]
theorem tk_one {l : List Nat} {a m k : Nat} (h : m.testBit k = true) (hk : a + k < 8 * l.length) :
    tk l a m (k + 1) = (tk l a m k).set ((a + k) / 8) ((tk l a m k).getD ((a + k) / 8) 0 ^^^ 2 ^ ((a + k) % 8)) ∧ tt l a m (k + 1) = true := by
  have hlt : (a + k) / 8 < (tk l a m k).length := by rw [length_tk]; omega
  refine ⟨?_, decide_eq_true (mk_one_ne h (by omega))⟩
  have e : (tk l a m k).getD ((a + k) / 8) 0 = (tk l a m k)[(a + k) / 8] := by simp [hlt]
  rw [e]
  have e2 : tk l a m (k + 1) = trn l (2 ^ a * mk m (8 * l.length - a) k ^^^ 2 ^ (a + k)) := by
    unfold tk; rw [mk_one h (by omega), mul_xor_pow]
  rw [e2, trn_bit l _ _ hlt]
  rfl
/-- Bytes that were turned have another register. -/
theorem reg_tk {n p x a m k : Nat} (hp : p < 2 ^ (n + 1)) (ht : p.testBit n = true) {l : List Nat} (hl : ∀ b ∈ l, b < 256) (ha : a < 8 * l.length) (hk : k ≤ n + 1) (h : tt l a m k = true) :
    reg p x (tk l a m k) ≠ reg p x l := by
  have h0 : mk m (8 * l.length - a) k ≠ 0 := of_decide_eq_true h
  have hm : mk m (8 * l.length - a) k < 2 ^ min k (8 * l.length - a) := Nat.mod_lt _ (Nat.two_pow_pos _)
  have h1 : mk m (8 * l.length - a) k < 2 ^ (n + 1) := Nat.lt_of_lt_of_le hm (Nat.pow_le_pow_right (by decide) (Nat.le_trans (Nat.min_le_left _ _) hk))
  have h2 : mk m (8 * l.length - a) k < 2 ^ (8 * l.length - a) := Nat.lt_of_lt_of_le hm (Nat.pow_le_pow_right (by decide) (Nat.min_le_right _ _))
  refine reg_burst hp ht (length_lowB _ _) hl (lowB_lt _ _) h1 h0 (a := a) ?_ (Nat.le_of_lt ha)
  rw [low_lowB, show (256 : Nat) = 2 ^ 8 from rfl, ← Nat.pow_mul]
  refine Nat.mod_eq_of_lt ?_
  have e : 2 ^ (8 * l.length) = 2 ^ a * 2 ^ (8 * l.length - a) := by rw [← Nat.pow_add]; congr 1; omega
  rw [e]
  exact Nat.mul_lt_mul_of_pos_left h2 (Nat.two_pow_pos a)
theorem tk_not {l : List Nat} {a m k : Nat} (h : tt l a m k = false) : tk l a m k = l := by
  have h0 : mk m (8 * l.length - a) k = 0 := by simpa [tt] using h
  rw [tk, h0, Nat.mul_zero, trn_zero]
#print axioms reg_tk
end Go.Proofs.Ytlkkindahmnoiaa.Cr
