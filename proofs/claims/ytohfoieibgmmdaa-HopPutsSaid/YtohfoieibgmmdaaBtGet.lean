/- Contracts of bits' Get and of its reference's, over bytes that lie anywhere in memory (stage 1's texts over the common kit). -/
import Derived.Test.YtohfoieibgmmdaaBase
import Derived.Test.YtohfoieibgmmdaaKit
namespace Go.Proofs.Ytohfoieibgmmdaa.Bt
open Go.RowKit
open Go.Proofs.Ytohfoieibgmmdaa.Ma
open Go.Proofs.Ytohfoieibgmmdaa.Ba
open Go.Proofs.Ytohfoieibgmmdaa.Me
set_option linter.unusedVariables false

/-- The number of k bytes of l from place a on. -/
def numP (l : List Nat) (a k : Nat) : Nat := num ((l.drop a).take k)
theorem numP_step {l : List Nat} {a k : Nat} (h : a + k < l.length) : numP l a (k + 1) = numP l a k * 256 + by_ l (a + k) := by
  rw [by_get h]; exact num_step h
theorem numP_lt {l : List Nat} (hz : ∀ b ∈ l, b < 256) (a : Nat) {k : Nat} (hk : k ≤ 8) : numP l a k < U := by
  refine Nat.lt_of_lt_of_le (num_part_lt hz a k) ?_
  have e : (256 : Nat) ^ k = 2 ^ (8 * k) := by rw [Nat.pow_mul]
  have h8 : 8 * k ≤ 64 := by omega
  rw [e]; exact Nat.pow_le_pow_right (by decide) h8
theorem or_byte {x b : Nat} (hb : b < 256) (hx : x * 256 + b < U) : bits .or .u64 (IntKind.u64.wrap ((x : Int) * 256)) (b : Int) = ((x * 256 + b : Nat) : Int) := by
  have e1 : ((x : Int) * (256 : Int)) = ((x <<< 8 : Nat) : Int) := by simp [Nat.shiftLeft_eq]
  have hx' : x <<< 8 < U := Nat.lt_of_le_of_lt (show x <<< 8 ≤ x * 256 + b by rw [Nat.shiftLeft_eq]; omega) hx
  rw [e1, wrapU_nat hx', orU hx' (by unfold U; omega)]
  congr 1
  rw [← Nat.shiftLeft_add_eq_or_of_lt (b := b) (i := 8) (by omega) x, Nat.shiftLeft_eq]
/-- The answer of Get. -/
def getE (l : List Nat) (a s : Int) : Value :=
  if sizeB 8 s = true ∧ 0 ≤ a then (if a + s ≤ l.length then .tuple #[.int .u64 (numP l a.toNat s.toNat : Int), .int .i64 0] else .tuple #[.int .u64 0, .int .i64 2]) else .tuple #[.int .u64 0, .int .i64 1]
theorem getE_size {l : List Nat} {a s : Int} (h : ¬ (sizeB 8 s = true ∧ 0 ≤ a)) : getE l a s = .tuple #[.int .u64 0, .int .i64 1] := by unfold getE; rw [if_neg h]
theorem getE_form {l : List Nat} {a s : Int} (h : sizeB 8 s = true) (h0 : 0 ≤ a) (h1 : ¬ a + s ≤ l.length) : getE l a s = .tuple #[.int .u64 0, .int .i64 2] := by unfold getE; rw [if_pos ⟨h, h0⟩, if_neg h1]
theorem getE_ok {l : List Nat} {a s : Nat} (h : sizeB 8 s = true) (h1 : (a : Int) + s ≤ l.length) : getE l a s = .tuple #[.int .u64 (numP l a s : Int), .int .i64 0] := by
  unfold getE; rw [if_pos ⟨h, by omega⟩, if_pos h1]; rfl
theorem Get_any (l : List Nat) (a s : Int) (A : Option Addr) (cap B : Nat) (hl : l.length ≤ cap) (hc : cap ≤ 9223372036854775807) (w : World)
    (hr : Hid (Rd w B A l)) (ha : a ≤ 9223372036854775807) :
    Calls Try.prog 72 #[.slice A l.length cap, .int .i64 a, .int .i64 s] w fun e w' => e = .returned (getE l a s) ∧ w = w' := by
  by_cases hs : sizeB 8 s = true
  · have hsb : 1 ≤ s ∧ s ≤ 8 := of_decide_eq_true hs
    obtain ⟨hs1, hs2⟩ := hsb
    by_cases h0 : 0 ≤ a
    · by_cases h1 : (l.length : Int) - a < s
      · have HE := Lib.hid (getE_form (l := l) hs h0 (by omega))
        go_enter Try.func72, Try.ntmps72
        go_wp2_with (go_at_call 68; refine (sizeInBytes_any _ _).mono ?_; rintro e w' ⟨rfl, rfl⟩)
        go_ret2
        exact ⟨congrArg Ending.returned HE.out.symm, rfl⟩
      · obtain ⟨a, rfl⟩ : ∃ a' : Nat, a = a' := ⟨a.toNat, by omega⟩
        obtain ⟨s, rfl⟩ : ∃ s' : Nat, s = s' := ⟨s.toNat, by omega⟩
        have HE := Lib.hid (getE_ok (l := l) (a := a) (s := s) hs (by omega))
        obtain ⟨b, off, rfl, hb, hcell⟩ := hr.out.2 (by omega)
        have HC := Lib.hid hcell
        clear hcell
        go_enter Try.func72, Try.ntmps72
        go_wp2_with (go_at_call 68; refine (sizeInBytes_any _ _).mono ?_; rintro e w' ⟨rfl, rfl⟩)
        go_loop [8, 31] (fun n i => ∃ k : Nat, k ≤ s ∧ i = .int .i64 k ∧ n = .int .u64 (numP l a k : Int)) (fun _ i => s - (intOf i).toNat)
        case atStart => exact ⟨0, Nat.zero_le _, rfl, rfl⟩
        case round =>
          obtain ⟨k, hk, rfl, rfl⟩ := hrel
          by_cases hlt : k < s
          · have hcell := HC.out (a + k) (by omega)
            rw [← Nat.add_assoc] at hcell
            have HB := hr.out.lt (i := a + k) (by omega)
            have H := Lib.hid (or_byte (x := numP l a k) HB (by rw [← numP_step (by omega)]; exact numP_lt hr.out.1 a (by omega)))
            go_wp2
            go_round
            case rel => exact ⟨k + 1, by omega, by go_num, by rw [H.out, numP_step (by omega)]⟩
            case measure => simp [intOf]; omega
          · obtain rfl : k = s := by omega
            go_wp2
            go_ret2
            exact ⟨congrArg Ending.returned HE.out.symm, rfl⟩
    · have HE := Lib.hid (getE_size (l := l) (a := a) (s := s) (fun h => h0 h.2))
      go_enter Try.func72, Try.ntmps72
      go_wp2_with (go_at_call 68; refine (sizeInBytes_any _ _).mono ?_; rintro e w' ⟨rfl, rfl⟩)
      go_ret2
      exact ⟨congrArg Ending.returned HE.out.symm, rfl⟩
  · have HE := Lib.hid (getE_size (l := l) (a := a) (s := s) (fun h => hs h.1))
    have hs : sizeB 8 s = false := by simpa using hs
    go_enter Try.func72, Try.ntmps72
    go_wp2_with (go_at_call 68; refine (sizeInBytes_any _ _).mono ?_; rintro e w' ⟨rfl, rfl⟩)
    go_ret2
    exact ⟨congrArg Ending.returned HE.out.symm, rfl⟩
theorem mul_byte {x b : Nat} (hx : x * 256 + b < U) : IntKind.u64.wrap (IntKind.u64.wrap (256 * (x : Int)) + (b : Int)) = ((x * 256 + b : Nat) : Int) := by
  have e1 : (256 * (x : Int)) = ((x * 256 : Nat) : Int) := by simp; omega
  rw [e1, wrapU_nat (Nat.lt_of_le_of_lt (Nat.le_add_right _ b) hx), ← Int.natCast_add, wrapU_nat hx]
theorem RGet_any (l : List Nat) (a s : Int) (A : Option Addr) (cap B : Nat) (hl : l.length ≤ cap) (hc : cap ≤ 9223372036854775807) (w : World)
    (hr : Hid (Rd w B A l)) (ha : a ≤ 9223372036854775807) :
    Calls Try.prog 75 #[.slice A l.length cap, .int .i64 a, .int .i64 s] w fun e w' => e = .returned (getE l a s) ∧ w = w' := by
  by_cases hs : sizeB 8 s = true
  · have hsb : 1 ≤ s ∧ s ≤ 8 := of_decide_eq_true hs
    obtain ⟨hs1, hs2⟩ := hsb
    by_cases h0 : 0 ≤ a
    · by_cases h1 : a + s ≤ l.length
      · obtain ⟨a, rfl⟩ : ∃ a' : Nat, a = a' := ⟨a.toNat, by omega⟩
        obtain ⟨s, rfl⟩ : ∃ s' : Nat, s = s' := ⟨s.toNat, by omega⟩
        have HE := Lib.hid (getE_ok (l := l) (a := a) (s := s) hs (by omega))
        obtain ⟨b, off, rfl, hb, hcell⟩ := hr.out.2 (by omega)
        have HC := Lib.hid hcell
        clear hcell
        go_enter Try.func75, Try.ntmps75
        go_wp2
        go_loop [8, 9] (fun n i => ∃ k : Nat, k ≤ s ∧ i = .int .i64 k ∧ n = .int .u64 (numP l a k : Int)) (fun _ i => s - (intOf i).toNat)
        case atStart => exact ⟨0, Nat.zero_le _, rfl, rfl⟩
        case round =>
          obtain ⟨k, hk, rfl, rfl⟩ := hrel
          by_cases hlt : k < s
          · have hcell := HC.out (a + k) (by omega)
            have HB := hr.out.lt (i := a + k) (by omega)
            have H := Lib.hid (mul_byte (x := numP l a k) (b := by_ l (a + k)) (by rw [← numP_step (by omega)]; exact numP_lt hr.out.1 a (by omega)))
            go_wp2
            go_round
            case rel => exact ⟨k + 1, by omega, by go_num, by rw [H.out, numP_step (by omega)]⟩
            case measure => simp [intOf]; omega
          · obtain rfl : k = s := by omega
            go_wp2
            go_ret2
            exact ⟨congrArg Ending.returned HE.out.symm, rfl⟩
      · have HE := Lib.hid (getE_form (l := l) hs h0 h1)
        by_cases h2 : (l.length : Int) < a
        all_goals
          go_enter Try.func75, Try.ntmps75
          go_wp2
          go_ret2
          exact ⟨congrArg Ending.returned HE.out.symm, rfl⟩
    · have HE := Lib.hid (getE_size (l := l) (a := a) (s := s) (fun h => h0 h.2))
      go_enter Try.func75, Try.ntmps75
      go_wp2
      go_ret2
      exact ⟨congrArg Ending.returned HE.out.symm, rfl⟩
  · have HE := Lib.hid (getE_size (l := l) (a := a) (s := s) (fun h => hs h.1))
    have hsb : ¬ (1 ≤ s ∧ s ≤ 8) := fun h => hs (decide_eq_true h)
    by_cases h1 : 1 ≤ s
    all_goals
      go_enter Try.func75, Try.ntmps75
      go_wp2
      go_ret2
      exact ⟨congrArg Ending.returned HE.out.symm, rfl⟩
end Go.Proofs.Ytohfoieibgmmdaa.Bt
