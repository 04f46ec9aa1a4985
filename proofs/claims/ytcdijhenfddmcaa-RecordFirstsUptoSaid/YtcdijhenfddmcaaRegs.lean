/- Contracts of crc's registers, of the program and of its reference: a register behind a byte, behind bytes, behind lists of bytes. -/
import Derived.Test.YtcdijhenfddmcaaKit
import Derived.Test.YtcdijhenfddmcaaTurns
namespace Go.Proofs.Ytcdijhenfddmcaa.Cr
open Go.RowKit
open Go.Proofs.Ytcdijhenfddmcaa.Me
set_option linter.unusedVariables false

/-- The frame's and the record's polynomials. -/
def P16 : Nat := 0x8408
def P32 : Nat := 0xedb88320
theorem p16_lt : P16 < 2 ^ 16 := by decide
theorem p32_lt : P32 < 2 ^ 32 := by decide
theorem stp_odd {p y : Nat} (h : y % 2 = 1) : stp p y = (y / 2) ^^^ p := if_pos h
theorem stp_even {p y : Nat} (h : y % 2 = 0) : stp p y = y / 2 := if_neg (by omega)
theorem and_one16 {y : Nat} (hy : y < U16) : bits .and .u16 (y : Int) 1 = ((y % 2 : Nat) : Int) := by
  have h := and16 (b := 1) hy (by decide)
  rw [Nat.and_one_is_mod] at h; exact h
theorem and_one32 {y : Nat} (hy : y < U32) : bits .and .u32 (y : Int) 1 = ((y % 2 : Nat) : Int) := by
  have h := and32 (b := 1) hy (by decide)
  rw [Nat.and_one_is_mod] at h; exact h
theorem half_xor16 {p y : Nat} (hp : p < U16) (hy : y < U16) (h : y % 2 = 1) : bits .xor .u16 ((y : Int) / 2) (p : Int) = (stp p y : Int) := by
  have e : ((y : Int) / 2) = ((y / 2 : Nat) : Int) := by simp
  rw [e, xor16 (Nat.lt_of_le_of_lt (Nat.div_le_self _ _) hy) hp, stp_odd h]
theorem half_xor32 {p y : Nat} (hp : p < U32) (hy : y < U32) (h : y % 2 = 1) : bits .xor .u32 ((y : Int) / 2) (p : Int) = (stp p y : Int) := by
  have e : ((y : Int) / 2) = ((y / 2 : Nat) : Int) := by simp
  rw [e, xor32 (Nat.lt_of_le_of_lt (Nat.div_le_self _ _) hy) hp, stp_odd h]
theorem half_even {p y : Nat} (h : y % 2 = 0) : ((y : Int) / 2) = (stp p y : Int) := by rw [stp_even h]; simp
theorem byte16 {b : Nat} (h : b < 256) : b < U16 := byte_lt h (by decide)
theorem byte32 {b : Nat} (h : b < 256) : b < U32 := byte_lt h (by decide)

theorem byte_any32 (x p b : Nat) (hx : x < U32) (hp : p < U32) (hb : b < 256) (w : World) :
    Calls Try.prog 39 #[.int .u32 (x : Int), .int .u32 (p : Int), .int .u8 (b : Int)] w fun e w' => e = .returned (.int .u32 (tak p x b : Int)) ∧ w = w' := by
  have H0 := Lib.hid (xor32 hx (byte32 hb))
  have HL : Hid (x ^^^ b < U32) := Nat.xor_lt_two_pow hx (byte32 hb)
  have HT : Hid (stps p 8 (x ^^^ b) = tak p x b) := rfl
  have HP := Lib.hid hp
  obtain ⟨y0, hy0⟩ : ∃ y0, x ^^^ b = y0 := ⟨_, rfl⟩
  rw [hy0] at H0 HL HT
  clear hx hp hy0
  go_enter Try.func39, Try.ntmps39
  go_wp2
  go_loop [0, 12] (fun r i => ∃ k : Nat, k ≤ 8 ∧ i = .int .i64 k ∧ r = .int .u32 (stps p k y0 : Int)) (fun _ i => 8 - (intOf i).toNat)
  case atStart => exact ⟨0, Nat.zero_le _, rfl, congrArg (Value.int .u32) H0.out⟩
  case round =>
    obtain ⟨k, hk, rfl, rfl⟩ := hrel
    by_cases hlt : k < 8
    · have HS := Lib.hid (stps_snoc p y0 k)
      have hy : stps p k y0 < U32 := stps_lt HP.out k HL.out
      obtain ⟨y, hy'⟩ : ∃ y, stps p k y0 = y := ⟨_, rfl⟩
      rw [hy'] at HS hy ⊢
      clear hy'
      have ha := and_one32 hy
      rcases mod_two y with h | h
      · have HE := Lib.hid (half_even (p := p) h)
        rw [h] at ha
        clear h hy
        go_wp2
        go_round
        case rel => exact ⟨k + 1, by omega, by go_num, by rw [HS.out, HE.out]⟩
        case measure => simp [intOf]; omega
      · have HE := Lib.hid (half_xor32 HP.out hy h)
        rw [h] at ha
        clear h hy
        go_wp2
        go_round
        case rel => exact ⟨k + 1, by omega, by go_num, by rw [HS.out, HE.out]⟩
        case measure => simp [intOf]; omega
    · have HK : Hid (k = 8) := by show k = 8; omega
      go_wp2
      go_ret
      exact ⟨ret_i (by rw [HK.out, HT.out]), rfl⟩
theorem take_any (x p b : Nat) (hx : x < U32) (hp : p < U32) (hb : b < 256) (w : World) :
    Calls Try.prog 33 #[.int .u32 (x : Int), .int .u8 (b : Int), .int .u32 (p : Int)] w fun e w' => e = .returned (.int .u32 (tak p x b : Int)) ∧ w = w' := by
  have H0 := Lib.hid (xor32 hx (byte32 hb))
  have HL : Hid (x ^^^ b < U32) := Nat.xor_lt_two_pow hx (byte32 hb)
  have HT : Hid (stps p 8 (x ^^^ b) = tak p x b) := rfl
  have HP := Lib.hid hp
  obtain ⟨y0, hy0⟩ : ∃ y0, x ^^^ b = y0 := ⟨_, rfl⟩
  rw [hy0] at H0 HL HT
  clear hx hp hy0
  go_enter Try.func33, Try.ntmps33
  go_wp2
  go_loop [0, 7] (fun r i => ∃ k : Nat, k ≤ 8 ∧ i = .int .i64 k ∧ r = .int .u32 (stps p k y0 : Int)) (fun _ i => 8 - (intOf i).toNat)
  case atStart => exact ⟨0, Nat.zero_le _, rfl, congrArg (Value.int .u32) H0.out⟩
  case round =>
    obtain ⟨k, hk, rfl, rfl⟩ := hrel
    by_cases hlt : k < 8
    · have HS := Lib.hid (stps_snoc p y0 k)
      have hy : stps p k y0 < U32 := stps_lt HP.out k HL.out
      obtain ⟨y, hy'⟩ : ∃ y, stps p k y0 = y := ⟨_, rfl⟩
      rw [hy'] at HS hy ⊢
      clear hy'
      have HM : Hid ((y : Int) / 2 % 4294967296 = (y : Int) / 2) := by
        show (y : Int) / 2 % 4294967296 = (y : Int) / 2
        unfold U32 at hy; omega
      rcases mod_two y with h | h
      · have HE := Lib.hid (half_even (p := p) h)
        have h1 : (y : Int) % 2 = 0 := by omega
        have h2 : (y : Int).tmod 2 = 0 := by rw [Int.tmod_eq_emod_of_nonneg (by omega)]; exact h1
        clear h hy
        go_wp2
        go_round
        case rel => exact ⟨k + 1, by omega, by go_num, by rw [HS.out, HM.out, HE.out]⟩
        case measure => simp [intOf]; omega
      · have HE := Lib.hid (half_xor32 HP.out hy h)
        have h1 : (y : Int) % 2 = 1 := by omega
        have h2 : (y : Int).tmod 2 = 1 := by rw [Int.tmod_eq_emod_of_nonneg (by omega)]; exact h1
        clear h hy
        go_wp2
        go_round
        case rel => exact ⟨k + 1, by omega, by go_num, by rw [HS.out, HM.out, HE.out]⟩
        case measure => simp [intOf]; omega
    · have HK : Hid (k = 8) := by show k = 8; omega
      go_wp2
      go_ret
      exact ⟨ret_i (by rw [HK.out, HT.out]), rfl⟩
end Go.Proofs.Ytcdijhenfddmcaa.Cr
