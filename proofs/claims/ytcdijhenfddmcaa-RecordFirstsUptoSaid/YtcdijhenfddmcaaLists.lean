/- Contracts of crc's sums over lists of bytes, of the program and of its reference. -/
import Derived.Test.YtcdijhenfddmcaaRegs
namespace Go.Proofs.Ytcdijhenfddmcaa.Cr
open Go.RowKit
open Go.Proofs.Ytcdijhenfddmcaa.Me
set_option linter.unusedVariables false

def lsAt (ls : List (List Nat)) (j : Nat) : List Nat := ls.getD j []
/-- A slice's address leads to slices that lead, below block B, to these lists of bytes. -/
def Lst (w : World) (B : Nat) (a : Option Addr) (ls : List (List Nat)) : Prop :=
  0 < ls.length → ∃ b off, a = some ⟨b, off, none⟩ ∧ b < w.heap.size ∧ ∀ j, j < ls.length → ∃ A c, w.cell? ⟨b, off + j, none⟩ = some (.slice A (lsAt ls j).length c) ∧ (lsAt ls j).length ≤ c ∧ c ≤ 9223372036854775807 ∧ Rd w B A (lsAt ls j)
theorem Lst.bytes {w : World} {B : Nat} {a : Option Addr} {ls : List (List Nat)} (h : Lst w B a ls) : ∀ l ∈ ls, ∀ z ∈ l, z < 256 := by
  intro l hl z hz
  obtain ⟨j, hj, rfl⟩ := List.mem_iff_getElem.mp hl
  obtain ⟨_, _, _, _, hc⟩ := h (by omega)
  obtain ⟨_, _, _, _, _, hr⟩ := hc j hj
  refine hr.1 z ?_
  simpa [lsAt, hj] using hz
theorem reg_take {p x j : Nat} {l : List Nat} (h : j < l.length) : reg p x (l.take (j + 1)) = tak p (reg p x (l.take j)) (by_ l j) := by
  rw [List.take_succ_eq_append_getElem h, reg_snoc, by_get h]
theorem reg_lists {p x k : Nat} {ls : List (List Nat)} (h : k < ls.length) : reg p x (ls.take (k + 1)).flatten = reg p (reg p x (ls.take k).flatten) (lsAt ls k) := by
  have e : lsAt ls k = ls[k] := by simp [lsAt, h]
  rw [List.take_succ_eq_append_getElem h, List.flatten_append, reg_append, e]; simp
theorem flat_bytes {ls : List (List Nat)} (h : ∀ l ∈ ls, ∀ z ∈ l, z < 256) (k : Nat) : ∀ z ∈ (ls.take k).flatten, z < 256 := by
  intro z hz
  obtain ⟨l, hl, hz⟩ := List.mem_flatten.mp hz
  exact h l (List.mem_of_mem_take hl) z hz
theorem take_bytes {l : List Nat} (h : ∀ z ∈ l, z < 256) (k : Nat) : ∀ z ∈ l.take k, z < 256 := fun z hz => h z (List.mem_of_mem_take hz)
theorem lists_any32 (x p : Nat) (a : Option Addr) (cap B : Nat) (ls : List (List Nat)) (hx : x < U32) (hp : p < U32) (w : World) (hl : Hid (Lst w B a ls)) (hn : ls.length ≤ 9223372036854775807) :
    Calls Try.prog 38 #[.int .u32 (x : Int), .int .u32 (p : Int), .slice a ls.length cap] w fun e w' => e = .returned (.int .u32 (reg p x ls.flatten : Int)) ∧ w = w' := by
  have HX := Lib.hid hx
  have HP := Lib.hid hp
  have HB := Lib.hid (Lst.bytes hl.out)
  have HT : Hid (∀ k, ¬ k < ls.length → reg p x (ls.take k).flatten = reg p x ls.flatten) := by
    intro k hk; rw [List.take_of_length_le (by omega)]
  clear hx hp
  go_enter Try.func38, Try.ntmps38
  go_wp2
  go_loop [0, 13] (fun r i => ∃ k : Nat, k ≤ ls.length ∧ i = .int .i64 k ∧ r = .int .u32 (reg p x (ls.take k).flatten : Int)) (fun _ i => ls.length - (intOf i).toNat)
  case atStart => exact ⟨0, Nat.zero_le _, rfl, rfl⟩
  case round =>
    obtain ⟨k, hk, rfl, rfl⟩ := hrel
    by_cases hlt : k < ls.length
    · obtain ⟨b, off, rfl, hbB, hc⟩ := hl.out (by omega)
      obtain ⟨A, c, hcell, hlc, hc2, hr⟩ := hc k hlt
      have HR := Lib.hid (reg_lists (p := p) (x := x) hlt)
      have HY : Hid (reg p x (ls.take k).flatten < U32) := reg_lt HP.out (by decide) _ HX.out (flat_bytes HB.out k)
      obtain ⟨y, hy⟩ : ∃ y, reg p x (ls.take k).flatten = y := ⟨_, rfl⟩
      obtain ⟨l, hl'⟩ : ∃ l, lsAt ls k = l := ⟨_, rfl⟩
      rw [hy] at HR HY ⊢
      rw [hl'] at HR hcell hlc hr
      have HRD := Lib.hid hr
      clear hc hy hl' hr
      go_wp2
      go_loop [0, 19] (fun r i => ∃ j : Nat, j ≤ l.length ∧ i = .int .i64 j ∧ r = .int .u32 (reg p y (l.take j) : Int)) (fun _ i => l.length - (intOf i).toNat)
      case atStart => exact ⟨0, Nat.zero_le _, rfl, rfl⟩
      case round =>
        obtain ⟨j, hj, rfl, rfl⟩ := hrel
        by_cases hjl : j < l.length
        · obtain ⟨b', off', rfl, _, hd⟩ := HRD.out.2 (by omega)
          have hcell2 := hd j hjl
          have HS := Lib.hid (reg_take (p := p) (x := y) hjl)
          have hb := HRD.out.lt hjl
          have HZ : Hid (reg p y (l.take j) < U32) := reg_lt HP.out (by decide) _ HY.out (take_bytes HRD.out.1 j)
          clear hd
          go_wp2_with (go_at_call 39; refine (byte_any32 _ _ _ HZ.out HP.out hb _).mono ?_; rintro e w' ⟨rfl, rfl⟩)
          go_round
          case rel => exact ⟨j + 1, by omega, by go_num, by rw [HS.out]⟩
          case measure => simp [intOf]; omega
        · have HE : Hid (reg p y (l.take j) = reg p y l) := by show reg p y (l.take j) = reg p y l; rw [List.take_of_length_le (by omega)]
          go_wp2
          go_round
          case rel => exact ⟨k + 1, by omega, by go_num, by rw [HR.out, HE.out]⟩
          case measure => simp [intOf]; omega
    · have HK := Lib.hid (HT.out k hlt)
      go_wp2
      go_ret
      exact ⟨ret_i (by rw [HK.out]), rfl⟩
theorem xor_ones (n r : Nat) (h : r < 2 ^ n) : (2 ^ n - 1) ^^^ r = 2 ^ n - 1 - r := by
  apply Nat.eq_of_testBit_eq
  intro i
  have e : 2 ^ n - 1 - r = 2 ^ n - (r + 1) := by omega
  rw [e, Nat.testBit_two_pow_sub_succ h, Nat.testBit_xor, Nat.testBit_two_pow_sub_one]
  by_cases hi : i < n
  · simp [hi]
  · have : r.testBit i = false := Nat.testBit_lt_two_pow (Nat.lt_of_lt_of_le h (Nat.pow_le_pow_right (by decide) (by omega)))
    simp [hi, this]
/-- The frame's and the record's sum. -/
def fcs (l : List Nat) : Nat := 65535 ^^^ reg P16 65535 l
def sum (l : List Nat) : Nat := 4294967295 ^^^ reg P32 4294967295 l
theorem reg16_lt {l : List Nat} (h : ∀ z ∈ l, z < 256) : reg P16 65535 l < U16 := reg_lt p16_lt (by decide) _ (by decide) h
theorem reg32_lt {l : List Nat} (h : ∀ z ∈ l, z < 256) : reg P32 4294967295 l < U32 := reg_lt p32_lt (by decide) _ (by decide) h
theorem fcs_sub {l : List Nat} (h : ∀ z ∈ l, z < 256) : fcs l = 65535 - reg P16 65535 l := xor_ones 16 _ (reg16_lt h)
theorem sum_sub {l : List Nat} (h : ∀ z ∈ l, z < 256) : sum l = 4294967295 - reg P32 4294967295 l := xor_ones 32 _ (reg32_lt h)
theorem fcs_lt {l : List Nat} (h : ∀ z ∈ l, z < 256) : fcs l < U16 := Nat.xor_lt_two_pow (by decide) (reg16_lt h)
theorem sum_lt {l : List Nat} (h : ∀ z ∈ l, z < 256) : sum l < U32 := Nat.xor_lt_two_pow (by decide) (reg32_lt h)
theorem flat_all {ls : List (List Nat)} (h : ∀ l ∈ ls, ∀ z ∈ l, z < 256) : ∀ z ∈ ls.flatten, z < 256 := by
  intro z hz
  obtain ⟨l, hl, hz⟩ := List.mem_flatten.mp hz
  exact h l hl z hz
theorem max16 : bits .xor .u16 IntKind.u16.max 0 = 65535 := by decide +kernel
theorem max32 : bits .xor .u32 IntKind.u32.max 0 = 4294967295 := by decide +kernel
theorem not16 {l : List Nat} (h : ∀ z ∈ l, z < 256) : bits .xor .u16 IntKind.u16.max (reg P16 65535 l : Int) = (fcs l : Int) := xor16 (a := 65535) (by decide) (reg16_lt h)
theorem not32 {l : List Nat} (h : ∀ z ∈ l, z < 256) : bits .xor .u32 IntKind.u32.max (reg P32 4294967295 l : Int) = (sum l : Int) := xor32 (a := 4294967295) (by decide) (reg32_lt h)
theorem sum32_any (a : Option Addr) (cap B : Nat) (ls : List (List Nat)) (w : World) (hl : Hid (Lst w B a ls)) (hn : ls.length ≤ 9223372036854775807) :
    Calls Try.prog 36 #[.int .u32 3988292384, .slice a ls.length cap] w fun e w' => e = .returned (.int .u32 (sum ls.flatten : Int)) ∧ w = w' := by
  have D := Lib.hid (fun w hl => lists_any32 4294967295 P32 a cap B ls (by decide) (by decide) w hl hn)
  have E := Lib.hid (not32 (flat_all (Lst.bytes hl.out)))
  have hm := max32
  go_enter Try.func36, Try.ntmps36
  go_wp2_with (go_at_call 38; refine (D.out _ hl).mono ?_; rintro e w' ⟨rfl, rfl⟩)
  go_ret
  exact ⟨ret_i E.out, rfl⟩
theorem Sum_any (a : Option Addr) (cap B : Nat) (ls : List (List Nat)) (w : World) (hl : Hid (Lst w B a ls)) (hn : ls.length ≤ 9223372036854775807) :
    Calls Try.prog 30 #[.slice a ls.length cap] w fun e w' => e = .returned (.int .u32 (sum ls.flatten : Int)) ∧ w = w' := by
  go_enter Try.func30, Try.ntmps30
  go_wp2_with (go_at_call 36; refine (sum32_any a cap B ls _ hl hn).mono ?_; rintro e w' ⟨rfl, rfl⟩)
  go_ret
  exact ⟨rfl, rfl⟩
/-- One list of bytes, in a block made for it. -/
theorem lst_one {w : World} {B : Nat} {A : Option Addr} {l : List Nat} {c : Nat} {T : TypeId} (hr : Rd w B A l) (hlc : l.length ≤ c) (hc : c ≤ 9223372036854775807) (hB : B ≤ w.heap.size) :
    Lst (w.alloc (.cells #[.slice A l.length c] T)) B (some ⟨w.heap.size, 0, none⟩) [l] := by
  intro _
  refine ⟨w.heap.size, 0, rfl, by simp, fun j hj => ?_⟩
  obtain rfl : j = 0 := by simp at hj; omega
  exact ⟨A, c, by simp [lsAt, go_sem], hlc, hc, hr.below ((Below.refl _ _).alloc hB _)⟩
/-- Are some bytes right? -/
def rightB (l : List Nat) : Bool := decide (2 ≤ l.length) && (reg P16 65535 l == 61624)
/-! ### The reference -/
theorem RSum_any (A : Option Addr) (cap B : Nat) (l : List Nat) (w : World) (hr : Hid (Rd w B A l)) (hl : l.length ≤ 9223372036854775807) :
    Calls Try.prog 23 #[.slice A l.length cap] w fun e w' => e = .returned (.int .u32 (sum l : Int)) ∧ w = w' := by
  have HT : Hid (∀ k, ¬ k < l.length → IntKind.u32.wrap (4294967295 - (reg P32 4294967295 (l.take k) : Int)) = (sum l : Int)) := by
    intro k hk
    have h := reg32_lt hr.out.1
    have e : (4294967295 : Int) - (reg P32 4294967295 l : Int) = (sum l : Int) := by rw [sum_sub hr.out.1]; unfold U32 at h; omega
    rw [List.take_of_length_le (by omega), e, wrap32 (sum_lt hr.out.1)]
  go_enter Try.func23, Try.ntmps23
  go_wp2
  go_loop [3, 4] (fun r i => ∃ k : Nat, k ≤ l.length ∧ i = .int .i64 k ∧ r = .int .u32 (reg P32 4294967295 (l.take k) : Int)) (fun _ i => l.length - (intOf i).toNat)
  case atStart => exact ⟨0, Nat.zero_le _, rfl, rfl⟩
  case round =>
    obtain ⟨j, hj, rfl, rfl⟩ := hrel
    by_cases hjl : j < l.length
    · obtain ⟨b', off', rfl, _, hd⟩ := hr.out.2 (by omega)
      have hcell2 := hd j hjl
      have HS := Lib.hid (reg_take (p := P32) (x := 4294967295) hjl)
      have hb := hr.out.lt hjl
      have HZ : Hid (reg P32 4294967295 (l.take j) < U32) := reg32_lt (take_bytes hr.out.1 j)
      clear hd
      go_wp2_with (go_at_call 33; refine (take_any _ P32 _ HZ.out (by decide) hb _).mono ?_; rintro e w' ⟨rfl, rfl⟩)
      go_round
      case rel => exact ⟨j + 1, by omega, by go_num, by rw [HS.out]⟩
      case measure => simp [intOf]; omega
    · have HE := Lib.hid (HT.out j hjl)
      go_wp2
      go_ret
      exact ⟨ret_i HE.out, rfl⟩
end Go.Proofs.Ytcdijhenfddmcaa.Cr
