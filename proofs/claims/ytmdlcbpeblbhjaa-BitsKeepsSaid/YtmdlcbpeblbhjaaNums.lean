/- Contracts of Field, Set and Mirror, of the program and of its reference: what each returns, for all arguments. -/
import Derived.Test.YtmdlcbpeblbhjaaBase
import Derived.WalkSmall
namespace Go.Proofs.Ytmdlcbpeblbhjaa.Nu
open Go.RowKit
open Go.Proofs.Ytmdlcbpeblbhjaa.Ma
open Go.Proofs.Ytmdlcbpeblbhjaa.Ba
set_option linter.unusedVariables false

/-- A callee that draws nothing, in a region that draws. -/
theorem quiet {P : Program} {f : FuncId} {args : Array Value} {w : World} {n : Nat} {v : Value}
    (h : Calls P f args (w.drewN n) fun e w' => e = .returned v ∧ w.drewN n = w') : Calls P f args (w.drewN n) fun e w'' => e = .returned v ∧ ∃ m, w'' = w.drewN m :=
  h.mono fun _ _ ⟨he, hm⟩ => ⟨he, n, hm.symm⟩

/-- The answer of Field. -/
def fldE (n : Nat) (a s : Int) : Value := if rightB a s = true then .tuple #[.int .u64 (fld n a.toNat s.toNat : Int), .int .i64 0] else .tuple #[.int .u64 0, .int .i64 1]
theorem right_nat {a s : Int} (h : rightB a s = true) : ∃ a' s' : Nat, a = a' ∧ s = s' ∧ 1 ≤ s' ∧ a' + s' ≤ 64 := by
  unfold rightB at h
  have h := of_decide_eq_true h
  exact ⟨a.toNat, s.toNat, by omega, by omega, by omega, by omega⟩
theorem field_and {n a s : Nat} (hn : n < U) (h : a + s ≤ 64) : bits .and .u64 ((n : Int) / 2 ^ a) (onesN s : Int) = (fld n a s : Int) := by
  have e : ((n : Int) / 2 ^ a) = ((n / 2 ^ a : Nat) : Int) := by simp
  rw [e, andU (Nat.lt_of_le_of_lt (Nat.div_le_self _ _) hn) (ones_lt (by omega))]
  unfold onesN; rw [field_go]
theorem Field_any (n : Nat) (a s : Int) (hn : Hid (n < U)) (w : World) :
    Calls Try.prog 16 #[.int .u64 (n : Int), .int .i64 a, .int .i64 s] w fun e w' => e = .returned (fldE n a s) ∧ ∃ m, w' = w.drewN m := by
  by_cases hr : rightB a s = true
  · have HE : Hid (fldE n a s = .tuple #[.int .u64 (fld n a.toNat s.toNat : Int), .int .i64 0]) := by unfold fldE; rw [if_pos hr]; exact rfl
    obtain ⟨a, s, rfl, rfl, h1, h2⟩ := right_nat hr
    have HF : Hid (fldE n a s = .tuple #[.int .u64 (bits .and .u64 ((n : Int) / 2 ^ a) (onesN s : Int)), .int .i64 0]) := by rw [field_and (n := n) hn.out h2]; exact HE.out
    clear HE
    go_enter Try.func16, Try.ntmps16
    go_wp2_with (go_at_call 26; refine (rightField_any _ _ _).mono ?_; rintro e w' ⟨rfl, rfl⟩)
    go_quiet ((go_at_call 27; exact quiet (ones_any _ (by omega) (by omega) _)))
    go_wp2
    go_ret2
    exact ⟨congrArg Ending.returned HF.out.symm, _, rfl⟩
  · have hr : rightB a s = false := by simpa using hr
    have HE : Hid (fldE n a s = .tuple #[.int .u64 0, .int .i64 1]) := by unfold fldE; rw [if_neg (by simp [hr])]; exact rfl
    go_enter Try.func16, Try.ntmps16
    go_wp2_with (go_at_call 26; refine (rightField_any _ _ _).mono ?_; rintro e w' ⟨rfl, rfl⟩)
    go_ret2
    exact ⟨congrArg Ending.returned HE.out.symm, 0, rfl⟩
theorem acc_yes {f : Nat → Bool} {j : Nat} (hb : f j = true) (h : j + 1 ≤ 64) : IntKind.u64.wrap (IntKind.u64.wrap (2 * (acc f j : Int)) + 1) = (acc f (j + 1) : Int) := by
  have hl : acc f (j + 1) < U := Nat.lt_of_lt_of_le (acc_lt f (j + 1)) (Nat.pow_le_pow_right (by decide) h)
  have hs : acc f (j + 1) = 2 * acc f j + 1 := by rw [acc, hb]; rfl
  have e1 : (2 * (acc f j : Int)) = ((2 * acc f j : Nat) : Int) := by simp
  have e2 : (((2 * acc f j : Nat) : Int) + 1) = ((2 * acc f j + 1 : Nat) : Int) := rfl
  rw [e1, wrapU_nat (by omega), e2, ← hs, wrapU_nat hl]
theorem acc_no {f : Nat → Bool} {j : Nat} (hb : f j = false) (h : j + 1 ≤ 64) : IntKind.u64.wrap (2 * (acc f j : Int)) = (acc f (j + 1) : Int) := by
  have hl : acc f (j + 1) < U := Nat.lt_of_lt_of_le (acc_lt f (j + 1)) (Nat.pow_le_pow_right (by decide) h)
  have hs : acc f (j + 1) = 2 * acc f j := by rw [acc, hb]; rfl
  have e1 : (2 * (acc f j : Int)) = ((2 * acc f j : Nat) : Int) := by simp
  rw [e1, ← hs, wrapU_nat hl]
/-- Where a loop that goes down from s - 1 stands: ahead of place u, or behind place 0; what f told so far is gathered. -/
def Down (f : Nat → Bool) (s : Nat) (o i : Value) : Prop :=
  (∃ u : Nat, u < s ∧ i = .int .i64 u ∧ o = .int .u64 (acc f (s - 1 - u) : Int)) ∨ (i = .int .i64 (-1) ∧ o = .int .u64 (acc f s : Int))
theorem down_next {f : Nat → Bool} {s u : Nat} (hu : u < s) {x : Int} (hx : x = (acc f (s - 1 - u + 1) : Int)) : Down f s (.int .u64 x) (.int .i64 ((u : Int) - 1)) := by
  subst hx
  rcases u with _ | u
  · have e : s - 1 - 0 + 1 = s := by omega
    exact .inr ⟨by simp, by rw [e]⟩
  · have e : s - 1 - (u + 1) + 1 = s - 1 - u := by omega
    exact .inl ⟨u, by omega, by simp, by rw [e]⟩
theorem down_start (f : Nat → Bool) {s : Nat} (hs : 1 ≤ s) : Down f s (.int .u64 0) (.int .i64 ((s : Int) - 1)) :=
  .inl ⟨s - 1, by omega, by simp; omega, by rw [Nat.sub_self]; rfl⟩
/-- The bits of a field, the highest first. -/
def fF (n a s j : Nat) : Bool := n.testBit (a + (s - 1 - j))
theorem fF_bit {n a s u : Nat} (h : u < s) : fF n a s (s - 1 - u) = bitB n (a + u) := by
  unfold fF bitB
  rw [show s - 1 - (s - 1 - u) = u by omega]
theorem RField_any (n : Nat) (a s : Int) (w : World) :
    Calls Try.prog 17 #[.int .u64 (n : Int), .int .i64 a, .int .i64 s] w fun e w' => e = .returned (fldE n a s) ∧ w = w' := by
  by_cases hr : rightB a s = true
  · have HE : Hid (fldE n a s = .tuple #[.int .u64 (fld n a.toNat s.toNat : Int), .int .i64 0]) := by unfold fldE; rw [if_pos hr]; exact rfl
    obtain ⟨a, s, rfl, rfl, h1, h2⟩ := right_nat hr
    have HF : Hid (fldE n a s = .tuple #[.int .u64 (acc (fF n a s) s : Int), .int .i64 0]) := by rw [show acc (fF n a s) s = fld n a s from acc_fld n a s]; exact HE.out
    clear HE
    go_enter Try.func17, Try.ntmps17
    go_wp2_with (go_at_call 28; refine (Right_any _ _ _).mono ?_; rintro e w' ⟨rfl, rfl⟩)
    go_loop [8, 9] (fun o i => Down (fF n a s) s o i) (fun _ i => (intOf i + 1).toNat)
    case atStart => exact down_start _ h1
    case round =>
      rcases hrel with ⟨u, hu, rfl, rfl⟩ | ⟨rfl, rfl⟩
      · by_cases hb : bitB n (a + u) = true
        · have H := Lib.hid (acc_yes ((fF_bit hu).trans hb) (by omega))
          go_wp2_with (go_at_call 29; refine (Bit_at n _ (a + u) (by omega) (by omega) _).mono ?_; rintro e w' ⟨rfl, rfl⟩)
          go_round
          case rel => exact down_next hu H.out
          case measure => simp [intOf]
        · have hb : bitB n (a + u) = false := by simpa using hb
          have H := Lib.hid (acc_no ((fF_bit hu).trans hb) (by omega))
          go_wp2_with (go_at_call 29; refine (Bit_at n _ (a + u) (by omega) (by omega) _).mono ?_; rintro e w' ⟨rfl, rfl⟩)
          go_round
          case rel => exact down_next hu H.out
          case measure => simp [intOf]
      · go_wp2
        go_ret2
        exact ⟨congrArg Ending.returned HF.out.symm, rfl⟩
  · have hr : rightB a s = false := by simpa using hr
    have HE : Hid (fldE n a s = .tuple #[.int .u64 0, .int .i64 1]) := by unfold fldE; rw [if_neg (by simp [hr])]; exact rfl
    go_enter Try.func17, Try.ntmps17
    go_wp2_with (go_at_call 28; refine (Right_any _ _ _).mono ?_; rintro e w' ⟨rfl, rfl⟩)
    go_ret2
    exact ⟨congrArg Ending.returned HE.out.symm, rfl⟩

/-- The answer of Mirror. -/
def mirE (n : Nat) (s : Int) : Value :=
  if sizeB 64 s = true then (if fitsB n s.toNat = true then .tuple #[.int .u64 (mir n s.toNat : Int), .int .i64 0] else .tuple #[.int .u64 0, .int .i64 3]) else .tuple #[.int .u64 0, .int .i64 1]
theorem mirE_size {n : Nat} {s : Int} (h : sizeB 64 s = false) : mirE n s = .tuple #[.int .u64 0, .int .i64 1] := by unfold mirE; rw [if_neg (by simp [h])]
theorem mirE_long {n s : Nat} (h : sizeB 64 s = true) (hf : fitsB n s = false) : mirE n s = .tuple #[.int .u64 0, .int .i64 3] := by
  unfold mirE; rw [if_pos h, Int.toNat_natCast, if_neg (by simp [hf])]
theorem mirE_fits {n s : Nat} (h : sizeB 64 s = true) (hf : fitsB n s = true) : mirE n s = .tuple #[.int .u64 (acc (fun j => bitB n j) s : Int), .int .i64 0] := by
  unfold mirE; rw [if_pos h, Int.toNat_natCast, if_pos hf]; rfl
theorem size_nat {s : Int} (h : sizeB 64 s = true) : ∃ s' : Nat, s = s' ∧ 1 ≤ s' ∧ s' ≤ 64 := by
  unfold sizeB at h
  have h := of_decide_eq_true h
  exact ⟨s.toNat, by omega, by omega, by omega⟩
theorem fits_ones {n s : Nat} : fitsB n s = !decide ((onesN s : Int) < (n : Int)) := by
  unfold fitsB onesN
  have := Nat.two_pow_pos s
  rw [Bool.eq_iff_iff]
  simp only [decide_eq_true_eq, Bool.not_eq_true', decide_eq_false_iff_not]
  omega
/-- The bits of n, the lowest first. -/
def mF (n j : Nat) : Bool := bitB n j
theorem or_step {x n k : Nat} (hn : n < U) (hx : 2 * x < U) :
    bits .or .u64 (IntKind.u64.wrap ((x : Int) * 2)) (bits .and .u64 ((n : Int) / 2 ^ k) 1) = ((2 * x + bitN n k : Nat) : Int) := by
  have e1 : ((x : Int) * (2 : Int)) = ((x <<< 1 : Nat) : Int) := by simp [Nat.shiftLeft_eq]
  have hx' : x <<< 1 < U := by rw [Nat.shiftLeft_eq]; omega
  have hb := bitN_le n k
  rw [and_one n k hn, e1, wrapU_nat hx', orU hx' (by unfold U; omega)]
  congr 1
  rw [← Nat.shiftLeft_add_eq_or_of_lt (b := bitN n k) (i := 1) (by omega) x, Nat.shiftLeft_eq]
  omega
theorem mir_step {n k : Nat} (hn : n < U) (hk : k + 1 ≤ 64) :
    bits .or .u64 (IntKind.u64.wrap ((acc (mF n) k : Int) * 2)) (bits .and .u64 ((n : Int) / 2 ^ k) 1) = (acc (mF n) (k + 1) : Int) := by
  have hl : acc (mF n) (k + 1) < U := Nat.lt_of_lt_of_le (acc_lt _ (k + 1)) (Nat.pow_le_pow_right (by decide) hk)
  have hs : acc (mF n) (k + 1) = 2 * acc (mF n) k + bitN n k := rfl
  rw [or_step hn (by omega), hs]
theorem Mirror_any (n : Nat) (s : Int) (hn : Hid (n < U)) (w : World) :
    Calls Try.prog 20 #[.int .u64 (n : Int), .int .i64 s] w fun e w' => e = .returned (mirE n s) ∧ w = w' := by
  by_cases hr : sizeB 64 s = true
  · obtain ⟨s, rfl, h1, h2⟩ := size_nat hr
    by_cases hf : (onesN s : Int) < (n : Int)
    · have HE := Lib.hid (mirE_long (n := n) hr (by rw [fits_ones]; simpa using hf))
      go_enter Try.func20, Try.ntmps20
      go_wp2_with (first | (go_at_call 30; refine (sizeInBits_any _ _).mono ?_; rintro e w' ⟨rfl, rfl⟩) | (go_at_call 27; refine (ones_any _ h1 h2 _).mono ?_; rintro e w' ⟨rfl, rfl⟩))
      go_ret2
      exact ⟨congrArg Ending.returned HE.out.symm, rfl⟩
    · have HE := Lib.hid (mirE_fits (n := n) hr (by rw [fits_ones]; simpa using hf))
      go_enter Try.func20, Try.ntmps20
      go_wp2_with (first | (go_at_call 30; refine (sizeInBits_any _ _).mono ?_; rintro e w' ⟨rfl, rfl⟩) | (go_at_call 27; refine (ones_any _ h1 h2 _).mono ?_; rintro e w' ⟨rfl, rfl⟩))
      go_loop [6, 16] (fun o i => ∃ k : Nat, k ≤ s ∧ i = .int .i64 k ∧ o = .int .u64 (acc (mF n) k : Int)) (fun _ i => s - (intOf i).toNat)
      case atStart => exact ⟨0, Nat.zero_le _, rfl, rfl⟩
      case round =>
        obtain ⟨k, hk, rfl, rfl⟩ := hrel
        by_cases hlt : k < s
        · have H := Lib.hid (mir_step (k := k) hn.out (by omega))
          go_wp2
          go_round
          case rel => exact ⟨k + 1, by omega, by go_num, congrArg (Value.int .u64) H.out⟩
          case measure => simp [intOf]; omega
        · obtain rfl : k = s := by omega
          go_wp2
          go_ret2
          exact ⟨congrArg Ending.returned HE.out.symm, rfl⟩
  · have hr : sizeB 64 s = false := by simpa using hr
    have HE := Lib.hid (mirE_size (n := n) hr)
    go_enter Try.func20, Try.ntmps20
    go_wp2_with (go_at_call 30; refine (sizeInBits_any _ _).mono ?_; rintro e w' ⟨rfl, rfl⟩)
    go_ret2
    exact ⟨congrArg Ending.returned HE.out.symm, rfl⟩
theorem RMirror_any (n : Nat) (s : Int) (hn : Hid (n < U)) (w : World) :
    Calls Try.prog 21 #[.int .u64 (n : Int), .int .i64 s] w fun e w' => e = .returned (mirE n s) ∧ w = w' := by
  by_cases hr : sizeB 64 s = true
  · obtain ⟨s, rfl, h1, h2⟩ := size_nat hr
    by_cases hf : fitsB n s = true
    · have HE := Lib.hid (mirE_fits (n := n) hr hf)
      go_enter Try.func21, Try.ntmps21
      go_wp2_with (go_at_call 25; refine (Fits_any _ _ hn _).mono ?_; rintro e w' ⟨rfl, rfl⟩)
      go_loop [6, 7] (fun o i => ∃ k : Nat, k ≤ s ∧ i = .int .i64 k ∧ o = .int .u64 (acc (mF n) k : Int)) (fun _ i => s - (intOf i).toNat)
      case atStart => exact ⟨0, Nat.zero_le _, rfl, rfl⟩
      case round =>
        obtain ⟨k, hk, rfl, rfl⟩ := hrel
        by_cases hlt : k < s
        · by_cases hb : bitB n k = true
          · have H := Lib.hid (acc_yes (f := mF n) (j := k) hb (by omega))
            go_wp2_with (go_at_call 29; refine (Bit_any n k (by omega) _).mono ?_; rintro e w' ⟨rfl, rfl⟩)
            go_round
            case rel => exact ⟨k + 1, by omega, by go_num, congrArg (Value.int .u64) H.out⟩
            case measure => simp [intOf]; omega
          · have hb : bitB n k = false := by simpa using hb
            have H := Lib.hid (acc_no (f := mF n) (j := k) hb (by omega))
            go_wp2_with (go_at_call 29; refine (Bit_any n k (by omega) _).mono ?_; rintro e w' ⟨rfl, rfl⟩)
            go_round
            case rel => exact ⟨k + 1, by omega, by go_num, congrArg (Value.int .u64) H.out⟩
            case measure => simp [intOf]; omega
        · obtain rfl : k = s := by omega
          go_wp2
          go_ret2
          exact ⟨congrArg Ending.returned HE.out.symm, rfl⟩
    · have hf : fitsB n s = false := by simpa using hf
      have HE := Lib.hid (mirE_long hr hf)
      go_enter Try.func21, Try.ntmps21
      go_wp2_with (go_at_call 25; refine (Fits_any _ _ hn _).mono ?_; rintro e w' ⟨rfl, rfl⟩)
      go_ret2
      exact ⟨congrArg Ending.returned HE.out.symm, rfl⟩
  · have hr : sizeB 64 s = false := by simpa using hr
    have HE := Lib.hid (mirE_size (n := n) hr)
    unfold sizeB at hr
    have hr := of_decide_eq_false hr
    by_cases h1 : 1 ≤ s
    all_goals
      go_enter Try.func21, Try.ntmps21
      go_wp2
      go_ret2
      exact ⟨congrArg Ending.returned HE.out.symm, rfl⟩

/-- The answer of Set. -/
def setE (n : Nat) (a s : Int) (v : Nat) : Value :=
  if rightB a s = true then (if fitsB v s.toNat = true then .tuple #[.int .u64 (set_ n a.toNat s.toNat v : Int), .int .i64 0] else .tuple #[.int .u64 0, .int .i64 3]) else .tuple #[.int .u64 0, .int .i64 1]
theorem setE_right {n v : Nat} {a s : Int} (h : rightB a s = false) : setE n a s v = .tuple #[.int .u64 0, .int .i64 1] := by unfold setE; rw [if_neg (by simp [h])]
theorem setE_long {n a s v : Nat} (h : rightB a s = true) (hf : fitsB v s = false) : setE n a s v = .tuple #[.int .u64 0, .int .i64 3] := by
  unfold setE; rw [if_pos h, Int.toNat_natCast, if_neg (by simp [hf])]
theorem setE_fits {n a s v : Nat} (h : rightB a s = true) (hf : fitsB v s = true) : setE n a s v = .tuple #[.int .u64 (set_ n a s v : Int), .int .i64 0] := by
  unfold setE; rw [if_pos h, Int.toNat_natCast, if_pos hf]; rfl
theorem shl_lt {x s a : Nat} (hx : x < 2 ^ s) (h : a + s ≤ 64) : x * 2 ^ a < U := by
  have h1 : x * 2 ^ a < 2 ^ s * 2 ^ a := Nat.mul_lt_mul_of_pos_right hx (Nat.two_pow_pos a)
  have h2 : 2 ^ s * 2 ^ a ≤ U := by rw [← Nat.pow_add]; exact Nat.pow_le_pow_right (by decide) (by omega)
  omega
theorem shl_wrap {x s a : Nat} (hx : x < 2 ^ s) (h : a + s ≤ 64) : IntKind.u64.wrap ((x : Int) * 2 ^ a) = ((x * 2 ^ a : Nat) : Int) := by
  have e : ((x : Int) * 2 ^ a) = ((x * 2 ^ a : Nat) : Int) := by simp
  rw [e, wrapU_nat (shl_lt hx h)]
theorem set_bits {n a s v : Nat} (hn : n < U) (hv : v < 2 ^ s) (h : a + s ≤ 64) :
    bits .or .u64 (bits .andNot .u64 (n : Int) (IntKind.u64.wrap ((onesN s : Int) * 2 ^ a))) (IntKind.u64.wrap ((v : Int) * 2 ^ a)) = (set_ n a s v : Int) := by
  have ho : onesN s < 2 ^ s := by unfold onesN; have := Nat.two_pow_pos s; omega
  have hm : n &&& (2 ^ 64 - 1 - onesN s * 2 ^ a) < U := Nat.lt_of_le_of_lt Nat.and_le_left hn
  rw [shl_wrap ho h, shl_wrap hv h, andNotU hn (shl_lt ho h), orU hm (shl_lt hv h)]
  unfold onesN
  rw [set_go hv h]
theorem Set_any (n : Nat) (a s : Int) (v : Nat) (hn : Hid (n < U)) (w : World) :
    Calls Try.prog 18 #[.int .u64 (n : Int), .int .i64 a, .int .i64 s, .int .u64 (v : Int)] w fun e w' => e = .returned (setE n a s v) ∧ ∃ m, w' = w.drewN m := by
  by_cases hr : rightB a s = true
  · obtain ⟨a, s, rfl, rfl, h1, h2⟩ := right_nat hr
    by_cases hf : (onesN s : Int) < (v : Int)
    · have HE := Lib.hid (setE_long (n := n) (v := v) hr (by rw [fits_ones]; simpa using hf))
      go_enter Try.func18, Try.ntmps18
      go_wp2_with (first | (go_at_call 26; refine (rightField_any _ _ _).mono ?_; rintro e w' ⟨rfl, rfl⟩) | (go_at_call 27; refine (ones_any _ h1 (by omega) _).mono ?_; rintro e w' ⟨rfl, rfl⟩))
      go_ret2
      exact ⟨congrArg Ending.returned HE.out.symm, 0, rfl⟩
    · have hf' : fitsB v s = true := by rw [fits_ones]; simpa using hf
      have hv : v < 2 ^ s := of_decide_eq_true hf'
      have HE : Hid (setE n a s v = .tuple #[.int .u64 (bits .or .u64 (bits .andNot .u64 (n : Int) (IntKind.u64.wrap ((onesN s : Int) * 2 ^ a))) (IntKind.u64.wrap ((v : Int) * 2 ^ a))), .int .i64 0]) := by
        rw [set_bits hn.out hv h2]; exact setE_fits hr hf'
      clear hf' hv
      go_enter Try.func18, Try.ntmps18
      go_wp2_with (first | (go_at_call 26; refine (rightField_any _ _ _).mono ?_; rintro e w' ⟨rfl, rfl⟩) | (go_at_call 27; refine (ones_any _ h1 (by omega) _).mono ?_; rintro e w' ⟨rfl, rfl⟩))
      go_quiet ((go_at_call 27; exact quiet (ones_any _ (by omega) (by omega) _)))
      go_wp2
      go_ret2
      exact ⟨congrArg Ending.returned HE.out.symm, _, rfl⟩
  · have hr : rightB a s = false := by simpa using hr
    have HE := Lib.hid (setE_right (n := n) (v := v) hr)
    go_enter Try.func18, Try.ntmps18
    go_wp2_with (go_at_call 26; refine (rightField_any _ _ _).mono ?_; rintro e w' ⟨rfl, rfl⟩)
    go_ret2
    exact ⟨congrArg Ending.returned HE.out.symm, 0, rfl⟩
/-- The bits of a number with a field, the highest first. -/
def sF (n a s v j : Nat) : Bool := setBit n a s v (63 - j)
theorem sF_in {n a s v u : Nat} (hu : u < 64) (h1 : a ≤ u) (h2 : u < a + s) : sF n a s v (64 - 1 - u) = bitB v (u - a) := by
  unfold sF setBit bitB
  rw [show 63 - (64 - 1 - u) = u by omega, if_pos ⟨h1, h2⟩]
theorem sF_out {n a s v u : Nat} (hu : u < 64) (h : u < a ∨ a + s ≤ u) : sF n a s v (64 - 1 - u) = bitB n u := by
  unfold sF setBit bitB
  rw [show 63 - (64 - 1 - u) = u by omega, if_neg (by omega)]
theorem RSet_any (n : Nat) (a s : Int) (v : Nat) (hv : Hid (v < U)) (w : World) :
    Calls Try.prog 19 #[.int .u64 (n : Int), .int .i64 a, .int .i64 s, .int .u64 (v : Int)] w fun e w' => e = .returned (setE n a s v) ∧ w = w' := by
  by_cases hr : rightB a s = true
  · obtain ⟨a, s, rfl, rfl, h1, h2⟩ := right_nat hr
    by_cases hf : fitsB v s = true
    · have HE : Hid (setE n a s v = .tuple #[.int .u64 (acc (sF n a s v) 64 : Int), .int .i64 0]) := setE_fits hr hf
      go_enter Try.func19, Try.ntmps19
      go_wp2_with (first | (go_at_call 28; refine (Right_any _ _ _).mono ?_; rintro e w' ⟨rfl, rfl⟩) | (go_at_call 25; refine (Fits_any _ _ hv _).mono ?_; rintro e w' ⟨rfl, rfl⟩))
      go_loop [10, 11] (fun o i => Down (sF n a s v) 64 o i) (fun _ i => (intOf i + 1).toNat)
      case atStart => exact down_start _ (by decide)
      case round =>
        rcases hrel with ⟨u, hu, rfl, rfl⟩ | ⟨rfl, rfl⟩
        · by_cases ha : a ≤ u
          · by_cases hs : u < a + s
            · by_cases hb : bitB v (u - a) = true
              · have H := Lib.hid (acc_yes ((sF_in (n := n) hu ha hs).trans hb) (by omega))
                go_wp2_with (go_at_call 29; refine (Bit_at v _ (u - a) (by omega) (by omega) _).mono ?_; rintro e w' ⟨rfl, rfl⟩)
                go_round
                case rel => exact down_next hu H.out
                case measure => simp [intOf]
              · have hb : bitB v (u - a) = false := by simpa using hb
                have H := Lib.hid (acc_no ((sF_in (n := n) hu ha hs).trans hb) (by omega))
                go_wp2_with (go_at_call 29; refine (Bit_at v _ (u - a) (by omega) (by omega) _).mono ?_; rintro e w' ⟨rfl, rfl⟩)
                go_round
                case rel => exact down_next hu H.out
                case measure => simp [intOf]
            · by_cases hb : bitB n u = true
              · have H := Lib.hid (acc_yes ((sF_out (a := a) (s := s) (v := v) hu (by omega)).trans hb) (by omega))
                go_wp2_with (go_at_call 29; refine (Bit_at n _ u (by omega) (by omega) _).mono ?_; rintro e w' ⟨rfl, rfl⟩)
                go_round
                case rel => exact down_next hu H.out
                case measure => simp [intOf]
              · have hb : bitB n u = false := by simpa using hb
                have H := Lib.hid (acc_no ((sF_out (a := a) (s := s) (v := v) hu (by omega)).trans hb) (by omega))
                go_wp2_with (go_at_call 29; refine (Bit_at n _ u (by omega) (by omega) _).mono ?_; rintro e w' ⟨rfl, rfl⟩)
                go_round
                case rel => exact down_next hu H.out
                case measure => simp [intOf]
          · by_cases hb : bitB n u = true
            · have H := Lib.hid (acc_yes ((sF_out (a := a) (s := s) (v := v) hu (by omega)).trans hb) (by omega))
              go_wp2_with (go_at_call 29; refine (Bit_at n _ u (by omega) (by omega) _).mono ?_; rintro e w' ⟨rfl, rfl⟩)
              go_round
              case rel => exact down_next hu H.out
              case measure => simp [intOf]
            · have hb : bitB n u = false := by simpa using hb
              have H := Lib.hid (acc_no ((sF_out (a := a) (s := s) (v := v) hu (by omega)).trans hb) (by omega))
              go_wp2_with (go_at_call 29; refine (Bit_at n _ u (by omega) (by omega) _).mono ?_; rintro e w' ⟨rfl, rfl⟩)
              go_round
              case rel => exact down_next hu H.out
              case measure => simp [intOf]
        · go_wp2
          go_ret2
          exact ⟨congrArg Ending.returned HE.out.symm, rfl⟩
    · have hf : fitsB v s = false := by simpa using hf
      have HE := Lib.hid (setE_long (n := n) hr hf)
      go_enter Try.func19, Try.ntmps19
      go_wp2_with (first | (go_at_call 28; refine (Right_any _ _ _).mono ?_; rintro e w' ⟨rfl, rfl⟩) | (go_at_call 25; refine (Fits_any _ _ hv _).mono ?_; rintro e w' ⟨rfl, rfl⟩))
      go_ret2
      exact ⟨congrArg Ending.returned HE.out.symm, rfl⟩
  · have hr : rightB a s = false := by simpa using hr
    have HE := Lib.hid (setE_right (n := n) (v := v) hr)
    go_enter Try.func19, Try.ntmps19
    go_wp2_with (go_at_call 28; refine (Right_any _ _ _).mono ?_; rintro e w' ⟨rfl, rfl⟩)
    go_ret2
    exact ⟨congrArg Ending.returned HE.out.symm, rfl⟩
end Go.Proofs.Ytmdlcbpeblbhjaa.Nu
