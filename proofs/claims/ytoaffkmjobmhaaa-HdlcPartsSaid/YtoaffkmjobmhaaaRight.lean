/- The contract of crc's reference Right. -/
import Derived.Test.YtoaffkmjobmhaaaAdds
import Derived.Deep.RegionHeld
namespace Go.Proofs.Ytoaffkmjobmhaaa.Cr
open Go.RowKit
open Go.Proofs.Ytoaffkmjobmhaaa.Me
set_option linter.unusedVariables false
theorem p16_top : P16.testBit 15 = true := by decide
theorem p32_top : P32.testBit 31 = true := by decide
theorem rest16 : stps P16 16 65535 = 61624 := by decide +kernel
theorem reg_two (q : List Nat) (b c : Nat) (hq : ∀ z ∈ q, z < 256) (hb : b < 256) (hc : c < 256) : reg P16 65535 (q ++ [b, c]) = stps P16 16 (reg P16 65535 q ^^^ (b + 256 * c)) := by
  rw [reg_append, reg_low P16 [b, c] _ (by intro z hz; simp at hz; rcases hz with rfl | rfl <;> assumption)]
  simp [low]
theorem xor_flip {r m : Nat} (hr : r < 2 ^ 16) (hm : m < 2 ^ 16) : (r ^^^ m = 65535) ↔ m = 65535 ^^^ r := by
  constructor
  · intro h; rw [← h, Nat.xor_comm r m, Nat.xor_assoc, Nat.xor_self, Nat.xor_zero]
  · rintro rfl; rw [Nat.xor_comm 65535 r, ← Nat.xor_assoc, Nat.xor_self, Nat.zero_xor]
/-- Bytes are right just if they are the others with their sum. -/
theorem right_two (q : List Nat) (b c : Nat) (hq : ∀ z ∈ q, z < 256) (hb : b < 256) (hc : c < 256) : reg P16 65535 (q ++ [b, c]) = 61624 ↔ b + 256 * c = fcs q := by
  have hr : reg P16 65535 q < 2 ^ 16 := reg16_lt hq
  have hm : b + 256 * c < 2 ^ 16 := by omega
  rw [reg_two q b c hq hb hc, ← rest16]
  constructor
  · intro h
    exact (xor_flip hr hm).mp (stps_inj p16_lt p16_top 16 (Nat.xor_lt_two_pow hr hm) (by decide) h)
  · intro h
    rw [(xor_flip hr hm).mpr h]
theorem right_add (q : List Nat) (hq : ∀ z ∈ q, z < 256) : rightB (addL q) = true := by
  have hf := fcs_lt hq
  unfold U16 at hf
  unfold rightB
  rw [decide_eq_true (by rw [length_add]; omega), Bool.true_and, beq_iff_eq]
  exact (right_two q _ _ hq (Nat.mod_lt _ (by decide)) (by omega)).mpr (by omega)
theorem right_iff (l : List Nat) (hl : ∀ z ∈ l, z < 256) (h2 : 2 ≤ l.length) : (addL (l.take (l.length - 2)) = l) ↔ reg P16 65535 l = 61624 := by
  have hd : l.take (l.length - 2) ++ l.drop (l.length - 2) = l := List.take_append_drop _ _
  have hdl : (l.drop (l.length - 2)).length = 2 := by simp; omega
  obtain ⟨b, c, hbc⟩ : ∃ b c, l.drop (l.length - 2) = [b, c] := by
    match h : l.drop (l.length - 2), hdl with
    | [b, c], _ => exact ⟨b, c, rfl⟩
  have hdb : ∀ z ∈ [b, c], z < 256 := fun z hz => hl z (List.mem_of_mem_drop (hbc ▸ hz))
  have hb := hdb b (by simp)
  have hc := hdb c (by simp)
  have hq : ∀ z ∈ l.take (l.length - 2), z < 256 := fun z hz => hl z (List.mem_of_mem_take hz)
  rw [hbc] at hd
  obtain ⟨q, hq'⟩ : ∃ q, l.take (l.length - 2) = q := ⟨_, rfl⟩
  rw [hq'] at hd hq ⊢
  have hf := fcs_lt hq
  unfold U16 at hf
  rw [← hd, right_two q b c hq hb hc]
  unfold addL
  constructor
  · intro h
    have h1 := List.append_cancel_left h
    simp at h1; omega
  · intro h
    congr 1
    simp; omega
theorem str_list (l : List Nat) : (strOf l).toList = l.map fun b => UInt8.ofNat b := by
  simp [strOf]
theorem str_beq {l r : List Nat} (hl : ∀ z ∈ l, z < 256) (hr : ∀ z ∈ r, z < 256) : ((strOf l).toList == (strOf r).toList) = decide (l = r) := by
  rw [Bool.eq_iff_iff]
  simp only [beq_iff_eq, decide_eq_true_eq]
  constructor
  · intro h
    refine strOf_inj hl hr ?_
    rw [str_list, str_list] at h
    unfold strOf; rw [h]
  · rintro rfl; rfl
theorem right_str (l : List Nat) (hl : ∀ z ∈ l, z < 256) (h2 : 2 ≤ l.length) : ((strOf (addL (l.take (l.length - 2)))).toList == (strOf l).toList) = rightB l := by
  rw [str_beq (add_bytes fun z hz => hl z (List.mem_of_mem_take hz)) hl, Bool.eq_iff_iff, decide_eq_true_eq, right_iff l hl h2]
  unfold rightB
  rw [decide_eq_true h2, Bool.true_and, beq_iff_eq]
set_option maxHeartbeats 400000 in
theorem RRight_two (A : Option Addr) (cap B : Nat) (l : List Nat) (w : World) (hr : Hid (Rd w B A l)) (hA : Hid (A = none → l.length = 0 ∧ cap = 0)) (hB : B ≤ w.heap.size) (hlc : l.length ≤ cap) (hc : cap ≤ 9223372036854775807) (hll : l.length ≤ 140737488355000) (h2 : 2 ≤ l.length) :
    Calls Try.prog 43 #[.slice A l.length cap] w fun e w' => e = .returned (.bool (rightB l)) ∧ Hid (Below w.heap.size w w') := by
  have hlen : (l.take (l.length - 2)).length = l.length - 2 := by simp
  have D := RAdd_any A cap B (l.take (l.length - 2)) w.drew ((hr.out.below (Below.refl _ _).drew).take _) (fun h => absurd (hA.out h).1 (by omega)) hB (by simp; omega)
  rw [hlen] at D
  have E := right_str l hr.out.1 h2
  obtain ⟨L, hL⟩ : ∃ L, addL (l.take (l.length - 2)) = L := ⟨_, rfl⟩
  rw [hL] at D E
  have HD := Lib.hid D
  have HE := Lib.hid E
  clear D E hL hlen
  have K0 := conv_rd w.drew B A l cap (hr.out.below (Below.refl _ _).drew) hA.out
  have g1 : (2 : Int) ≤ (l.length : Int) := by omega
  have g2 : decide ((2 : Int) ≤ (l.length : Int)) = true := decide_eq_true g1
  have g3 : IntKind.i64.wrap ((l.length : Int) - 2) = (l.length : Int) - 2 := IntWalk.i64_in _ (by omega)
  have g4 : (0 : Int) ≤ (l.length : Int) - 2 := by omega
  have g5 : (l.length : Int) - 2 ≤ (cap : Int) := by omega
  have g6 : ((l.length : Int) - 2).toNat = l.length - 2 := by omega
  go_enter Try.func43, Try.ntmps43
  go_wp2
  go_region_held (fun w' => (convert 22 9 (.slice A l.length cap)).run Try.prog w' = .ok (.string (strOf l)) w')
    (first | assumption)
    (first | (go_at_call 25; refine HD.out.mono ?_; rintro e w1 ⟨A1, c1, rfl, h1, h2, h3, h4⟩; have K1 := conv_rd w1 w1.heap.size A1 _ c1 h3.out.rd h3.out.2.2; have K2 := conv_rd w1 B A l cap ((hr.out.below (Below.refl _ _).drew).below (h4.out.mono hB)) hA.out))
  go_wp2
  go_ret
  exact ⟨ret_b HE.out, (Below.refl _ _).drew.trans h4.out⟩
theorem RRight_long (A : Option Addr) (cap B : Nat) (l : List Nat) (w : World) (hr : Hid (Rd w B A l)) (hA : Hid (A = none → l.length = 0 ∧ cap = 0)) (hB : B ≤ w.heap.size) (hlc : l.length ≤ cap) (hc : cap ≤ 9223372036854775807) (hll : l.length ≤ 140737488355000) :
    Calls Try.prog 43 #[.slice A l.length cap] w fun e w' => e = .returned (.bool (rightB l)) ∧ Hid (Below w.heap.size w w') := by
  by_cases h2 : 2 ≤ l.length
  · exact RRight_two A cap B l w hr hA hB hlc hc hll h2
  · have HR : Hid (rightB l = false) := by
      show rightB l = false
      unfold rightB; rw [decide_eq_false h2, Bool.false_and]
    have g1 : (l.length : Int) < (2 : Int) := by omega
    have g2 : decide ((2 : Int) ≤ (l.length : Int)) = false := decide_eq_false (by omega)
    go_enter Try.func43, Try.ntmps43
    go_wp2
    go_quiet (fail)
    go_wp2
    go_ret
    exact ⟨ret_b HR.out.symm, below_drewN (Below.refl _ _) _⟩
theorem RRight_any (A : Option Addr) (cap B : Nat) (l : List Nat) (w : World) (hr : Hid (Rd w B A l)) (hA : Hid (A = none → l.length = 0 ∧ cap = 0)) (hB : B ≤ w.heap.size) (hlc : l.length ≤ cap) (hc : cap ≤ 140737488355000) :
    Calls Try.prog 43 #[.slice A l.length cap] w fun e w' => e = .returned (.bool (rightB l)) ∧ Hid (Below w.heap.size w w') :=
  RRight_long A cap B l w hr hA hB hlc (by omega) (by omega)
end Go.Proofs.Ytoaffkmjobmhaaa.Cr
