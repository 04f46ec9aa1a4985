/- The bytes of two right ids are in the order of the ids. -/
import Derived.Test.YtohfoieibgmmdaaMgPut
import Derived.Sort.Walk0
namespace Go.Proofs.Ytohfoieibgmmdaa.Mg
open Go.RowKit
open Go.Proofs.Ytohfoieibgmmdaa.Me Go.Proofs.Ytohfoieibgmmdaa.Ba Go.Proofs.Ytohfoieibgmmdaa.Ma
set_option linter.unusedVariables false
set_option linter.unusedSimpArgs false

theorem u8_lt {x y : Nat} (hx : x < 256) (hy : y < 256) : UInt8.ofNat x < UInt8.ofNat y ↔ x < y := by
  rw [UInt8.lt_iff_toNat_lt, UInt8.toNat_ofNat', UInt8.toNat_ofNat']
  omega
theorem u8_eq {x y : Nat} (hx : x < 256) (hy : y < 256) : UInt8.ofNat x = UInt8.ofNat y ↔ x = y := by
  rw [← UInt8.toNat_inj, UInt8.toNat_ofNat', UInt8.toNat_ofNat']
  omega
theorem idL_six (i : Id4) : idL i = [i.o.toNat % 256, i.d.toNat % 256, i.e.toNat / 256 % 256, i.e.toNat % 256, i.c.toNat / 256 % 256, i.c.toNat % 256] := by
  simp [idL, bytK, byts, szk, ix]
theorem ltB_iff (a b : Id4) : ltB a b = true ↔ a.o < b.o ∨ a.o = b.o ∧ (a.d < b.d ∨ a.d = b.d ∧ (a.e < b.e ∨ a.e = b.e ∧ a.c < b.c)) := by
  unfold ltB
  repeat' split
  all_goals simp only [decide_eq_true_eq]
  all_goals omega
theorem lex_str (a b : Id4) (ha : Right a) (hb : Right b) : Op.bytesLess (strOf (idL a)).toList (strOf (idL b)).toList = ltB a b := by
  have a0 := ha.o0; have a1 := ha.o1; have a2 := ha.d0; have a3 := ha.d1; have a4 := ha.e0; have a5 := ha.e1; have a6 := ha.c0; have a7 := ha.c1
  have b0 := hb.o0; have b1 := hb.o1; have b2 := hb.d0; have b3 := hb.d1; have b4 := hb.e0; have b5 := hb.e1; have b6 := hb.c0; have b7 := hb.c1
  rw [bytesLess_eq, Lib.toList_data, Lib.toList_data, idL_six, idL_six]
  apply Bool.eq_iff_iff.2
  rw [decide_eq_true_iff, ltB_iff]
  obtain ⟨o, d, e, c⟩ := a
  obtain ⟨p, q, f, g⟩ := b
  simp only at *
  obtain ⟨o, rfl⟩ := Int.eq_ofNat_of_zero_le a0
  obtain ⟨d, rfl⟩ := Int.eq_ofNat_of_zero_le a2
  obtain ⟨e, rfl⟩ := Int.eq_ofNat_of_zero_le (show 0 ≤ e by omega)
  obtain ⟨c, rfl⟩ := Int.eq_ofNat_of_zero_le (show 0 ≤ c by omega)
  obtain ⟨p, rfl⟩ := Int.eq_ofNat_of_zero_le b0
  obtain ⟨q, rfl⟩ := Int.eq_ofNat_of_zero_le b2
  obtain ⟨f, rfl⟩ := Int.eq_ofNat_of_zero_le (show 0 ≤ f by omega)
  obtain ⟨g, rfl⟩ := Int.eq_ofNat_of_zero_le (show 0 ≤ g by omega)
  simp only [Int.toNat_natCast, strOf, List.map_cons, List.map_nil, List.cons_lt_cons_iff, List.lt_irrefl, and_false, or_false]
  have m : ∀ x : Nat, x % 256 < 256 := fun x => Nat.mod_lt _ (by decide)
  simp only [u8_lt (m _) (m _), u8_eq (m _) (m _), Int.ofNat_lt, Int.natCast_inj]
  omega
theorem ltB_asymm {a b : Id4} (h : ltB a b = true) : ltB b a = false := by
  rw [Bool.eq_false_iff, Ne, ltB_iff]
  rw [ltB_iff] at h
  omega
theorem ltB_trans {a b c : Id4} (h : ltB a b = true) (h2 : ltB b c = true) : ltB a c = true := by
  rw [ltB_iff] at h h2 ⊢
  omega
theorem ltB_irrefl (a : Id4) : ltB a a = false := by
  rw [Bool.eq_false_iff, Ne, ltB_iff]
  omega
theorem ltB_total {a b : Id4} (h : ltB a b = false) (h2 : ltB b a = false) : a = b := by
  rw [Bool.eq_false_iff, Ne, ltB_iff] at h h2
  obtain ⟨o, d, e, c⟩ := a
  obtain ⟨p, q, r, s⟩ := b
  simp only at h h2
  obtain rfl : o = p := by omega
  obtain rfl : d = q := by omega
  obtain rfl : e = r := by omega
  obtain rfl : c = s := by omega
  rfl
end Go.Proofs.Ytohfoieibgmmdaa.Mg
