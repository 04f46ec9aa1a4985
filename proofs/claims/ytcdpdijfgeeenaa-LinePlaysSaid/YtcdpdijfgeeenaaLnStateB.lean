/- A line beside other memory: Insert and Drop. -/
import Derived.Test.YtcdpdijfgeeenaaLnState
import Derived.Test.YtcdpdijfgeeenaaLnOpsI
namespace Go.Proofs.Ytcdpdijfgeeenaa.Li
open Go.RowKit
open Go.Proofs.Ytcdpdijfgeeenaa.Sb
set_option linter.unusedVariables false
set_option linter.unusedSimpArgs false

theorem Insert_s {M : Nat} {O : Nat → Prop} {w : World} {D : Nat} {s : Ln} (h : Hid (Lr M O w D s)) (k b : Nat) (hk : k ≤ s.bs.length) (hb : b < 256) (hf : s.bs.length < 65536) :
    Calls Try.prog 17 #[.pointer (some ⟨D, 0, none⟩), .int .i64 (k : Int), .int .u8 (b : Int)] w fun e w' => e = .returned (.int .i64 0) ∧ Hid (Lr M O w' D (insL s k b)) ∧ Hid (But (Out M O) w w') := by
  obtain ⟨vb, vd, hq, hF⟩ := h.out.li
  refine (Insert_ok w D s vb vd (Lib.hid hq) (Lib.hid h.out.ok) k b hk hb hf).mono ?_
  rintro e w' ⟨rfl, ha⟩
  obtain ⟨h1, h2⟩ := h.out.aft hF (insL_ok h.out.ok hk hb hf) ha.out
  exact ⟨rfl, h1, h2⟩
theorem Drop_s {M : Nat} {O : Nat → Prop} {w : World} {D : Nat} {s : Ln} (h : Hid (Lr M O w D s)) (k n : Nat) (hkn : k + n ≤ s.bs.length) :
    Calls Try.prog 18 #[.pointer (some ⟨D, 0, none⟩), .int .i64 (k : Int), .int .i64 (n : Int)] w fun e w' => e = .returned (.int .i64 0) ∧ Hid (Lr M O w' D (cutL s k n)) ∧ Hid (But (Out M O) w w') := by
  obtain ⟨vb, vd, hq, hF⟩ := h.out.li
  refine (Drop_ok w D s vb vd (Lib.hid hq) (Lib.hid h.out.ok) k n hkn).mono ?_
  rintro e w' ⟨rfl, ha⟩
  obtain ⟨h1, h2⟩ := h.out.aft hF (cutL_ok h.out.ok k n) ha.out
  exact ⟨rfl, h1, h2⟩
/-- Insert's error. -/
def insN (s : Ln) (k : Int) : Nat := if k < 0 ∨ (s.bs.length : Int) < k then 1 else if s.bs.length = 65536 then 6 else 0
def insS (s : Ln) (k : Int) (b : Nat) : Ln := if insN s k = 0 then insL s k.toNat b else s
def cutN (s : Ln) (k n : Int) : Nat := if dropB s k n then 1 else 0
def cutS (s : Ln) (k n : Int) : Ln := if dropB s k n then s else cutL s k.toNat n.toNat
def flipS (s : Ln) (k n : Int) : Ln := if flipN s k n = 0 then flipL s k.toNat (low8 n) else s
theorem Insert_e {M : Nat} {O : Nat → Prop} {w : World} {D : Nat} {s : Ln} (h : Hid (Lr M O w D s)) (k : Int) (b : Nat) (hb : b < 256) :
    Calls Try.prog 17 #[.pointer (some ⟨D, 0, none⟩), .int .i64 k, .int .u8 (b : Int)] w fun e w' => e = .returned (.int .i64 (insN s k : Int)) ∧ Hid (Lr M O w' D (insS s k b)) ∧ Hid (But (Out M O) w w') := by
  obtain ⟨vb, vd, hq, hF⟩ := h.out.li
  have hrm := h.out.ok.room
  by_cases h1 : k < 0 ∨ (s.bs.length : Int) < k
  · have e1 : insN s k = 1 := by unfold insN; rw [if_pos h1]
    have e2 : insS s k b = s := by unfold insS; rw [e1]; rfl
    rw [e1, e2]
    refine (Insert_bad w D s vb vd (Lib.hid hq) k _ h1).mono ?_
    rintro e w' ⟨rfl, rfl⟩
    exact ⟨rfl, h, But.refl _ _⟩
  · obtain ⟨j, rfl⟩ : ∃ j : Nat, k = (j : Int) := ⟨k.toNat, by omega⟩
    by_cases h2 : s.bs.length = 65536
    · have e1 : insN s j = 6 := by unfold insN; rw [if_neg h1, if_pos h2]
      have e2 : insS s j b = s := by unfold insS; rw [e1]; rfl
      rw [e1, e2]
      refine (Insert_full w D s vb vd (Lib.hid hq) j _ (by omega) h2).mono ?_
      rintro e w' ⟨rfl, rfl⟩
      exact ⟨rfl, h, But.refl _ _⟩
    · have e1 : insN s j = 0 := by unfold insN; rw [if_neg h1, if_neg h2]
      have e2 : insS s j b = insL s j b := by unfold insS; rw [e1]; rfl
      rw [e1, e2]
      exact Insert_s h j b (by omega) hb (by omega)
theorem Drop_e {M : Nat} {O : Nat → Prop} {w : World} {D : Nat} {s : Ln} (h : Hid (Lr M O w D s)) (k n : Int) (hk : Mi.I64 k) (hn : Mi.I64 n) :
    Calls Try.prog 18 #[.pointer (some ⟨D, 0, none⟩), .int .i64 k, .int .i64 n] w fun e w' => e = .returned (.int .i64 (cutN s k n : Int)) ∧ Hid (Lr M O w' D (cutS s k n)) ∧ Hid (But (Out M O) w w') := by
  obtain ⟨vb, vd, hq, hF⟩ := h.out.li
  cases hd : dropB s k n with
  | true =>
    have e1 : cutN s k n = 1 := by unfold cutN; rw [hd]; rfl
    have e2 : cutS s k n = s := by unfold cutS; rw [hd]; rfl
    rw [e1, e2]
    refine (Drop_bad w D s vb vd (Lib.hid hq) (Lib.hid h.out.ok) k n hk hn hd).mono ?_
    rintro e w' ⟨rfl, rfl⟩
    exact ⟨rfl, h, But.refl _ _⟩
  | false =>
    have e1 : cutN s k n = 0 := by unfold cutN; rw [hd]; rfl
    have e2 : cutS s k n = cutL s k.toNat n.toNat := by unfold cutS; rw [hd]; rfl
    unfold dropB at hd
    simp only [Bool.or_eq_false_iff, decide_eq_false_iff_not] at hd
    obtain ⟨j, rfl⟩ : ∃ j : Nat, k = (j : Int) := ⟨k.toNat, by omega⟩
    obtain ⟨m, rfl⟩ : ∃ j : Nat, n = (j : Int) := ⟨n.toNat, by omega⟩
    rw [e1, e2]
    exact Drop_s h j m (by omega)
theorem Flip_e {M : Nat} {O : Nat → Prop} {w : World} {D : Nat} {s : Ln} (h : Hid (Lr M O w D s)) (k n : Int) :
    Calls Try.prog 19 #[.pointer (some ⟨D, 0, none⟩), .int .i64 k, .int .i64 n] w fun e w' => e = .returned (.int .i64 (flipN s k n : Int)) ∧ Hid (Lr M O w' D (flipS s k n)) ∧ Hid (But (Out M O) w w') := by
  obtain ⟨vb, vd, hq, hF⟩ := h.out.li
  by_cases h1 : k < 0 ∨ (s.bs.length : Int) ≤ k
  · have e1 : flipN s k n = 1 := by unfold flipN; rw [if_pos h1]
    have e2 : flipS s k n = s := by unfold flipS; rw [e1]; rfl
    rw [e1, e2]
    refine (Flip_bad w D s vb vd (Lib.hid hq) k n h1).mono ?_
    rintro e w' ⟨rfl, rfl⟩
    exact ⟨rfl, h, But.refl _ _⟩
  · obtain ⟨j, rfl⟩ : ∃ j : Nat, k = (j : Int) := ⟨k.toNat, by omega⟩
    by_cases h2 : low8 n = 0
    · have e1 : flipN s j n = 2 := by unfold flipN; rw [if_neg h1, if_pos h2]
      have e2 : flipS s j n = s := by unfold flipS; rw [e1]; rfl
      rw [e1, e2]
      refine (Flip_zero w D s vb vd (Lib.hid hq) j n (by omega) h2).mono ?_
      rintro e w' ⟨rfl, rfl⟩
      exact ⟨rfl, h, But.refl _ _⟩
    · have e1 : flipN s j n = 0 := by unfold flipN; rw [if_neg h1, if_neg h2]
      have e2 : flipS s j n = flipL s j (low8 n) := by unfold flipS; rw [e1]; rfl
      rw [e1, e2]
      exact Flip_s h j n (by omega) h2
end Go.Proofs.Ytcdpdijfgeeenaa.Li
