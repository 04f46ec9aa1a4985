/- A byte turned. -/
import Derived.Test.YtcdpdijfgeeenaaLnFun
namespace Go.Proofs.Ytcdpdijfgeeenaa.Li
open Go.RowKit
open Go.Proofs.Ytcdpdijfgeeenaa.Sb
set_option linter.unusedVariables false
set_option linter.unusedSimpArgs false

theorem and255 (n : Int) : bits .and .i64 n 255 = n % 256 := by
  show IntKind.i64.wrap ((BitVec.ofInt 64 n &&& BitVec.ofInt 64 255).toNat : Int) = _
  have h1 : (BitVec.ofInt 64 n &&& BitVec.ofInt 64 255).toNat = (n % 18446744073709551616).toNat % 256 := by
    rw [BitVec.toNat_and]
    have e1 : (BitVec.ofInt 64 n).toNat = (n % 18446744073709551616).toNat := by rw [BitVec.toNat_ofInt]; rfl
    have e2 : (BitVec.ofInt 64 255).toNat = 2 ^ 8 - 1 := by decide +kernel
    rw [e1, e2, Nat.and_two_pow_sub_one_eq_mod]
  rw [h1, Mi.fits' ⟨by omega, by omega⟩]
  omega
/-- A mask's lowest eight bits. -/
def low8 (n : Int) : Nat := (n % 256).toNat
theorem low8_lt (n : Int) : low8 n < 256 := by unfold low8; omega
theorem low_conv (n : Int) : IntKind.u8.wrap (bits .and .i64 n 255) = (low8 n : Int) := by
  rw [and255]
  unfold low8
  simp [IntKind.wrap, IntKind.bits, IntKind.signed]
  omega
theorem Flip_nil (k n : Int) (w : World) : Calls Try.prog 19 #[.pointer none, .int .i64 k, .int .i64 n] w fun e w' => e = .returned (.int .i64 7) ∧ w = w' := by
  have HC := low_conv n
  have hb := low8_lt n
  obtain ⟨m, hm⟩ : ∃ m, low8 n = m := ⟨_, rfl⟩
  rw [hm] at HC
  go_enter Try.func19, Try.ntmps19
  go_wp2
  go_ret
  exact ⟨rfl, rfl⟩
/-- Flip's error. -/
def flipN (s : Ln) (k n : Int) : Nat := if k < 0 ∨ (s.bs.length : Int) ≤ k then 1 else if low8 n = 0 then 2 else 0
theorem Flip_bad (w : World) (D : Nat) (s : Ln) (vb vd : Value) (h : Hid (Lq w D s vb vd)) (k n : Int) (hk : k < 0 ∨ (s.bs.length : Int) ≤ k) : Calls Try.prog 19 #[.pointer (some ⟨D, 0, none⟩), .int .i64 k, .int .i64 n] w fun e w' => e = .returned (.int .i64 1) ∧ w = w' := by
  have HC := low_conv n
  obtain ⟨m, hm⟩ : ∃ m, low8 n = m := ⟨_, rfl⟩
  rw [hm] at HC
  obtain ⟨A, c, rfl, _⟩ := h.out.formB
  obtain ⟨c0, c1, c2, c3⟩ := h.out.cells
  obtain ⟨l, hl⟩ : ∃ l, s.bs.length = l := ⟨_, rfl⟩
  rw [hl] at c2 hk
  by_cases h0 : k < 0
  · clear hk
    go_enter Try.func19, Try.ntmps19
    go_wp2
    go_ret
    exact ⟨rfl, rfl⟩
  · have h1 : (l : Int) ≤ k := by omega
    clear hk
    go_enter Try.func19, Try.ntmps19
    go_wp2
    go_ret
    exact ⟨rfl, rfl⟩
theorem Flip_zero (w : World) (D : Nat) (s : Ln) (vb vd : Value) (h : Hid (Lq w D s vb vd)) (k : Nat) (n : Int) (hk : k < s.bs.length) (hz : low8 n = 0) : Calls Try.prog 19 #[.pointer (some ⟨D, 0, none⟩), .int .i64 (k : Int), .int .i64 n] w fun e w' => e = .returned (.int .i64 2) ∧ w = w' := by
  have HC := low_conv n
  rw [hz] at HC
  obtain ⟨A, c, rfl, _⟩ := h.out.formB
  obtain ⟨c0, c1, c2, c3⟩ := h.out.cells
  obtain ⟨l, hl⟩ : ∃ l, s.bs.length = l := ⟨_, rfl⟩
  rw [hl] at c2 hk
  have h1 : ¬ (l : Int) ≤ (k : Int) := by omega
  have h2 : ((0 : Nat) : Int) = 0 := rfl
  rw [h2] at HC
  clear h2
  go_enter Try.func19, Try.ntmps19
  go_wp2
  go_ret
  exact ⟨rfl, rfl⟩
theorem by_lt {l : List Nat} (h : ∀ z ∈ l, z < 256) (k : Nat) : Me.by_ l k < 256 := by
  unfold Me.by_
  rw [List.getD_eq_getElem?_getD]
  cases hx : l[k]? with
  | none => simp
  | some x => exact h x (List.mem_of_getElem? hx)
theorem Flip_ok (w : World) (D : Nat) (s : Ln) (vb vd : Value) (h : Hid (Lq w D s vb vd)) (ok : Hid s.Ok) (k : Nat) (n : Int) (hk : k < s.bs.length) (hz : low8 n ≠ 0) : Calls Try.prog 19 #[.pointer (some ⟨D, 0, none⟩), .int .i64 (k : Int), .int .i64 n] w fun e w' => e = .returned (.int .i64 0) ∧ Hid (Aft w D vb vd (flipL s k (low8 n)) w') := by
  have HC := low_conv n
  have hm2 := low8_lt n
  obtain ⟨m, hm⟩ : ∃ m, low8 n = m := ⟨_, rfl⟩
  rw [hm] at HC hz hm2 ⊢
  have q1 : ((m : Int) == 0) = false := beq_eq_false_iff_ne.mpr (by omega)
  obtain ⟨c0, c1, c2, c3⟩ := h.out.cells
  obtain ⟨g, c, e, _, hlt⟩ := Me.Own.form h.out.ob (by omega)
  have hO := h.out.ob
  subst e
  obtain ⟨x1, x2⟩ := Me.Own.cell hO hk
  have hb := by_lt ok.out.byte k
  have HX : Hid (bits .xor .u8 (Me.by_ s.bs k : Int) (m : Int) = ((Me.by_ s.bs k ^^^ m : Nat) : Int)) := Me.xor8 (by unfold Me.U8; omega) (by unfold Me.U8; omega)
  have HS := Lib.hid (Me.Own.store hO k (Me.by_ s.bs k ^^^ m))
  have hne : g ≠ D := fun e => own_ne hO h.out.box (by decide) (by rw [← e]; rfl)
  have hG := Lib.hid (show (World.setCell w ⟨g, k, none⟩ (.int .u8 ((Me.by_ s.bs k ^^^ m : Nat) : Int))).heap[D]? = w.heap[D]? from Below.heap_setCell _ _ _ D (Ne.symm hne))
  have HQ : Hid (Aft w D (.slice (some ⟨g, 0, none⟩) s.bs.length c) vd (flipL s k m) (w.setCell ⟨g, k, none⟩ (.int .u8 ((Me.by_ s.bs k ^^^ m : Nat) : Int)))) := by
    refine ⟨_, vd, ⟨hG.out.trans h.out.box, HS.out, Mi.Own.same h.out.od fun q e _ => Below.heap_setCell _ _ _ q fun e2 => ?_⟩, (But.refl _ _).set (.inl (.inr (.inl rfl))) _, fun q hq => .inl hq⟩
    have e3 : q = g := e2
    subst e3
    exact h.out.neBD (k := q) rfl e
  obtain ⟨y, hy⟩ : ∃ y, Me.by_ s.bs k ^^^ m = y := ⟨_, rfl⟩
  rw [hy] at HX HQ
  obtain ⟨x, hx⟩ : ∃ x, Me.by_ s.bs k = x := ⟨_, rfl⟩
  rw [hx] at x1 HX
  have q2 : k < s.bs.length := hk
  obtain ⟨l, hl⟩ : ∃ l, s.bs.length = l := ⟨_, rfl⟩
  rw [hl] at c2 hk q2 HQ
  have h1 : ¬ (l : Int) ≤ (k : Int) := by omega
  have q3 := HX.out
  clear hO HS hx hy hl hm hG hlt hb HX hm2 hz
  go_enter Try.func19, Try.ntmps19
  go_wp2
  go_ret
  exact ⟨rfl, HQ⟩
end Go.Proofs.Ytcdpdijfgeeenaa.Li
