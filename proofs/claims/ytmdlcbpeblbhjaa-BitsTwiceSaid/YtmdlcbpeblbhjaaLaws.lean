/- The laws of bits that speak of numbers alone: each returns true, whatever its arguments, and leaves what was there as it was. -/
import Derived.Test.YtmdlcbpeblbhjaaAwake
namespace Go.Proofs.Ytmdlcbpeblbhjaa.Wa
open Go.RowKit
open Go.Proofs.Ytmdlcbpeblbhjaa.Ma
open Go.Proofs.Ytmdlcbpeblbhjaa.Ba
open Go.Proofs.Ytmdlcbpeblbhjaa.Nu
open Go.Proofs.Ytmdlcbpeblbhjaa.Me
open Go.Proofs.Ytmdlcbpeblbhjaa.Aw
set_option linter.unusedVariables false

theorem u64_nat {n : Int} (h : (Lit.int .u64 n).wf = true) : ∃ m : Nat, n = m ∧ Hid (m < U) := by
  have hb := bounds_u64 h
  exact ⟨n.toNat, by omega, by show n.toNat < U; unfold U; omega⟩
theorem awake_below {w0 w : World} (hb : Hid (Below w0.heap.size w0 w)) : Calls Try.prog 13 #[] w fun e w' => e = .returned (.bool true) ∧ Hid (Below w0.heap.size w0 w') :=
  (awake_any w).mono fun _ _ ⟨he, h⟩ => ⟨he, hb.out.trans (h.mono hb.out.size)⟩
/-- An answer of a number and a word. -/
def ans (n : Nat) (e : Int) : Value := .tuple #[.int .u64 (n : Int), .int .i64 e]
theorem fldE_ans (n : Nat) (a s : Int) : ∃ k e, fldE n a s = ans k e := by
  unfold fldE; split
  · exact ⟨_, _, rfl⟩
  · exact ⟨0, 1, rfl⟩
theorem fields (n a s : Int) (w : World) (w0 : (Lit.int .u64 n).wf = true) (w1 : (Lit.int .i64 a).wf = true) (w2 : (Lit.int .i64 s).wf = true) :
    Calls Try.prog 5 #[.int .u64 n, .int .i64 a, .int .i64 s] w fun e w' => e = .returned (.bool true) ∧ Below w.heap.size w w' := by
  obtain ⟨n, rfl, hn⟩ := u64_nat w0
  obtain ⟨k, x, hk⟩ := fldE_ans n a s
  have C1 := fun w => Field_any n a s hn w
  have C2 := fun w => RField_any n a s w
  rw [hk] at C1 C2
  have D1 := Lib.hid C1
  have D2 := Lib.hid C2
  clear C1 C2 hk w0 w1 w2
  have hb0 : Hid (Below w.heap.size w w) := Below.refl _ _
  unfold ans at D1 D2
  go_enter Try.func5, Try.ntmps5
  go_wp2_with (first
    | (go_at_call 16; refine (D1.out _).mono ?_; rintro e w1 ⟨rfl, m, rfl⟩; have hb1 := Lib.hid (below_drewN hb0.out m))
    | (go_at_call 17; refine (D2.out _).mono ?_; rintro e w1 ⟨rfl, rfl⟩)
    | (go_at_call 13; refine (awake_below hb1).mono ?_; rintro e w2 ⟨rfl, hb2⟩))
  go_ret
  exact ⟨rfl, hb2.out⟩
theorem mirE_ans (n : Nat) (s : Int) : ∃ k e, mirE n s = ans k e := by
  unfold mirE; split
  · split
    · exact ⟨_, _, rfl⟩
    · exact ⟨0, 3, rfl⟩
  · exact ⟨0, 1, rfl⟩
theorem mirrors (n s : Int) (w : World) (w0 : (Lit.int .u64 n).wf = true) (w1 : (Lit.int .i64 s).wf = true) :
    Calls Try.prog 7 #[.int .u64 n, .int .i64 s] w fun e w' => e = .returned (.bool true) ∧ Below w.heap.size w w' := by
  obtain ⟨n, rfl, hn⟩ := u64_nat w0
  obtain ⟨k, x, hk⟩ := mirE_ans n s
  have C1 := fun w => Mirror_any n s hn w
  have C2 := fun w => RMirror_any n s hn w
  rw [hk] at C1 C2
  have D1 := Lib.hid C1
  have D2 := Lib.hid C2
  clear C1 C2 hk w0 w1
  have hb0 : Hid (Below w.heap.size w w) := Below.refl _ _
  unfold ans at D1 D2
  go_enter Try.func7, Try.ntmps7
  go_wp2_with (first
    | (go_at_call 20; refine (D1.out _).mono ?_; rintro e w1 ⟨rfl, rfl⟩)
    | (go_at_call 21; refine (D2.out _).mono ?_; rintro e w1 ⟨rfl, rfl⟩)
    | (go_at_call 22; refine (Count_any _ hn _).mono ?_; rintro e w1 ⟨rfl, rfl⟩)
    | (go_at_call 23; refine (RCount_any _ _).mono ?_; rintro e w1 ⟨rfl, rfl⟩)
    | (go_at_call 13; refine (awake_below hb0).mono ?_; rintro e w2 ⟨rfl, hb2⟩))
  go_ret
  exact ⟨rfl, hb2.out⟩
theorem twice (n s : Int) (w : World) (w0 : (Lit.int .u64 n).wf = true) (w1 : (Lit.int .i64 s).wf = true) :
    Calls Try.prog 10 #[.int .u64 n, .int .i64 s] w fun e w' => e = .returned (.bool true) ∧ Below w.heap.size w w' := by
  obtain ⟨n, rfl, hn⟩ := u64_nat w0
  have hb0 : Hid (Below w.heap.size w w) := Below.refl _ _
  by_cases hr : sizeB 64 s = true
  · obtain ⟨s, rfl, h1, h2⟩ := size_nat hr
    by_cases hf : fitsB n s = true
    · have hlt : n < 2 ^ s := of_decide_eq_true hf
      have hm : mir n s < 2 ^ s := mir_lt n s
      have hmU : Hid (mir n s < U) := Nat.lt_of_lt_of_le hm (Nat.pow_le_pow_right (by decide) h2)
      have C1 := fun w => Mirror_any n s hn w
      have C2 := fun w => Mirror_any (mir n s) s hmU w
      rw [show mirE n s = ans (mir n s) 0 from mirE_fits hr hf] at C1
      rw [show mirE (mir n s) s = ans n 0 from (mirE_fits (n := mir n s) hr (decide_eq_true hm)).trans (by rw [show acc (fun j => bitB (mir n s) j) s = n from mir_mir hlt]; rfl)] at C2
      have C3 := fun w => Count_any (mir n s) hmU w
      rw [show cntN (mir n s) 64 = cntN n 64 from cnt_mir hlt h2] at C3
      obtain ⟨k, hk⟩ : ∃ k, mir n s = k := ⟨_, rfl⟩
      rw [hk] at C1 C2 C3
      have D1 := Lib.hid C1
      have D2 := Lib.hid C2
      have D3 := Lib.hid C3
      clear C1 C2 C3 hk hmU hm hlt w0 w1
      unfold ans at D1 D2
      have tok : True := trivial
      go_enter Try.func10, Try.ntmps10
      go_wp2_with (first
        | (go_at_call 20; have _t := tok; refine (D1.out _).mono ?_; rintro e w1 ⟨rfl, rfl⟩; clear tok)
        | (go_at_call 20; (with_reducible refine (D2.out _).mono ?_); rintro e w1 ⟨rfl, rfl⟩)
        | (go_at_call 22; (with_reducible refine (D3.out _).mono ?_); rintro e w1 ⟨rfl, rfl⟩)
        | (go_at_call 22; refine (Count_any n hn _).mono ?_; rintro e w1 ⟨rfl, rfl⟩)
        | (go_at_call 13; refine (awake_below hb0).mono ?_; rintro e w2 ⟨rfl, hb2⟩))
      go_ret
      exact ⟨rfl, hb2.out⟩
    · have C1 := fun w => Mirror_any n s hn w
      rw [show mirE n s = ans 0 3 from mirE_long hr (by simpa using hf)] at C1
      have D1 := Lib.hid C1
      clear C1
      unfold ans at D1
      go_enter Try.func10, Try.ntmps10
      go_wp2_with (first
        | (go_at_call 20; refine (D1.out _).mono ?_; rintro e w1 ⟨rfl, rfl⟩)
        | (go_at_call 13; refine (awake_below hb0).mono ?_; rintro e w2 ⟨rfl, hb2⟩))
      go_ret
      exact ⟨rfl, hb2.out⟩
  · have C1 := fun w => Mirror_any n s hn w
    rw [show mirE n s = ans 0 1 from mirE_size (by simpa using hr)] at C1
    have D1 := Lib.hid C1
    clear C1
    unfold ans at D1
    go_enter Try.func10, Try.ntmps10
    go_wp2_with (first
      | (go_at_call 20; refine (D1.out _).mono ?_; rintro e w1 ⟨rfl, rfl⟩)
      | (go_at_call 13; refine (awake_below hb0).mono ?_; rintro e w2 ⟨rfl, hb2⟩))
    go_ret
    exact ⟨rfl, hb2.out⟩
theorem setE_ans (n : Nat) (a s : Int) (v : Nat) : ∃ k e, setE n a s v = ans k e := by
  unfold setE; split
  · split
    · exact ⟨_, _, rfl⟩
    · exact ⟨0, 3, rfl⟩
  · exact ⟨0, 1, rfl⟩
theorem sets (n a s v : Int) (w : World) (w0 : (Lit.int .u64 n).wf = true) (w1 : (Lit.int .i64 a).wf = true) (w2 : (Lit.int .i64 s).wf = true) (w3 : (Lit.int .u64 v).wf = true) :
    Calls Try.prog 6 #[.int .u64 n, .agg #[.int .i64 a, .int .i64 s], .int .u64 v] w fun e w' => e = .returned (.bool true) ∧ Below w.heap.size w w' := by
  obtain ⟨n, rfl, hn⟩ := u64_nat w0
  obtain ⟨v, rfl, hv⟩ := u64_nat w3
  obtain ⟨k, x, hk⟩ := setE_ans n a s v
  have C1 := fun w => Set_any n a s v hn w
  have C2 := fun w => RSet_any n a s v hv w
  rw [hk] at C1 C2
  have D1 := Lib.hid C1
  have D2 := Lib.hid C2
  clear C1 C2 hk w0 w1 w2 w3
  have hb0 : Hid (Below w.heap.size w (w.alloc (.cells #[.int .i64 a, .int .i64 s] 35))) := (Below.refl _ _).alloc (Nat.le_refl _) _
  unfold ans at D1 D2
  go_enter Try.func6, Try.ntmps6
  go_wp2_with (first
    | (go_at_call 18; refine (D1.out _).mono ?_; rintro e w1 ⟨rfl, m, rfl⟩; have hb1 := Lib.hid (below_drewN hb0.out m))
    | (go_at_call 19; refine (D2.out _).mono ?_; rintro e w1 ⟨rfl, rfl⟩)
    | (go_at_call 13; refine (awake_below hb1).mono ?_; rintro e w2 ⟨rfl, hb2⟩))
  go_ret
  exact ⟨rfl, hb2.out⟩
/-- The number with all bits turned is a number. -/
theorem notU (n : Nat) : ∃ m : Nat, bits .xor .u64 IntKind.u64.max (n : Int) = m ∧ m < U := by
  refine ⟨((BitVec.ofInt 64 IntKind.u64.max ^^^ BitVec.ofInt 64 (n : Int)).toNat), ?_, (BitVec.isLt _)⟩
  exact wrapU_nat (BitVec.isLt _)
theorem field_ok (n a s : Nat) (h : rightB a s = true) (hn : Hid (n < U)) (w : World) :
    Calls Try.prog 16 #[.int .u64 (n : Int), .int .i64 (a : Int), .int .i64 (s : Int)] w fun e w' => e = .returned (ans (fld n a s) 0) ∧ ∃ m, w' = w.drewN m := by
  have := Field_any n a s hn w
  unfold fldE at this
  rw [if_pos h] at this
  exact this
theorem field_no (n : Nat) (a s : Int) (h : rightB a s = false) (hn : Hid (n < U)) (w : World) :
    Calls Try.prog 16 #[.int .u64 (n : Int), .int .i64 a, .int .i64 s] w fun e w' => e = .returned (ans 0 1) ∧ ∃ m, w' = w.drewN m := by
  have := Field_any n a s hn w
  unfold fldE at this
  rw [if_neg (by simp [h])] at this
  exact this
set_option maxRecDepth 100000 in
set_option maxHeartbeats 1000000 in
theorem keeps (n a s b t : Int) (w : World) (w0 : (Lit.int .u64 n).wf = true) (w1 : (Lit.int .i64 a).wf = true) (w2 : (Lit.int .i64 s).wf = true) (w3 : (Lit.int .i64 b).wf = true) (w4 : (Lit.int .i64 t).wf = true) :
    Calls Try.prog 9 #[.int .u64 n, .agg #[.int .i64 a, .int .i64 s], .agg #[.int .i64 b, .int .i64 t]] w fun e w' => e = .returned (.bool true) ∧ Below w.heap.size w w' := by
  obtain ⟨n, rfl, hn⟩ := u64_nat w0
  clear w0 w1 w2 w3 w4
  obtain ⟨x, hx, hxU⟩ := notU n
  have hb0 : Hid (Below w.heap.size w ((w.alloc (.cells #[.int .i64 a, .int .i64 s] 35)).alloc (.cells #[.int .i64 b, .int .i64 t] 35))) :=
    ((Below.refl _ _).alloc (Nat.le_refl _) _).alloc (by simp) _
  by_cases hr : rightB a s = true
  · obtain ⟨a, s, rfl, rfl, h1, h2⟩ := right_nat hr
    have hv : fld x a s < 2 ^ s := fld_lt x a s
    have F1 := fun w => field_ok x a s hr hxU w
    have FS := fun w => Set_any n a s (fld x a s) hn w
    rw [← hx] at F1
    rw [show setE n a s (fld x a s) = ans (set_ n a s (fld x a s)) 0 from setE_fits hr (decide_eq_true hv)] at FS
    have hMU : Hid (set_ n a s (fld x a s) < U) := set_lt n a s (fld x a s)
    have F2 := fun w => field_ok (set_ n a s (fld x a s)) a s hr hMU w
    rw [fld_set hv h2] at F2
    by_cases hq : rightB b t = true
    · obtain ⟨b, t, rfl, rfl, h3, h4⟩ := right_nat hq
      have F3 := fun w => field_ok n b t hq hn w
      have F4 := fun w => field_ok (set_ n a s (fld x a s)) b t hq hMU w
      by_cases hd : a + s ≤ b
      · rw [fld_set_other h4 (.inl hd)] at F4
        obtain ⟨v, hv'⟩ : ∃ v, fld x a s = v := ⟨_, rfl⟩
        obtain ⟨y, hy⟩ : ∃ y, fld n b t = y := ⟨_, rfl⟩
        rw [hv'] at F1 FS F2 F4
        obtain ⟨M, hM⟩ : ∃ M, set_ n a s v = M := ⟨_, rfl⟩
        rw [hM] at FS F2 F4
        rw [hy] at F3 F4
        unfold ans at F1 FS F2 F3 F4
        have D1 := Lib.hid F1
        have DS := Lib.hid FS
        have D2 := Lib.hid F2
        have D3 := Lib.hid F3
        have D4 := Lib.hid F4
        clear F1 FS F2 F3 F4 hv' hy hM hv hMU hx hxU
        go_enter Try.func9, Try.ntmps9
        go_wp2_with (first
          | (go_at_call 16; (with_reducible refine (D1.out _).mono ?_); rintro e w1 ⟨rfl, m1, rfl⟩)
          | (go_at_call 18; refine (DS.out _).mono ?_; rintro e w1 ⟨rfl, ms, rfl⟩)
          | (go_at_call 16; (with_reducible refine (D2.out _).mono ?_); rintro e w1 ⟨rfl, m2, rfl⟩)
          | (go_at_call 16; (with_reducible refine (D3.out _).mono ?_); rintro e w1 ⟨rfl, m3, rfl⟩)
          | (go_at_call 16; (with_reducible refine (D4.out _).mono ?_); rintro e w1 ⟨rfl, m4, rfl⟩)
          | (go_at_call 13; refine (awake_below (below_drewN hb0.out _)).mono ?_; rintro e w2 ⟨rfl, hb2⟩))
        go_ret
        exact ⟨rfl, hb2.out⟩
      · by_cases hd2 : b + t ≤ a
        · rw [fld_set_other h4 (.inr hd2)] at F4
          obtain ⟨v, hv'⟩ : ∃ v, fld x a s = v := ⟨_, rfl⟩
          obtain ⟨y, hy⟩ : ∃ y, fld n b t = y := ⟨_, rfl⟩
          rw [hv'] at F1 FS F2 F4
          obtain ⟨M, hM⟩ : ∃ M, set_ n a s v = M := ⟨_, rfl⟩
          rw [hM] at FS F2 F4
          rw [hy] at F3 F4
          unfold ans at F1 FS F2 F3 F4
          have D1 := Lib.hid F1
          have DS := Lib.hid FS
          have D2 := Lib.hid F2
          have D3 := Lib.hid F3
          have D4 := Lib.hid F4
          clear F1 FS F2 F3 F4 hv' hy hM hv hMU hx hxU
          go_enter Try.func9, Try.ntmps9
          go_wp2_with (first
            | (go_at_call 16; (with_reducible refine (D1.out _).mono ?_); rintro e w1 ⟨rfl, m1, rfl⟩)
            | (go_at_call 18; refine (DS.out _).mono ?_; rintro e w1 ⟨rfl, ms, rfl⟩)
            | (go_at_call 16; (with_reducible refine (D2.out _).mono ?_); rintro e w1 ⟨rfl, m2, rfl⟩)
            | (go_at_call 16; (with_reducible refine (D3.out _).mono ?_); rintro e w1 ⟨rfl, m3, rfl⟩)
            | (go_at_call 16; (with_reducible refine (D4.out _).mono ?_); rintro e w1 ⟨rfl, m4, rfl⟩)
            | (go_at_call 13; refine (awake_below (below_drewN hb0.out _)).mono ?_; rintro e w2 ⟨rfl, hb2⟩))
          go_ret
          exact ⟨rfl, hb2.out⟩
        · obtain ⟨v, hv'⟩ : ∃ v, fld x a s = v := ⟨_, rfl⟩
          obtain ⟨y, hy⟩ : ∃ y, fld n b t = y := ⟨_, rfl⟩
          rw [hv'] at F1 FS F2 F4
          obtain ⟨M, hM⟩ : ∃ M, set_ n a s v = M := ⟨_, rfl⟩
          rw [hM] at FS F2 F4
          obtain ⟨z, hz⟩ : ∃ z, fld M b t = z := ⟨_, rfl⟩
          rw [hz] at F4
          rw [hy] at F3
          unfold ans at F1 FS F2 F3 F4
          have D1 := Lib.hid F1
          have DS := Lib.hid FS
          have D2 := Lib.hid F2
          have D3 := Lib.hid F3
          have D4 := Lib.hid F4
          clear F1 FS F2 F3 F4 hv' hy hM hv hMU hx hxU hz
          go_enter Try.func9, Try.ntmps9
          go_wp2_with (first
            | (go_at_call 16; (with_reducible refine (D1.out _).mono ?_); rintro e w1 ⟨rfl, m1, rfl⟩)
            | (go_at_call 18; refine (DS.out _).mono ?_; rintro e w1 ⟨rfl, ms, rfl⟩)
            | (go_at_call 16; (with_reducible refine (D2.out _).mono ?_); rintro e w1 ⟨rfl, m2, rfl⟩)
            | (go_at_call 16; (with_reducible refine (D3.out _).mono ?_); rintro e w1 ⟨rfl, m3, rfl⟩)
            | (go_at_call 16; (with_reducible refine (D4.out _).mono ?_); rintro e w1 ⟨rfl, m4, rfl⟩)
            | (go_at_call 13; refine (awake_below (below_drewN hb0.out _)).mono ?_; rintro e w2 ⟨rfl, hb2⟩))
          go_ret
          exact ⟨rfl, hb2.out⟩
    · have hq : rightB b t = false := by simpa using hq
      have F3 := fun w => field_no n b t hq hn w
      have F4 := fun w => field_no (set_ n a s (fld x a s)) b t hq hMU w
      obtain ⟨v, hv'⟩ : ∃ v, fld x a s = v := ⟨_, rfl⟩
      rw [hv'] at F1 FS F2 F4
      obtain ⟨M, hM⟩ : ∃ M, set_ n a s v = M := ⟨_, rfl⟩
      rw [hM] at FS F2 F4
      unfold ans at F1 FS F2 F3 F4
      have D1 := Lib.hid F1
      have DS := Lib.hid FS
      have D2 := Lib.hid F2
      have D3 := Lib.hid F3
      have D4 := Lib.hid F4
      clear F1 FS F2 F3 F4 hv' hM hv hMU hx hxU
      go_enter Try.func9, Try.ntmps9
      go_wp2_with (first
        | (go_at_call 16; (with_reducible refine (D1.out _).mono ?_); rintro e w1 ⟨rfl, m1, rfl⟩)
        | (go_at_call 18; refine (DS.out _).mono ?_; rintro e w1 ⟨rfl, ms, rfl⟩)
        | (go_at_call 16; (with_reducible refine (D2.out _).mono ?_); rintro e w1 ⟨rfl, m2, rfl⟩)
        | (go_at_call 16; (with_reducible refine (D3.out _).mono ?_); rintro e w1 ⟨rfl, m3, rfl⟩)
        | (go_at_call 16; (with_reducible refine (D4.out _).mono ?_); rintro e w1 ⟨rfl, m4, rfl⟩)
        | (go_at_call 13; refine (awake_below (below_drewN hb0.out _)).mono ?_; rintro e w2 ⟨rfl, hb2⟩))
      go_ret
      exact ⟨rfl, hb2.out⟩
  · have hr : rightB a s = false := by simpa using hr
    have F1 := fun w => field_no x a s hr hxU w
    rw [← hx] at F1
    have FS := fun w => Set_any n a s 0 hn w
    rw [show setE n a s 0 = ans 0 1 from setE_right hr] at FS
    unfold ans at F1 FS
    have D1 := Lib.hid F1
    have DS := Lib.hid FS
    clear F1 FS hx hxU
    go_enter Try.func9, Try.ntmps9
    go_wp2_with (first
      | (go_at_call 16; (with_reducible refine (D1.out _).mono ?_); rintro e w1 ⟨rfl, m1, rfl⟩)
      | (go_at_call 18; refine (DS.out _).mono ?_; rintro e w1 ⟨rfl, ms, rfl⟩)
      | (go_at_call 13; refine (awake_below (below_drewN hb0.out _)).mono ?_; rintro e w2 ⟨rfl, hb2⟩))
    go_ret
    exact ⟨rfl, hb2.out⟩
end Go.Proofs.Ytmdlcbpeblbhjaa.Wa
