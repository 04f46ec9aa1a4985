/- The disk's small calls, of a disk and of none: New, changed, Down, Limit, Arm, Safe. -/
import Derived.Test.YtdjgkoklkoahbaaDkFun
namespace Go.Proofs.Ytdjgkoklkoahbaa.Dk
open Go.RowKit
open Go.Proofs.Ytdjgkoklkoahbaa.Me Go.Proofs.Ytdjgkoklkoahbaa.Hd
set_option linter.unusedVariables false
set_option linter.unusedSimpArgs false

/-! ### A new disk -/
theorem New_bad (n : Int) (h : n < 1 ∨ 1048576 < n) (w : World) : Calls Try.prog 9 #[.int .i64 n] w fun e w' => e = .returned (.tuple #[.pointer none, .int .i64 1]) ∧ w = w' := by
  by_cases h1 : n < 1
  · go_enter Try.func9, Try.ntmps9
    go_wp2
    go_returns
    exact ⟨rfl, rfl⟩
  · have h2 : 1048576 < n := by omega
    go_enter Try.func9, Try.ntmps9
    go_wp2
    go_returns
    exact ⟨rfl, rfl⟩
theorem Dq.new (G : Nat → Prop) (w : World) (n : Nat) (h1 : G w.heap.size) (h2 : G (w.heap.size + 1)) : Dq G ((w.alloc (.map #[] 0)).alloc (.cells (dcs (newS n) w.heap.size) 64 (0, 0))) (w.heap.size + 1) w.heap.size (newS n) := by
  refine ⟨?_, (Mf.made _ w).below ((Below.refl _ _).alloc (Nat.le_refl _) _), h2, h1⟩
  have := heap_alloc_new (w.alloc (.map #[] 0)) (.cells (dcs (newS n) w.heap.size) 64 (0, 0))
  rwa [World.size_alloc] at this
theorem New_ok (n : Nat) (h1 : 1 ≤ n) (h2 : n ≤ 1048576) (w : World) : Calls Try.prog 9 #[.int .i64 n] w fun e w' =>
    e = .returned (.tuple #[.pointer (some ⟨w.heap.size + 1, 0, none⟩), .int .i64 0]) ∧ Hid (Dq (fun k => w.heap.size ≤ k) w' (w.heap.size + 1) w.heap.size (newS n)) ∧ Hid (Below w.heap.size w w') := by
  have g1 : ¬ (n : Int) < 1 := by omega
  have g2 : ¬ 1048576 < (n : Int) := by omega
  have HR : Hid (Dq (fun k => w.heap.size ≤ k) ((w.alloc (.map #[] 0)).alloc (.cells (dcs (newS n) w.heap.size) 64 (0, 0))) (w.heap.size + 1) w.heap.size (newS n)) := Dq.new _ w n (Nat.le_refl _) (by omega)
  have HB : Hid (Below w.heap.size w ((w.alloc (.map #[] 0)).alloc (.cells (dcs (newS n) w.heap.size) 64 (0, 0)))) := Me.below_alloc (Me.below_alloc (Below.refl _ _))
  have hmm : ∀ W : World, (Instr.makeMap 62 none).run Try.prog W = .ok (.map (some W.heap.size)) (W.alloc (.map #[] 0)) := fun W => by kernel_rfl
  go_enter Try.func9, Try.ntmps9
  go_wp2
  go_returns
  exact ⟨rfl, HR, HB⟩

/-! ### A nil disk -/
section
variable (w : World)
theorem Down_nil : Calls Try.prog 22 #[.pointer none] w fun e w' => e = .returned (.bool false) ∧ w = w' := by
  go_enter Try.func22, Try.ntmps22
  go_wp2
  go_ret
  exact ⟨rfl, rfl⟩
theorem Used_nil : Calls Try.prog 25 #[.pointer none] w fun e w' => e = .returned (.int .i64 0) ∧ w = w' := by
  go_enter Try.func25, Try.ntmps25
  go_wp2
  go_ret
  exact ⟨rfl, rfl⟩
theorem Names_nil : Calls Try.prog 19 #[.pointer none] w fun e w' => e = .returned (.slice none 0 0) ∧ w = w' := by
  go_enter Try.func19, Try.ntmps19
  go_wp2
  go_ret
  exact ⟨rfl, rfl⟩
theorem Safe_nil (v : Value) : Calls Try.prog 21 #[.pointer none, v] w fun e w' => e = .returned (.int .i64 0) ∧ w = w' := by
  go_enter Try.func21, Try.ntmps21
  go_wp2
  go_ret
  exact ⟨rfl, rfl⟩
theorem Limit_nil (n : Int) : Calls Try.prog 30 #[.pointer none, .int .i64 n] w fun e w' => e = .returned (.int .i64 7) ∧ w = w' := by
  go_enter Try.func30, Try.ntmps30
  go_wp2
  go_ret
  exact ⟨rfl, rfl⟩
theorem Arm_nil (n : Int) : Calls Try.prog 29 #[.pointer none, .int .i64 n] w fun e w' => e = .returned (.int .i64 7) ∧ w = w' := by
  go_enter Try.func29, Try.ntmps29
  go_wp2
  go_ret
  exact ⟨rfl, rfl⟩
theorem Crash_nil (v : Value) : Calls Try.prog 13 #[.pointer none, v] w fun e w' => e = .returned (.int .i64 7) ∧ w = w' := by
  go_enter Try.func13, Try.ntmps13
  go_wp2
  go_ret
  exact ⟨rfl, rfl⟩
theorem Fork_nil : Calls Try.prog 12 #[.pointer none] w fun e w' => e = .returned (.pointer none) ∧ w = w' := by
  go_enter Try.func12, Try.ntmps12
  go_wp2
  go_ret
  exact ⟨rfl, rfl⟩
theorem may_nil (v : Value) : Calls Try.prog 34 #[.pointer none, v] w fun e w' => e = .returned (.int .i64 7) ∧ w = w' := by
  go_enter Try.func34, Try.ntmps34
  go_wp2
  go_ret
  exact ⟨rfl, rfl⟩
theorem find_nil (n : ByteArray) : Calls Try.prog 49 #[.pointer none, .string n] w fun e w' => e = .returned (.tuple #[.pointer none, .int .i64 7]) ∧ Below w.heap.size w w' := by
  have HM := Lib.hid may_nil
  go_enter Try.func49, Try.ntmps49
  go_wp2_with (go_at_call 34; refine (HM.out _ _).mono ?_; rintro e w' ⟨rfl, rfl⟩)
  go_returns
  exact ⟨rfl, Me.below_alloc (Below.refl _ _)⟩
theorem Append_nil (n : ByteArray) (v : Value) : Calls Try.prog 14 #[.pointer none, .string n, v] w fun e w' => e = .returned (.int .i64 7) ∧ Below w.heap.size w w' := by
  have HM := Lib.hid may_nil
  go_enter Try.func14, Try.ntmps14
  go_wp2_with (go_at_call 34; refine (HM.out _ _).mono ?_; rintro e w' ⟨rfl, rfl⟩)
  go_ret
  exact ⟨rfl, Me.below_alloc (Below.refl _ _)⟩
theorem Rename_nil (n m : ByteArray) : Calls Try.prog 27 #[.pointer none, .string n, .string m] w fun e w' => e = .returned (.int .i64 7) ∧ Below w.heap.size w w' := by
  have HM := Lib.hid may_nil
  go_enter Try.func27, Try.ntmps27
  go_wp2_with (go_at_call 34; refine (HM.out _ _).mono ?_; rintro e w' ⟨rfl, rfl⟩)
  go_ret
  exact ⟨rfl, Me.below_alloc (Below.refl _ _)⟩
theorem Sync_nil (n : ByteArray) : Calls Try.prog 23 #[.pointer none, .string n] w fun e w' => e = .returned (.int .i64 7) ∧ Below w.heap.size w w' := by
  have HF := Lib.hid find_nil
  go_enter Try.func23, Try.ntmps23
  go_wp2_with (go_at_call 49; refine (HF.out _ _).mono ?_; rintro e w' ⟨rfl, hb⟩)
  go_ret
  exact ⟨rfl, hb⟩
theorem Cut_nil (n : ByteArray) (k : Int) : Calls Try.prog 26 #[.pointer none, .string n, .int .i64 k] w fun e w' => e = .returned (.int .i64 7) ∧ Below w.heap.size w w' := by
  have HF := Lib.hid find_nil
  go_enter Try.func26, Try.ntmps26
  go_wp2_with (go_at_call 49; refine (HF.out _ _).mono ?_; rintro e w' ⟨rfl, hb⟩)
  go_ret
  exact ⟨rfl, hb⟩
theorem Remove_nil (n : ByteArray) : Calls Try.prog 28 #[.pointer none, .string n] w fun e w' => e = .returned (.int .i64 7) ∧ Below w.heap.size w w' := by
  have HF := Lib.hid find_nil
  go_enter Try.func28, Try.ntmps28
  go_wp2_with (go_at_call 49; refine (HF.out _ _).mono ?_; rintro e w' ⟨rfl, hb⟩)
  go_ret
  exact ⟨rfl, hb⟩
theorem Read_nil (n : ByteArray) : Calls Try.prog 20 #[.pointer none, .string n] w fun e w' => e = .returned (.tuple #[.slice none 0 0, .int .i64 7]) ∧ Below w.heap.size w w' := by
  have HF := Lib.hid find_nil
  go_enter Try.func20, Try.ntmps20
  go_wp2_with (go_at_call 49; refine (HF.out _ _).mono ?_; rintro e w' ⟨rfl, hb⟩)
  go_returns
  exact ⟨rfl, hb⟩
end

/-! ### A disk -/
section
variable {G : Nat → Prop} (w : World) (D mb : Nat) (s : St)
theorem Down_any (h : Hid (Dq G w D mb s)) : Calls Try.prog 22 #[.pointer (some ⟨D, 0, none⟩)] w fun e w' => e = .returned (.bool s.down) ∧ w = w' := by
  have c2 := h.out.c2
  obtain ⟨b, hb⟩ : ∃ b, s.down = b := ⟨_, rfl⟩
  rw [hb] at c2 ⊢
  clear hb
  go_enter Try.func22, Try.ntmps22
  go_wp2
  go_ret
  exact ⟨rfl, rfl⟩
theorem Limit_any (h : Hid (Dq G w D mb s)) (k : Int) : Calls Try.prog 30 #[.pointer (some ⟨D, 0, none⟩), .int .i64 k] w fun e w' => e = .returned (.int .i64 (limE k : Int)) ∧ Hid (Dq G w' D mb (limS s k)) ∧ Hid (But G w w') := by
  have c1 := h.out.c1
  have f1 := h.out.frozen 1
  by_cases h1 : k < 0
  · have HE : Hid (limE k = 1) := by show _ = _; simp [limE, h1]
    have HS : Hid (limS s k = s) := by show _ = _; simp [limS, HE.out]
    rw [HE.out, HS.out]
    go_enter Try.func30, Try.ntmps30
    go_wp2
    go_ret
    exact ⟨rfl, h, But.refl _ _⟩
  · by_cases h2 : 1048576 < k
    · have HE : Hid (limE k = 1) := by show _ = _; simp [limE, h2]
      have HS : Hid (limS s k = s) := by show _ = _; simp [limS, HE.out]
      rw [HE.out, HS.out]
      go_enter Try.func30, Try.ntmps30
      go_wp2
      go_ret
      exact ⟨rfl, h, But.refl _ _⟩
    · have HE : Hid (limE k = 0) := by show _ = _; simp [limE, h1, h2]
      have HS : Hid (limS s k = ⟨k.toNat, s.files, s.left, s.down⟩) := by show _ = _; simp [limS, HE.out]
      have HD := Lib.hid (h.out.set1 k.toNat)
      have HB := Lib.hid (but_set h.out 1 (.int .i64 (k.toNat : Int)))
      have ek : (k.toNat : Int) = k := by omega
      rw [ek] at HD HB
      rw [HE.out, HS.out]
      clear ek
      go_enter Try.func30, Try.ntmps30
      go_wp2
      go_ret
      exact ⟨rfl, HD, HB⟩
theorem Arm_any (h : Hid (Dq G w D mb s)) (k : Int) : Calls Try.prog 29 #[.pointer (some ⟨D, 0, none⟩), .int .i64 k] w fun e w' => e = .returned (.int .i64 (armE s : Int)) ∧ Hid (Dq G w' D mb (armS s k)) ∧ Hid (But G w w') := by
  have c2 := h.out.c2
  have c3 := h.out.c3
  have f3 := h.out.frozen 3
  have f2 := h.out.frozen 2
  cases hd : s.down with
  | true =>
    have HE : Hid (armE s = 9) := by show _ = _; simp [armE, hd]
    have HS : Hid (armS s k = s) := by show _ = _; simp [armS, hd]
    rw [HE.out, HS.out]
    rw [hd] at c2
    clear hd
    go_enter Try.func29, Try.ntmps29
    go_wp2
    go_ret
    exact ⟨rfl, h, But.refl _ _⟩
  | false =>
    have HE : Hid (armE s = 0) := by show _ = _; simp [armE, hd]
    have HS : Hid (armS s k = ⟨s.limit, s.files, k.toNat, decide (k = 0)⟩) := by show _ = _; simp [armS, hd]
    have HD := Lib.hid ((h.out.set3 k.toNat).set2 (decide (k = 0)))
    have HB := Lib.hid ((but_set h.out 3 (.int .i64 (k.toNat : Int))).trans (but_set (h.out.set3 k.toNat) 2 (.bool (decide (k = 0)))) (fun _ _ h => h))
    rw [HE.out, HS.out]
    rw [hd] at c2
    clear hd
    have ek : (k.toNat : Int) = max k 0 := by omega
    rw [ek] at HD HB
    clear ek
    go_enter Try.func29, Try.ntmps29
    go_wp2
    go_ret
    exact ⟨rfl, HD, HB⟩
theorem changed_any (h : Hid (Dq G w D mb s)) (hd : s.down = false) (hl : s.left ≤ 9223372036854775807) : Calls Try.prog 36 #[.pointer (some ⟨D, 0, none⟩)] w fun e w' => (∃ u, e = .returned u) ∧ Hid (Dq G w' D mb (chg s s.files)) ∧ Hid (But G w w') := by
  have c2 := h.out.c2
  have c3 := h.out.c3
  have f3 := h.out.frozen 3
  have f2 := h.out.frozen 2
  by_cases h0 : s.left = 0
  · have HS : Hid (chg s s.files = s) := by
      show _ = _
      obtain ⟨a, b, c, d⟩ := s
      simp only at h0 hd
      subst h0 hd
      rfl
    rw [HS.out]
    rw [h0] at c3
    clear h0 hd hl
    go_enter Try.func36, Try.ntmps36
    go_wp2
    refine bodyPost_ret (results_none rfl _ _ _) rfl ?_
    exact ⟨⟨_, rfl⟩, h, But.refl _ _⟩
  · obtain ⟨q, hq⟩ : ∃ q, s.left = q + 1 := ⟨s.left - 1, by omega⟩
    have HS : Hid (chg s s.files = ⟨s.limit, s.files, q, decide (q = 0)⟩) := by
      show _ = _
      unfold chg
      rw [hq]
      simp
    have HD := Lib.hid ((h.out.set3 q).set2 (decide (q = 0)))
    have HB := Lib.hid ((but_set h.out 3 (.int .i64 (q : Int))).trans (but_set (h.out.set3 q) 2 (.bool (decide (q = 0)))) (fun _ _ h => h))
    rw [HS.out]
    rw [hq] at c3 hl
    clear h0 hq
    rw [hd] at c2
    clear hd
    have e1 : ((q + 1 : Nat) : Int) = (q : Int) + 1 := by omega
    have e2 : ((q : Int) == 0) = decide (q = 0) := by
      by_cases e : q = 0
      · subst e; rfl
      · have : ¬ (q : Int) = 0 := by omega
        simp [e]
    have e3 : (((q : Int) + 1) == 0) = false := by
      have : ¬ (q : Int) + 1 = 0 := by omega
      simpa using this
    rw [e1] at c3
    obtain ⟨b, hb⟩ : ∃ b, decide (q = 0) = b := ⟨_, rfl⟩
    rw [hb] at HD HB e2 ⊢
    clear hb e1
    go_enter Try.func36, Try.ntmps36
    go_wp2
    go_end0
    exact ⟨⟨_, rfl⟩, HD, HB⟩
end
end Go.Proofs.Ytdjgkoklkoahbaa.Dk
