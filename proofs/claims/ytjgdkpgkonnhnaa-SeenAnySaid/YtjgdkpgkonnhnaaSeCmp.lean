/- seen.compare: slices.Compare of two places; the order of places. -/
import Derived.Test.YtjgdkpgkonnhnaaSeColl
import Derived.Shelf.SlSortCmp.InsertionK
namespace Go.Proofs.Ytjgdkpgkonnhnaa.Se
open Go.RowKit Go.Sort Go.Shelf
open Go.Proofs.Ytjgdkpgkonnhnaa.Me Go.Proofs.Ytjgdkpgkonnhnaa.Sb
set_option linter.unusedVariables false
set_option linter.unusedSimpArgs false

def cmp1 (x y : Int) : Int := if x < y then -1 else if y < x then 1 else 0
theorem cmp1_self (x : Int) : cmp1 x x = 0 := by unfold cmp1; simp
theorem cmp1_ne {x y : Int} (h : x ≠ y) : cmp1 x y ≠ 0 := by
  unfold cmp1
  by_cases h1 : x < y
  · rw [if_pos h1]; decide
  · rw [if_neg h1, if_pos (by omega)]; decide
def cfP (a b : Int × Int) : Int := if a.1 = b.1 then cmp1 a.2 b.2 else cmp1 a.1 b.1
/-- A place is ahead of another. -/
def ltP (a b : Int × Int) : Prop := a.1 < b.1 ∨ (a.1 = b.1 ∧ a.2 < b.2)
theorem cmp1_neg {x y : Int} : cmp1 x y < 0 ↔ x < y := by
  unfold cmp1
  by_cases h1 : x < y
  · rw [if_pos h1]; simp [h1]
  · rw [if_neg h1]
    by_cases h2 : y < x
    · rw [if_pos h2]; omega
    · rw [if_neg h2]; omega
theorem cfP_neg {a b : Int × Int} : cfP a b < 0 ↔ ltP a b := by
  unfold cfP ltP
  by_cases h : a.1 = b.1
  · rw [if_pos h, cmp1_neg]; omega
  · rw [if_neg h, cmp1_neg]; omega
theorem ltOf_cfP {a b : Int × Int} : ltOf cfP a b = true ↔ ltP a b := by unfold ltOf; rw [decide_eq_true_iff]; exact cfP_neg
theorem swoP : SWO (ltOf cfP) where
  irrefl x := by
    cases h : ltOf cfP x x
    · rfl
    · have := ltOf_cfP.1 h
      unfold ltP at this; omega
  trans x y z h1 h2 := by
    rw [ltOf_cfP] at *
    unfold ltP at *; omega
  ntrans x y z h1 h2 := by
    have k1 : ¬ ltP x y := fun h => by rw [ltOf_cfP.2 h] at h1; cases h1
    have k2 : ¬ ltP y z := fun h => by rw [ltOf_cfP.2 h] at h2; cases h2
    cases h : ltOf cfP x z
    · rfl
    · have := ltOf_cfP.1 h
      unfold ltP at *; omega
/-- Number k of a place. -/
def ixP (p : Int × Int) (k : Nat) : Int := if k = 0 then p.1 else p.2
def ArP (W : World) (g : Nat) (p : Int × Int) : Prop := W.heap[g]? = some (.cells #[.int .i64 p.1, .int .i64 p.2] 63 (0, 0))
theorem ArP.cell {W : World} {g : Nat} {p : Int × Int} (h : ArP W g p) {k : Nat} (hk : k < 2) : W.cell? ⟨g, k, none⟩ = some (.int .i64 (ixP p k)) := by
  rw [cell_of_row W g k _ _ (0, 0) h]
  obtain rfl | rfl : k = 0 ∨ k = 1 := by omega
  all_goals rfl
theorem ArP.lt {W : World} {g : Nat} {p : Int × Int} (h : ArP W g p) : g < W.heap.size := (Array.getElem?_eq_some_iff.1 h).1
theorem cfP_at {a b : Int × Int} {k : Nat} (hk : k < 2) (h : ∀ j, j < k → ixP a j = ixP b j) (hn : ixP a k ≠ ixP b k) : cfP a b = cmp1 (ixP a k) (ixP b k) := by
  obtain rfl | rfl : k = 0 ∨ k = 1 := by omega
  · unfold cfP
    rw [if_neg (by simpa [ixP] using hn)]
    rfl
  · unfold cfP
    rw [if_pos (by simpa [ixP] using h 0 (by omega))]
    rfl
theorem cfP_eq {a b : Int × Int} (h : ∀ j, j < 2 → ixP a j = ixP b j) : cfP a b = 0 := by
  have h0 := h 0 (by omega)
  have h1 := h 1 (by omega)
  simp only [ixP] at h0 h1
  unfold cfP
  rw [if_pos (by simpa using h0)]
  have : a.2 = b.2 := by simpa using h1
  rw [this, cmp1_self]
theorem cmp_any (x y : Int) (w : World) : Calls Try.prog 60 #[.int .i64 x, .int .i64 y] w fun e w' => e = .returned (.int .i64 (cmp1 x y)) ∧ w' = w := by
  unfold cmp1
  by_cases h1 : x < y
  · rw [if_pos h1]
    go_enter Try.func60, Try.ntmps60
    go_wp2
    go_ret
    exact ⟨rfl, rfl⟩
  · rw [if_neg h1]
    by_cases h2 : y < x
    · rw [if_pos h2]
      go_enter Try.func60, Try.ntmps60
      go_wp2
      go_ret
      exact ⟨rfl, rfl⟩
    · rw [if_neg h2]
      go_enter Try.func60, Try.ntmps60
      go_wp2
      go_ret
      exact ⟨rfl, rfl⟩
set_option maxHeartbeats 2000000 in
theorem Compare_any (a b : Int × Int) (g1 g2 : Nat) (w : World) (h1 : Hid (ArP w g1 a)) (h2 : Hid (ArP w g2 b)) : Calls Try.prog 51 #[.slice (some ⟨g1, 0, none⟩) 2 2, .slice (some ⟨g2, 0, none⟩) 2 2] w fun e w' => e = .returned (.int .i64 (cfP a b)) ∧ w' = w := by
  obtain ⟨Z, hZ⟩ : ∃ Z, cfP a b = Z := ⟨_, rfl⟩
  have HZ := Lib.hid hZ
  rw [hZ]
  clear hZ
  go_enter Try.func51, Try.ntmps51
  go_wp2
  go_loopw [11] (fun v wr => ∃ k : Nat, k ≤ 2 ∧ v = .int .i64 k ∧ Hid (∀ j, j < k → ixP a j = ixP b j) ∧ Hid (wr = w)) (fun v _ => 2 - (intOf v).toNat)
  case atStart => exact ⟨0, by omega, rfl, fun j hj => absurd hj (by omega), by first | exact rfl | trivial⟩
  case round =>
    obtain ⟨k, hk, rfl, HEq, HB⟩ := hrel
    obtain rfl := HB.out
    by_cases hlt : k < 2
    · have c1 := h1.out.cell hlt
      have c2 := h2.out.cell hlt
      have q1 : (k : Int) < 2 := by omega
      have HC := Lib.hid (fun W => cmp_any (ixP a k) (ixP b k) W)
      by_cases he : ixP a k = ixP b k
      · have HE := Lib.hid he
        rw [he, cmp1_self] at HC
        obtain ⟨x, hx⟩ : ∃ x, ixP a k = x := ⟨_, rfl⟩
        obtain ⟨y, hy⟩ : ∃ y, ixP b k = y := ⟨_, rfl⟩
        rw [hx] at c1
        rw [hy] at c2 HC
        have exy : x = y := by rw [← hx, ← hy]; exact he
        subst exy
        clear he hx hy
        go_wp2_with (go_at_call 60; refine (HC.out _).mono ?_; rintro e w1 ⟨rfl, rfl⟩)
        go_roundw
        case rel => exact ⟨k + 1, by omega, by go_num, (fun j hj => by
          by_cases e : j = k
          · subst e; exact HE.out
          · exact HEq.out j (by omega)), by first | exact rfl | trivial⟩
        case measure => simp [intOf]; omega
      · have hR : Z = cmp1 (ixP a k) (ixP b k) := HZ.out.symm.trans (cfP_at hlt HEq.out he)
        have hnz := cmp1_ne he
        obtain ⟨z, hz⟩ : ∃ z, cmp1 (ixP a k) (ixP b k) = z := ⟨_, rfl⟩
        rw [hz] at HC hnz hR
        have HR := Lib.hid hR
        obtain ⟨x, hx⟩ : ∃ x, ixP a k = x := ⟨_, rfl⟩
        obtain ⟨y, hy⟩ : ∃ y, ixP b k = y := ⟨_, rfl⟩
        rw [hx] at c1 HC
        rw [hy] at c2 HC
        have g1 : (z == 0) = false := by simpa using hnz
        clear he hx hy hz hR
        go_wp2_with (go_at_call 60; refine (HC.out _).mono ?_; rintro e w1 ⟨rfl, rfl⟩)
        go_ret
        exact ⟨congrArg (fun x => Ending.returned (Value.int .i64 x)) HR.out.symm, rfl⟩
    · obtain rfl : k = 2 := by omega
      have HR : Hid (Z = 0) := HZ.out.symm.trans (cfP_eq HEq.out)
      go_wp2
      go_ret
      exact ⟨congrArg (fun x => Ending.returned (Value.int .i64 x)) HR.out.symm, rfl⟩
set_option maxHeartbeats 1000000 in
/-- seen.compare. -/
theorem compare_any (a b : Int × Int) (W : World) : Calls Try.prog 38 #[.agg #[.int .i64 a.1, .int .i64 a.2], .agg #[.int .i64 b.1, .int .i64 b.2]] W fun e w' => e = .returned (.int .i64 (cfP a b)) ∧ ∃ q os', w' = grow (W.drewN q) os' := by
  obtain ⟨W2, hW2⟩ : ∃ W2, (W.alloc (.cells #[.int .i64 a.1, .int .i64 a.2] 63)).alloc (.cells #[.int .i64 b.1, .int .i64 b.2] 63) = W2 := ⟨_, rfl⟩
  have h1 : ArP W2 W.heap.size a := by
    rw [← hW2]
    exact (Below.heap_alloc _ _ _ (by simp)).trans (heap_alloc_new W _)
  have h2 : ArP W2 (W.heap.size + 1) b := by
    rw [← hW2]
    have := heap_alloc_new (W.alloc (.cells #[.int .i64 a.1, .int .i64 a.2] 63)) (.cells #[.int .i64 b.1, .int .i64 b.2] 63)
    rw [World.size_alloc] at this
    exact this
  have H1 : ∀ n, Hid (ArP (W2.drewN n) W.heap.size a) := fun n => ((Me.below_drewN (Below.refl W2.heap.size W2) n).block _ h1.lt).trans h1
  have H2 : ∀ n, Hid (ArP (W2.drewN n) (W.heap.size + 1) b) := fun n => ((Me.below_drewN (Below.refl W2.heap.size W2) n).block _ h2.lt).trans h2
  have HC := Lib.hid (fun n => Compare_any a b W.heap.size (W.heap.size + 1) (W2.drewN n) (H1 n) (H2 n))
  have HW2 := Lib.hid hW2
  obtain ⟨Z, hZ⟩ : ∃ Z, cfP a b = Z := ⟨_, rfl⟩
  rw [hZ] at HC ⊢
  clear h1 h2 H1 H2 hW2 hZ
  go_enter Try.func38, Try.ntmps38
  go_wp2
  rw [HW2.out]
  go_quiet ((go_at_call 51; first | exact (HC.out _).mono fun _ _ h => ⟨h.1, _, h.2⟩ | exact (HC.out _).mono fun _ _ h => ⟨h.1, _, h.2.symm⟩ | exact quiet (HC.out _)))
  go_wp2
  go_ret
  rw [← HW2.out]
  exact ⟨rfl, nq, _, by rw [alloc_eq_grow, alloc_eq_grow, grow_grow]; rfl⟩
end Go.Proofs.Ytjgdkpgkonnhnaa.Se
