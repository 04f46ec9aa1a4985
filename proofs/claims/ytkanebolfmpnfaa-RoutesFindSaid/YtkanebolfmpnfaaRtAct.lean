/- Set and Tick of a table. -/
import Derived.Test.YtkanebolfmpnfaaRtHear
namespace Go.Proofs.Ytkanebolfmpnfaa.Rt
open Go.RowKit Go.Maps
open Go.Proofs.Ytkanebolfmpnfaa.Sb
set_option linter.unusedVariables false
set_option linter.unusedSimpArgs false

/-- What Set answers. -/
def setE (t : Tb) (d via : Int) : Nat := if isN d = false then 1 else if d = t.self then 2 else if via ≠ -1 ∧ t.nbs.contains via = false then 4 else 0
theorem Set_nil (d via : Int) (w : World) : Calls Try.prog 30 #[.pointer none, .int .i64 d, .int .i64 via] w fun e w' => e = .returned (.int .i64 7) ∧ w = w' := by
  go_enter Try.func30, Try.ntmps30
  go_wp2_with (fail)
  go_ret
  exact ⟨rfl, rfl⟩
theorem Tick_nil (w : World) : Calls Try.prog 24 #[.pointer none] w fun e w' => e = .returned (.int .i64 7) ∧ w = w' := by
  go_enter Try.func24, Try.ntmps24
  go_wp2_with (fail)
  go_ret
  exact ⟨rfl, rfl⟩
set_option maxRecDepth 100000 in
theorem Set_no (w : World) (D mb : Nat) (v : Value) (t : Tb) (h : Hid (Tq w D mb v t)) (hl : t.nbs.length ≤ 64) (d via : Int) (hE : setE t d via ≠ 0) :
    Calls Try.prog 30 #[.pointer (some ⟨D, 0, none⟩), .int .i64 d, .int .i64 via] w fun e w' => e = .returned (.int .i64 (setE t d via : Int)) ∧ w = w' := by
  have HI := Lib.hid (isNode_any d)
  have HB := Lib.hid (isNeighbour_any w D mb v t h via hl)
  have c0 := h.out.c0
  unfold setE at hE ⊢
  cases h1 : isN d with
  | false =>
    rw [h1] at HI
    go_enter Try.func30, Try.ntmps30
    go_wp2_with (go_at_call 31; refine (HI.out _).mono ?_; rintro e w' ⟨rfl, rfl⟩)
    go_ret
    exact ⟨rfl, rfl⟩
  | true =>
    rw [h1] at HI hE
    rw [if_neg (by decide)] at hE ⊢
    obtain ⟨sf, hsf⟩ : ∃ sf : Int, (t.self : Int) = sf := ⟨_, rfl⟩
    rw [hsf] at c0 hE ⊢
    by_cases h2 : d = sf
    · rw [if_pos h2]
      have g1 : (d == sf) = true := beq_iff_eq.mpr h2
      clear h2 hE hsf h1
      go_enter Try.func30, Try.ntmps30
      go_wp2_with (go_at_call 31; refine (HI.out _).mono ?_; rintro e w' ⟨rfl, rfl⟩)
      go_ret
      exact ⟨rfl, rfl⟩
    · rw [if_neg h2] at hE ⊢
      have h3 : via ≠ -1 ∧ t.nbs.contains via = false := by
        apply Classical.byContradiction
        intro hc
        rw [if_neg hc] at hE
        exact hE rfl
      rw [if_pos h3]
      rw [h3.2] at HB
      have g1 : (d == sf) = false := beq_eq_false_iff_ne.mpr h2
      have g2 : (via != -1) = true := bne_iff_ne.mpr h3.1
      clear h2 hE hsf h1 h3
      go_enter Try.func30, Try.ntmps30
      go_wp2_with (first
        | (go_at_call 31; refine (HI.out _).mono ?_; rintro e w' ⟨rfl, rfl⟩)
        | (go_at_call 43; refine HB.out.mono ?_; rintro e w' ⟨rfl, rfl⟩))
      go_ret
      exact ⟨rfl, rfl⟩
theorem Tq.cs {w : World} {D mb : Nat} {v : Value} {t : Tb} (h : Tq w D mb v t) {j : Nat} (hj : j < 64) : w.cell? ⟨D, 3 + j, none⟩ = some (.int .i64 (t.set j)) := by rw [cell_of_row w D (3 + j) _ _ (0, 0) h.blk, tcs_set _ _ _ hj]
set_option maxRecDepth 100000 in
theorem Set_ok (w : World) (D mb : Nat) (v : Value) (t : Tb) (h : Hid (Tq w D mb v t)) (hl : t.nbs.length ≤ 64) (m : Nat) (hm : m < 64) (via : Int) (hE : setE t (m : Int) via = 0) :
    Calls Try.prog 30 #[.pointer (some ⟨D, 0, none⟩), .int .i64 (m : Int), .int .i64 via] w fun e w' => e = .returned (.int .i64 0) ∧ Hid (Tq w' D mb v ⟨t.self, t.nbs, t.age, upd t.set m via, t.heard⟩) ∧ Hid (But (fun k => k = D) w w') := by
  have HI := Lib.hid (isNode_any (m : Int))
  have HB := Lib.hid (isNeighbour_any w D mb v t h via hl)
  have c0 := h.out.c0
  have cs := h.out.cs hm
  have fs := h.out.frozen (3 + m)
  have HT : Hid (Tq (w.setCell ⟨D, 3 + m, none⟩ (.int .i64 via)) D mb v ⟨t.self, t.nbs, t.age, upd t.set m via, t.heard⟩) := h.out.put hm via
  have HBU : Hid (But (fun k => k = D) w (w.setCell ⟨D, 3 + m, none⟩ (.int .i64 via))) := (But.refl (fun k => k = D) w).set (p := ⟨D, 3 + m, none⟩) (.inl rfl) _
  unfold setE at hE
  rw [isN_nat hm] at hE HI
  rw [if_neg (by decide)] at hE
  have h2 : (m : Int) ≠ (t.self : Int) := fun e => by rw [if_pos e] at hE; cases hE
  rw [if_neg h2] at hE
  have h3 : ¬ (via ≠ -1 ∧ t.nbs.contains via = false) := fun e => by rw [if_pos e] at hE; cases hE
  have g1 : ((m : Int) == (t.self : Int)) = false := beq_eq_false_iff_ne.mpr h2
  have g64 : (m : Int) < 64 := by omega
  obtain ⟨sf, hsf⟩ : ∃ sf : Int, (t.self : Int) = sf := ⟨_, rfl⟩
  rw [hsf] at c0 g1
  by_cases h4 : via = -1
  · have g2 : (via != -1) = false := by subst h4; rfl
    clear h2 h3 h4 hE hsf
    go_enter Try.func30, Try.ntmps30
    go_wp2_with (first
      | (go_at_call 31; refine (HI.out _).mono ?_; rintro e w' ⟨rfl, rfl⟩)
      | (go_at_call 43; refine HB.out.mono ?_; rintro e w' ⟨rfl, rfl⟩))
    go_ret
    exact ⟨rfl, HT, HBU⟩
  · have g2 : (via != -1) = true := bne_iff_ne.mpr h4
    have h5 : t.nbs.contains via = true := by
      cases hc : t.nbs.contains via with
      | true => rfl
      | false => exact absurd ⟨h4, hc⟩ h3
    rw [h5] at HB
    clear h2 h3 h4 h5 hE hsf
    go_enter Try.func30, Try.ntmps30
    go_wp2_with (first
      | (go_at_call 31; refine (HI.out _).mono ?_; rintro e w' ⟨rfl, rfl⟩)
      | (go_at_call 43; refine HB.out.mono ?_; rintro e w' ⟨rfl, rfl⟩))
    go_ret
    exact ⟨rfl, HT, HBU⟩
/-! ### Tick -/
def tk1 (age : Nat) (kept : Nat → Option Nw) (f : Nat) : Nat → Option Nw := match kept f with
  | none => kept
  | some p => if p.s + 1 < age then putK kept f ⟨p.c, p.s + 1⟩ else delK kept f
/-- Behind a tick. -/
def tickK (age : Nat) (kept : Nat → Option Nw) : Nat → Option Nw := fun n => match kept n with
  | none => none
  | some p => if p.s + 1 < age then some ⟨p.c, p.s + 1⟩ else none
def tkL (age : Nat) (kept : Nat → Option Nw) (L : List Nat) : Nat → Option Nw := L.foldl (tk1 age) kept
theorem tkL_snoc (age : Nat) (kept : Nat → Option Nw) (L : List Nat) (f : Nat) : tkL age kept (L ++ [f]) = tk1 age (tkL age kept L) f := by simp [tkL]
theorem tk1_other {age : Nat} {kept : Nat → Option Nw} {f n : Nat} (h : n ≠ f) : tk1 age kept f n = kept n := by
  unfold tk1
  cases kept f with
  | none => rfl
  | some p =>
    simp only
    split
    · simp [putK, h]
    · simp [delK, h]
theorem tk1_same (age : Nat) (kept : Nat → Option Nw) (f : Nat) : tk1 age kept f f = tickK age kept f := by
  unfold tk1 tickK
  cases hk : kept f with
  | none => simp [hk]
  | some p =>
    simp only
    split
    · simp [putK]
    · simp [delK]
theorem tickK_at {age : Nat} {kept kept' : Nat → Option Nw} {n : Nat} (h : kept n = kept' n) : tickK age kept n = tickK age kept' n := by
  unfold tickK
  rw [h]
theorem tkL_at (age : Nat) : ∀ (L : List Nat) (kept : Nat → Option Nw), L.Nodup → ∀ n, tkL age kept L n = if n ∈ L then tickK age kept n else kept n
  | [], kept, _, n => by simp [tkL]
  | f :: L, kept, hd, n => by
    rw [List.nodup_cons] at hd
    have ih := tkL_at age L (tk1 age kept f) hd.2 n
    have e0 : tkL age kept (f :: L) = tkL age (tk1 age kept f) L := rfl
    rw [e0, ih]
    by_cases e : n = f
    · subst e
      rw [if_neg hd.1, if_pos (by simp), tk1_same]
    · by_cases hL : n ∈ L
      · rw [if_pos hL, if_pos (by simp [hL]), tickK_at (tk1_other e)]
      · rw [if_neg hL, if_neg (by simp [hL, e]), tk1_other e]
theorem Mp.congr {w : World} {b : Nat} {kept kept' : Nat → Option Nw} (h : Mp w b kept) (he : ∀ n, n < 64 → kept n = kept' n) : Mp w b kept' := by
  obtain ⟨D, h1, h2⟩ := h
  exact ⟨D, h1, h2.keys, fun m hm hk => h2.no m hm (by rw [he m hm]; exact hk), fun m p hm hk => h2.yes m p hm (by rw [he m hm]; exact hk)⟩
theorem Tq.tick {w : World} {D mb : Nat} {v : Value} {t : Tb} {age : Nat} {kept : Nat → Option Nw} {s : Nat → Int} (h : Tq w D mb v ⟨t.self, t.nbs, t.age, s, tkL age kept (froms kept)⟩) : Tq w D mb v ⟨t.self, t.nbs, t.age, s, tickK age kept⟩ :=
  ⟨h.blk, h.mp.congr (fun n hn => by
    show tkL age kept (froms kept) n = tickK age kept n
    rw [tkL_at age _ kept ((froms_lt kept).imp fun h => by omega)]
    split
    · rfl
    · rename_i hf
      have : (kept n).isSome = false := by
        cases hk : (kept n).isSome with
        | false => rfl
        | true => exact absurd (mem_froms.2 ⟨hn, hk⟩) hf
      cases hk : kept n with
      | none => simp [tickK, hk]
      | some p => rw [hk] at this; cases this), h.nb⟩
end Go.Proofs.Ytkanebolfmpnfaa.Rt
