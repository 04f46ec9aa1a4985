/- Ack, Back, Refuse: of a desk, of none. -/
import Derived.Test.YtohfoieibgmmdaaZ12
namespace Go.Proofs.Ytohfoieibgmmdaa.Hp
open Go.RowKit Go.Maps
open Go.Proofs.Ytohfoieibgmmdaa.Me Go.Proofs.Ytohfoieibgmmdaa.Sb
set_option linter.unusedVariables false
set_option linter.unusedSimpArgs false

def Dk.with (d : Dk) (kept : Kn) : Dk := ⟨d.wait, d.passed, d.next, kept⟩
def ackK (d : Dk) (t n : Int) (i : Mg.Id4) : Dk := if offB d.kept t n i = true then d.with (delK d.kept i) else d
def backK (d : Dk) (i : Mg.Id4) : Dk := if isB d.kept i = true then d.with (delK d.kept i) else d
def refK (d : Dk) (t n : Int) (i : Mg.Id4) : Dk := if offB d.kept t n i = true then d.with (putK d.kept i ⟨false, 0, 0, (d.passed : Int) + d.wait⟩) else d
def Sv (g D mb : Nat) (o d ee c : Int) (dk : Dk) (W : World) : Prop := (W.cell? ⟨g, 0, none⟩ = some (.int .i64 o) ∧ W.cell? ⟨g, 1, none⟩ = some (.int .i64 d) ∧ W.cell? ⟨g, 2, none⟩ = some (.int .i64 ee) ∧ W.cell? ⟨g, 3, none⟩ = some (.int .i64 c)) ∧
  (W.cell? ⟨D, 0, none⟩ = some (.int .i64 (dk.wait : Int)) ∧ W.cell? ⟨D, 1, none⟩ = some (.int .i64 (dk.passed : Int)) ∧ W.cell? ⟨D, 2, none⟩ = some (.int .i64 (dk.next : Int)) ∧ W.cell? ⟨D, 3, none⟩ = some (.map (some mb)))
theorem Sv.same {g D mb : Nat} {o d ee c : Int} {dk : Dk} {V W : World} (h : Sv g D mb o d ee c dk V) (h1 : W.heap[g]? = V.heap[g]?) (h2 : W.heap[D]? = V.heap[D]?) : Sv g D mb o d ee c dk W := by
  have c1 := fun j => World.cell?_of_block (w := V) (w' := W) (a := ⟨g, j, none⟩) h1
  have c2 := fun j => World.cell?_of_block (w := V) (w' := W) (a := ⟨D, j, none⟩) h2
  obtain ⟨⟨x0, x1, x2, x3⟩, y0, y1, y2, y3⟩ := h
  exact ⟨⟨(c1 0).trans x0, (c1 1).trans x1, (c1 2).trans x2, (c1 3).trans x3⟩, (c2 0).trans y0, (c2 1).trans y1, (c2 2).trans y2, (c2 3).trans y3⟩
/-- A desk's world behind a call: its map alone has turned. -/
def Dn (w : World) (D mb m : Nat) (d : Dk) (w' : World) : Prop := (∃ m', m' ≤ m ∧ Dq w' D mb m' d) ∧ But (fun k => k = mb) w w'
theorem Ack_nil (t n : Int) (i : Mg.Id4) (w : World) : Calls Try.prog 31 #[.pointer none, .int .i64 t, .int .i64 n, .agg (Mg.idC i)] w fun e w' => e = .returned (.bool false) ∧ Hid (Below w.heap.size w w') := by
  have HI := Lib.hid (fun W => Off_nil t n i W)
  have HX := Lib.hid (idbox i w)
  obtain ⟨o, d, ee, c⟩ := i
  simp only [Mg.idC] at HI HX ⊢
  go_enter Try.func31, Try.ntmps31
  go_wp2_with (go_at_call 62; refine (HI.out _).mono ?_; rintro e w1 ⟨rfl, b1⟩; obtain ⟨_, bw⟩ := HX.out w1 b1.out)
  go_ret
  exact ⟨rfl, bw⟩
set_option maxRecDepth 100000 in
theorem Ack_any (D mb m : Nat) (dk : Dk) (t n : Int) (i : Mg.Id4) (w : World) (h : Hid (Dq w D mb m dk)) (hf : Fit i) : Calls Try.prog 31 #[.pointer (some ⟨D, 0, none⟩), .int .i64 t, .int .i64 n, .agg (Mg.idC i)] w fun e w' => e = .returned (.bool (offB dk.kept t n i)) ∧ Hid (Dn w D mb m (ackK dk t n i) w') := by
  have HX := Lib.hid (idbox i w)
  have hb1 : Below w.heap.size w (w.alloc (.cells (Mg.idC i) 23 (0, 0))) := Me.below_alloc (Below.refl _ _)
  have HI : Hid (∀ W, Below w.heap.size w W → Calls Try.prog 62 #[.pointer (some ⟨D, 0, none⟩), .int .i64 t, .int .i64 n, .agg (Mg.idC i)] W fun e w' => e = .returned (.bool (offB dk.kept t n i)) ∧ Hid (Below W.heap.size W w')) := fun W hW => Off_any D mb m dk t n i W (h.out.below hW) hf
  have HQ : Hid (∀ W, Below w.heap.size w W → Dq W D mb m dk) := fun W hW => h.out.below hW
  have HMB : Hid (mb < w.heap.size) := h.out.ltm
  have HT : Hid ((ackK dk t n i) = if offB dk.kept t n i = true then dk.with (delK dk.kept i) else dk) := rfl
  have hi0 : isB dk.kept i = true → (dk.kept i).isSome = true := isB_some
  have HS : Hid ((offB dk.kept t n i) = true → (dk.kept i).isSome = true) := fun h => by
    unfold offB at h; rw [Bool.and_eq_true] at h; exact hi0 h.1
  rw [HT.out]
  obtain ⟨q, hq⟩ : ∃ q, (offB dk.kept t n i) = q := ⟨_, rfl⟩
  simp only [hq] at HI HS ⊢
  have HB1 := Lib.hid hb1
  have HF := Lib.hid hf
  clear h hf hb1 hq hi0 HT
  cases q
  · rw [if_neg (by decide)]
    obtain ⟨o, d, ee, c⟩ := i
    simp only [Mg.idC] at HX HI HB1 ⊢
    go_enter Try.func31, Try.ntmps31
    go_wp2_with (go_at_call 62; refine (HI.out _ HB1.out).mono ?_; rintro e w1 ⟨rfl, b1⟩; obtain ⟨_, bw⟩ := HX.out w1 b1.out)
    go_ret
    exact ⟨rfl, ⟨m, Nat.le_refl _, HQ.out _ bw⟩, But.of_below bw⟩
  · rw [if_pos rfl]
    obtain ⟨KP, hK⟩ : ∃ KP, delK dk.kept i = KP := ⟨_, rfl⟩
    rw [hK]
    have HK := Lib.hid hK
    clear hK
    obtain ⟨j, hj⟩ : ∃ j, i = j := ⟨_, rfl⟩
    have HJ := Lib.hid hj
    obtain ⟨o, d, ee, c⟩ := i
    rw [hj] at HF HS HK
    have hjC : Mg.idC j = #[.int .i64 o, .int .i64 d, .int .i64 ee, .int .i64 c] := by rw [← hj]; rfl
    have HJC := Lib.hid hjC
    clear hj hjC
    simp only [Mg.idC] at HX HI HB1 ⊢
    go_enter Try.func31, Try.ntmps31
    go_wp2_with (go_at_call 62; refine (HI.out _ HB1.out).mono ?_; rintro e w1 ⟨rfl, b1⟩; obtain ⟨_, bw⟩ := HX.out w1 b1.out)
    have HX1 : Hid (∀ W, Below w1.heap.size w1 W → (W.cell? ⟨w.heap.size, 0, none⟩ = some (.int .i64 o) ∧ W.cell? ⟨w.heap.size, 1, none⟩ = some (.int .i64 d) ∧ W.cell? ⟨w.heap.size, 2, none⟩ = some (.int .i64 ee) ∧ W.cell? ⟨w.heap.size, 3, none⟩ = some (.int .i64 c)) ∧ Below w.heap.size w W) := fun W hW => HX.out W (b1.out.trans (hW.mono b1.out.size))
    have HC1 : Hid (∀ W, Below w1.heap.size w1 W → W.cell? ⟨D, 0, none⟩ = some (.int .i64 (dk.wait : Int)) ∧ W.cell? ⟨D, 1, none⟩ = some (.int .i64 (dk.passed : Int)) ∧ W.cell? ⟨D, 2, none⟩ = some (.int .i64 (dk.next : Int)) ∧ W.cell? ⟨D, 3, none⟩ = some (.map (some mb))) := fun W hW => (HQ.out W (HX1.out W hW).2).cells
    have HLt : Hid (w.heap.size < w1.heap.size) := by have := b1.out.size; simp at this; exact this
    have HQL : Hid (mb < w.heap.size) := HMB.out
    clear b1 bw HX HB1
    have S0 := (Below.refl w1.heap.size w1).drew
    have S1 : Sv w.heap.size D mb o d ee c dk w1.drew := ⟨(HX1.out _ S0).1, HC1.out _ S0⟩
    refine wp_region_held_drew (S := fun W => Sv w.heap.size D mb o d ee c dk W) (by kernel_rfl) S1 (fun hHeld => ?_)
    refine wpAnyH_take (i := 0) (v := .pointer (some ⟨D, 0, none⟩)) rfl (by kernel_rfl) (by kernel_rfl) (by kernel_rfl) (fun _ _ _ h => h) (Or.inl ⟨by rfl, ?_⟩) (by first | assumption | exact trivial) ?_
    · intro W hSW; go_simp; try (with_reducible rfl)
    simp only [Act.put, List.getElem_toArray, List.getElem_cons_succ, List.getElem_cons_zero, List.setIfInBounds_toArray, List.set_cons_zero, List.set_cons_succ]
    refine wpAnyH_take (i := 1) (v := .pointer (some ⟨D, 0, none⟩)) rfl (by kernel_rfl) (by kernel_rfl) (by kernel_rfl) (fun _ _ _ h => h) (Or.inl ⟨by rfl, ?_⟩) (by first | assumption | exact trivial) ?_
    · intro W hSW; go_simp; try (with_reducible rfl)
    simp only [Act.put, List.getElem_toArray, List.getElem_cons_succ, List.getElem_cons_zero, List.setIfInBounds_toArray, List.set_cons_zero, List.set_cons_succ]
    refine wpAnyH_take (i := 2) (v := .pointer (some ⟨D, 3, none⟩)) rfl (by kernel_rfl) (by kernel_rfl) (by kernel_rfl) (fun _ _ _ h => h) (Or.inl ⟨by rfl, ?_⟩) (by first | assumption | exact trivial) ?_
    · intro W hSW; go_simp; try (with_reducible rfl)
    simp only [Act.put, List.getElem_toArray, List.getElem_cons_succ, List.getElem_cons_zero, List.setIfInBounds_toArray, List.set_cons_zero, List.set_cons_succ]
    refine wpAnyH_take (i := 3) (v := .map (some mb)) rfl (by kernel_rfl) (by kernel_rfl) (by kernel_rfl) (fun _ _ _ h => h) (Or.inl ⟨by rfl, ?_⟩) (by first | assumption | exact trivial) ?_
    · intro W hSW; obtain ⟨_, _, _, z⟩ := hSW.2; go_simp; try (with_reducible rfl)
    simp only [Act.put, List.getElem_toArray, List.getElem_cons_succ, List.getElem_cons_zero, List.setIfInBounds_toArray, List.set_cons_zero, List.set_cons_succ]
    refine wpAnyH_take (i := 4) (v := .agg #[.int .i64 o, .int .i64 d, .int .i64 ee, .int .i64 c]) rfl (by kernel_rfl) (by kernel_rfl) (by kernel_rfl) (fun _ _ _ h => h) (Or.inl ⟨by rfl, ?_⟩) (by first | assumption | exact trivial) ?_
    · intro W hSW; obtain ⟨y0, y1, y2, y3⟩ := hSW.1; go_simp; try (with_reducible rfl)
    simp only [Act.put, List.getElem_toArray, List.getElem_cons_succ, List.getElem_cons_zero, List.setIfInBounds_toArray, List.set_cons_zero, List.set_cons_succ]
    refine wpAnyH_ready (rs := [5]) (by kernel_rfl) (by simp) ?_
    refine AllReadyH.cons rfl (fun K hK => ?_) AllReadyH.nil
    have HQ7 := HQ.out _ (HX1.out _ S0).2
    refine delW (.tmp 18) (.tmp 19) rfl mb m dk.kept j rfl (by rw [HJC.out]; rfl) HQ7.map HF.out ?_
    intro w7 hm7 hb7 hs7
    have hbw := But.of_below (S := fun k => k = mb) (HX1.out _ S0).2
    have hDn : Dn w D mb m (dk.with KP) w7 := by
      rw [← HK.out]
      exact ⟨⟨_, by have := HS.out (by first | rfl | trivial); rw [if_pos this]; exact Nat.sub_le _ _, HQ7.put hm7 hb7⟩, hbw.trans hb7 fun _ _ e => e⟩
    have SV7 : Sv w.heap.size D mb o d ee c dk w7 := S1.same (hb7.same _ (by show w.heap.size < w1.heap.size; exact HLt.out) (by have := HQL.out; omega)) (hb7.same _ HQ7.ltD HQ7.ne)
    have HDN := Lib.hid hDn
    clear hDn hbw hm7 hs7
    refine hK.out _ _ (SV7) (fun hHeld => ?_)
    clear hK K
    refine wpAnyH_done (by kernel_rfl) ?_ _
    go_wp2
    go_ret
    exact ⟨rfl, HDN.out⟩

theorem Back_nil (i : Mg.Id4) (w : World) : Calls Try.prog 32 #[.pointer none, .agg (Mg.idC i)] w fun e w' => e = .returned (.bool false) ∧ Hid (Below w.heap.size w w') := by
  have HI := Lib.hid (fun W => Is_nil i W)
  have HX := Lib.hid (idbox i w)
  obtain ⟨o, d, ee, c⟩ := i
  simp only [Mg.idC] at HI HX ⊢
  go_enter Try.func32, Try.ntmps32
  go_wp2_with (go_at_call 23; refine (HI.out _).mono ?_; rintro e w1 ⟨rfl, b1⟩; obtain ⟨_, bw⟩ := HX.out w1 b1.out)
  go_ret
  exact ⟨rfl, bw⟩
set_option maxRecDepth 100000 in
theorem Back_any (D mb m : Nat) (dk : Dk) (i : Mg.Id4) (w : World) (h : Hid (Dq w D mb m dk)) (hf : Fit i) : Calls Try.prog 32 #[.pointer (some ⟨D, 0, none⟩), .agg (Mg.idC i)] w fun e w' => e = .returned (.bool (isB dk.kept i)) ∧ Hid (Dn w D mb m (backK dk i) w') := by
  have HX := Lib.hid (idbox i w)
  have hb1 : Below w.heap.size w (w.alloc (.cells (Mg.idC i) 23 (0, 0))) := Me.below_alloc (Below.refl _ _)
  have HI : Hid (∀ W, Below w.heap.size w W → Calls Try.prog 23 #[.pointer (some ⟨D, 0, none⟩), .agg (Mg.idC i)] W fun e w' => e = .returned (.bool (isB dk.kept i)) ∧ Hid (Below W.heap.size W w')) := fun W hW => Is_any D mb m dk i W (h.out.below hW) hf
  have HQ : Hid (∀ W, Below w.heap.size w W → Dq W D mb m dk) := fun W hW => h.out.below hW
  have HMB : Hid (mb < w.heap.size) := h.out.ltm
  have HT : Hid ((backK dk i) = if isB dk.kept i = true then dk.with (delK dk.kept i) else dk) := rfl
  have hi0 : isB dk.kept i = true → (dk.kept i).isSome = true := isB_some
  have HS : Hid ((isB dk.kept i) = true → (dk.kept i).isSome = true) := fun h => by
    exact hi0 h
  rw [HT.out]
  obtain ⟨q, hq⟩ : ∃ q, (isB dk.kept i) = q := ⟨_, rfl⟩
  simp only [hq] at HI HS ⊢
  have HB1 := Lib.hid hb1
  have HF := Lib.hid hf
  clear h hf hb1 hq hi0 HT
  cases q
  · rw [if_neg (by decide)]
    obtain ⟨o, d, ee, c⟩ := i
    simp only [Mg.idC] at HX HI HB1 ⊢
    go_enter Try.func32, Try.ntmps32
    go_wp2_with (go_at_call 23; refine (HI.out _ HB1.out).mono ?_; rintro e w1 ⟨rfl, b1⟩; obtain ⟨_, bw⟩ := HX.out w1 b1.out)
    go_ret
    exact ⟨rfl, ⟨m, Nat.le_refl _, HQ.out _ bw⟩, But.of_below bw⟩
  · rw [if_pos rfl]
    obtain ⟨KP, hK⟩ : ∃ KP, delK dk.kept i = KP := ⟨_, rfl⟩
    rw [hK]
    have HK := Lib.hid hK
    clear hK
    obtain ⟨j, hj⟩ : ∃ j, i = j := ⟨_, rfl⟩
    have HJ := Lib.hid hj
    obtain ⟨o, d, ee, c⟩ := i
    rw [hj] at HF HS HK
    have hjC : Mg.idC j = #[.int .i64 o, .int .i64 d, .int .i64 ee, .int .i64 c] := by rw [← hj]; rfl
    have HJC := Lib.hid hjC
    clear hj hjC
    simp only [Mg.idC] at HX HI HB1 ⊢
    go_enter Try.func32, Try.ntmps32
    go_wp2_with (go_at_call 23; refine (HI.out _ HB1.out).mono ?_; rintro e w1 ⟨rfl, b1⟩; obtain ⟨_, bw⟩ := HX.out w1 b1.out)
    have HX1 : Hid (∀ W, Below w1.heap.size w1 W → (W.cell? ⟨w.heap.size, 0, none⟩ = some (.int .i64 o) ∧ W.cell? ⟨w.heap.size, 1, none⟩ = some (.int .i64 d) ∧ W.cell? ⟨w.heap.size, 2, none⟩ = some (.int .i64 ee) ∧ W.cell? ⟨w.heap.size, 3, none⟩ = some (.int .i64 c)) ∧ Below w.heap.size w W) := fun W hW => HX.out W (b1.out.trans (hW.mono b1.out.size))
    have HC1 : Hid (∀ W, Below w1.heap.size w1 W → W.cell? ⟨D, 0, none⟩ = some (.int .i64 (dk.wait : Int)) ∧ W.cell? ⟨D, 1, none⟩ = some (.int .i64 (dk.passed : Int)) ∧ W.cell? ⟨D, 2, none⟩ = some (.int .i64 (dk.next : Int)) ∧ W.cell? ⟨D, 3, none⟩ = some (.map (some mb))) := fun W hW => (HQ.out W (HX1.out W hW).2).cells
    have HLt : Hid (w.heap.size < w1.heap.size) := by have := b1.out.size; simp at this; exact this
    have HQL : Hid (mb < w.heap.size) := HMB.out
    clear b1 bw HX HB1
    have S0 := (Below.refl w1.heap.size w1).drew
    have S1 : Sv w.heap.size D mb o d ee c dk w1.drew := ⟨(HX1.out _ S0).1, HC1.out _ S0⟩
    refine wp_region_held_drew (S := fun W => Sv w.heap.size D mb o d ee c dk W) (by kernel_rfl) S1 (fun hHeld => ?_)
    refine wpAnyH_take (i := 0) (v := .pointer (some ⟨D, 0, none⟩)) rfl (by kernel_rfl) (by kernel_rfl) (by kernel_rfl) (fun _ _ _ h => h) (Or.inl ⟨by rfl, ?_⟩) (by first | assumption | exact trivial) ?_
    · intro W hSW; go_simp; try (with_reducible rfl)
    simp only [Act.put, List.getElem_toArray, List.getElem_cons_succ, List.getElem_cons_zero, List.setIfInBounds_toArray, List.set_cons_zero, List.set_cons_succ]
    refine wpAnyH_take (i := 1) (v := .pointer (some ⟨D, 0, none⟩)) rfl (by kernel_rfl) (by kernel_rfl) (by kernel_rfl) (fun _ _ _ h => h) (Or.inl ⟨by rfl, ?_⟩) (by first | assumption | exact trivial) ?_
    · intro W hSW; go_simp; try (with_reducible rfl)
    simp only [Act.put, List.getElem_toArray, List.getElem_cons_succ, List.getElem_cons_zero, List.setIfInBounds_toArray, List.set_cons_zero, List.set_cons_succ]
    refine wpAnyH_take (i := 2) (v := .pointer (some ⟨D, 3, none⟩)) rfl (by kernel_rfl) (by kernel_rfl) (by kernel_rfl) (fun _ _ _ h => h) (Or.inl ⟨by rfl, ?_⟩) (by first | assumption | exact trivial) ?_
    · intro W hSW; go_simp; try (with_reducible rfl)
    simp only [Act.put, List.getElem_toArray, List.getElem_cons_succ, List.getElem_cons_zero, List.setIfInBounds_toArray, List.set_cons_zero, List.set_cons_succ]
    refine wpAnyH_take (i := 3) (v := .map (some mb)) rfl (by kernel_rfl) (by kernel_rfl) (by kernel_rfl) (fun _ _ _ h => h) (Or.inl ⟨by rfl, ?_⟩) (by first | assumption | exact trivial) ?_
    · intro W hSW; obtain ⟨_, _, _, z⟩ := hSW.2; go_simp; try (with_reducible rfl)
    simp only [Act.put, List.getElem_toArray, List.getElem_cons_succ, List.getElem_cons_zero, List.setIfInBounds_toArray, List.set_cons_zero, List.set_cons_succ]
    refine wpAnyH_take (i := 4) (v := .agg #[.int .i64 o, .int .i64 d, .int .i64 ee, .int .i64 c]) rfl (by kernel_rfl) (by kernel_rfl) (by kernel_rfl) (fun _ _ _ h => h) (Or.inl ⟨by rfl, ?_⟩) (by first | assumption | exact trivial) ?_
    · intro W hSW; obtain ⟨y0, y1, y2, y3⟩ := hSW.1; go_simp; try (with_reducible rfl)
    simp only [Act.put, List.getElem_toArray, List.getElem_cons_succ, List.getElem_cons_zero, List.setIfInBounds_toArray, List.set_cons_zero, List.set_cons_succ]
    refine wpAnyH_ready (rs := [5]) (by kernel_rfl) (by simp) ?_
    refine AllReadyH.cons rfl (fun K hK => ?_) AllReadyH.nil
    have HQ7 := HQ.out _ (HX1.out _ S0).2
    refine delW (.tmp 12) (.tmp 13) rfl mb m dk.kept j rfl (by rw [HJC.out]; rfl) HQ7.map HF.out ?_
    intro w7 hm7 hb7 hs7
    have hbw := But.of_below (S := fun k => k = mb) (HX1.out _ S0).2
    have hDn : Dn w D mb m (dk.with KP) w7 := by
      rw [← HK.out]
      exact ⟨⟨_, by have := HS.out (by first | rfl | trivial); rw [if_pos this]; exact Nat.sub_le _ _, HQ7.put hm7 hb7⟩, hbw.trans hb7 fun _ _ e => e⟩
    have SV7 : Sv w.heap.size D mb o d ee c dk w7 := S1.same (hb7.same _ (by show w.heap.size < w1.heap.size; exact HLt.out) (by have := HQL.out; omega)) (hb7.same _ HQ7.ltD HQ7.ne)
    have HDN := Lib.hid hDn
    clear hDn hbw hm7 hs7
    refine hK.out _ _ (SV7) (fun hHeld => ?_)
    clear hK K
    refine wpAnyH_done (by kernel_rfl) ?_ _
    go_wp2
    go_ret
    exact ⟨rfl, HDN.out⟩

theorem Ref_nil (t n : Int) (i : Mg.Id4) (w : World) : Calls Try.prog 33 #[.pointer none, .int .i64 t, .int .i64 n, .agg (Mg.idC i)] w fun e w' => e = .returned (.bool false) ∧ Hid (Below w.heap.size w w') := by
  have HI := Lib.hid (fun W => Off_nil t n i W)
  have HX := Lib.hid (idbox i w)
  obtain ⟨o, d, ee, c⟩ := i
  simp only [Mg.idC] at HI HX ⊢
  go_enter Try.func33, Try.ntmps33
  go_wp2_with (go_at_call 62; refine (HI.out _).mono ?_; rintro e w1 ⟨rfl, b1⟩; obtain ⟨_, bw⟩ := HX.out w1 b1.out)
  go_ret
  exact ⟨rfl, bw⟩
set_option maxRecDepth 100000 in
theorem Ref_any (D mb m : Nat) (dk : Dk) (t n : Int) (i : Mg.Id4) (w : World) (h : Hid (Dq w D mb m dk)) (hf : Fit i) (hm : m ≤ 1000000000000000000) (hp : dk.passed ≤ 1000000) (hw : dk.wait ≤ 64) : Calls Try.prog 33 #[.pointer (some ⟨D, 0, none⟩), .int .i64 t, .int .i64 n, .agg (Mg.idC i)] w fun e w' => e = .returned (.bool (offB dk.kept t n i)) ∧ Hid (Dn w D mb m (refK dk t n i) w') := by
  have HPW : Hid (IntKind.i64.wrap ((dk.passed : Int) + dk.wait) = (dk.passed : Int) + dk.wait) := Mi.fits' (by unfold Mi.I64; omega)
  have HM := Lib.hid hm
  clear hm hp hw
  have HX := Lib.hid (idbox i w)
  have hb1 : Below w.heap.size w (w.alloc (.cells (Mg.idC i) 23 (0, 0))) := Me.below_alloc (Below.refl _ _)
  have HI : Hid (∀ W, Below w.heap.size w W → Calls Try.prog 62 #[.pointer (some ⟨D, 0, none⟩), .int .i64 t, .int .i64 n, .agg (Mg.idC i)] W fun e w' => e = .returned (.bool (offB dk.kept t n i)) ∧ Hid (Below W.heap.size W w')) := fun W hW => Off_any D mb m dk t n i W (h.out.below hW) hf
  have HQ : Hid (∀ W, Below w.heap.size w W → Dq W D mb m dk) := fun W hW => h.out.below hW
  have HMB : Hid (mb < w.heap.size) := h.out.ltm
  have HT : Hid ((refK dk t n i) = if offB dk.kept t n i = true then dk.with (putK dk.kept i ⟨false, 0, 0, (dk.passed : Int) + dk.wait⟩) else dk) := rfl
  have hi0 : isB dk.kept i = true → (dk.kept i).isSome = true := isB_some
  have HS : Hid ((offB dk.kept t n i) = true → (dk.kept i).isSome = true) := fun h => by
    unfold offB at h; rw [Bool.and_eq_true] at h; exact hi0 h.1
  rw [HT.out]
  obtain ⟨q, hq⟩ : ∃ q, (offB dk.kept t n i) = q := ⟨_, rfl⟩
  simp only [hq] at HI HS ⊢
  have HB1 := Lib.hid hb1
  have HF := Lib.hid hf
  clear h hf hb1 hq hi0 HT
  cases q
  · rw [if_neg (by decide)]
    obtain ⟨o, d, ee, c⟩ := i
    simp only [Mg.idC] at HX HI HB1 ⊢
    go_enter Try.func33, Try.ntmps33
    go_wp2_with (go_at_call 62; refine (HI.out _ HB1.out).mono ?_; rintro e w1 ⟨rfl, b1⟩; obtain ⟨_, bw⟩ := HX.out w1 b1.out)
    go_ret
    exact ⟨rfl, ⟨m, Nat.le_refl _, HQ.out _ bw⟩, But.of_below bw⟩
  · rw [if_pos rfl]
    obtain ⟨KP, hK⟩ : ∃ KP, putK dk.kept i ⟨false, 0, 0, (dk.passed : Int) + dk.wait⟩ = KP := ⟨_, rfl⟩
    rw [hK]
    have HK := Lib.hid hK
    clear hK
    obtain ⟨j, hj⟩ : ∃ j, i = j := ⟨_, rfl⟩
    have HJ := Lib.hid hj
    obtain ⟨o, d, ee, c⟩ := i
    rw [hj] at HF HS HK
    have hjC : Mg.idC j = #[.int .i64 o, .int .i64 d, .int .i64 ee, .int .i64 c] := by rw [← hj]; rfl
    have HJC := Lib.hid hjC
    clear hj hjC
    simp only [Mg.idC] at HX HI HB1 ⊢
    go_enter Try.func33, Try.ntmps33
    go_wp2_with (go_at_call 62; refine (HI.out _ HB1.out).mono ?_; rintro e w1 ⟨rfl, b1⟩; obtain ⟨_, bw⟩ := HX.out w1 b1.out)
    have HX1 : Hid (∀ W, Below w1.heap.size w1 W → (W.cell? ⟨w.heap.size, 0, none⟩ = some (.int .i64 o) ∧ W.cell? ⟨w.heap.size, 1, none⟩ = some (.int .i64 d) ∧ W.cell? ⟨w.heap.size, 2, none⟩ = some (.int .i64 ee) ∧ W.cell? ⟨w.heap.size, 3, none⟩ = some (.int .i64 c)) ∧ Below w.heap.size w W) := fun W hW => HX.out W (b1.out.trans (hW.mono b1.out.size))
    have HC1 : Hid (∀ W, Below w1.heap.size w1 W → W.cell? ⟨D, 0, none⟩ = some (.int .i64 (dk.wait : Int)) ∧ W.cell? ⟨D, 1, none⟩ = some (.int .i64 (dk.passed : Int)) ∧ W.cell? ⟨D, 2, none⟩ = some (.int .i64 (dk.next : Int)) ∧ W.cell? ⟨D, 3, none⟩ = some (.map (some mb))) := fun W hW => (HQ.out W (HX1.out W hW).2).cells
    have HLt : Hid (w.heap.size < w1.heap.size) := by have := b1.out.size; simp at this; exact this
    have HQL : Hid (mb < w.heap.size) := HMB.out
    clear b1 bw HX HB1
    have S0 := (Below.refl w1.heap.size w1).drew
    have S1 : Sv w.heap.size D mb o d ee c dk w1.drew := ⟨(HX1.out _ S0).1, HC1.out _ S0⟩
    refine wp_region_held_drew (S := fun W => Sv w.heap.size D mb o d ee c dk W) (by kernel_rfl) S1 (fun hHeld => ?_)
    refine wpAnyH_take (i := 0) (v := .pointer (some ⟨D, 0, none⟩)) rfl (by kernel_rfl) (by kernel_rfl) (by kernel_rfl) (fun _ _ _ h => h) (Or.inl ⟨by rfl, ?_⟩) (by first | assumption | exact trivial) ?_
    · intro W hSW; go_simp; try (with_reducible rfl)
    simp only [Act.put, List.getElem_toArray, List.getElem_cons_succ, List.getElem_cons_zero, List.setIfInBounds_toArray, List.set_cons_zero, List.set_cons_succ]
    refine wpAnyH_take (i := 1) (v := .pointer (some ⟨D, 0, none⟩)) rfl (by kernel_rfl) (by kernel_rfl) (by kernel_rfl) (fun _ _ _ h => h) (Or.inl ⟨by rfl, ?_⟩) (by first | assumption | exact trivial) ?_
    · intro W hSW; go_simp; try (with_reducible rfl)
    simp only [Act.put, List.getElem_toArray, List.getElem_cons_succ, List.getElem_cons_zero, List.setIfInBounds_toArray, List.set_cons_zero, List.set_cons_succ]
    refine wpAnyH_take (i := 2) (v := .pointer (some ⟨D, 3, none⟩)) rfl (by kernel_rfl) (by kernel_rfl) (by kernel_rfl) (fun _ _ _ h => h) (Or.inl ⟨by rfl, ?_⟩) (by first | assumption | exact trivial) ?_
    · intro W hSW; go_simp; try (with_reducible rfl)
    simp only [Act.put, List.getElem_toArray, List.getElem_cons_succ, List.getElem_cons_zero, List.setIfInBounds_toArray, List.set_cons_zero, List.set_cons_succ]
    refine wpAnyH_take (i := 3) (v := .map (some mb)) rfl (by kernel_rfl) (by kernel_rfl) (by kernel_rfl) (fun _ _ _ h => h) (Or.inl ⟨by rfl, ?_⟩) (by first | assumption | exact trivial) ?_
    · intro W hSW; obtain ⟨_, _, _, z⟩ := hSW.2; go_simp; try (with_reducible rfl)
    simp only [Act.put, List.getElem_toArray, List.getElem_cons_succ, List.getElem_cons_zero, List.setIfInBounds_toArray, List.set_cons_zero, List.set_cons_succ]
    refine wpAnyH_take (i := 4) (v := .agg #[.int .i64 o, .int .i64 d, .int .i64 ee, .int .i64 c]) rfl (by kernel_rfl) (by kernel_rfl) (by kernel_rfl) (fun _ _ _ h => h) (Or.inl ⟨by rfl, ?_⟩) (by first | assumption | exact trivial) ?_
    · intro W hSW; obtain ⟨y0, y1, y2, y3⟩ := hSW.1; go_simp; try (with_reducible rfl)
    simp only [Act.put, List.getElem_toArray, List.getElem_cons_succ, List.getElem_cons_zero, List.setIfInBounds_toArray, List.set_cons_zero, List.set_cons_succ]
    refine wpAnyH_take (i := 5) (v := .pointer (some ⟨D, 0, none⟩)) rfl (by kernel_rfl) (by kernel_rfl) (by kernel_rfl) (fun _ _ _ h => h) (Or.inl ⟨by rfl, ?_⟩) (by first | assumption | exact trivial) ?_
    · intro W hSW; go_simp; try (with_reducible rfl)
    simp only [Act.put, List.getElem_toArray, List.getElem_cons_succ, List.getElem_cons_zero, List.setIfInBounds_toArray, List.set_cons_zero, List.set_cons_succ]
    refine wpAnyH_take (i := 6) (v := .pointer (some ⟨D, 0, none⟩)) rfl (by kernel_rfl) (by kernel_rfl) (by kernel_rfl) (fun _ _ _ h => h) (Or.inl ⟨by rfl, ?_⟩) (by first | assumption | exact trivial) ?_
    · intro W hSW; go_simp; try (with_reducible rfl)
    simp only [Act.put, List.getElem_toArray, List.getElem_cons_succ, List.getElem_cons_zero, List.setIfInBounds_toArray, List.set_cons_zero, List.set_cons_succ]
    refine wpAnyH_take (i := 7) (v := .pointer (some ⟨D, 1, none⟩)) rfl (by kernel_rfl) (by kernel_rfl) (by kernel_rfl) (fun _ _ _ h => h) (Or.inl ⟨by rfl, ?_⟩) (by first | assumption | exact trivial) ?_
    · intro W hSW; go_simp; try (with_reducible rfl)
    simp only [Act.put, List.getElem_toArray, List.getElem_cons_succ, List.getElem_cons_zero, List.setIfInBounds_toArray, List.set_cons_zero, List.set_cons_succ]
    refine wpAnyH_take (i := 8) (v := .int .i64 (dk.passed : Int)) rfl (by kernel_rfl) (by kernel_rfl) (by kernel_rfl) (fun _ _ _ h => h) (Or.inl ⟨by rfl, ?_⟩) (by first | assumption | exact trivial) ?_
    · intro W hSW; obtain ⟨_, z, _, _⟩ := hSW.2; go_simp; try (with_reducible rfl)
    simp only [Act.put, List.getElem_toArray, List.getElem_cons_succ, List.getElem_cons_zero, List.setIfInBounds_toArray, List.set_cons_zero, List.set_cons_succ]
    refine wpAnyH_take (i := 9) (v := .pointer (some ⟨D, 0, none⟩)) rfl (by kernel_rfl) (by kernel_rfl) (by kernel_rfl) (fun _ _ _ h => h) (Or.inl ⟨by rfl, ?_⟩) (by first | assumption | exact trivial) ?_
    · intro W hSW; go_simp; try (with_reducible rfl)
    simp only [Act.put, List.getElem_toArray, List.getElem_cons_succ, List.getElem_cons_zero, List.setIfInBounds_toArray, List.set_cons_zero, List.set_cons_succ]
    refine wpAnyH_take (i := 10) (v := .pointer (some ⟨D, 0, none⟩)) rfl (by kernel_rfl) (by kernel_rfl) (by kernel_rfl) (fun _ _ _ h => h) (Or.inl ⟨by rfl, ?_⟩) (by first | assumption | exact trivial) ?_
    · intro W hSW; go_simp; try (with_reducible rfl)
    simp only [Act.put, List.getElem_toArray, List.getElem_cons_succ, List.getElem_cons_zero, List.setIfInBounds_toArray, List.set_cons_zero, List.set_cons_succ]
    refine wpAnyH_take (i := 11) (v := .pointer (some ⟨D, 0, none⟩)) rfl (by kernel_rfl) (by kernel_rfl) (by kernel_rfl) (fun _ _ _ h => h) (Or.inl ⟨by rfl, ?_⟩) (by first | assumption | exact trivial) ?_
    · intro W hSW; go_simp; try (with_reducible rfl)
    simp only [Act.put, List.getElem_toArray, List.getElem_cons_succ, List.getElem_cons_zero, List.setIfInBounds_toArray, List.set_cons_zero, List.set_cons_succ]
    refine wpAnyH_take (i := 12) (v := .int .i64 (dk.wait : Int)) rfl (by kernel_rfl) (by kernel_rfl) (by kernel_rfl) (fun _ _ _ h => h) (Or.inl ⟨by rfl, ?_⟩) (by first | assumption | exact trivial) ?_
    · intro W hSW; obtain ⟨z, _, _, _⟩ := hSW.2; go_simp; try (with_reducible rfl)
    simp only [Act.put, List.getElem_toArray, List.getElem_cons_succ, List.getElem_cons_zero, List.setIfInBounds_toArray, List.set_cons_zero, List.set_cons_succ]
    refine wpAnyH_take (i := 13) (v := .int .i64 ((dk.passed : Int) + dk.wait)) rfl (by kernel_rfl) (by kernel_rfl) (by kernel_rfl) (fun _ _ _ h => h) (Or.inl ⟨by rfl, ?_⟩) (by first | assumption | exact trivial) ?_
    · intro W hSW; have z := HPW.out; go_simp; try (with_reducible rfl)
    simp only [Act.put, List.getElem_toArray, List.getElem_cons_succ, List.getElem_cons_zero, List.setIfInBounds_toArray, List.set_cons_zero, List.set_cons_succ]
    refine wpAnyH_take (i := 14) (v := .agg #[.bool false, .int .i64 0, .int .i64 0, .int .i64 ((dk.passed : Int) + dk.wait)]) rfl (by kernel_rfl) (by kernel_rfl) (by kernel_rfl) (fun _ _ _ h => h) (Or.inl ⟨by rfl, ?_⟩) (by first | assumption | exact trivial) ?_
    · intro W hSW; go_simp; try (with_reducible rfl)
    simp only [Act.put, List.getElem_toArray, List.getElem_cons_succ, List.getElem_cons_zero, List.setIfInBounds_toArray, List.set_cons_zero, List.set_cons_succ]
    refine wpAnyH_ready (rs := [15]) (by kernel_rfl) (by simp) ?_
    refine AllReadyH.cons rfl (fun K hK => ?_) AllReadyH.nil
    have HQ7 := HQ.out _ (HX1.out _ S0).2
    refine putW (.tmp 18) (.tmp 19) (.tmp 29) rfl mb m dk.kept j ⟨false, 0, 0, (dk.passed : Int) + dk.wait⟩ rfl (by rw [HJC.out]; rfl) rfl HQ7.map HM.out HF.out ?_
    intro w7 hm7 hb7 hs7
    have hbw := But.of_below (S := fun k => k = mb) (HX1.out _ S0).2
    have hDn : Dn w D mb m (dk.with KP) w7 := by
      rw [← HK.out]
      exact ⟨⟨_, by have := HS.out (by first | rfl | trivial); rw [if_pos this]; exact Nat.le_refl _, HQ7.put hm7 hb7⟩, hbw.trans hb7 fun _ _ e => e⟩
    have SV7 : Sv w.heap.size D mb o d ee c dk w7 := S1.same (hb7.same _ (by show w.heap.size < w1.heap.size; exact HLt.out) (by have := HQL.out; omega)) (hb7.same _ HQ7.ltD HQ7.ne)
    have HDN := Lib.hid hDn
    clear hDn hbw hm7 hs7
    refine hK.out _ _ (SV7) (fun hHeld => ?_)
    clear hK K
    refine wpAnyH_done (by kernel_rfl) ?_ _
    go_wp2
    go_ret
    exact ⟨rfl, HDN.out⟩

end Go.Proofs.Ytohfoieibgmmdaa.Hp
