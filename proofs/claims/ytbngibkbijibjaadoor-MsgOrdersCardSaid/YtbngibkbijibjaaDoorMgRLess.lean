/- The reference's answer: which of two ids is ahead. -/
import Derived.Test.YtbngibkbijibjaaDoorMgCmp
namespace Go.Proofs.YtbngibkbijibjaaDoor.Mg
open Go.RowKit
open Go.Proofs.YtbngibkbijibjaaDoor.Me
set_option linter.unusedVariables false
set_option linter.unusedSimpArgs false

/-- An id's numbers, each in its own cell, read by its place. -/
theorem Four.at {W : World} {g : Nat} {i : Id4} (h : Four W g i) {k : Nat} (hk : k < 4) : W.cell? ⟨g, k, none⟩ = some (.int .i64 (ix i k)) := by
  obtain ⟨a, b, c, d⟩ := h
  obtain rfl | rfl | rfl | rfl : k = 0 ∨ k = 1 ∨ k = 2 ∨ k = 3 := by omega
  · exact a
  · exact b
  · exact c
  · exact d
set_option maxRecDepth 100000 in
set_option maxHeartbeats 4000000 in
theorem RLess_any (a b : Id4) (w : World) : Calls Tryd.prog 16 #[.agg (idC a), .agg (idC b)] w fun e w' => e = .returned (.bool (ltB a b)) ∧ Hid (Below w.heap.size w w') := by
  have HA : Hid (∀ W, Calls Tryd.prog 35 #[.agg (idC a)] W fun e w' => ∃ g, e = .returned (.slice (some ⟨g, 0, none⟩) 4 4) ∧ W.heap.size ≤ g ∧ Hid (g < w'.heap.size ∧ Four w' g a) ∧ Hid (Below W.heap.size W w')) := fun W => Numbers_any a W
  have HB : Hid (∀ W, Calls Tryd.prog 35 #[.agg (idC b)] W fun e w' => ∃ g, e = .returned (.slice (some ⟨g, 0, none⟩) 4 4) ∧ W.heap.size ≤ g ∧ Hid (g < w'.heap.size ∧ Four w' g b) ∧ Hid (Below W.heap.size W w')) := fun W => Numbers_any b W
  obtain ⟨W2, hW2⟩ : ∃ W2, (w.alloc (.cells (idC a) 23 (0, 0))).alloc (.cells (idC b) 23 (0, 0)) = W2 := ⟨_, rfl⟩
  have h1 : Below (w.alloc (.cells (idC a) 23 (0, 0))).heap.size (w.alloc (.cells (idC a) 23 (0, 0))) W2 := by rw [← hW2]; exact Me.below_alloc (Below.refl _ _)
  have hs2 : W2.heap.size = w.heap.size + 2 := by rw [← hW2]; simp
  have f1 : Four W2 w.heap.size a := (four_new w a 23).below (by simp) h1
  have f2 : Four W2 (w.heap.size + 1) b := by
    have := four_new (w.alloc (.cells (idC a) 23 (0, 0))) b 23
    rw [hW2, World.size_alloc] at this
    exact this
  have hbw : Hid (Below w.heap.size w W2) := by show Below _ _ _; rw [← hW2]; exact Me.below_alloc (Me.below_alloc (Below.refl _ _))
  have HF : Hid (∀ W, Below W2.heap.size W2 W → Four W w.heap.size a ∧ Four W (w.heap.size + 1) b) := fun W hW => ⟨f1.below (by omega) hW, f2.below (by omega) hW⟩
  have HF0 := Lib.hid (HF.out W2 (Below.refl _ _))
  have HS := Lib.hid hs2
  have HLa : Hid (∀ k, k < 4 → (∀ j, j < k → ix a j = ix b j) → ¬ ix a k = ix b k → ltB a b = decide (ix a k < ix b k)) := fun k hk h hn => ltB_at hk h hn
  have HLe : Hid ((∀ j, j < 4 → ix a j = ix b j) → ltB a b = false) := fun h => ltB_eq h
  obtain ⟨z, hz⟩ : ∃ z, ltB a b = z := ⟨_, rfl⟩
  rw [hz] at HLa HLe ⊢
  clear h1 f1 f2 hs2 hz
  have HAt : Hid (∀ W g, Four W g a → ∀ k, k < 4 → W.cell? ⟨g, k, none⟩ = some (.int .i64 (ix a k))) := fun W g h k hk => h.at hk
  have HBt : Hid (∀ W g, Four W g b → ∀ k, k < 4 → W.cell? ⟨g, k, none⟩ = some (.int .i64 (ix b k))) := fun W g h k hk => h.at hk
  have HBa : Hid (∀ W W' g, Four W g a → g < W.heap.size → Below W.heap.size W W' → Four W' g a) := fun W W' g h hl hb => h.below hl hb
  have HBb : Hid (∀ W W' g, Four W g b → g < W.heap.size → Below W.heap.size W W' → Four W' g b) := fun W W' g h hl hb => h.below hl hb
  obtain ⟨fa, hfa⟩ : ∃ f : World → Nat → Prop, (fun W g => Four W g a) = f := ⟨_, rfl⟩
  have ea : ∀ W g, fa W g = Four W g a := fun W g => by rw [← hfa]
  obtain ⟨fb, hfb⟩ : ∃ f : World → Nat → Prop, (fun W g => Four W g b) = f := ⟨_, rfl⟩
  have eb : ∀ W g, fb W g = Four W g b := fun W g => by rw [← hfb]
  obtain ⟨xa, hxa⟩ : ∃ f : Nat → Int, ix a = f := ⟨_, rfl⟩
  obtain ⟨xb, hxb⟩ : ∃ f : Nat → Int, ix b = f := ⟨_, rfl⟩
  have HF0' := HF0.out
  have HFall := HF.out
  simp only [← ea] at HAt HBa HA
  simp only [← eb] at HBt HBb HB
  rw [hxa] at HAt HLa HLe
  rw [hxb] at HBt HLa HLe
  clear ea eb hfa hfb hxa hxb HF0 HF
  obtain ⟨o, d, ee, c⟩ := a
  obtain ⟨p, q, r, s⟩ := b
  simp only [idC, Four] at HA HB HF0' HFall hW2 ⊢
  have HFall := Lib.hid HFall
  obtain ⟨⟨y0, y1, y2, y3⟩, y4, y5, y6, y7⟩ := HF0'
  go_enter Tryd.func16, Tryd.ntmps16
  go_wp2_with (first
    | (rw [hW2])
    | (go_at_call 35; with_reducible refine (HA.out _).mono ?_; rintro e w1 ⟨ga, rfl, hga, ha, ba⟩; obtain ⟨⟨x0, x1, x2, x3⟩, x4, x5, x6, x7⟩ := HFall.out w1 ba.out)
    | (go_at_call 35; with_reducible refine (HB.out _).mono ?_; rintro e w2 ⟨gb, rfl, hgb, hb, bb⟩))
  have hl2 : ga < w2.heap.size := Nat.lt_of_lt_of_le ha.out.1 bb.out.size
  have hfa := HBa.out _ _ _ ha.out.2 ha.out.1 bb.out
  have H1 : Hid (∀ W, Below w2.heap.size w2 W → ∀ k, k < 4 → W.cell? ⟨ga, k, none⟩ = some (.int .i64 (xa k)) ∧ W.cell? ⟨gb, k, none⟩ = some (.int .i64 (xb k))) := fun W hW k hk => ⟨HAt.out _ _ (HBa.out _ _ _ hfa hl2 hW) k hk, HBt.out _ _ (HBb.out _ _ _ hb.out.2 hb.out.1 hW) k hk⟩
  have H2 : Hid (Below w.heap.size w w2) := hbw.out.trans ((ba.out.trans (bb.out.mono ba.out.size)).mono (by have := HS.out; omega))
  have hsz := H2.out.size
  clear hl2 hfa HAt HBt HBa HBb HA HB HFall hbw HS ha hb ba bb x0 x1 x2 x3 x4 x5 x6 x7 y0 y1 y2 y3 y4 y5 y6 y7 hW2 hga hgb
  go_loopw [7] (fun v wr => ∃ k : Nat, k ≤ 4 ∧ v = .int .i64 k ∧ Hid (∀ j, j < k → xa j = xb j) ∧ Hid (Below w2.heap.size w2 wr)) (fun v _ => 4 - (intOf v).toNat)
  case atStart => exact ⟨0, by omega, rfl, fun j hj => absurd hj (by omega), Below.refl _ _⟩
  case round =>
    obtain ⟨k, hk, rfl, HEq, HB⟩ := hrel
    by_cases hlt : k < 4
    · have HC : Hid (∀ q, (wr.drewN q).cell? ⟨ga, k, none⟩ = some (.int .i64 (xa k)) ∧ (wr.drewN q).cell? ⟨gb, k, none⟩ = some (.int .i64 (xb k))) := fun q => H1.out _ (Me.below_drewN HB.out q) k hlt
      have C0 := H1.out _ HB.out k hlt
      have q1 : (k : Int) < 4 := by omega
      by_cases he : xa k = xb k
      · have HE := Lib.hid he
        rw [he] at HC C0
        obtain ⟨y, hy⟩ : ∃ y, xb k = y := ⟨_, rfl⟩
        rw [hy] at HC C0
        obtain ⟨c1, c2⟩ := C0
        clear he hy
        go_wp2
        go_quiet (fail)
        go_wp2
        go_roundw
        case rel => exact ⟨k + 1, by omega, by go_num, (fun j hj => by
          by_cases e : j = k
          · subst e; exact HE.out
          · exact HEq.out j (by omega)), Me.below_drewN HB.out _⟩
        case measure => simp [intOf]; omega
      · have hR : Hid (z = decide (xa k < xb k)) := HLa.out k hlt HEq.out he
        obtain ⟨x, hx⟩ : ∃ x, xa k = x := ⟨_, rfl⟩
        obtain ⟨y, hy⟩ : ∃ y, xb k = y := ⟨_, rfl⟩
        rw [hx, hy] at HC hR C0
        have hne : (x == y) = false := by rw [← hx, ← hy]; simpa using he
        obtain ⟨c1, c2⟩ := C0
        clear he hx hy
        go_wp2
        go_quiet (fail)
        obtain ⟨c3, c4⟩ := HC.out nq
        have HB2 := Lib.hid (Me.below_drewN HB.out nq)
        obtain ⟨wx, hwx⟩ : ∃ wx, wr.drewN nq = wx := ⟨_, rfl⟩
        rw [hwx] at c3 c4 HB2 ⊢
        clear hwx
        go_wp2
        go_quiet (fail)
        go_wp2
        go_ret
        exact ⟨congrArg (fun b => Ending.returned (Value.bool b)) hR.out.symm, H2.out.trans ((Me.below_drewN HB2.out _).mono hsz)⟩
    · obtain rfl : k = 4 := by omega
      have HR : Hid (z = false) := HLe.out HEq.out
      go_wp2
      go_ret
      exact ⟨congrArg (fun b => Ending.returned (Value.bool b)) HR.out.symm, H2.out.trans (HB.out.mono hsz)⟩
end Go.Proofs.YtbngibkbijibjaaDoor.Mg
