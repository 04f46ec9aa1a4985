/- The law's via; New. -/
import Derived.Test.YtohfoieibgmmdaaHpWaits
namespace Go.Proofs.Ytohfoieibgmmdaa.Hp
open Go.RowKit Go.Maps
open Go.Proofs.Ytohfoieibgmmdaa.Sb
set_option linter.unusedVariables false
set_option linter.unusedSimpArgs false

theorem made_ln {w : World} {B g n : Nat} {xs : List Value} (hn : 1 ≤ n) (h : w.ownsRow B 3 1 (.slice (some ⟨g, 0, none⟩) n n) n xs) : ∃ cs : Array Value, w.heap[g]? = some (.cells cs 3 (0, 0)) ∧ cs.size = n := by
  rcases h.2 with ⟨e, _⟩ | ⟨g', cap, cur, e, _, h3, _, _, h6, _⟩
  · cases e
  · cases e
    exact ⟨cur, h3, by rw [h6]; omega⟩
theorem grown_below {w w' : World} (h : w.grownBy w' none) : Below w.heap.size w w' := (But.refl (fun _ => False) w).grown h (by simp) |>.below (Nat.le_refl _) (fun _ h => h.elim)
set_option maxRecDepth 100000 in
theorem via_any (n : Int) (w : World) : Calls Try.prog 34 #[.int .i64 n] w fun e w' => ∃ g, e = .returned (.slice (some ⟨g, 0, none⟩) 64 64) ∧ w.heap.size ≤ g ∧ Hid (Mi.Rd w' w'.heap.size (some ⟨g, 0, none⟩) (List.replicate 64 n)) ∧ Hid (Below w.heap.size w w') := by
  obtain ⟨i0, hi, hz0, hz1, hz2⟩ := info_parts Mi.infoI
  go_enter Try.func34, Try.ntmps34
  go_wp2_with (at_make; refine wpList_make_full _ rfl (.const (.int .i64 64)) (.const (.int .i64 64)) 27 rfl w.heap.size 3 i0 (.int .i64 0) 1 Try.underlying27 hi hz0 hz1 .i64 .i64 _ _ 64 rfl rfl rfl rfl (by rw [hz2]; omega) (by unfold maxLen; omega) (Nat.le_refl _) ?_; intro w2 hown2 hg2)
  obtain ⟨cs0, hc0, hs0⟩ := made_ln (by omega) hown2
  have HB2 := Lib.hid (grown_below hg2)
  obtain ⟨g, hg⟩ : ∃ g, w.heap.size = g := ⟨_, rfl⟩
  have HG : Hid (w.heap.size = g) := hg
  rw [hg] at hc0 ⊢
  clear hg hown2 hg2
  have HBW : Hid (Below g w w2) := by rw [← HG.out]; exact HB2
  go_loopw [4] (fun k wr => ∃ (i : Nat) (cs : Array Value), i ≤ 64 ∧ k = .int .i64 i ∧ Hid (wr.heap[g]? = some (.cells cs 3 (0, 0)) ∧ cs.size = 64 ∧ ∀ j, j < i → cs[j]? = some (.int .i64 n)) ∧ Hid (Below g w wr)) (fun k _ => 64 - (intOf k).toNat)
  case atStart => exact ⟨0, cs0, Nat.zero_le _, rfl, ⟨hc0, hs0, fun j hj => by omega⟩, HBW⟩
  case round =>
    obtain ⟨i, cs, hin, rfl, hcs, hbr⟩ := hrel
    clear hc0 hs0 HB2 HBW
    by_cases hlt : i < 64
    · obtain ⟨h1, h2, h3⟩ := hcs.out
      have hil : i < cs.size := by omega
      have HC : Hid (wr.heap[g]? = some (.cells cs 3 (0, 0))) := h1
      have c5 : wr.cell? ⟨g, i, none⟩ = some cs[i] := by rw [cell_of_row wr g i _ _ (0, 0) h1, Array.getElem?_eq_getElem hil]
      have z5 : wr.frozen? ⟨g, i, none⟩ = false := frozen_of_row wr g i _ _ h1
      have H3 := Lib.hid h3
      have H2 := Lib.hid h2
      have HIL := Lib.hid hil
      clear h1 h2 h3
      go_wp2
      have hnx : Hid ((wr.setCell ⟨g, i, none⟩ (.int .i64 n)).heap[g]? = some (.cells (cs.setIfInBounds i (.int .i64 n)) 3 (0, 0)) ∧ (cs.setIfInBounds i (.int .i64 n)).size = 64 ∧ ∀ j, j < i + 1 → (cs.setIfInBounds i (.int .i64 n))[j]? = some (.int .i64 n)) := by
        refine ⟨heap_setCell_same wr g i _ _ _ HC.out, by simp [H2.out], fun j hj => ?_⟩
        rw [Array.getElem?_setIfInBounds]
        by_cases e : i = j
        · subst e; simp [HIL.out]
        · rw [if_neg e]; exact H3.out j (by omega)
      have hbx : Hid (Below g w (wr.setCell ⟨g, i, none⟩ (.int .i64 n))) := hbr.out.setCell (p := ⟨g, i, none⟩) (Nat.le_refl _) _
      go_roundw
      case rel => exact ⟨i + 1, _, by omega, by go_num, hnx, hbx⟩
      case measure => simp [intOf]; omega
    · have HK : Hid (i = 64) := by show i = 64; omega
      go_wp2
      go_ret
      obtain rfl := HK.out
      refine ⟨g, rfl, by rw [HG.out]; exact Nat.le_refl _, ?_, by rw [HG.out]; exact hbr⟩
      obtain ⟨h1, h2, h3⟩ := hcs.out
      intro _
      refine ⟨g, 0, rfl, (Array.getElem?_eq_some_iff.1 h1).1, fun j hj => ?_⟩
      rw [List.length_replicate] at hj
      rw [Nat.zero_add, cell_of_row wr g j _ _ (0, 0) h1, h3 j hj]
      rw [Mi.at_get (by rw [List.length_replicate]; exact hj), List.getElem_replicate]
/-- What New answers. -/
theorem New_bad (x : Int) (hx : x < 1 ∨ 64 < x) (w : World) : Calls Try.prog 18 #[.int .i64 x] w fun e w' => e = .returned (.tuple #[.pointer none, .int .i64 1]) ∧ w = w' := by
  by_cases h1 : x < 1
  · have g1 : decide (x < 1) = true := decide_eq_true h1
    go_enter Try.func18, Try.ntmps18
    go_wp2
    go_ret2
    exact ⟨rfl, rfl⟩
  · have g1 : decide (x < 1) = false := decide_eq_false h1
    have g2 : decide (64 < x) = true := decide_eq_true (by omega)
    go_enter Try.func18, Try.ntmps18
    go_wp2
    go_ret2
    exact ⟨rfl, rfl⟩
theorem New_ok (x : Nat) (hx : 1 ≤ x ∧ x ≤ 64) (w : World) : Calls Try.prog 18 #[.int .i64 (x : Int)] w fun e w' => ∃ D mb, e = .returned (.tuple #[.pointer (some ⟨D, 0, none⟩), .int .i64 0]) ∧ w.heap.size ≤ D ∧ w.heap.size ≤ mb ∧ Hid (Dq w' D mb 0 ⟨x, 0, 0, fun _ => none⟩) ∧ Hid (Below w.heap.size w w') := by
  have g1 : decide ((x : Int) < 1) = false := decide_eq_false (by omega)
  have g2 : decide (64 < (x : Int)) = false := decide_eq_false (by omega)
  have HM : Hid (Mp (w.alloc (.map #[] 0)) w.heap.size 0 fun _ => none) := Mp.made w
  have HB : Hid (Below w.heap.size w ((w.alloc (.map #[] 0)).alloc (.cells #[.int .i64 x, .int .i64 0, .int .i64 0, .map (some w.heap.size)] 85))) := Mi.below_alloc (Mi.below_alloc (Below.refl _ _))
  have HMK : ∀ W : World, (Instr.makeMap 83 none).run Try.prog W = .ok (.map (some W.heap.size)) (W.alloc (.map #[] 0)) := fun W => by kernel_rfl
  clear hx
  go_enter Try.func18, Try.ntmps18
  go_wp2
  go_ret2
  refine ⟨w.heap.size + 1, w.heap.size, rfl, Nat.le_succ _, Nat.le_refl _, ⟨?_, ?_⟩, HB⟩
  · have := heap_alloc_new (w.alloc (.map #[] 0)) (.cells #[.int .i64 x, .int .i64 0, .int .i64 0, .map (some w.heap.size)] 85)
    rw [World.size_alloc] at this
    exact this
  · exact HM.out.same (Below.heap_alloc _ _ _ HM.out.lt)
end Go.Proofs.Ytohfoieibgmmdaa.Hp
