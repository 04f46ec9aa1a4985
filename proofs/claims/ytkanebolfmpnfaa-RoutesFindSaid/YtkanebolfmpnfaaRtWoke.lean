/- The laws' awake. -/
import Derived.Test.YtkanebolfmpnfaaRtNew
import Derived.Test.YtkanebolfmpnfaaRtLook
namespace Go.Proofs.Ytkanebolfmpnfaa.Rt
open Go.RowKit Go.Maps
open Go.Proofs.Ytkanebolfmpnfaa.Sb
set_option linter.unusedVariables false
set_option linter.unusedSimpArgs false

/-- Block g is a block of ints: these 64. -/
def Ia (w : World) (g : Nat) (f : Nat → Int) : Prop := w.heap[g]? = some (.cells (row f) 3 (0, 0))
theorem Ia.cell {w : World} {g : Nat} {f : Nat → Int} (h : Ia w g f) {j : Nat} (hj : j < 64) : w.cell? ⟨g, j, none⟩ = some (.int .i64 (f j)) := by rw [cell_of_row w g j _ _ (0, 0) h, row_at f hj]
theorem Ia.frozen {w : World} {g : Nat} {f : Nat → Int} (h : Ia w g f) (j : Nat) : w.frozen? ⟨g, j, none⟩ = false := frozen_of_row w g j _ _ h
theorem Ia.lt {w : World} {g : Nat} {f : Nat → Int} (h : Ia w g f) : g < w.heap.size := (Array.getElem?_eq_some_iff.1 h).1
theorem Ia.set {w : World} {g : Nat} {f : Nat → Int} (h : Ia w g f) {j : Nat} (hj : j < 64) (v : Int) : Ia (w.setCell ⟨g, j, none⟩ (.int .i64 v)) g (upd f j v) := by
  unfold Ia
  rw [heap_setCell_same w g j _ _ _ h, row_set f hj]
theorem Ia.eq {w : World} {g : Nat} {f f' : Nat → Int} (h : Ia w g f) (he : ∀ d, d < 64 → f d = f' d) : Ia w g f' := by
  unfold Ia
  rw [← row_eq he]
  exact h
/-- 64 numbers as a list. -/
def listOf (f : Nat → Int) : List Int := (List.range 64).map f
theorem list_len (f : Nat → Int) : (listOf f).length = 64 := by simp [listOf]
theorem list_at (f : Nat → Int) {j : Nat} (h : j < 64) : Mi.at_ (listOf f) j = f j := by simp [Mi.at_, listOf, h]
theorem Ia.rd {w : World} {g : Nat} {f : Nat → Int} (h : Ia w g f) : Mi.Rd w w.heap.size (some ⟨g, 0, none⟩) (listOf f) := fun _ => ⟨g, 0, rfl, h.lt, fun i hi => by
  rw [list_len] at hi
  rw [Nat.zero_add, h.cell hi, list_at f hi]⟩
theorem Ar.rd {w : World} {g : Nat} {f : Nat → Int} (h : Ar w g f) : Mi.Rd w w.heap.size (some ⟨g, 0, none⟩) (listOf f) := fun _ => ⟨g, 0, rfl, h.lt, fun i hi => by
  rw [list_len] at hi
  rw [Nat.zero_add, h.cell hi, list_at f hi]⟩
def flatF (dest : Nat) (cost : Int) : Nat → Int := upd (fun _ => 16) dest cost
set_option maxRecDepth 100000 in
theorem flat_any (dest : Nat) (cost : Int) (hd : dest < 64) (w : World) : Calls Try.prog 35 #[.int .i64 (dest : Int), .int .i64 cost] w fun e w' => e = .returned (.slice (some ⟨w.heap.size, 0, none⟩) 64 64) ∧ Hid (Ia w' w.heap.size (flatF dest cost)) ∧ Hid (Below w.heap.size w w') := by
  have hmk : ∀ W : World, (Instr.makeSlice 22 (.int .i64 64) (.int .i64 64)).run Try.prog W = .ok (.slice (some ⟨W.heap.size, 0, none⟩) 64 64) (W.alloc (.cells (row fun _ => 0) 3 (0, 0))) := fun W => by kernel_rfl
  have H0 : Hid (Ia (w.alloc (.cells (row fun _ => 0) 3 (0, 0))) w.heap.size fun _ => 0) := heap_alloc_new w _
  have HB0 : Hid (Below w.heap.size w (w.alloc (.cells (row fun _ => 0) 3 (0, 0)))) := Mi.below_alloc (Below.refl _ _)
  have g64 : (dest : Int) < 64 := by omega
  go_enter Try.func35, Try.ntmps35
  go_wp2
  go_loopw [6] (fun k wr => ∃ i : Nat, i ≤ 64 ∧ k = .int .i64 i ∧ Hid (Ia wr w.heap.size fun d => if d < i then 16 else 0) ∧ Hid (Below w.heap.size w wr)) (fun k _ => 64 - (intOf k).toNat)
  case atStart => exact ⟨0, Nat.zero_le _, rfl, H0.out.eq (by intro d _; simp), HB0⟩
  case round =>
    obtain ⟨i, hi, rfl, H1, HB⟩ := hrel
    clear H0 HB0
    by_cases hlt : i < 64
    · have c2 := H1.out.cell hlt
      have f2 := H1.out.frozen i
      have hi64 : (i : Int) < 64 := by omega
      have HP : Hid (Ia (wr.setCell ⟨w.heap.size, i, none⟩ (.int .i64 16)) w.heap.size fun d => if d < i + 1 then 16 else 0) := (H1.out.set hlt 16).eq (by
        intro d hd
        simp only [upd]
        by_cases e : d = i
        · rw [if_pos e, if_pos (by omega)]
        · rw [if_neg e]
          by_cases h : d < i
          · rw [if_pos h, if_pos (by omega)]
          · rw [if_neg h, if_neg (by omega)])
      go_wp2
      go_roundw
      case rel => exact ⟨i + 1, by omega, by go_num, HP, HB.out.setCell (p := ⟨w.heap.size, i, none⟩) (Nat.le_refl _) _⟩
      case measure => simp [intOf]; omega
    · obtain rfl : i = 64 := by omega
      have H3 : Hid (Ia wr w.heap.size fun _ => 16) := H1.out.eq (by intro d hd; simp [hd])
      have c2 := H3.out.cell hd
      have f2 := H3.out.frozen dest
      have H4 : Hid (Ia (wr.setCell ⟨w.heap.size, dest, none⟩ (.int .i64 cost)) w.heap.size (flatF dest cost)) := H3.out.set hd cost
      clear H1
      go_wp2
      go_ret
      exact ⟨rfl, H4, HB.out.setCell (p := ⟨w.heap.size, dest, none⟩) (Nat.le_refl _) _⟩
def wokeT : Tb := ⟨1, [0, 2], 9, fun _ => -1, putK (fun _ => none) 2 (nwOf (listOf (flatF 3 1)))⟩
theorem woke_new : newE ((1 : Nat) : Int) [0, 2] ((9 : Nat) : Int) = 0 := by decide +kernel
theorem woke_hear : hearE (newT 1 9 [0, 2]) ((2 : Nat) : Int) (listOf (flatF 3 1)) = 0 := by decide +kernel
theorem woke_next : nextN wokeT 3 = (2, true) := by decide +kernel
theorem woke_cost : costN wokeT 3 = 2 := by decide +kernel
theorem woke_vec : vecF wokeT 2 3 = 16 := by decide +kernel
theorem woke_ok : wokeT.Ok := by
  refine ⟨by decide, by decide, fun x hx => ?_, by decide, fun _ _ => .inl rfl, rfl, fun n p hn hk => ?_⟩
  · simp only [wokeT, List.mem_cons, List.not_mem_nil, or_false] at hx
    rcases hx with rfl | rfl
    · exact ⟨0, rfl, by decide, by decide⟩
    · exact ⟨2, rfl, by decide, by decide⟩
  · simp only [wokeT, putK] at hk
    split at hk
    · rename_i e
      subst e
      cases hk
      refine ⟨by decide, fun d hd => ?_, by decide⟩
      show 0 ≤ Mi.at_ (listOf (flatF 3 1)) d ∧ Mi.at_ (listOf (flatF 3 1)) d ≤ 16
      rw [list_at _ hd]
      unfold flatF upd
      by_cases e : d = 3 <;> simp [e]
    · cases hk
set_option maxHeartbeats 4000000 in
theorem awake_any (w : World) : Calls Try.prog 11 #[] w fun e w' => e = .returned (.bool true) ∧ Hid (Below w.heap.size w w') := by
  have HR : Hid (Mi.Rd (w.alloc (.cells #[.int .i64 0, .int .i64 2] 3)) (w.heap.size + 1) (some ⟨w.heap.size, 0, none⟩) [0, 2]) := Mi.rd_lit [0, 2] 3
  have HN := Lib.hid (New_ok 1 9 (some ⟨w.heap.size, 0, none⟩) 2 (w.heap.size + 1) [0, 2] (w.alloc (.cells #[.int .i64 0, .int .i64 2] 3)) HR (fun e => by cases e) (by simp) woke_new)
  have HB0 : Hid (Below w.heap.size w (w.alloc (.cells #[.int .i64 0, .int .i64 2] 3))) := Mi.below_alloc (Below.refl _ _)
  have HF := Lib.hid (flat_any 3 1 (by decide))
  have s1 : ((1 : Nat) : Int) = 1 := rfl
  have s9 : ((9 : Nat) : Int) = 9 := rfl
  have s3 : ((3 : Nat) : Int) = 3 := rfl
  rw [s1, s9] at HN
  rw [s3] at HF
  go_enter Try.func11, Try.ntmps11
  go_wp2_with (first
    | (go_at_call 9; refine HN.out.mono ?_; rintro e w1 ⟨D, mb, v, rfl, ht1, hb1⟩)
    | (go_at_call 35; refine (HF.out _).mono ?_; rintro e w2 ⟨rfl, hi2, hb2⟩
       have HH := Hear_ok w2 D mb v (newT 1 9 [0, 2]) (ht1.out.tq.below hb2.out) (by decide) 2 (by decide) (some ⟨w1.heap.size, 0, none⟩) 64 (listOf (flatF 3 1)) w2.heap.size (hi2.out.rd) (Nat.le_refl _) woke_hear
       rw [list_len] at HH
       have hD2 := ht1.out.gD
       have hm2 := ht1.out.gm)
    | (go_at_call 23; refine HH.mono ?_; rintro e w3 ⟨rfl, ht3, hb3⟩; clear HH
       have HT3 : Hid (Tq w3 D mb v wokeT) := ht3
       have HB3 : Hid (Below w.heap.size w w3) := (HB0.out.trans (hb1.out.mono (by simp))).trans ((hb2.out.mono (by have := hb1.out.size; simp at this; omega)).trans (hb3.out.below (by have := hb1.out.size; have := hb2.out.size; simp at *; omega) (fun k e => by (subst e; simp at hm2; omega))))
       have HX := Next_any w3 D mb v wokeT HT3 woke_ok 3
       rw [woke_next] at HX)
    | (go_at_call 16; refine HX.mono ?_; rintro e w4 ⟨rfl, hb4⟩; clear HX
       have HT4 : Hid (Tq w4 D mb v wokeT) := HT3.out.below hb4.out
       have HV := Vector_any w4 D mb v wokeT HT4 woke_ok 2 (by decide) (by decide))
    | (go_at_call 21; refine HV.mono ?_; rintro e w5 ⟨g, rfl, hg5, ha5, hb5⟩; clear HV
       have HT5 : Hid (Tq w5 D mb v wokeT) := HT4.out.below hb5.out
       have HC := Cost_any w5 D mb v wokeT HT5 woke_ok 3
       rw [woke_cost] at HC)
    | (go_at_call 18; refine HC.mono ?_; rintro e w6 ⟨rfl, hb6⟩; clear HC
       have c6 := (ha5.out.below hb6.out ha5.out.lt).cell (j := 3) (by decide)
       rw [woke_vec] at c6))
  go_ret
  exact ⟨rfl, (((HB3.out.trans (hb4.out.mono HB3.out.size)).trans (hb5.out.mono (Nat.le_trans HB3.out.size hb4.out.size))).trans (hb6.out.mono (Nat.le_trans HB3.out.size (Nat.le_trans hb4.out.size hb5.out.size))))⟩
end Go.Proofs.Ytkanebolfmpnfaa.Rt
