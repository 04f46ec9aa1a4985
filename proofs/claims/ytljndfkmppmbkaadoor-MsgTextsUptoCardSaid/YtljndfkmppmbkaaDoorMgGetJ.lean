/- GetId of any bytes. -/
import Derived.Test.YtljndfkmppmbkaaDoorMgGetI
namespace Go.Proofs.YtljndfkmppmbkaaDoor.Mg
open Go.RowKit
open Go.Proofs.YtljndfkmppmbkaaDoor.Me Go.Proofs.YtljndfkmppmbkaaDoor.Ba Go.Proofs.YtljndfkmppmbkaaDoor.Ma Go.Proofs.YtljndfkmppmbkaaDoor.Bt Go.Proofs.YtljndfkmppmbkaaDoor.Hd
set_option linter.unusedVariables false
set_option linter.unusedSimpArgs false

theorem id_one (a b c d : Int) : (#[.int .i64 a, .int .i64 b, .int .i64 c, .int .i64 d] : Array Value).all (·.oneCell') = true := by simp [Value.oneCell']
set_option maxRecDepth 100000 in
set_option maxHeartbeats 8000000 in
theorem GetId_any (A : Option Addr) (n cap : Nat) (l : List Nat) (w : World) (hi : Hid (BySlice w A n cap l)) :
    Calls Tryd.prog 24 #[.slice A n cap] w fun e w' => e = .returned (.tuple #[.agg (idC (getI l)), .int .i64 (getZ l : Int)]) ∧ Hid (Below w.heap.size w w') := by
  obtain rfl : n = l.length := hi.out.1
  obtain ⟨W1, hW1⟩ : ∃ W, w.alloc (.cells #[.slice A l.length cap] 24) = W := ⟨_, rfl⟩
  obtain ⟨W2, hW2⟩ : ∃ W, W1.alloc (.cells #[.int .i64 0, .int .i64 0, .int .i64 0, .int .i64 0] 23) = W := ⟨_, rfl⟩
  have b1 : Below w.heap.size w W1 := by rw [← hW1]; exact Me.below_alloc (Below.refl _ _)
  have z1 : W1.heap.size = w.heap.size + 1 := by rw [← hW1]; simp
  have b2 : Below W1.heap.size W1 W2 := by rw [← hW2]; exact Me.below_alloc (Below.refl _ _)
  have z2 : W2.heap.size = w.heap.size + 1 + 1 := by rw [← hW2, World.size_alloc, z1]
  have p2 : W2.heap[w.heap.size]? = some (.cells #[.slice A l.length cap] 24 (0, 0)) := (b2.block _ (by omega)).trans (by rw [← hW1]; exact heap_alloc_new w _)
  have r2 : W2.heap[w.heap.size + 1]? = some (.cells #[.int .i64 0, .int .i64 0, .int .i64 0, .int .i64 0] 23 (0, 0)) := by
    rw [← hW2, ← z1]
    exact heap_alloc_new W1 _
  have b12 : Below w.heap.size w W2 := b1.trans (b2.mono b1.size)
  have c2 : W2.cell? ⟨w.heap.size, 0, none⟩ = some (.slice A l.length cap) := cell_of_row W2 w.heap.size 0 _ _ (0, 0) p2
  have hW : (w.alloc (.cells #[.slice A l.length cap] 24)).alloc (.cells #[.int .i64 0, .int .i64 0, .int .i64 0, .int .i64 0] 23) = W2 := by rw [hW1, hW2]
  have HW := Lib.hid hW
  have P2 := Lib.hid p2; have R2 := Lib.hid r2; have B12 := Lib.hid b12; have Z2 := Lib.hid z2
  clear hW1 hW2 b1 z1 b2 z2 p2 r2 b12 hW c2
  by_cases h6 : l.length = 6
  · have hlen : ((l.length : Int) == 6) = true := by simp [h6]
    obtain ⟨W3, hW3⟩ : ∃ W, W2.alloc (.cells #[.int .i64 0] 3) = W := ⟨_, rfl⟩
    have b3 : Below W2.heap.size W2 W3 := by rw [← hW3]; exact Me.below_alloc (Below.refl _ _)
    have z3 : W3.heap.size = w.heap.size + 1 + 1 + 1 := by rw [← hW3, World.size_alloc, Z2.out]
    have q3 : W3.heap[w.heap.size + 1 + 1]? = some (.cells #[.int .i64 ((lnK 0 : Nat) : Int)] 3 (0, 0)) := by
      rw [← hW3, ← Z2.out]
      exact heap_alloc_new W2 _
    have b13 : Below w.heap.size w W3 := B12.out.trans (b3.mono B12.out.size)
    have hr3 : Rd W3 W3.heap.size A l := (by_below hi.out b13).2.2.2.1
    have hA : ∀ a, A = some a → ¬ a.block = w.heap.size + 1 + 1 := by
      intro a ha e
      obtain ⟨b, off, e2, hb, _⟩ := hi.out.2.2.2.1.2 (by omega)
      rw [ha] at e2
      cases e2
      simp only at e
      omega
    have hG := gath2 w.heap.size (w.heap.size + 1 + 1) (fun k => (numP l (lnK k) (szk k) : Int)) (JG A cap l w.heap.size (w.heap.size + 1 + 1) W3) W3 ⟨(b3.block _ (by have := Z2.out; omega)).trans P2.out, q3, But.refl _ _⟩ (jg_below (by omega) (by omega)) (jg_reads (by omega) (by omega) (by omega) h6 hi.out.2.1 hi.out.2.2.1 hr3 hA)
    have HG : Hid (Calls Tryd.prog 40 #[.func (.func 41) #[] #[.pointer (some ⟨w.heap.size, 0, none⟩), .pointer (some ⟨w.heap.size + 1 + 1, 0, none⟩)]] W3 fun e w' => e = .returned (.agg (idC (idOf l))) ∧ But (fun b => b = w.heap.size + 1 + 1) W3 w') := hG.mono fun e w' ⟨he, hj, _⟩ => ⟨he, hj.2.2⟩
    have HR3 : Hid (W3.heap[w.heap.size + 1]? = some (.cells #[.int .i64 0, .int .i64 0, .int .i64 0, .int .i64 0] 23 (0, 0))) := (b3.block _ (by have := Z2.out; omega)).trans R2.out
    have HB3 := Lib.hid b13; have HZ3 := Lib.hid z3; have HW3 := Lib.hid hW3
    have HK := Lib.hid (fun W => Check_any (idOf l) W)
    have HBW : Hid (∀ w4 w5 cs x, But (fun b => b = w.heap.size + 1 + 1) W3 w4 → Below (w4.alloc x).heap.size (w4.alloc x) w5 → Below w.heap.size w (w5.setRow (w.heap.size + 1) cs)) := fun w4 w5 cs x h1 h2 => by
      have e1 := b13.trans (h1.below b13.size fun k e => by omega)
      have e2 := (Me.below_alloc (o := x) e1)
      have e3 := e2.trans (h2.mono e2.size)
      exact ⟨e3.os, e3.tape, e3.output, by simpa using e3.size, fun b hb => (setRow_other _ _ b _ (by omega)).trans (e3.block b hb)⟩
    have HRR : Hid (∀ w4 w5 x, But (fun b => b = w.heap.size + 1 + 1) W3 w4 → Below (w4.alloc x).heap.size (w4.alloc x) w5 → w5.heap[w.heap.size + 1]? = some (.cells #[.int .i64 0, .int .i64 0, .int .i64 0, .int .i64 0] 23 (0, 0))) := fun w4 w5 x h1 h2 => by
      have hlt : w.heap.size + 1 < w4.heap.size := by have := h1.size; omega
      exact (h2.block _ (by simp; omega)).trans ((Below.heap_alloc _ _ _ hlt).trans ((h1.same _ (by omega) (by omega)).trans HR3.out))
    obtain ⟨j, hj⟩ : ∃ j, idOf l = j := ⟨_, rfl⟩
    by_cases hk : chkN (idOf l) = 0
    · have hI : getI l = idOf l := by unfold getI; rw [if_pos ⟨h6, hk⟩]
      have hZ : getZ l = 0 := by unfold getZ; rw [if_pos ⟨h6, hk⟩]
      rw [hI, hZ]
      rw [hk] at HK
      rw [show ((0 : Nat) : Int) = 0 from rfl] at HK
      rw [hj] at HG HK ⊢
      clear hI hZ hk hG hA hr3 b3 z3 q3 b13 hW3 h6 P2 R2 hi hj
      obtain ⟨o, d, ee, c⟩ := j
      simp only [idC] at HG HK ⊢
      go_enter Tryd.func24, Tryd.ntmps24
      go_wp2_with (first
        | (go_at_call 40; rw [HW.out, HW3.out]; with_reducible refine HG.out.mono ?_; rintro e w4 ⟨rfl, hb4⟩; have HB4 := Lib.hid hb4)
        | (go_at_call 10; refine (HK.out _).mono ?_; rintro e w5 ⟨rfl, hb5⟩; obtain ⟨e0, e1, e2, e3⟩ := box4 o d ee c w4 w5 hb5.out; have HR5 := Lib.hid (HRR.out w4 w5 _ HB4.out hb5.out))
        | (refine wpList_store_row rfl 23 (.tmp 2) (.tmp 16) rfl (w.heap.size + 1) #[.int .i64 o, .int .i64 d, .int .i64 ee, .int .i64 c] rfl rfl 23 _ HR5.out (by kernel_rfl) rfl (id_one _ _ _ _) ?_))
      exact ret_box2 (g := w.heap.size + 1) rfl (by rfl) (setRow_heap _ _ _ _ _ _ HR5.out) rfl Tryd.underlying23 (by kernel_rfl) rfl ⟨rfl, HBW.out _ _ _ _ HB4.out hb5.out⟩
    · have hI : getI l = ⟨0, 0, 0, 0⟩ := by unfold getI; rw [if_neg (by simp [hk])]
      have hZ : getZ l = 2 := by unfold getZ; rw [if_neg (by simp [hk])]
      rw [hI, hZ]
      obtain ⟨x, hx⟩ : ∃ x, chkN (idOf l) = x := ⟨_, rfl⟩
      rw [hx] at HK hk
      have hne := nz hk
      rw [hj] at HG HK
      clear hI hZ hk hG hA hr3 b3 z3 q3 b13 hW3 h6 P2 R2 hi hj hx
      obtain ⟨o, d, ee, c⟩ := j
      simp only [idC] at HG HK ⊢
      go_enter Tryd.func24, Tryd.ntmps24
      go_wp2_with (first
        | (go_at_call 40; rw [HW.out, HW3.out]; with_reducible refine HG.out.mono ?_; rintro e w4 ⟨rfl, hb4⟩; have HB4 := Lib.hid hb4)
        | (go_at_call 10; refine (HK.out _).mono ?_; rintro e w5 ⟨rfl, hb5⟩; obtain ⟨e0, e1, e2, e3⟩ := box4 o d ee c w4 w5 hb5.out; have HR5 := Lib.hid (HRR.out w4 w5 _ HB4.out hb5.out))
        | (refine wpList_store_row rfl 23 (.tmp 2) (.tmp 15) rfl (w.heap.size + 1) #[.int .i64 0, .int .i64 0, .int .i64 0, .int .i64 0] rfl rfl 23 _ HR5.out (by kernel_rfl) rfl (id_one _ _ _ _) ?_))
      exact ret_box2 (g := w.heap.size + 1) rfl (by rfl) (setRow_heap _ _ _ _ _ _ HR5.out) rfl Tryd.underlying23 (by kernel_rfl) rfl ⟨rfl, HBW.out _ _ _ _ HB4.out hb5.out⟩
  · have hlen : ((l.length : Int) == 6) = false := by
      have : ¬ (l.length : Int) = 6 := by omega
      simpa using this
    have hI : getI l = ⟨0, 0, 0, 0⟩ := by unfold getI; rw [if_neg (by simp [h6])]
    have hZ : getZ l = 2 := by unfold getZ; rw [if_neg (by simp [h6])]
    rw [hI, hZ]
    simp only [idC]
    have HBE : Hid (Below w.heap.size w (W2.setRow (w.heap.size + 1) #[.int .i64 0, .int .i64 0, .int .i64 0, .int .i64 0])) := ⟨B12.out.os, B12.out.tape, B12.out.output, by simpa using B12.out.size, fun b hb => (setRow_other _ _ b _ (by omega)).trans (B12.out.block b hb)⟩
    have HRE := Lib.hid (setRow_heap W2 (w.heap.size + 1) _ #[.int .i64 0, .int .i64 0, .int .i64 0, .int .i64 0] _ _ R2.out)
    clear hI hZ h6 hi P2
    go_enter Tryd.func24, Tryd.ntmps24
    go_wp2_with (refine wpList_store_row rfl 23 (.tmp 2) (.tmp 9) rfl (w.heap.size + 1) #[.int .i64 0, .int .i64 0, .int .i64 0, .int .i64 0] rfl rfl 23 _ (by rw [HW.out]; exact R2.out) (by kernel_rfl) rfl (id_one _ _ _ _) ?_)
    first
      | (rw [HW.out]; exact ret_box2 (g := w.heap.size + 1) rfl (by rfl) HRE.out rfl Tryd.underlying23 (by kernel_rfl) rfl ⟨rfl, HBE.out⟩)
      | (rw [HW.out]; exact ret_box2 (g := w.heap.size + 1) rfl (by rfl) R2.out rfl Tryd.underlying23 (by kernel_rfl) rfl ⟨rfl, B12.out⟩)
end Go.Proofs.YtljndfkmppmbkaaDoor.Mg
