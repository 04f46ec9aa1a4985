/- The id of a text: Parse. -/
import Derived.Test.YtljndfkmppmbkaaDoorMgLead
import Derived.Test.YtljndfkmppmbkaaDoorMgRGet
namespace Go.Proofs.YtljndfkmppmbkaaDoor.Mg
open Go.RowKit
open Go.Proofs.YtljndfkmppmbkaaDoor.Me Go.Proofs.YtljndfkmppmbkaaDoor.Ba Go.Proofs.YtljndfkmppmbkaaDoor.Ma Go.Proofs.YtljndfkmppmbkaaDoor.Hd
set_option linter.unusedVariables false
set_option linter.unusedSimpArgs false

theorem sB_inj {a b : List UInt8} (h : sB a = sB b) : a = b := by
  unfold sB at h
  simpa using h
theorem sB_beq (a b : List UInt8) : ((sB a).toList == (sB b).toList) = decide (a = b) := by
  rw [Lib.toList_data, Lib.toList_data]
  exact Bool.eq_iff_iff.2 (by rw [beq_iff_eq, decide_eq_true_iff]; rfl)
theorem id_cells {W : World} {D : Nat} {o d e c : Int} (h : W.heap[D]? = some (.cells #[.int .i64 o, .int .i64 d, .int .i64 e, .int .i64 c] 23 (0, 0))) : W.cell? ⟨D, 0, none⟩ = some (.int .i64 o) ∧ W.cell? ⟨D, 1, none⟩ = some (.int .i64 d) ∧ W.cell? ⟨D, 2, none⟩ = some (.int .i64 e) ∧ W.cell? ⟨D, 3, none⟩ = some (.int .i64 c) := by
  refine ⟨?_, ?_, ?_, ?_⟩
  all_goals
    rw [cell_of_row _ D _ _ _ (0, 0) h]
    rfl
/-- An answer: an id, and a number. -/
def IdP (i : Id4) (z : Nat) (w : World) (e : Ending) (w' : World) : Prop := e = .returned (.tuple #[.agg (idC i), .int .i64 (z : Int)]) ∧ Hid (Below w.heap.size w w')
set_option maxRecDepth 100000 in
set_option maxHeartbeats 8000000 in
theorem Parse_any (s : List UInt8) (w : World) (hs : s.length ≤ 9223372036854775807) (hT : Hid (Tab w)) : Calls Tryd.prog 29 #[.string (sB s)] w (IdP (psI s) (psZ s) w) := by
  obtain ⟨W1, hW1⟩ : ∃ W, w.alloc (.cells #[.int .i64 0, .int .i64 0, .int .i64 0, .int .i64 0] 23) = W := ⟨_, rfl⟩
  obtain ⟨W2, hW2⟩ : ∃ W, W1.alloc (.cells #[.string (sB s)] 9) = W := ⟨_, rfl⟩
  have b1 : Below w.heap.size w W1 := by rw [← hW1]; exact Me.below_alloc (Below.refl _ _)
  have z1 : W1.heap.size = w.heap.size + 1 := by rw [← hW1]; simp
  have b2 : Below W1.heap.size W1 W2 := by rw [← hW2]; exact Me.below_alloc (Below.refl _ _)
  have z2 : W2.heap.size = w.heap.size + 1 + 1 := by rw [← hW2, World.size_alloc, z1]
  have b12 : Below w.heap.size w W2 := b1.trans (b2.mono b1.size)
  have r2 : W2.heap[w.heap.size]? = some (.cells #[.int .i64 0, .int .i64 0, .int .i64 0, .int .i64 0] 23 (0, 0)) := (b2.block _ (by omega)).trans (by rw [← hW1]; exact heap_alloc_new w _)
  have p2 : W2.heap[w.heap.size + 1]? = some (.cells #[.string (sB s)] 9 (0, 0)) := by
    rw [← hW2, ← z1]
    exact heap_alloc_new W1 _
  have hG := gath1 (w.heap.size + 1) (fun k => (pnu s k : Int)) (JP s (w.heap.size + 1) W2) W2 ⟨p2, But.refl _ _⟩ (jp_below (by omega)) (jp_reads (by omega) hs)
  obtain ⟨j, hj⟩ : ∃ j, pId s = j := ⟨_, rfl⟩
  have HG : Hid (Calls Tryd.prog 40 #[.func (.func 46) #[] #[.pointer (some ⟨w.heap.size + 1, 0, none⟩)]] W2 fun e w' => e = .returned (.agg (idC j)) ∧ But (fun b => b = w.heap.size + 1) W2 w') := hG.mono fun e w' ⟨he, hj', _⟩ => ⟨he.trans (by rw [← hj]; rfl), hj'.2⟩
  have HBB : Hid (∀ w4 w5, But (fun b => b = w.heap.size + 1) W2 w4 → Below (w4.alloc (.cells (idC j) 23)).heap.size (w4.alloc (.cells (idC j) 23)) w5 → Below w.heap.size w w5 ∧ (∀ cs, Below w.heap.size w (w5.setRow w.heap.size cs)) ∧ w5.heap[w.heap.size]? = some (.cells #[.int .i64 0, .int .i64 0, .int .i64 0, .int .i64 0] 23 (0, 0)) ∧ w5.heap[w4.heap.size]? = some (.cells (idC j) 23 (0, 0))) := fun w4 w5 h4 h5 => by
    have e1 := b12.trans (h4.below b12.size fun k e => by omega)
    have e2 := Me.below_alloc (o := .cells (idC j) 23) e1
    have e3 := e2.trans (h5.mono e2.size)
    have hlt : w.heap.size < w4.heap.size := by have := h4.size; omega
    exact ⟨e3, fun cs => below_setRow cs e3 (Nat.le_refl _), (h5.block _ (by simp; omega)).trans ((Below.heap_alloc _ _ _ hlt).trans ((h4.same _ (by omega) (by omega)).trans r2)), (h5.block _ (by simp)).trans (heap_alloc_new w4 _)⟩
  have HW : Hid ((w.alloc (.cells #[.int .i64 0, .int .i64 0, .int .i64 0, .int .i64 0] 23)).alloc (.cells #[.string (sB s)] 9) = W2) := by
    show _ = _
    rw [hW1, hW2]
  have HTX : Hid (∀ W, Below w.heap.size w W → Calls Tryd.prog 27 #[.agg (idC j)] W fun e w' => e = .returned (.tuple #[.string (if chkN j = 0 then sB (txK j 4) else ⟨#[]⟩), .int .i64 (chkN j : Int)]) ∧ Hid (Below W.heap.size W w')) := fun W hW => by
    by_cases hk : chkN j = 0
    · rw [if_pos hk, hk]
      exact Text_ok j (right_iff.1 hk) W (it_tab (hT.out.on hW) (right_iff.1 hk))
    · rw [if_neg hk]
      exact Text_no j hk W
  unfold IdP
  by_cases hk : chkN j = 0
  · simp only [if_pos hk] at HTX
    rw [hk] at HTX
    have hq := sB_beq (txK j 4) s
    by_cases hts : txK j 4 = s
    · have hO : psO s := by unfold psO; rw [hj]; exact ⟨hk, hts⟩
      have hI : psI s = j := by unfold psI; rw [if_pos hO, hj]
      have hZ : psZ s = 0 := by unfold psZ; rw [if_pos hO]
      rw [hI, hZ]
      rw [decide_eq_true hts] at hq
      obtain ⟨X, hX⟩ : ∃ X, sB (txK j 4) = X := ⟨_, rfl⟩
      obtain ⟨S, hS⟩ : ∃ S, sB s = S := ⟨_, rfl⟩
      rw [hX] at HTX hq
      rw [hS] at HW hq ⊢
      clear hW1 hW2 b1 z1 b2 z2 b12 r2 p2 hG hj hk hts hO hI hZ hX hS hs hT
      obtain ⟨o, dd, ee, c⟩ := j
      simp only [idC, show ((0 : Nat) : Int) = 0 from rfl] at HG HTX HBB ⊢
      go_enter Tryd.func29, Tryd.ntmps29
      go_wp2_with (first
        | (rw [HW.out])
        | (go_at_call 40; with_reducible refine HG.out.mono ?_; rintro e w4 ⟨rfl, hb4⟩; have HB4 := Lib.hid hb4; obtain ⟨x1, x2, x3, x4⟩ := HBB.out w4 _ hb4 (Below.refl _ _); have X1 := Lib.hid x1; obtain ⟨y0, y1, y2, y3⟩ := id_cells x4; clear hb4 x1 x2 x3 x4)
        | (go_at_call 27; refine (HTX.out _ X1.out).mono ?_; rintro e w5 ⟨rfl, hb5⟩; obtain ⟨x1, x2, x3, x4⟩ := HBB.out w4 w5 HB4.out hb5.out; have X2 := Lib.hid x2; have X3 := Lib.hid x3; obtain ⟨y0, y1, y2, y3⟩ := id_cells x4; clear x1 x2 x3 x4)
        | (refine wpList_store_row rfl 23 (.tmp 2) (.tmp 24) rfl w.heap.size #[.int .i64 o, .int .i64 dd, .int .i64 ee, .int .i64 c] rfl rfl 23 _ X3.out (by kernel_rfl) rfl (id_one _ _ _ _) ?_))
      exact ret_box2 (g := w.heap.size) rfl (by rfl) (setRow_heap _ _ _ _ _ _ X3.out) rfl Tryd.underlying23 (by kernel_rfl) rfl ⟨rfl, X2.out _⟩
    · have hO : ¬ psO s := by unfold psO; rw [hj]; exact fun h => hts h.2
      have hI : psI s = ⟨0, 0, 0, 0⟩ := by unfold psI; rw [if_neg hO]
      have hZ : psZ s = 2 := by unfold psZ; rw [if_neg hO]
      rw [hI, hZ]
      rw [decide_eq_false hts] at hq
      obtain ⟨X, hX⟩ : ∃ X, sB (txK j 4) = X := ⟨_, rfl⟩
      obtain ⟨S, hS⟩ : ∃ S, sB s = S := ⟨_, rfl⟩
      rw [hX] at HTX hq
      rw [hS] at HW hq ⊢
      clear hW1 hW2 b1 z1 b2 z2 b12 r2 p2 hG hj hk hO hI hZ hX hS hs hT hts
      obtain ⟨o, dd, ee, c⟩ := j
      simp only [idC, show ((0 : Nat) : Int) = 0 from rfl, show ((2 : Nat) : Int) = 2 from rfl] at HG HTX HBB ⊢
      go_enter Tryd.func29, Tryd.ntmps29
      go_wp2_with (first
        | (rw [HW.out])
        | (go_at_call 40; with_reducible refine HG.out.mono ?_; rintro e w4 ⟨rfl, hb4⟩; have HB4 := Lib.hid hb4; obtain ⟨x1, x2, x3, x4⟩ := HBB.out w4 _ hb4 (Below.refl _ _); have X1 := Lib.hid x1; obtain ⟨y0, y1, y2, y3⟩ := id_cells x4; clear hb4 x1 x2 x3 x4)
        | (go_at_call 27; refine (HTX.out _ X1.out).mono ?_; rintro e w5 ⟨rfl, hb5⟩; obtain ⟨x1, x2, x3, x4⟩ := HBB.out w4 w5 HB4.out hb5.out; have X2 := Lib.hid x2; have X3 := Lib.hid x3; clear x1 x2 x3 x4)
        | (refine wpList_store_row rfl 23 (.tmp 2) (.tmp 23) rfl w.heap.size #[.int .i64 0, .int .i64 0, .int .i64 0, .int .i64 0] rfl rfl 23 _ X3.out (by kernel_rfl) rfl (id_one _ _ _ _) ?_))
      exact ret_box2 (g := w.heap.size) rfl (by rfl) (setRow_heap _ _ _ _ _ _ X3.out) rfl Tryd.underlying23 (by kernel_rfl) rfl ⟨rfl, X2.out _⟩
  · simp only [if_neg hk] at HTX
    have hne := nz hk
    have hO : ¬ psO s := by unfold psO; rw [hj]; exact fun h => hk h.1
    have hI : psI s = ⟨0, 0, 0, 0⟩ := by unfold psI; rw [if_neg hO]
    have hZ : psZ s = 2 := by unfold psZ; rw [if_neg hO]
    rw [hI, hZ]
    obtain ⟨k, hX⟩ : ∃ k, chkN j = k := ⟨_, rfl⟩
    obtain ⟨S, hS⟩ : ∃ S, sB s = S := ⟨_, rfl⟩
    rw [hX] at HTX hne
    rw [hS] at HW ⊢
    have hne2 : ((k : Int) != 0) = true := by simp only [bne, hne, Bool.not_false]
    clear hW1 hW2 b1 z1 b2 z2 b12 r2 p2 hG hj hk hO hI hZ hX hS hs hT
    obtain ⟨o, dd, ee, c⟩ := j
    simp only [idC, show ((0 : Nat) : Int) = 0 from rfl, show ((2 : Nat) : Int) = 2 from rfl] at HG HTX HBB ⊢
    go_enter Tryd.func29, Tryd.ntmps29
    go_wp2_with (first
      | (rw [HW.out])
      | (go_at_call 40; with_reducible refine HG.out.mono ?_; rintro e w4 ⟨rfl, hb4⟩; have HB4 := Lib.hid hb4; obtain ⟨x1, x2, x3, x4⟩ := HBB.out w4 _ hb4 (Below.refl _ _); have X1 := Lib.hid x1; obtain ⟨y0, y1, y2, y3⟩ := id_cells x4; clear hb4 x1 x2 x3 x4)
      | (go_at_call 27; refine (HTX.out _ X1.out).mono ?_; rintro e w5 ⟨rfl, hb5⟩; obtain ⟨x1, x2, x3, x4⟩ := HBB.out w4 w5 HB4.out hb5.out; have X2 := Lib.hid x2; have X3 := Lib.hid x3; clear x1 x2 x3 x4)
      | (refine wpList_store_row rfl 23 (.tmp 2) (.tmp 23) rfl w.heap.size #[.int .i64 0, .int .i64 0, .int .i64 0, .int .i64 0] rfl rfl 23 _ X3.out (by kernel_rfl) rfl (id_one _ _ _ _) ?_))
    exact ret_box2 (g := w.heap.size) rfl (by rfl) (setRow_heap _ _ _ _ _ _ X3.out) rfl Tryd.underlying23 (by kernel_rfl) rfl ⟨rfl, X2.out _⟩
end Go.Proofs.YtljndfkmppmbkaaDoor.Mg
