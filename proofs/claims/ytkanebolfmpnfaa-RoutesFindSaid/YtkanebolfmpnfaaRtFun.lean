/- Small calls of a table: isNode, all, isNeighbour, by. -/
import Derived.Test.YtkanebolfmpnfaaRtDef
import Derived.Test.YtkanebolfmpnfaaLay
import Derived.WalkMore
namespace Go.Proofs.Ytkanebolfmpnfaa.Rt
open Go.RowKit Go.Maps
open Go.Proofs.Ytkanebolfmpnfaa.Sb
set_option linter.unusedVariables false
set_option linter.unusedSimpArgs false

def isN (n : Int) : Bool := decide (0 ≤ n) && decide (n < 64)
theorem isN_of {n : Int} (h : isN n = true) : ∃ m : Nat, n = (m : Int) ∧ m < 64 := by
  simp only [isN, Bool.and_eq_true, decide_eq_true_eq] at h
  exact ⟨n.toNat, by omega, by omega⟩
theorem isN_nat {m : Nat} (h : m < 64) : isN (m : Int) = true := by
  simp only [isN, Bool.and_eq_true, decide_eq_true_eq]
  omega
theorem isNode_any (n : Int) (w : World) : Calls Try.prog 31 #[.int .i64 n] w fun e w' => e = .returned (.bool (isN n)) ∧ w = w' := by
  unfold isN
  by_cases h1 : 0 ≤ n
  · have h3 : decide (0 ≤ n) = true := decide_eq_true h1
    go_enter Try.func31, Try.ntmps31
    go_wp2
    go_ret
    simp [h3]
  · have h3 : decide (0 ≤ n) = false := decide_eq_false h1
    go_enter Try.func31, Try.ntmps31
    go_wp2
    go_ret
    simp [h3]
set_option maxRecDepth 100000 in
theorem all_any (x : Int) (w : World) : Calls Try.prog 33 #[.int .i64 x] w fun e w' => e = .returned (.agg (row fun _ => x)) ∧ Hid (Below w.heap.size w w') := by
  have ht1 : Hid (Ar ((w.alloc (.cells (row fun _ => 0) 74)).alloc (.cells (row fun _ => 0) 74)) w.heap.size fun _ => 0) := (Below.heap_alloc _ _ _ (by simp)).trans (heap_alloc_new w _)
  have ht2 : Hid (Ar ((w.alloc (.cells (row fun _ => 0) 74)).alloc (.cells (row fun _ => 0) 74)) (w.heap.size + 1) fun _ => 0) := by
    have := heap_alloc_new (w.alloc (.cells (row fun _ => 0) 74)) (.cells (row fun _ => 0) 74)
    rwa [World.size_alloc] at this
  have hb0 : Hid (Below w.heap.size w ((w.alloc (.cells (row fun _ => 0) 74)).alloc (.cells (row fun _ => 0) 74))) := Mi.below_alloc (Mi.below_alloc (Below.refl _ _))
  go_enter Try.func33, Try.ntmps33
  go_wp2_with (refine Mi.allocTo rfl (.pointer (some ⟨_, 0, none⟩)) (.cells (row fun _ => 0) 74 (0, 0)) (alloc_row _ _ rfl _) ?_)
  go_loopw [5] (fun k wr => ∃ i : Nat, i ≤ 64 ∧ k = .int .i64 i ∧ Hid (Ar wr w.heap.size fun _ => 0) ∧ Hid (Ar wr (w.heap.size + 1) fun d => if d < i then x else 0) ∧ Hid (Below w.heap.size w wr)) (fun k _ => 64 - (intOf k).toNat)
  case atStart => exact ⟨0, Nat.zero_le _, rfl, ht1.out, ht2.out.eq (by intro d _; simp), hb0⟩
  case round =>
    obtain ⟨i, hi, rfl, H1, H2, HB⟩ := hrel
    clear ht1 ht2 hb0
    by_cases hlt : i < 64
    · have c2 := H2.out.cell hlt
      have f2 := H2.out.frozen i
      have HP : Hid (Ar (wr.setCell ⟨w.heap.size + 1, i, none⟩ (.int .i64 x)) (w.heap.size + 1) fun d => if d < i + 1 then x else 0) := (H2.out.set hlt x).eq (by
        intro d hd
        simp only [upd]
        by_cases e : d = i
        · rw [if_pos e, if_pos (by omega)]
        · rw [if_neg e]
          by_cases h : d < i
          · rw [if_pos h, if_pos (by omega)]
          · rw [if_neg h, if_neg (by omega)])
      go_wp2
      go_roundw
      case rel => exact ⟨i + 1, by omega, by go_num, H1.out.other (by omega) _, HP.out, HB.out.setCell (p := ⟨w.heap.size + 1, i, none⟩) (by show _ ≤ w.heap.size + 1; omega) _⟩
      case measure => simp [intOf]; omega
    · obtain rfl : i = 64 := by omega
      have H3 : Hid (Ar wr (w.heap.size + 1) fun _ => x) := H2.out.eq (by intro d hd; simp [hd])
      clear H2
      go_wp2_with (first
        | (refine wpList_load_row rfl 74 (.tmp 3) rfl (w.heap.size + 1) rfl 74 _ (0, 0) _ H3.out Try.underlying74 rfl (size64 _) ?_)
        | (refine wpList_store_row rfl 74 (.tmp 2) (.tmp 12) rfl w.heap.size (row fun _ => x) rfl rfl 74 _ H1.out (size64 _) (by rw [row_size, row_size]) (row_one _) ?_))
      refine bodyPost_ret (v := .agg (row fun _ => x)) (results_cell_row rfl _ _ w.heap.size 74 (row fun _ => x) (0, 0) _ rfl (setRow_heap _ _ _ _ _ _ H1.out) Try.underlying74 rfl (size64 _)) rfl ⟨rfl, ?_⟩
      exact HB.out.trans ⟨rfl, rfl, rfl, by simp [World.setRow], fun k hk => setRow_other wr _ k _ (by omega)⟩
theorem isNeighbour_any (w : World) (D mb : Nat) (v : Value) (t : Tb) (h : Hid (Tq w D mb v t)) (n : Int) (hl : t.nbs.length ≤ 64) : Calls Try.prog 43 #[.pointer (some ⟨D, 0, none⟩), .int .i64 n] w fun e w' => e = .returned (.bool (t.nbs.contains n)) ∧ w = w' := by
  obtain ⟨A, c, rfl, h1, h2, h3, h4, _⟩ := h.out.nb.form
  have c1 := h.out.c1
  have HC : Hid (Calls Try.prog 50 #[.slice A t.nbs.length c, .int .i64 n] w fun e w' => e = .returned (.bool (t.nbs.contains n)) ∧ w = w') := by
    by_cases h0 : t.nbs.length = 0
    · have := List.eq_nil_of_length_eq_zero h0
      rw [this]
      exact (Try.ConI0 A c n w).mono fun e w' h => ⟨h.1, h.2.symm⟩
    · obtain ⟨b, off, rfl, _, hc⟩ := h3 (by omega)
      refine (Try.ConI b off t.nbs.length c t.nbs n w (Nat.le_refl _) (by omega) hc).mono fun e w' h => ⟨?_, h.2.symm⟩
      rw [h.1, List.take_length]
  clear h1 h2 h3 h4
  go_enter Try.func43, Try.ntmps43
  go_wp2_with (go_at_call 50; refine HC.out.mono ?_; rintro e w' ⟨rfl, rfl⟩)
  go_ret
  exact ⟨by simp, rfl⟩
/-- What dest costs by via. -/
def byN (heard : Nat → Option Nw) (via d : Nat) : Int := match heard via with
  | none => 16
  | some p => min (p.c d + 1) 16
/-- Costs that are right. -/
def Cok (c : Nat → Int) : Prop := ∀ d, d < 64 → 0 ≤ c d ∧ c d ≤ 16
theorem by_any (w : World) (D mb : Nat) (v : Value) (t : Tb) (h : Hid (Tq w D mb v t)) (via d : Nat) (hv : via < 64) (hd : d < 64) (hok : ∀ p, t.heard via = some p → Cok p.c) :
    Calls Try.prog 49 #[.pointer (some ⟨D, 0, none⟩), .int .i64 (via : Int), .int .i64 (d : Int)] w fun e w' => e = .returned (.int .i64 (byN t.heard via d)) ∧ Hid (Below w.heap.size w w') := by
  have c67 := h.out.c67
  unfold byN
  cases hk : t.heard via with
  | none =>
    have hL : ∀ W : World, W.heap[mb]? = w.heap[mb]? → (Instr.lookup 76 (.map (some mb)) (.int .i64 (via : Int)) true).run Try.prog W = .ok (.tuple #[.agg (ncs n0), .bool false]) W := fun W hW => h.out.mp.no hv hk hW
    have hl0 := hL w rfl
    have HN : Hid (Nb (w.alloc (.cells (ncs n0) 91)) w.heap.size n0) := heap_alloc_new w _
    go_enter Try.func49, Try.ntmps49
    go_wp2_with (first
      | (refine Mi.allocTo rfl (.pointer (some ⟨_, 0, none⟩)) (.cells (ncs n0) 91 (0, 0)) (alloc_news _ _ rfl _) ?_)
      | (refine wpList_store_row rfl 91 (.tmp 7) (.tmp 16) rfl w.heap.size (ncs n0) rfl rfl 91 _ HN.out (size65 _) rfl (ncs_one _) ?_))
    go_ret
    exact ⟨rfl, Sb.below_setRow _ (Mi.below_alloc (Below.refl _ _)) (Nat.le_refl _)⟩
  | some p =>
    have hl0 := h.out.mp.yes hv hk (W := w) rfl
    have HN : Hid (Nb (w.alloc (.cells (ncs n0) 91)) w.heap.size n0) := heap_alloc_new w _
    have HN2 : Hid (Nb ((w.alloc (.cells (ncs n0) 91)).setRow w.heap.size (ncs p)) w.heap.size p) := setRow_heap _ _ _ _ _ _ HN.out
    have c2 := HN2.out.cell hd
    obtain ⟨q1, q2⟩ := hok p hk d hd
    obtain ⟨x, hx⟩ : ∃ x, p.c d = x := ⟨_, rfl⟩
    rw [hx] at c2 q1 q2
    simp only [hx]
    go_enter Try.func49, Try.ntmps49
    go_wp2_with (first
      | (refine Mi.allocTo rfl (.pointer (some ⟨_, 0, none⟩)) (.cells (ncs n0) 91 (0, 0)) (alloc_news _ _ rfl _) ?_)
      | (refine wpList_store_row rfl 91 (.tmp 7) (.tmp 16) rfl w.heap.size (ncs p) rfl rfl 91 _ HN.out (size65 _) (by rw [ncs_size, ncs_size]) (ncs_one _) ?_))
    all_goals skip
    go_ret
    exact ⟨rfl, Sb.below_setRow _ (Mi.below_alloc (Below.refl _ _)) (Nat.le_refl _)⟩
end Go.Proofs.Ytkanebolfmpnfaa.Rt
