/- The law's nets: linked. -/
import Derived.Test.YtkanebolfmpnfaaRtLen
namespace Go.Proofs.Ytkanebolfmpnfaa.Rt
open Go.RowKit Go.Maps
open Go.Proofs.Ytkanebolfmpnfaa.Sb
set_option linter.unusedVariables false
set_option linter.unusedSimpArgs false

def lkB (L : Nat) (a b : Nat) : Bool := decide (max a b = min a b + 1) || (decide (a ≠ b) && decide (L / 2 ^ (8 * min a b + max a b) % 2 = 1))
theorem lkB_sym (L a b : Nat) : lkB L a b = lkB L b a := by
  unfold lkB
  rw [Nat.max_comm, Nat.min_comm]
  congr 2
  exact decide_eq_decide.2 ⟨fun h e => h e.symm, fun h e => h e.symm⟩
theorem lkB_next (L i : Nat) : lkB L i (i + 1) = true := by
  unfold lkB
  rw [Nat.max_eq_right (by omega), Nat.min_eq_left (by omega)]
  simp
theorem lkB_self (L i : Nat) : lkB L i i = false := by
  unfold lkB
  rw [Nat.max_self, Nat.min_self]
  simp
def netV (N : Int) (L : Nat) : Array Value := #[.int .i64 N, .int .u64 (L : Int)]
theorem exec_boxn (ρ : Operand → Value) (o : Oper) (N : Int) (L : Nat) (x : Operand) (ho : o.op = .box 61 x) (h0 : ρ x = .agg (netV N L)) (w : World) :
    (execOp ρ o).run Try.prog w = .ok (.value (.pointer (some ⟨w.heap.size, 0, none⟩))) (w.alloc (.cells (netV N L) 61 (0, 0))) := by
  unfold execOp
  rw [ho]
  simp only [h0]
  kernel_rfl
theorem net_cell (N : Int) (L : Nat) (w : World) : Hid ((w.alloc (.cells (netV N L) 61)).cell? ⟨w.heap.size, 1, none⟩ = some (.int .u64 (L : Int))) := by
  show _ = _
  rw [cell_of_row _ _ _ _ _ (0, 0) (heap_alloc_new w _)]
  rfl
theorem bit_one {L : Nat} (hL : L < 18446744073709551616) (s : Nat) : (bits BinOp.and IntKind.u64 ((L : Int) / 2 ^ s) 1 == 1) = decide (L / 2 ^ s % 2 = 1) := by
  have hle : L / 2 ^ s ≤ L := Nat.div_le_self _ _
  have e : (L : Int) / 2 ^ s = ((L / 2 ^ s : Nat) : Int) := by push_cast; rfl
  rw [e]
  obtain ⟨y, hy⟩ : ∃ y, L / 2 ^ s = y := ⟨_, rfl⟩
  rw [hy] at hle ⊢
  rw [and_one_u64 _ (by omega) (by omega)]
  by_cases h : y % 2 = 1
  · rw [decide_eq_true h]; exact beq_iff_eq.mpr (by omega)
  · rw [decide_eq_false h]; exact beq_eq_false_iff_ne.mpr (by omega)
set_option maxHeartbeats 4000000 in
theorem linked_no (N : Int) (L : Nat) (hL : L < 18446744073709551616) (a b : Nat) (ha : a < 8) (hb : b < 8) (hab : a < b) (h1 : b ≠ a + 1) (w : World) :
    Calls Try.prog 29 #[.agg (netV N L), .int .i64 (a : Int), .int .i64 (b : Int)] w fun e w' => e = .returned (.bool (decide (L / 2 ^ (8 * a + b) % 2 = 1))) ∧ Hid (Below w.heap.size w w') := by
  have HB := Lib.hid (net_cell N L w)
  have hg1 : ¬ (b : Int) < (a : Int) := by omega
  have hg2 : ((b : Int) == (a : Int) + 1) = false := beq_eq_false_iff_ne.mpr (by omega)
  have hg3 : ((a : Int) != (b : Int)) = true := bne_iff_ne.mpr (by omega)
  go_enter Try.func29, Try.ntmps29
  go_wp2_with (refine Mi.allocTo rfl (.pointer (some ⟨_, 0, none⟩)) (.cells (netV N L) 61 (0, 0)) (exec_boxn _ _ N L (.tmp 0) rfl rfl _) ?_; have c1 := HB.out.out)
  go_ret
  exact ⟨by rw [← bit_one hL]; rfl, Mi.below_alloc (Below.refl _ _)⟩
set_option maxHeartbeats 4000000 in
theorem linked_nos (N : Int) (L : Nat) (hL : L < 18446744073709551616) (a b : Nat) (ha : a < 8) (hb : b < 8) (hab : a < b) (h1 : b ≠ a + 1) (w : World) :
    Calls Try.prog 29 #[.agg (netV N L), .int .i64 (b : Int), .int .i64 (a : Int)] w fun e w' => e = .returned (.bool (decide (L / 2 ^ (8 * a + b) % 2 = 1))) ∧ Hid (Below w.heap.size w w') := by
  have HB := Lib.hid (net_cell N L w)
  have hg1 : (a : Int) < (b : Int) := by omega
  have hg2 : ((b : Int) == (a : Int) + 1) = false := beq_eq_false_iff_ne.mpr (by omega)
  have hg3 : ((a : Int) != (b : Int)) = true := bne_iff_ne.mpr (by omega)
  go_enter Try.func29, Try.ntmps29
  go_wp2_with (refine Mi.allocTo rfl (.pointer (some ⟨_, 0, none⟩)) (.cells (netV N L) 61 (0, 0)) (exec_boxn _ _ N L (.tmp 0) rfl rfl _) ?_; have c1 := HB.out.out)
  go_ret
  exact ⟨by rw [← bit_one hL]; rfl, Mi.below_alloc (Below.refl _ _)⟩
set_option maxHeartbeats 4000000 in
theorem linked_ye (N : Int) (L : Nat) (hL : L < 18446744073709551616) (a b : Nat) (ha : a < 8) (hb : b < 8) (hab : a < b) (h1 : b = a + 1) (w : World) :
    Calls Try.prog 29 #[.agg (netV N L), .int .i64 (a : Int), .int .i64 (b : Int)] w fun e w' => e = .returned (.bool true) ∧ Hid (Below w.heap.size w w') := by
  have HB := Lib.hid (net_cell N L w)
  have hg1 : ¬ (b : Int) < (a : Int) := by omega
  have hg2 : ((b : Int) == (a : Int) + 1) = true := beq_iff_eq.mpr (by omega)
  go_enter Try.func29, Try.ntmps29
  go_wp2_with (refine Mi.allocTo rfl (.pointer (some ⟨_, 0, none⟩)) (.cells (netV N L) 61 (0, 0)) (exec_boxn _ _ N L (.tmp 0) rfl rfl _) ?_; have c1 := HB.out.out)
  go_ret
  exact ⟨rfl, Mi.below_alloc (Below.refl _ _)⟩
set_option maxHeartbeats 4000000 in
theorem linked_yes (N : Int) (L : Nat) (hL : L < 18446744073709551616) (a b : Nat) (ha : a < 8) (hb : b < 8) (hab : a < b) (h1 : b = a + 1) (w : World) :
    Calls Try.prog 29 #[.agg (netV N L), .int .i64 (b : Int), .int .i64 (a : Int)] w fun e w' => e = .returned (.bool true) ∧ Hid (Below w.heap.size w w') := by
  have HB := Lib.hid (net_cell N L w)
  have hg1 : (a : Int) < (b : Int) := by omega
  have hg2 : ((b : Int) == (a : Int) + 1) = true := beq_iff_eq.mpr (by omega)
  go_enter Try.func29, Try.ntmps29
  go_wp2_with (refine Mi.allocTo rfl (.pointer (some ⟨_, 0, none⟩)) (.cells (netV N L) 61 (0, 0)) (exec_boxn _ _ N L (.tmp 0) rfl rfl _) ?_; have c1 := HB.out.out)
  go_ret
  exact ⟨rfl, Mi.below_alloc (Below.refl _ _)⟩
set_option maxHeartbeats 4000000 in
theorem linked_eq (N : Int) (L : Nat) (x y : Int) (hx : 0 ≤ x ∧ x < 8) (h1 : ¬ y < x) (h2 : (y == x + 1) = false) (h3 : (x != y) = false) (w : World) :
    Calls Try.prog 29 #[.agg (netV N L), .int .i64 x, .int .i64 y] w fun e w' => e = .returned (.bool false) ∧ Hid (Below w.heap.size w w') := by
  obtain ⟨hx1, hx2⟩ := hx
  go_enter Try.func29, Try.ntmps29
  go_wp2_with (refine Mi.allocTo rfl (.pointer (some ⟨_, 0, none⟩)) (.cells (netV N L) 61 (0, 0)) (exec_boxn _ _ N L (.tmp 0) rfl rfl _) ?_; refine Hid.out ?_)
  unfold Hid
  go_wp2
  go_ret
  exact ⟨rfl, Mi.below_alloc (Below.refl _ _)⟩
theorem linked_any (N : Int) (L : Nat) (hL : L < 18446744073709551616) (a b : Nat) (ha : a < 8) (hb : b < 8) (w : World) :
    Calls Try.prog 29 #[.agg (netV N L), .int .i64 (a : Int), .int .i64 (b : Int)] w fun e w' => e = .returned (.bool (lkB L a b)) ∧ Hid (Below w.heap.size w w') := by
  rcases Nat.lt_trichotomy a b with h | h | h
  · have e : lkB L a b = (decide (b = a + 1) || decide (L / 2 ^ (8 * a + b) % 2 = 1)) := by
      unfold lkB
      rw [Nat.max_eq_right (by omega), Nat.min_eq_left (by omega), decide_eq_true (show a ≠ b by omega), Bool.true_and]
    by_cases h1 : b = a + 1
    · rw [e, decide_eq_true h1, Bool.true_or]
      exact linked_ye N L hL a b ha hb h h1 w
    · rw [e, decide_eq_false h1, Bool.false_or]
      exact linked_no N L hL a b ha hb h h1 w
  · have e : lkB L a b = false := by rw [h]; exact lkB_self _ _
    rw [e]
    exact linked_eq N L _ _ (by omega) (by omega) (beq_eq_false_iff_ne.mpr (by omega)) (by rw [h]; exact bne_self_eq_false' _) w
  · rw [lkB_sym]
    have e : lkB L b a = (decide (a = b + 1) || decide (L / 2 ^ (8 * b + a) % 2 = 1)) := by
      unfold lkB
      rw [Nat.max_eq_right (by omega), Nat.min_eq_left (by omega), decide_eq_true (show b ≠ a by omega), Bool.true_and]
    by_cases h1 : a = b + 1
    · rw [e, decide_eq_true h1, Bool.true_or]
      exact linked_yes N L hL b a hb ha h h1 w
    · rw [e, decide_eq_false h1, Bool.false_or]
      exact linked_nos N L hL b a hb ha h h1 w
end Go.Proofs.Ytkanebolfmpnfaa.Rt
