/- The walk of the law WindowSorts. -/
import Derived.Test.YtbfboiakhkojnaaWWoke
namespace Go.Proofs.Ytbfboiakhkojnaa.Wn
open Go.RowKit
open Go.Proofs.Ytbfboiakhkojnaa.Mi
set_option linter.unusedVariables false
set_option linter.unusedSimpArgs false

theorem own_rd {w : World} {B : Nat} {A : Option Addr} {n c : Nat} {l : List Int} (h : Mi.Own w B (.slice A n c) l) : Mi.Rd w w.heap.size A l ∧ n = l.length := by
  obtain ⟨A', c', e, _, _, g3, _, _⟩ := h.form
  simp only [Value.slice.injEq] at e
  obtain ⟨rfl, rfl, rfl⟩ := e
  exact ⟨g3, rfl⟩
set_option maxRecDepth 100000 in
set_option maxHeartbeats 4000000 in
theorem sorts (base to : Int) (A : Option Addr) (len cap : Nat) (l : List Int) (w : World) (w0 : (Lit.int .i64 base).wf = true) (w1 : (Lit.int .i64 to).wf = true) (w2 : Mi.BySlice w A len cap l) (c2 : cap * 8 ≤ 140737488351232) :
    Calls Try.prog 7 #[.int .i64 base, .int .i64 to, .slice A len cap] w fun e w' => e = .returned (.bool true) ∧ Below w.heap.size w w' := by
  obtain ⟨rfl, h1, h2, h3, hA, _⟩ := w2
  have HR : Hid (Mi.Rd w w.heap.size A l) := h3
  have HA := Lib.hid hA
  have hll : l.length ≤ 9223372036854775807 := by omega
  have HQ : Hid ((([] : List Int).length + l.length) * 8 ≤ 140737488355328) := by show _ ≤ _; simp; omega
  have k1 : (pick (has l) base 128).length ≤ 128 := pick_le _ _ _
  have k2 : (pick (fun n => !has l n) base ((to - base) % 128).toNat).length ≤ 128 := Nat.le_trans (pick_le _ _ _) (by omega)
  have S1 := fun (W : World) (A2 : Option Addr) (c : Nat) (hr : Mi.Rd W W.heap.size A2 l) => Sort_any base A2 c l W hr hll
  have S2 := fun (W : World) (hb : Below w.heap.size w W) => RSort_any base A cap l W ((HR.out.below hb).more hb.size) hll
  have S3 := fun (W : World) (A2 : Option Addr) (c : Nat) (hr : Mi.Rd W W.heap.size A2 l) => Missing_any base to A2 c l W hr hll
  have S4 := fun (W : World) (hb : Below w.heap.size w W) => RMissing_any base to A cap l W ((HR.out.below hb).more hb.size) hll
  obtain ⟨L1, hL1⟩ : ∃ L1, pick (has l) base 128 = L1 := ⟨_, rfl⟩
  obtain ⟨L2, hL2⟩ : ∃ L2, pick (fun n => !has l n) base ((to - base) % 128).toNat = L2 := ⟨_, rfl⟩
  simp only [hL1, hL2] at S1 S2 S3 S4 k1 k2
  have T1 := Lib.hid S1
  have T2 := Lib.hid S2
  have T3 := Lib.hid S3
  have T4 := Lib.hid S4
  have K1 : Hid (L1.length ≤ 9223372036854775807) := by show _ ≤ _; omega
  have K2 : Hid (L2.length ≤ 9223372036854775807) := by show _ ≤ _; omega
  have KL : Hid (l.length ≤ 9223372036854775807) := hll
  clear S1 S2 S3 S4 hL1 hL2 k1 k2 hll h1 h2 h3 hA w0 w1 c2
  go_enter Try.func7, Try.ntmps7
  go_wp2_with (first
    | (at_builtin; refine app (w0 := w) rfl (.tmp 8) (.tmp 9) rfl w.heap.size w.heap.size _ [] l rfl (Mi.Own.lit (Below.refl _ w)) (below_alloc (Below.refl _ w)) (by simp) A _ cap rfl rfl (HR.out.below (below_alloc (Below.refl _ w))) HA.out HQ.out ?_; intro v2 W2 ho2 hb2 _; obtain ⟨A2, c2, rfl, _, _, g3, _, _⟩ := Mi.Own.form ho2; rw [List.nil_append] at g3; have R2 : Hid (Mi.Rd W2 W2.heap.size A2 l) := g3; have B2 := Lib.hid hb2; clear ho2 hb2 g3)
    | (go_at_call 23; refine (T1.out _ _ _ R2.out).mono ?_; rintro e W3 ⟨v3, rfl, ho3, hb3⟩; obtain ⟨A3, c3, rfl, _, _, g3, _, _⟩ := Mi.Own.form ho3.out; have R3 : Hid (Mi.Rd W3 W3.heap.size A3 L1) := g3; have R23 : Hid (Mi.Rd W3 W3.heap.size A2 l) := (R2.out.below hb3.out).more hb3.out.size; have B3 : Hid (Below w.heap.size w W3) := B2.out.trans (hb3.out.mono B2.out.size); clear ho3 hb3 g3)
    | (go_at_call 24; refine (T2.out _ B3.out).mono ?_; rintro e W4 ⟨v4, rfl, ho4, hb4⟩; obtain ⟨A4, c4, rfl, _, _, g4, _, _⟩ := Mi.Own.form ho4.out; have R4 : Hid (Mi.Rd W4 W4.heap.size A4 L1) := g4; have R24 : Hid (Mi.Rd W4 W4.heap.size A2 l) := (R23.out.below hb4.out).more hb4.out.size; have B4 : Hid (Below w.heap.size w W4) := B3.out.trans (hb4.out.mono B3.out.size); have Z1 := Lib.hid (Same_one A3 A4 L1.length L1.length c3 c4 L1 W4 ((R3.out.below hb4.out).more hb4.out.size) R4 rfl rfl K1.out); clear ho4 hb4 g4)
    | (go_at_call 22; (with_reducible refine Z1.out.mono ?_); rintro e W5 ⟨rfl, hb5⟩; have B5 : Hid (Below w.heap.size w W5) := B4.out.trans (hb5.out.mono B4.out.size); have R25 : Hid (Mi.Rd W5 W5.heap.size A2 l) := (R24.out.below hb5.out).more hb5.out.size; clear Z1 hb5)
    | (go_at_call 25; refine (T3.out _ _ _ R25.out).mono ?_; rintro e W6 ⟨v6, rfl, ho6, hb6⟩; obtain ⟨A6, c6, rfl, _, _, g6, _, _⟩ := Mi.Own.form ho6.out; have R6 : Hid (Mi.Rd W6 W6.heap.size A6 L2) := g6; have R26 : Hid (Mi.Rd W6 W6.heap.size A2 l) := (R25.out.below hb6.out).more hb6.out.size; have B6 : Hid (Below w.heap.size w W6) := B5.out.trans (hb6.out.mono B5.out.size); clear ho6 hb6 g6)
    | (go_at_call 26; refine (T4.out _ B6.out).mono ?_; rintro e W7 ⟨v7, rfl, ho7, hb7⟩; obtain ⟨A7, c7, rfl, _, _, g7, _, _⟩ := Mi.Own.form ho7.out; have R7 : Hid (Mi.Rd W7 W7.heap.size A7 L2) := g7; have R27 : Hid (Mi.Rd W7 W7.heap.size A2 l) := (R26.out.below hb7.out).more hb7.out.size; have B7 : Hid (Below w.heap.size w W7) := B6.out.trans (hb7.out.mono B6.out.size); have Z2 := Lib.hid (Same_one A6 A7 L2.length L2.length c6 c7 L2 W7 ((R6.out.below hb7.out).more hb7.out.size) R7 rfl rfl K2.out); clear ho7 hb7 g7)
    | (go_at_call 22; (with_reducible refine Z2.out.mono ?_); rintro e W8 ⟨rfl, hb8⟩; have B8 : Hid (Below w.heap.size w W8) := B7.out.trans (hb8.out.mono B7.out.size); have Z3 := Lib.hid (Same_one A2 A l.length l.length c2 cap l W8 ((R27.out.below hb8.out).more hb8.out.size) ((HR.out.below B8.out).more B8.out.size) rfl rfl KL.out); clear Z2 hb8)
    | (go_at_call 22; (with_reducible refine Z3.out.mono ?_); rintro e W9 ⟨rfl, hb9⟩; have B9 : Hid (Below w.heap.size w W9) := B8.out.trans (hb9.out.mono B8.out.size); clear Z3 hb9)
    | (go_at_call 15; refine (awake_below B9).mono ?_; rintro e W10 ⟨rfl, hb10⟩))
  go_ret
  exact ⟨rfl, hb10.out⟩
end Go.Proofs.Ytbfboiakhkojnaa.Wn
