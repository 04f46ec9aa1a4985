/- The law StoreNil. -/
import Derived.Test.YtpofdimagfldnaaSoNil
import Derived.Test.YtpofdimagfldnaaSoIn
namespace Go.Proofs.Ytpofdimagfldnaa.So
open Go.RowKit
open Go.Proofs.Ytpofdimagfldnaa.Me Go.Proofs.Ytpofdimagfldnaa.Sb
set_option linter.unusedVariables false
set_option linter.unusedSimpArgs false

theorem cells_at {W : World} {D T : Nat} {cs : Array Value} (h : W.heap[D]? = some (.cells cs T (0, 0))) (k : Nat) (x : Value) (hk : cs[k]? = some x) : W.cell? ⟨D, k, none⟩ = some x := by rw [cell_of_row _ D _ _ _ (0, 0) h]; exact hk
set_option maxRecDepth 100000 in
set_option maxHeartbeats 16000000 in
theorem storeNil (q : Evt) (A : Option Addr) (c : Nat) (w : World) (_ : q.p.length ≤ c ∧ c ≤ 140737488351232 ∧ Me.Rd w w.heap.size A q.p ∧ (A = none → q.p.length = 0 ∧ c = 0)) : Calls Try.prog 7 #[.agg (evC q.k q.i A q.p.length c)] w fun e w' => e = .returned (.bool true) ∧ Below w.heap.size w w' := by
  obtain ⟨k, ⟨o, d, ee, cc⟩, p⟩ := q
  obtain ⟨n, hn⟩ : ∃ n, p.length = n := ⟨_, rfl⟩
  simp only [evC, hn]
  clear hn
  have HF := Lib.hid (fun W => Fresh_nil d W)
  have HFi := Lib.hid (fun W => Find_nil ⟨o, d, ee, cc⟩ W)
  have HM := Lib.hid (fun W => May_nil k ⟨o, d, ee, cc⟩ A n c W)
  have HAp := Lib.hid (fun W => Apply_nil k ⟨o, d, ee, cc⟩ A n c W)
  have HH := Lib.hid (fun W => Held_nil W)
  have HSm := Lib.hid (fun W => Same_zero W)
  have HSe := Lib.hid (fun W => Seen_nil ⟨o, d, ee, cc⟩ W)
  have HBy := Lib.hid (fun W => Bytes_nil W)
  have HEp := Lib.hid (fun W => Epoch_nil W)
  have HSt := Lib.hid (fun W => State_nil W)
  have HSS := Lib.hid (fun W => SameState_zero W)
  have HAw := Lib.hid (fun W => awake_any W)
  simp only [Mg.idC, evC, zeroI] at HF HFi HM HAp HSe
  have HX0 : Hid ((w.alloc (.cells #[.int .i64 k, .int .i64 o, .int .i64 d, .int .i64 ee, .int .i64 cc, .slice A n c] 60)).heap[w.heap.size]? = some (.cells #[.int .i64 k, .int .i64 o, .int .i64 d, .int .i64 ee, .int .i64 cc, .slice A n c] 60 (0, 0))) := heap_alloc_new w _
  have HB0 : Hid (Below w.heap.size w (w.alloc (.cells #[.int .i64 k, .int .i64 o, .int .i64 d, .int .i64 ee, .int .i64 cc, .slice A n c] 60))) := Me.below_alloc (Below.refl _ _)
  go_enter Try.func7, Try.ntmps7
  go_wp2_with (first
    | (go_at_call 10; refine (HF.out _).mono ?_; rintro e w1 ⟨rfl, b1⟩
       have HB1 := Lib.hid (go_on HB0.out b1.out)
       have HX1 := Lib.hid ((b1.out.block _ (Array.getElem?_eq_some_iff.1 HX0.out).1).trans HX0.out)
       have hb1 : Below w1.heap.size w1 (w1.alloc (.cells #[.int .i64 0, .int .i64 0, .int .i64 0, .int .i64 0] 28)) := Me.below_alloc (Below.refl _ _)
       have HY1 : Hid ((w1.alloc (.cells #[.int .i64 0, .int .i64 0, .int .i64 0, .int .i64 0] 28)).heap[w1.heap.size]? = some (.cells #[.int .i64 0, .int .i64 0, .int .i64 0, .int .i64 0] 28 (0, 0))) := heap_alloc_new w1 _
       have HX2 := Lib.hid ((hb1.block _ (Array.getElem?_eq_some_iff.1 HX1.out).1).trans HX1.out)
       have HB2 := Lib.hid (go_on HB1.out hb1)
       clear hb1
       obtain ⟨x0, x1, x2, x3, x4, x5⟩ := ev_cells HX2.out)
    | (go_at_call 12; refine (HFi.out _).mono ?_; rintro e w2 ⟨rfl, b2⟩
       have HB3 := Lib.hid (go_on HB2.out b2.out)
       have HX3 := Lib.hid ((b2.out.block _ (Array.getElem?_eq_some_iff.1 HX2.out).1).trans HX2.out)
       have HY3 := Lib.hid ((b2.out.block _ (Array.getElem?_eq_some_iff.1 HY1.out).1).trans HY1.out)
       have hb3 : Below w2.heap.size w2 (w2.alloc (.cells #[.int .i64 0, .int .i64 0, .int .i64 0, .int .i64 0, .slice none 0 0] 46)) := Me.below_alloc (Below.refl _ _)
       have HZ4 : Hid ((w2.alloc (.cells #[.int .i64 0, .int .i64 0, .int .i64 0, .int .i64 0, .slice none 0 0] 46)).heap[w2.heap.size]? = some (.cells #[.int .i64 0, .int .i64 0, .int .i64 0, .int .i64 0, .slice none 0 0] 46 (0, 0))) := heap_alloc_new w2 _
       have HX4 := Lib.hid ((hb3.block _ (Array.getElem?_eq_some_iff.1 HX3.out).1).trans HX3.out)
       have HY4 := Lib.hid ((hb3.block _ (Array.getElem?_eq_some_iff.1 HY3.out).1).trans HY3.out)
       have HB4 := Lib.hid (go_on HB3.out hb3)
       clear hb3
       obtain ⟨y0, y1, y2, y3, y4, y5⟩ := ev_cells HX4.out)
    | (go_at_call 29; refine (HM.out _).mono ?_; rintro e w3 ⟨rfl, b3⟩
       have HB5 := Lib.hid (go_on HB4.out b3.out)
       have HX5 := Lib.hid ((b3.out.block _ (Array.getElem?_eq_some_iff.1 HX4.out).1).trans HX4.out)
       have HY5 := Lib.hid ((b3.out.block _ (Array.getElem?_eq_some_iff.1 HY4.out).1).trans HY4.out)
       have HZ5 := Lib.hid ((b3.out.block _ (Array.getElem?_eq_some_iff.1 HZ4.out).1).trans HZ4.out)
       obtain ⟨z0, z1, z2, z3, z4, z5⟩ := ev_cells HX5.out)
    | (go_at_call 19; refine (HAp.out _).mono ?_; rintro e w4 ⟨rfl, b4⟩
       have HB6 := Lib.hid (go_on HB5.out b4.out)
       have HX6 := Lib.hid ((b4.out.block _ (Array.getElem?_eq_some_iff.1 HX5.out).1).trans HX5.out)
       have HY6 := Lib.hid ((b4.out.block _ (Array.getElem?_eq_some_iff.1 HY5.out).1).trans HY5.out)
       have HZ6 := Lib.hid ((b4.out.block _ (Array.getElem?_eq_some_iff.1 HZ5.out).1).trans HZ5.out)
       obtain ⟨u0, u1, u2, u3⟩ := id_cells HY6.out
       obtain ⟨v0, v1, v2, v3, v4⟩ := msg_cells HZ6.out)
    | (go_at_call 30; refine (HH.out _).mono ?_; rintro e w4' ⟨rfl, rfl⟩)
    | (go_at_call 14; refine (HSm.out _).mono ?_; rintro e w5 ⟨rfl, b5⟩
       have HB7 := Lib.hid (go_on HB6.out b5.out)
       have HX7 := Lib.hid ((b5.out.block _ (Array.getElem?_eq_some_iff.1 HX6.out).1).trans HX6.out)
       obtain ⟨r0, r1, r2, r3, r4, r5⟩ := ev_cells HX7.out)
    | (go_at_call 15; refine (HSe.out _).mono ?_; rintro e w6 ⟨rfl, b6⟩; have HB8 := Lib.hid (go_on HB7.out b6.out))
    | (go_at_call 23; refine (HBy.out _).mono ?_; rintro e w6' ⟨rfl, rfl⟩)
    | (go_at_call 31; refine (HEp.out _).mono ?_; rintro e w6' ⟨rfl, rfl⟩)
    | (go_at_call 22; refine (HSt.out _).mono ?_; rintro e w7 ⟨rfl, b7⟩; have HB9 := Lib.hid (go_on HB8.out b7.out))
    | (go_at_call 32; refine (HSS.out _).mono ?_; rintro e w8 ⟨rfl, b8⟩; have HB10 := Lib.hid (go_on HB9.out b8.out))
    | (go_at_call 9; refine (HAw.out _).mono ?_; rintro e w9 ⟨rfl, b9⟩; have HB11 := Lib.hid (go_on HB10.out b9.out)))
  go_ret
  exact ⟨rfl, HB11.out⟩
end Go.Proofs.Ytpofdimagfldnaa.So
