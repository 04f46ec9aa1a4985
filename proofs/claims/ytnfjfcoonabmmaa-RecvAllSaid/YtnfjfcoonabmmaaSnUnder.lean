/- The contract of a sender's Under. -/
import Derived.Test.YtnfjfcoonabmmaaSnSeq
namespace Go.Proofs.Ytnfjfcoonabmmaa.Sn
open Go.RowKit
open Go.Proofs.Ytnfjfcoonabmmaa.Me Go.Proofs.Ytnfjfcoonabmmaa.Hd
set_option linter.unusedVariables false
set_option linter.unusedSimpArgs false

theorem cut_nat {n : Nat} (h : n ≤ 63) : Wn.cut (n : Int) = n := by unfold Wn.cut; omega
set_option maxHeartbeats 1000000 in
theorem Under_any {F : Nat → Prop} (w : World) (D : Nat) (s : Snd) (A : Option Addr) (c : Nat) (h : Hid (Sq F w D s A c)) (ok : Hid s.Ok) : Calls Try.prog 16 #[.pointer (some ⟨D, 0, none⟩)] w (Wn.NewI w (Wn.goes (s.base : Int) s.under)) := by
  have c1 : w.cell? ⟨D, 1, none⟩ = some (.int .i64 (s.base : Int)) := h.out.cell 1
  have c2 : w.cell? ⟨D, 2, none⟩ = some (.int .i64 (s.under : Int)) := h.out.cell 2
  have HD := Lib.hid h.out.lt
  have HE := Lib.hid (fun W => Wn.Each_any (s.base : Int) (s.under : Int) W)
  have HC := Lib.hid (fun (W : World) => Collect_any (s.under : Int) (s.base : Int) (W.heap.size + 1) W.heap.size ((W.alloc (.cells #[.int .i64 (s.base : Int)] 3)).alloc (.cells #[.int .i64 (s.under : Int)] 3))
    (by have := Boxed.new (W.alloc (.cells #[.int .i64 (s.base : Int)] 3)) 3 (.int .i64 (s.under : Int)); rw [World.size_alloc] at this; exact this)
    ((Boxed.new W 3 (.int .i64 (s.base : Int))).alloc _))
  rw [cut_nat (Nat.le_trans ok.out.u ok.out.s63)] at HC
  go_enter Try.func16, Try.ntmps16
  go_wp2
  have S0 : KeptN w w.drew := (Below.refl _ w).drew
  refine wp_region_held_drew (S := KeptN w) (by kernel_rfl) S0 (fun hHeld => ?_)
  refine wpAnyH_take (i := 0) (v := ?vz1) rfl (by kernel_rfl) (by kernel_rfl) (by kernel_rfl) (fun _ _ _ h => h) (Or.inl ⟨by rfl, ?hyz1⟩) (by first | assumption | exact trivial) ?restz1
  case hyz1 => intro W hSW; go_simp; try (with_reducible rfl)
  simp only [Act.put, List.getElem_toArray, List.getElem_cons_succ, List.getElem_cons_zero, List.setIfInBounds_toArray, List.set_cons_zero, List.set_cons_succ]
  refine wpAnyH_take (i := 1) (v := ?vz2) rfl (by kernel_rfl) (by kernel_rfl) (by kernel_rfl) (fun _ _ _ h => h) (Or.inl ⟨by rfl, ?hyz2⟩) (by first | assumption | exact trivial) ?restz2
  case hyz2 => intro W hSW; go_simp; try (with_reducible rfl)
  simp only [Act.put, List.getElem_toArray, List.getElem_cons_succ, List.getElem_cons_zero, List.setIfInBounds_toArray, List.set_cons_zero, List.set_cons_succ]
  refine wpAnyH_take (i := 2) (v := ?vz3) rfl (by kernel_rfl) (by kernel_rfl) (by kernel_rfl) (fun _ _ _ h => h) (Or.inl ⟨by rfl, ?hyz3⟩) (by first | assumption | exact trivial) ?restz3
  case hyz3 => intro W hSW; go_simp; try (with_reducible rfl)
  simp only [Act.put, List.getElem_toArray, List.getElem_cons_succ, List.getElem_cons_zero, List.setIfInBounds_toArray, List.set_cons_zero, List.set_cons_succ]
  refine wpAnyH_take (i := 3) (v := ?vz4) rfl (by kernel_rfl) (by kernel_rfl) (by kernel_rfl) (fun _ _ _ h => h) (Or.inl ⟨by rfl, ?hyz4⟩) (by first | assumption | exact trivial) ?restz4
  case hyz4 => intro W hSW; have q1 := (KeptN.cell hSW HD.out 1).trans c1; go_simp; try (with_reducible rfl)
  simp only [Act.put, List.getElem_toArray, List.getElem_cons_succ, List.getElem_cons_zero, List.setIfInBounds_toArray, List.set_cons_zero, List.set_cons_succ]
  refine wpAnyH_take (i := 4) (v := ?vz5) rfl (by kernel_rfl) (by kernel_rfl) (by kernel_rfl) (fun _ _ _ h => h) (Or.inl ⟨by rfl, ?hyz5⟩) (by first | assumption | exact trivial) ?restz5
  case hyz5 => intro W hSW; go_simp; try (with_reducible rfl)
  simp only [Act.put, List.getElem_toArray, List.getElem_cons_succ, List.getElem_cons_zero, List.setIfInBounds_toArray, List.set_cons_zero, List.set_cons_succ]
  refine wpAnyH_take (i := 5) (v := ?vz6) rfl (by kernel_rfl) (by kernel_rfl) (by kernel_rfl) (fun _ _ _ h => h) (Or.inl ⟨by rfl, ?hyz6⟩) (by first | assumption | exact trivial) ?restz6
  case hyz6 => intro W hSW; go_simp; try (with_reducible rfl)
  simp only [Act.put, List.getElem_toArray, List.getElem_cons_succ, List.getElem_cons_zero, List.setIfInBounds_toArray, List.set_cons_zero, List.set_cons_succ]
  refine wpAnyH_take (i := 6) (v := ?vz7) rfl (by kernel_rfl) (by kernel_rfl) (by kernel_rfl) (fun _ _ _ h => h) (Or.inl ⟨by rfl, ?hyz7⟩) (by first | assumption | exact trivial) ?restz7
  case hyz7 => intro W hSW; go_simp; try (with_reducible rfl)
  simp only [Act.put, List.getElem_toArray, List.getElem_cons_succ, List.getElem_cons_zero, List.setIfInBounds_toArray, List.set_cons_zero, List.set_cons_succ]
  refine wpAnyH_take (i := 7) (v := ?vz8) rfl (by kernel_rfl) (by kernel_rfl) (by kernel_rfl) (fun _ _ _ h => h) (Or.inl ⟨by rfl, ?hyz8⟩) (by first | assumption | exact trivial) ?restz8
  case hyz8 => intro W hSW; have q2 := (KeptN.cell hSW HD.out 2).trans c2; go_simp; try (with_reducible rfl)
  simp only [Act.put, List.getElem_toArray, List.getElem_cons_succ, List.getElem_cons_zero, List.setIfInBounds_toArray, List.set_cons_zero, List.set_cons_succ]
  refine wpAnyH_ready (rs := [8]) (by kernel_rfl) (by simp) ?_
  refine AllReadyH.cons rfl (fun K hK => ?_) AllReadyH.nil
  go_simp
  go_wp2_with (go_at_call 36; refine (HE.out _).mono ?_; rintro e w' ⟨rfl, rfl⟩)
  have S1 : KeptN w ((w.drew.alloc (.cells #[.int .i64 (s.base : Int)] 3)).alloc (.cells #[.int .i64 (s.under : Int)] 3)) := (S0.alloc (Below.size S0) _).alloc (Nat.le_trans (Below.size S0) (by simp)) _
  refine hK.out _ _ (S1) (fun hHeld => ?_)
  clear hK K
  refine wpAnyH_ready (rs := [9]) (by kernel_rfl) (by simp) ?_
  refine AllReadyH.cons rfl (fun K hK => ?_) AllReadyH.nil
  go_simp
  go_wp2_with (go_at_call 35; refine (HC.out w.drew).mono ?_; rintro e w5 ⟨v5, rfl, ho5, hb5⟩)
  have hs : w.heap.size ≤ ((w.drew.alloc (.cells #[.int .i64 (s.base : Int)] 3)).alloc (.cells #[.int .i64 (s.under : Int)] 3)).heap.size := Below.size S1
  have S5 : KeptN w w5 := Below.trans S1 (hb5.out.mono hs)
  refine hK.out _ _ (S5) (fun hHeld => ?_)
  clear hK K
  refine wpAnyH_take (i := 10) (v := ?vz9) rfl (by kernel_rfl) (by kernel_rfl) (by kernel_rfl) (fun _ _ _ h => h) (Or.inl ⟨by rfl, ?hyz9⟩) (by first | assumption | exact trivial) ?restz9
  case hyz9 => intro W hSW; go_simp; try (with_reducible rfl)
  simp only [Act.put, List.getElem_toArray, List.getElem_cons_succ, List.getElem_cons_zero, List.setIfInBounds_toArray, List.set_cons_zero, List.set_cons_succ]
  refine wpAnyH_done (by kernel_rfl) ?_ _
  have HO5 : Hid (Mi.Own w5 w.heap.size v5 (Wn.goes (s.base : Int) s.under)) := ho5.out.base fun k e => Nat.le_trans hs (World.ownsRow.lt ho5.out k e).1
  have HB5 : Hid (Below w.heap.size w w5) := S5
  clear ho5 hb5 hs
  go_wp2
  go_ret
  exact ⟨v5, rfl, HO5, HB5⟩
end Go.Proofs.Ytnfjfcoonabmmaa.Sn
