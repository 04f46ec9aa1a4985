/- The contract of the law's step that pushes. -/
import Derived.Test.YtnfjfcoonabmmaaRvSend
namespace Go.Proofs.Ytnfjfcoonabmmaa.Rv
open Go.RowKit
open Go.Proofs.Ytnfjfcoonabmmaa.Me Go.Proofs.Ytnfjfcoonabmmaa.Hd Go.Proofs.Ytnfjfcoonabmmaa.Sn
set_option linter.unusedVariables false
set_option linter.unusedSimpArgs false

theorem u8_nat (z : Int) : ∃ b : Nat, IntKind.u8.wrap z = (b : Int) ∧ b < 256 := by
  refine ⟨(z % 256).toNat, ?_, by omega⟩
  simp [IntKind.wrap, IntKind.bits, IntKind.signed]
  omega
theorem pair_own (w : World) (b0 b1 : Nat) : Me.Own (w.alloc (.cells #[.int .u8 (b0 : Int), .int .u8 (b1 : Int)] 5)) 0 (.slice (some ⟨w.heap.size, 0, none⟩) 2 2) [b0, b1] :=
  ⟨rfl, .inr ⟨w.heap.size, 2, #[.int .u8 (b0 : Int), .int .u8 (b1 : Int)], rfl, Nat.zero_le _, heap_alloc_new w _, Nat.le_refl _, by unfold maxLen; omega, rfl, rfl⟩⟩
set_option maxRecDepth 100000 in
set_option maxHeartbeats 4000000 in
theorem step_push (M : Nat) (w : World) (P Ds D mb n : Nat) (x : Pr) (h : Hid (PM M w P Ds D mb n x)) (h300 : Hid (x.ps.length < 300)) (N : Int) :
    Calls Try.prog 13 #[.pointer (some ⟨P, 0, none⟩), .agg #[.int .i64 0, .int .i64 N]] w fun e w' => (∃ v, e = .returned v) ∧ Hid (∃ s' ps', PM M w' P Ds D mb n ⟨s', x.r, ps', x.g, x.W⟩ ∧ ps'.length ≤ x.ps.length + 1) ∧ Hid (Below M w w') := by
  obtain ⟨hst, G, A1, c1, v2, A3, c3, hpm⟩ := h.out
  have HB : Below w.heap.size w (w.alloc (.cells #[.int .i64 0, .int .i64 N] 43)) := Me.below_alloc (Below.refl _ _)
  have HPA := Lib.hid (hpm.below HB)
  have HB0 : Hid (Below M w (w.alloc (.cells #[.int .i64 0, .int .i64 N] 43))) := HB.mono hpm.hM
  have hrow : (w.alloc (.cells #[.int .i64 0, .int .i64 N] 43)).cell? ⟨w.heap.size, 0, none⟩ = some (.int .i64 0) := cell_of_row _ _ 0 _ _ (0, 0) (heap_alloc_new w _)
  have HST := Lib.hid hst
  have e2 : (w.alloc (.cells #[.int .i64 0, .int .i64 N] 43)).cell? ⟨P, 2, none⟩ = some (.slice A1 x.ps.length c1) := HPA.out.cell 2
  obtain ⟨WA, hWA⟩ : ∃ WA, w.alloc (.cells #[.int .i64 0, .int .i64 N] 43) = WA := ⟨_, rfl⟩
  rw [hWA] at HPA HB0 e2 hrow
  clear HB hpm hst
  obtain ⟨lp, hlp⟩ : ∃ lp, x.ps.length = lp := ⟨_, rfl⟩
  have h3 := h300.out
  rw [hlp] at e2 h3
  have HLP := Lib.hid hlp
  have hl3 : (lp : Int) < 300 := by omega
  clear hlp
  go_enter Try.func13, Try.ntmps13
  go_wp2
  clear hWA hrow
  refine wp_region_held_drew (S := fun W => W.cell? ⟨P, 2, none⟩ = some (.slice A1 lp c1)) (by kernel_rfl) e2 (fun hHeld => ?_)
  refine wpAnyH_take (i := 0) (v := ?vz1) rfl (by kernel_rfl) (by kernel_rfl) (by kernel_rfl) (fun _ _ _ h => h) (Or.inl ⟨by rfl, ?hyz1⟩) (by first | assumption | exact trivial) ?restz1
  case hyz1 => intro W hSW; go_simp; try (with_reducible rfl)
  simp only [Act.put, List.getElem_toArray, List.getElem_cons_succ, List.getElem_cons_zero, List.setIfInBounds_toArray, List.set_cons_zero, List.set_cons_succ]
  refine wpAnyH_take (i := 1) (v := ?vz2) rfl (by kernel_rfl) (by kernel_rfl) (by kernel_rfl) (fun _ _ _ h => h) (Or.inl ⟨by rfl, ?hyz2⟩) (by first | assumption | exact trivial) ?restz2
  case hyz2 => intro W hSW; go_simp; try (with_reducible rfl)
  simp only [Act.put, List.getElem_toArray, List.getElem_cons_succ, List.getElem_cons_zero, List.setIfInBounds_toArray, List.set_cons_zero, List.set_cons_succ]
  refine wpAnyH_take (i := 2) (v := ?vz3) rfl (by kernel_rfl) (by kernel_rfl) (by kernel_rfl) (fun _ _ _ h => h) (Or.inl ⟨by rfl, ?hyz3⟩) (by first | assumption | exact trivial) ?restz3
  case hyz3 => intro W hSW; go_simp; try (with_reducible rfl)
  simp only [Act.put, List.getElem_toArray, List.getElem_cons_succ, List.getElem_cons_zero, List.setIfInBounds_toArray, List.set_cons_zero, List.set_cons_succ]
  refine wpAnyH_take (i := 3) (v := ?vz4) rfl (by kernel_rfl) (by kernel_rfl) (by kernel_rfl) (fun _ _ _ h => h) (Or.inl ⟨by rfl, ?hyz4⟩) (by first | assumption | exact trivial) ?restz4
  case hyz4 => intro W hSW; have q3 := hSW; go_simp; try (with_reducible rfl)
  simp only [Act.put, List.getElem_toArray, List.getElem_cons_succ, List.getElem_cons_zero, List.setIfInBounds_toArray, List.set_cons_zero, List.set_cons_succ]
  refine wpAnyH_take (i := 4) (v := ?vz5) rfl (by kernel_rfl) (by kernel_rfl) (by kernel_rfl) (fun _ _ _ h => h) (Or.inl ⟨by rfl, ?hyz5⟩) (by first | assumption | exact trivial) ?restz5
  case hyz5 => intro W hSW; go_simp; try (with_reducible rfl)
  simp only [Act.put, List.getElem_toArray, List.getElem_cons_succ, List.getElem_cons_zero, List.setIfInBounds_toArray, List.set_cons_zero, List.set_cons_succ]
  refine wpAnyH_take (i := 5) (v := ?vz6) rfl (by kernel_rfl) (by kernel_rfl) (by kernel_rfl) (fun _ _ _ h => h) (Or.inl ⟨by rfl, ?hyz6⟩) (by first | assumption | exact trivial) ?restz6
  case hyz6 => intro W hSW; go_simp; try (with_reducible rfl)
  simp only [Act.put, List.getElem_toArray, List.getElem_cons_succ, List.getElem_cons_zero, List.setIfInBounds_toArray, List.set_cons_zero, List.set_cons_succ]
  refine wpAnyH_take (i := 6) (v := ?vz7) rfl (by kernel_rfl) (by kernel_rfl) (by kernel_rfl) (fun _ _ _ h => h) (Or.inl ⟨by rfl, ?hyz7⟩) (by first | assumption | exact trivial) ?restz7
  case hyz7 => intro W hSW; go_simp; try (with_reducible rfl)
  simp only [Act.put, List.getElem_toArray, List.getElem_cons_succ, List.getElem_cons_zero, List.setIfInBounds_toArray, List.set_cons_zero, List.set_cons_succ]
  refine wpAnyH_take (i := 7) (v := ?vz8) rfl (by kernel_rfl) (by kernel_rfl) (by kernel_rfl) (fun _ _ _ h => h) (Or.inl ⟨by rfl, ?hyz8⟩) (by first | assumption | exact trivial) ?restz8
  case hyz8 => intro W hSW; go_simp; try (with_reducible rfl)
  simp only [Act.put, List.getElem_toArray, List.getElem_cons_succ, List.getElem_cons_zero, List.setIfInBounds_toArray, List.set_cons_zero, List.set_cons_succ]
  refine wpAnyH_take (i := 8) (v := ?vz9) rfl (by kernel_rfl) (by kernel_rfl) (by kernel_rfl) (fun _ _ _ h => h) (Or.inl ⟨by rfl, ?hyz9⟩) (by first | assumption | exact trivial) ?restz9
  case hyz9 => intro W hSW; go_simp; try (with_reducible rfl)
  simp only [Act.put, List.getElem_toArray, List.getElem_cons_succ, List.getElem_cons_zero, List.setIfInBounds_toArray, List.set_cons_zero, List.set_cons_succ]
  refine wpAnyH_take (i := 9) (v := ?vz10) rfl (by kernel_rfl) (by kernel_rfl) (by kernel_rfl) (fun _ _ _ h => h) (Or.inl ⟨by rfl, ?hyz10⟩) (by first | assumption | exact trivial) ?restz10
  case hyz10 => intro W hSW; have q9 := hSW; go_simp; try (with_reducible rfl)
  simp only [Act.put, List.getElem_toArray, List.getElem_cons_succ, List.getElem_cons_zero, List.setIfInBounds_toArray, List.set_cons_zero, List.set_cons_succ]
  refine wpAnyH_take (i := 10) (v := ?vz11) rfl (by kernel_rfl) (by kernel_rfl) (by kernel_rfl) (fun _ _ _ h => h) (Or.inl ⟨by rfl, ?hyz11⟩) (by first | assumption | exact trivial) ?restz11
  case hyz11 => intro W hSW; go_simp; try (with_reducible rfl)
  simp only [Act.put, List.getElem_toArray, List.getElem_cons_succ, List.getElem_cons_zero, List.setIfInBounds_toArray, List.set_cons_zero, List.set_cons_succ]
  refine wpAnyH_take (i := 11) (v := ?vz12) rfl (by kernel_rfl) (by kernel_rfl) (by kernel_rfl) (fun _ _ _ h => h) (Or.inl ⟨by rfl, ?hyz12⟩) (by first | assumption | exact trivial) ?restz12
  case hyz12 => intro W hSW; go_simp; try (with_reducible rfl)
  simp only [Act.put, List.getElem_toArray, List.getElem_cons_succ, List.getElem_cons_zero, List.setIfInBounds_toArray, List.set_cons_zero, List.set_cons_succ]
  refine wpAnyH_take (i := 12) (v := ?vz13) rfl (by kernel_rfl) (by kernel_rfl) (by kernel_rfl) (fun _ _ _ h => h) (Or.inl ⟨by rfl, ?hyz13⟩) (by first | assumption | exact trivial) ?restz13
  case hyz13 => intro W hSW; go_simp; try (with_reducible rfl)
  simp only [Act.put, List.getElem_toArray, List.getElem_cons_succ, List.getElem_cons_zero, List.setIfInBounds_toArray, List.set_cons_zero, List.set_cons_succ]
  obtain ⟨b0, hb0, hb0'⟩ := u8_nat (lp : Int)
  obtain ⟨b1, hb1, hb1'⟩ := u8_nat (IntKind.i64.wrap ((lp : Int) / 256))
  rw [hb0, hb1]
  refine wpAnyH_ready (rs := [13]) (by kernel_rfl) (by simp) ?_
  refine AllReadyH.cons rfl (fun K hK => ?_) AllReadyH.nil
  go_simp
  have hbl : Below WA.heap.size WA (WA.drew.alloc (.cells #[.int .u8 (b0 : Int), .int .u8 (b1 : Int)] 5)) := Me.below_alloc ((Below.refl _ WA).drew)
  have HPB := Lib.hid (HPA.out.grow hbl (G' := fun k => G k ∨ k = WA.drew.heap.size) (fun k hk => .inl hk) (fun k hk => hk.imp id fun e => by subst e; exact ⟨Nat.le_refl _, by simp⟩))
  have e2' : (WA.drew.alloc (.cells #[.int .u8 (b0 : Int), .int .u8 (b1 : Int)] 5)).cell? ⟨P, 2, none⟩ = some (.slice A1 lp c1) := (hbl.cell (p := ⟨P, 2, none⟩) HPA.out.lt).trans e2
  refine hK.out _ _ (e2') (fun hHeld => ?_)
  clear hK K
  refine wpAnyH_take (i := 14) (v := ?vz14) rfl (by kernel_rfl) (by kernel_rfl) (by kernel_rfl) (fun _ _ _ h => h) (Or.inl ⟨by rfl, ?hyz14⟩) (by first | assumption | exact trivial) ?restz14
  case hyz14 => intro W hSW; go_simp; try (with_reducible rfl)
  simp only [Act.put, List.getElem_toArray, List.getElem_cons_succ, List.getElem_cons_zero, List.setIfInBounds_toArray, List.set_cons_zero, List.set_cons_succ]
  refine wpAnyH_done (by kernel_rfl) ?_ _
  rw [show (WA.alloc (.cells #[.int .u8 (b0 : Int), .int .u8 (b1 : Int)] 5)).drew = WA.drew.alloc (.cells #[.int .u8 (b0 : Int), .int .u8 (b1 : Int)] 5) from rfl]
  have hp : ∀ z ∈ [b0, b1], z < 256 := by
    intro z hz
    simp only [List.mem_cons, List.mem_nil_iff, or_false] at hz
    omega
  have hrd : Me.Rd (WA.drew.alloc (.cells #[.int .u8 (b0 : Int), .int .u8 (b1 : Int)] 5)) (WA.drew.alloc (.cells #[.int .u8 (b0 : Int), .int .u8 (b1 : Int)] 5)).heap.size (some ⟨WA.drew.heap.size, 0, none⟩) [b0, b1] := (Me.rd_lit (w := WA.drew) hp 5).more (by simp)
  have HOW := Lib.hid (pair_own WA.drew b0 b1)
  have HBB : Hid (Below M w (WA.drew.alloc (.cells #[.int .u8 (b0 : Int), .int .u8 (b1 : Int)] 5))) := HB0.out.trans (hbl.mono HPA.out.hM)
  have HGB : Hid (WA.drew.heap.size < (WA.drew.alloc (.cells #[.int .u8 (b0 : Int), .int .u8 (b1 : Int)] 5)).heap.size) := by show _ < _; simp
  obtain ⟨gb, hgb⟩ : ∃ gb, WA.drew.heap.size = gb := ⟨_, rfl⟩
  have hgb2 : WA.heap.size = gb := hgb
  rw [hgb] at HPB hrd HOW HGB
  rw [hgb2]
  obtain ⟨WB, hWB⟩ : ∃ WB, WA.drew.alloc (.cells #[.int .u8 (b0 : Int), .int .u8 (b1 : Int)] 5) = WB := ⟨_, rfl⟩
  rw [hWB] at HPB hrd HOW HBB HGB ⊢
  have P0 := Push_s M (fun k => G k ∨ k = gb) WB Ds x.s (Lib.hid HPB.out.sn) (Lib.hid HST.out.sok) (Lib.hid HPB.out.hM) (Lib.hid fun k hk => (HPB.out.gM k hk).2) (some ⟨gb, 0, none⟩) 2 [b0, b1] (Lib.hid hrd) (fun e => by cases e) (by simp)
  have d0 : WB.cell? ⟨P, 0, none⟩ = some (.pointer (some ⟨Ds, 0, none⟩)) := HPB.out.cell 0
  have HP2 := Lib.hid hp
  clear hWB hgb hgb2 hbl e2' e2 hb0 hb1 hb0' hb1' hrd hp
  by_cases he : pushE x.s [b0, b1] = 0
  · rw [he] at P0
    have HPS := Lib.hid P0
    have HE := Lib.hid he
    have HU : Hid ((pushS x.s [b0, b1]).under = x.s.under) := (HST.out.gone.push _ he).2.2
    clear P0 he
    have hSL : x.S ≤ x.ps.length := HST.out.Sle
    have hWS : x.W ≤ x.S := HST.out.wS
    have HTK : Hid ((x.ps ++ [[b0, b1]]).take x.W = x.ps.take x.W) := List.take_append_of_le_length (by omega)
    have HSL := Lib.hid hSL
    have HQ : Hid ((x.ps.length + [[b0, b1]].length) * 24 ≤ 140737488355328) := by have := h300.out; show _ ≤ _; simp; omega
    have HPST := Lib.hid (HST.out.push (b := [b0, b1]) ⟨rfl, HP2.out⟩ HE.out)
    clear hSL hWS
    go_wp2_with (first
      | (go_at_call 32; refine HPS.out.mono ?_; rintro e w2 ⟨rfl, hs2, hb2⟩; have H2 := Lib.hid (HPB.out.sender hs2.out hb2.out); have f2 : w2.cell? ⟨P, 2, none⟩ = some (.slice A1 lp c1) := (by have := H2.out.cell 2; rw [← HLP.out]; exact this); have HB2 : Hid (Below M w w2) := HBB.out.trans (but_out hb2.out HPB.out.hM); have HO2 : Hid (Me.Own w2 0 (.slice (some ⟨gb, 0, none⟩) 2 2) [b0, b1]) := own_same HOW.out (fun k e hk => hb2.out.same k hk fun ht => ht.2 (.inr (by cases e; rfl))); have HPU := Lib.hid (H2.out.pu.below (Me.below_alloc (o := .cells #[.slice (some ⟨gb, 0, none⟩) 2 2] 32) (Below.refl w2.heap.size w2))); have HUS : Hid (∀ j, j < [[b0, b1]].length → ∃ u, [Value.slice (some ⟨gb, 0, none⟩) 2 2][j]? = some u ∧ El (fun k => G k ∨ k = gb) (w2.alloc (.cells #[.slice (some ⟨gb, 0, none⟩) 2 2] 32)) u (lsAt [[b0, b1]] j)) := (fun j hj => by obtain rfl : j = 0 := (by simpa using hj); exact ⟨_, rfl, some ⟨gb, 0, none⟩, 2, rfl, own_same HO2.out (fun k _ hk => Below.heap_alloc _ _ _ hk), fun a ea => by cases ea; exact .inr rfl⟩); clear hs2 hb2)
      | (at_builtin; refine appL rfl (.tmp 42) (.tmp 44) rfl (fun k => G k ∨ k = gb) A1 c1 x.ps [[b0, b1]] (by rw [HLP.out]; rfl) HPU.out (.slice (some ⟨w2.heap.size, 0, none⟩) 1 1) [.slice (some ⟨gb, 0, none⟩) 2 2] (by rfl) (src_one rfl) HUS.out HQ.out ?_; intro A4 c4 w4 hl4 hb4 hn4; obtain ⟨t1, t2, t3⟩ := H2.out.pushed HSL.out hl4 hb4 hn4; rw [HLP.out] at t1 t3; rw [HLP.out]; have T3 := Lib.hid t3; have HB4 : Hid (Below M w w4) := (HB2.out.trans ((Me.below_alloc (o := .cells #[.slice (some ⟨gb, 0, none⟩) 2 2] 32) (Below.refl w2.heap.size w2)).mono H2.out.hM)).trans (hb4.below (Nat.le_trans H2.out.hM (by simp)) fun k hk => (H2.out.gM k (H2.out.pu.blk k hk).1).1); clear t3 hl4 hb4 hn4))
    go_end0
    refine ⟨⟨_, rfl⟩, ⟨pushS x.s [b0, b1], x.ps ++ [[b0, b1]], ⟨HPST.out, ?_⟩, by simp⟩, HB4.out.setCell (p := ⟨P, 2, none⟩) (HPA.out.gM _ HPA.out.gP).1 _⟩
    obtain ⟨G5, hg5⟩ := T3.out
    refine ⟨G5, A4, c4, v2, A3, c3, ?_⟩
    show Pm M G5 _ P Ds D mb _ x.r (x.ps ++ [[b0, b1]]) (x.g + (pushS x.s [b0, b1]).under) ((x.ps ++ [[b0, b1]]).take x.W) A4 c4 v2 A3 c3
    rw [HU.out, HTK.out]
    exact hg5
  · have HE : Hid (pushS x.s [b0, b1] = x.s) := Gone.keep he
    rw [HE.out] at P0
    obtain ⟨ee, hee⟩ : ∃ ee, pushE x.s [b0, b1] = ee := ⟨_, rfl⟩
    rw [hee] at P0 he
    have ge : ((ee : Int) == 0) = false := beq_eq_false_iff_ne.mpr (by omega)
    have HPS := Lib.hid P0
    clear P0 he hee
    go_wp2_with (go_at_call 32; refine HPS.out.mono ?_; rintro e w2 ⟨rfl, hs2, hb2⟩; have H2 := Lib.hid (HPB.out.sender hs2.out hb2.out); have HB2 : Hid (Below M w w2) := HBB.out.trans (but_out hb2.out HPB.out.hM); clear hs2 hb2)
    go_end0
    exact ⟨⟨_, rfl⟩, ⟨x.s, x.ps, ⟨HST.out, _, A1, c1, v2, A3, c3, H2.out⟩, Nat.le_succ _⟩, HB2⟩
end Go.Proofs.Ytnfjfcoonabmmaa.Rv
