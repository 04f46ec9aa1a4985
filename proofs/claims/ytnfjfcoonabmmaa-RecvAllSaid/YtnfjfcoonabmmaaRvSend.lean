/- The contract of the law's step that sends. -/
import Derived.Test.YtnfjfcoonabmmaaRvStep
namespace Go.Proofs.Ytnfjfcoonabmmaa.Rv
open Go.RowKit
open Go.Proofs.Ytnfjfcoonabmmaa.Me Go.Proofs.Ytnfjfcoonabmmaa.Hd Go.Proofs.Ytnfjfcoonabmmaa.Sn
set_option linter.unusedVariables false
set_option linter.unusedSimpArgs false

section
variable {M : Nat} {G : Nat → Prop} {w w4 : World} {P Ds D mb : Nat} {s : Snd} {r : Rcv} {ps tl : List (List Nat)} {S : Nat} {A1 A3 : Option Addr} {c1 c3 : Nat} {v2 : Value}
/-- More is its own. -/
theorem Pm.more {G' : Nat → Prop} (h : Pm M G w P Ds D mb s r ps S tl A1 c1 v2 A3 c3) (hs : Sn M G' w Ds s) (hG : ∀ k, G k → G' k) (hG' : ∀ k, G' k → M ≤ k ∧ k < w.heap.size) : Pm M G' w P Ds D mb s r ps S tl A1 c1 v2 A3 c3 :=
  ⟨h.blk, hG P h.gP, hs, h.rv.mono fun k _ => hG k, h.pu.mono fun k _ => hG k, h.wy.turn (But.refl (fun _ => False) w) (fun _ _ _ _ => id) (fun _ _ => id) (fun k _ => hG k) (fun _ _ => rfl), h.to.mono fun k _ => hG k, h.ne, hG', h.hM⟩
/-- Something was sent: behind the append and the store. -/
theorem Pm.sent {u : Value} (h : Pm M G w P Ds D mb s r ps S tl A1 c1 v2 A3 c3) (hu : El G w u (lsAt ps S)) :
    ∃ xs, w.ownsRow 0 34 3 v2 S xs ∧ ∀ (v' : Value) (w4 : World), w4.ownsRow 0 34 3 v' (S + 1) (xs ++ [.int .i64 0, .int .i64 ((S % 128 : Nat) : Int), u]) →
      (w.alloc (.cells #[.int .i64 0, .int .i64 ((S % 128 : Nat) : Int), u] 34)).grownBy w4 v2.ownBlock → (v'.ownBlock = v2.ownBlock ∨ v'.ownBlock = some (w.alloc (.cells #[.int .i64 0, .int .i64 ((S % 128 : Nat) : Int), u] 34)).heap.size) →
      w4.cell? ⟨P, 3, none⟩ = some v2 ∧ w4.frozen? ⟨P, 3, none⟩ = false ∧ (∃ G', Pm M G' (w4.setCell ⟨P, 3, none⟩ v') P Ds D mb s r ps (S + 1) tl A1 c1 v' A3 c3) ∧ Below M w w4 := by
  obtain ⟨xs, q1, q2, q3⟩ := h.wy
  refine ⟨xs, q1, fun v' w4 hx hg hloc => ?_⟩
  obtain ⟨wa, hwa⟩ : ∃ wa, w.alloc (.cells #[.int .i64 0, .int .i64 ((S % 128 : Nat) : Int), u] 34) = wa := ⟨_, rfl⟩
  rw [hwa] at hg hloc
  have hba : Below w.heap.size w wa := by rw [← hwa]; exact Me.below_alloc (Below.refl _ _)
  have hlt := h.lt
  have hT : ∀ k, v2.ownBlock = some k → G k ∧ Lk w k := fun k hk => ⟨(h.wy.blk k hk).1, by obtain ⟨cur, hc⟩ := (h.wy.blk k hk).2; exact ⟨cur, _, hc, .inr rfl⟩⟩
  have b4 : But (fun k => v2.ownBlock = some k) w w4 := ⟨hg.os.trans hba.os, hg.tape.trans hba.tape, hg.output.trans hba.output, Nat.le_trans hba.size hg.size, fun k hk hn => (hg.block k (Nat.lt_of_lt_of_le hk hba.size) fun e => hn e.symm).trans (hba.block k hk)⟩
  have hPA : ¬ v2.ownBlock = some P := h.wy.ne h.blk fun cs => cells_ne (by decide)
  have hP4 : w4.heap[P]? = some (.cells (pcs Ds D A1 ps.length c1 v2 A3 tl.length c3) 47 (0, 0)) := (b4.same P hlt hPA).trans h.blk
  have b5 : But (fun k => v2.ownBlock = some k ∨ k = P) w (w4.setCell ⟨P, 3, none⟩ v') := (b4.mono fun k _ hk => .inl hk).set (p := ⟨P, 3, none⟩) (.inl (.inr rfl)) _
  obtain ⟨r1, r2, r3, r4, r5, r6, r7⟩ := h.rest b5 hT
  have hs4 := b4.size
  have hs5 : (w4.setCell ⟨P, 3, none⟩ v').heap.size = w4.heap.size := by simp
  have h8 : No8 G (fun k => v2.ownBlock = some k ∨ k = P) w := No8.of fun k hk => by
    rcases hk with hk | rfl
    · obtain ⟨cur, t, e1, e2⟩ := (hT k hk).2
      refine ⟨_, e1, fun cs => cells_ne ?_⟩
      rcases e2 with rfl | rfl <;> decide
    · exact ⟨_, h.blk, fun cs => cells_ne (by decide)⟩
  have hgn : ∀ k, k < w.heap.size → G k → Gn G w (w4.setCell ⟨P, 3, none⟩ v') k := fun k hk hg => ⟨.inl hg, by omega⟩
  have hv' : ∀ k, v'.ownBlock = some k → k < w4.heap.size := own_lt hx
  have hxl : xs.length = S * 3 := q1.1
  have hvP : v'.ownBlock ≠ some P := fun e => by
    rcases hloc with h' | h'
    · exact hPA (h' ▸ e)
    · rw [h'] at e
      have : wa.heap.size = P := Option.some.inj e
      have := hba.size; omega
  refine ⟨cell_of_row w4 P 3 _ _ (0, 0) hP4, frozen_of_row w4 P 3 _ _ hP4, ⟨Gn G w (w4.setCell ⟨P, 3, none⟩ v'), ?_, r1, r2, r3, r4 A1 c1 ps h.pu fun k hk hk' => ?_, ?_, r4 A3 c3 tl h.to fun k hk hk' => ?_, h.ne, r6, r7⟩, b4.below h.hM fun k hk => (h.gM k (hT k hk).1).1⟩
  · rw [heap_setCell_same w4 P 3 _ _ _ hP4, pcs3]
  · obtain ⟨cur, hc⟩ := (h.wy.blk k hk').2
    exact h.pu.ne hc (fun cs => cells_ne (by decide)) hk
  · refine Wy.snoc (w4 := w4.setCell ⟨P, 3, none⟩ v') (own_same hx fun k e _ => Below.heap_setCell w4 ⟨P, 3, none⟩ _ k fun e' => hvP (by rw [e]; exact congrArg some e')) hxl (fun k e => ?_) (fun j hj => ?_) (hu.turn b5 h8 hgn)
    · refine ⟨?_, by rw [hs5]; exact hv' k e⟩
      rcases hloc with h' | h'
      · exact .inl (hT k (h' ▸ e)).1
      · rw [h'] at e
        have : wa.heap.size = k := Option.some.inj e
        exact .inr (by have := hba.size; omega)
    · obtain ⟨a1, a2, u', a3, a4⟩ := q3 j hj
      exact ⟨a1, a2, u', a3, a4.turn b5 h8 hgn⟩
  · obtain ⟨cur, hc⟩ := (h.wy.blk k hk').2
    exact h.to.ne hc (fun cs => cells_ne (by decide)) hk
end
theorem act_new (w : World) (m : Int) (u : Value) : ∀ j v, [Value.int .i64 0, Value.int .i64 m, u][j]? = some v → (w.alloc (.cells #[.int .i64 0, .int .i64 m, u] 34)).cell? ((⟨w.heap.size, 0, none⟩ : Addr).add j) = some v := by
  intro j v hj
  rw [add_mk, Nat.zero_add, cell_of_row _ w.heap.size j _ 34 (0, 0) (heap_alloc_new w _)]
  simpa using hj
theorem act_one (m : Int) (A : Option Addr) (n c : Nat) : ∀ v ∈ [Value.int .i64 0, Value.int .i64 m, .slice A n c], v.oneCell' = true := by simp [Value.oneCell']
theorem own_form {w : World} {B T s n : Nat} {v : Value} {xs : List Value} (h : w.ownsRow B T s v n xs) : ∃ A c, v = .slice A n c := by
  rcases h.2 with ⟨rfl, rfl⟩ | ⟨g, cap, cur, rfl, _⟩
  · exact ⟨_, _, rfl⟩
  · exact ⟨_, _, rfl⟩
theorem infoAct : (Try.prog.info? 34).map (fun i => (i.zero, i.size, i.bytes)) = some (some (.agg #[.int .i64 0, .int .i64 0, .slice none 0 0]), 3, 40) := by kernel_rfl
set_option maxRecDepth 100000 in
set_option maxHeartbeats 4000000 in
theorem step_send (M : Nat) (w : World) (P Ds D mb n : Nat) (x : Pr) (h : Hid (PM M w P Ds D mb n x)) (h300 : Hid (x.ps.length ≤ 300)) (N : Int) :
    Calls Try.prog 13 #[.pointer (some ⟨P, 0, none⟩), .agg #[.int .i64 1, .int .i64 N]] w fun e w' => (∃ v, e = .returned v) ∧ Hid (PM M w' P Ds D mb n ⟨sendS x.s, x.r, x.ps, x.g, x.W⟩) ∧ Hid (Below M w w') := by
  obtain ⟨hst, G, A1, c1, v2, A3, c3, hpm⟩ := h.out
  have HB : Below w.heap.size w (w.alloc (.cells #[.int .i64 1, .int .i64 N] 43)) := Me.below_alloc (Below.refl _ _)
  have HPA := Lib.hid (hpm.below HB)
  have HB0 : Hid (Below M w (w.alloc (.cells #[.int .i64 1, .int .i64 N] 43))) := HB.mono hpm.hM
  have hrow : (w.alloc (.cells #[.int .i64 1, .int .i64 N] 43)).cell? ⟨w.heap.size, 0, none⟩ = some (.int .i64 1) := cell_of_row _ _ 0 _ _ (0, 0) (heap_alloc_new w _)
  have HST := Lib.hid hst
  have HS := Lib.hid hst.send
  have e0 : (w.alloc (.cells #[.int .i64 1, .int .i64 N] 43)).cell? ⟨P, 0, none⟩ = some (.pointer (some ⟨Ds, 0, none⟩)) := HPA.out.cell 0
  obtain ⟨WA, hWA⟩ : ∃ WA, w.alloc (.cells #[.int .i64 1, .int .i64 N] 43) = WA := ⟨_, rfl⟩
  rw [hWA] at HPA HB0 e0 hrow
  have HSn := Send_s M G WA Ds x.s (Lib.hid HPA.out.sn) (Lib.hid hst.sok) (Lib.hid HPA.out.hM) (Lib.hid fun k hk => (HPA.out.gM k hk).2)
  clear HB hpm hst
  by_cases hs : sendOk x.s = true
  · obtain ⟨g1, g2, g3⟩ := HST.out.gone.sent hs
    obtain ⟨a1, a2⟩ := HST.out.at_ g1
    have hS1 : x.S + 1 = x.g + (sendS x.s).under := by unfold sendS; rw [if_pos hs]; rfl
    rw [hs, g2, g3, a1] at HSn
    have HSN := Lib.hid HSn
    have HSLE := HST.out.Sle
    have HQ : Hid ((x.S + 1) * 40 ≤ 140737488355328) := by have := h300.out; show _ ≤ _; omega
    obtain ⟨mm, hmm⟩ : ∃ mm, (x.g + x.s.under) % 128 = mm := ⟨_, rfl⟩
    have HMM : Hid (x.S % 128 = mm) := hmm
    have HG3 : Hid (lsAt x.ps (x.g + x.s.under) = lsAt x.ps x.S) := rfl
    have HA1 := Lib.hid a1
    have HHS1 := Lib.hid hS1
    rw [hmm] at HSN
    obtain ⟨i0, hi0, z0, z1, z2⟩ := info_parts infoAct
    have HZ := Lib.hid (And.intro hi0 (And.intro z0 (And.intro z1 z2)))
    clear hs g1 g2 g3 a1 a2 HSn hmm HSLE hS1 hi0 z0 z1 z2
    go_enter Try.func13, Try.ntmps13
    go_wp2_with (first
      | (go_at_call 33; refine HSN.out.mono ?_; rintro e w2 ⟨A, c, rfl, ho, hs2, hb2⟩; have HB2 : Hid (Below M w w2) := HB0.out.trans (but_out hb2.out HPA.out.hM); have hpm2 : Pm M (fun k => (G k ∨ WA.heap.size ≤ k) ∧ k < w2.heap.size) w2 P Ds D mb (sendS x.s) x.r x.ps x.S (x.ps.take x.W) A1 c1 v2 A3 c3 := (HPA.out.sender (hs2.out.other fun k _ hk => .inl hk) hb2.out).more (hs2.out.other fun k _ hk => hk.1) (fun k hk => ⟨.inl hk, Nat.lt_of_lt_of_le (HPA.out.gM k hk).2 hb2.out.size⟩) (fun k hk => ⟨hk.1.elim (fun q => (HPA.out.gM k q).1) fun q => Nat.le_trans HPA.out.hM q, hk.2⟩); have HPM2 := Lib.hid hpm2; have HEL : Hid (El (fun k => (G k ∨ WA.heap.size ≤ k) ∧ k < w2.heap.size) w2 (.slice A 2 c) (lsAt x.ps x.S)) := ⟨A, c, by rw [← HG3.out, HA1.out], by rw [← HG3.out, HA1.out]; exact own_base ho.out fun _ _ => Nat.zero_le _, fun a ea => ⟨.inr (ho.out.lt a.block (by rw [ea]; rfl)).1, (ho.out.lt a.block (by rw [ea]; rfl)).2⟩⟩; obtain ⟨xs, hxs, hfin⟩ := hpm2.sent HEL.out; rw [HMM.out] at hfin; have HXS := Lib.hid hxs; have HFIN := Lib.hid hfin; have e3 : w2.cell? ⟨P, 3, none⟩ = some v2 := hpm2.cell 3; clear ho hs2 hb2 hpm2 hxs hfin)
      | (at_builtin; (refine wpList_append_own_at _ rfl (.tmp 64) (.tmp 68) 22 rfl 0 34 i0 (.agg #[.int .i64 0, .int .i64 0, .slice none 0 0]) 3 40 Try.underlying22 HZ.out.1 HZ.out.2.1 HZ.out.2.2.1 HZ.out.2.2.2 rfl (by decide) v2 x.S xs rfl (World.ownsRow.alloc HXS.out _) ⟨w2.heap.size, 0, none⟩ 1 1 [.int .i64 0, .int .i64 (mm : Int), .slice A 2 c] rfl rfl (act_new w2 _ _) (act_one _ _ _ _) (by unfold maxLen; have := HQ.out; omega) HQ.out (Nat.zero_le _) ?_); intro v4 w4 hx4 hg4 _ hl4; obtain ⟨A4, c4, rfl⟩ := own_form hx4; obtain ⟨f3, f3', hp4, b4⟩ := HFIN.out _ w4 hx4 hg4 hl4; have HP4 := Lib.hid hp4; have HB4 : Hid (Below M w w4) := HB2.out.trans b4; clear hx4 hg4 hl4 hp4 b4))
    go_end0
    refine ⟨⟨_, rfl⟩, ⟨HS.out, ?_⟩, HB4.out.setCell (p := ⟨P, 3, none⟩) (HPA.out.gM _ HPA.out.gP).1 _⟩
    obtain ⟨G5, hg5⟩ := HP4.out
    refine ⟨G5, A1, c1, .slice A4 (x.S + 1) c4, A3, c3, ?_⟩
    show Pm M G5 _ P Ds D mb _ x.r x.ps (x.g + (sendS x.s).under) _ A1 c1 _ A3 c3
    rw [← HHS1.out]
    exact hg5
  · have hs' : sendOk x.s = false := by simpa using hs
    have hS1 : sendS x.s = x.s := by unfold sendS; rw [if_neg hs]
    have hP1 : sendP x.s = [] := by unfold sendP; rw [if_neg hs]
    rw [hs', hP1, hS1] at HSn
    have HSN := Lib.hid HSn
    have HHS1 := Lib.hid hS1
    clear hs hs' hS1 hP1 HSn
    go_enter Try.func13, Try.ntmps13
    go_wp2_with (go_at_call 33; refine HSN.out.mono ?_; rintro e w2 ⟨A, c, rfl, ho, hs2, hb2⟩; have HB2 : Hid (Below M w w2) := HB0.out.trans (but_out hb2.out HPA.out.hM); have HP2 := Lib.hid (HPA.out.sender (hs2.out.other fun k _ hk => .inl hk) hb2.out); clear ho hs2 hb2)
    go_end0
    refine ⟨⟨_, rfl⟩, ⟨HS.out, G, A1, c1, v2, A3, c3, ?_⟩, HB2⟩
    rw [HHS1.out]
    exact HP2.out
end Go.Proofs.Ytnfjfcoonabmmaa.Rv
