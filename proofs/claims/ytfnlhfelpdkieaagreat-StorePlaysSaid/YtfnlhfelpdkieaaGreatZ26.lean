/- The document's counters: Last, use. -/
import Derived.Test.YtfnlhfelpdkieaaGreatZ3
import Derived.Test.YtfnlhfelpdkieaaGreatZ5
import Derived.Test.YtfnlhfelpdkieaaGreatZ19
import Derived.Test.YtfnlhfelpdkieaaGreatZ20
import Derived.Test.YtfnlhfelpdkieaaGreatZ21
import Derived.Test.YtfnlhfelpdkieaaGreatSoRMayS
namespace Go.Proofs.YtfnlhfelpdkieaaGreat.So
open Go.RowKit Go.Deep
open Go.Proofs.YtfnlhfelpdkieaaGreat.Me Go.Proofs.YtfnlhfelpdkieaaGreat.Sb
set_option linter.unusedVariables false
set_option linter.unusedSimpArgs false

theorem kn_cells {w : World} {A : Option Addr} {n c : Nat} {U : Nx} (h : Kn w 0 (.slice A n c) U) : ∀ j, j < U.length → ∃ (g : Nat) (a b : Int), A = some ⟨g, 0, none⟩ ∧ U[j]? = some (a, b) ∧ ∀ W, Below w.heap.size w W → W.cell? ⟨g, j * 2, none⟩ = some (.int .i64 a) ∧ W.cell? ⟨g, j * 2 + 1, none⟩ = some (.int .i64 b) := fun j hj => by
  have hx : U[j]? = some (U[j]'hj) := List.getElem?_eq_getElem hj
  obtain ⟨g, e1, _, e3, e4⟩ := h.at_ hx
  exact ⟨g, _, _, e1, hx, fun W hW => ⟨(e4 W (hW.block g e3)).1, (e4 W (hW.block g e3)).2.1⟩⟩
set_option maxRecDepth 100000 in
set_option maxHeartbeats 16000000 in
theorem RLast_any (a b c d e r : Int) (v vL vK : Value) (U : Nx) (x : Int) (w : World) (hv : Hid (Kn w 0 v U)) (hL : U.length ≤ 1000) : Calls Tryz.prog 30 #[.agg (rsc a b c d e v vL r vK), .int .i64 x] w fun e w' => e = .returned (.int .i64 (lastU U x)) ∧ Hid (Below w.heap.size w w') := by
  obtain ⟨A, cc, rfl, _, _⟩ := hv.out.form
  have HA := Lib.hid (kn_cells hv.out)
  unfold rsc
  obtain ⟨lu, hlu⟩ : ∃ l, lastU U x = l := ⟨_, rfl⟩
  have HYes : Hid (∀ j (p : Int × Int), (∀ (k : Nat) (q : Int × Int), k < j → U[k]? = some q → q.1 ≠ x) → U[j]? = some p → p.1 = x → p.2 = lu) := fun j p h hj hp => by rw [← hlu]; exact (lastU_at h hj hp).symm
  have HNo : Hid (∀ j, U.length ≤ j → (∀ (k : Nat) (q : Int × Int), k < j → U[k]? = some q → q.1 ≠ x) → lu = 0) := fun j hj h => by
    rw [← hlu]
    exact lastU_none fun p hp => by
      obtain ⟨k, hk⟩ := List.getElem?_of_mem hp
      have hl := (List.getElem?_eq_some_iff.1 hk).1
      exact h k p (by omega) hk
  rw [hlu]
  obtain ⟨N, hN⟩ : ∃ N, U.length = N := ⟨_, rfl⟩
  rw [hN] at HA HNo hL ⊢
  obtain ⟨W0, hW0⟩ : ∃ W, w.alloc (.cells #[.int .i64 a, .int .i64 b, .int .i64 c, .int .i64 d, .int .i64 e, .slice A N cc, vL, .int .i64 r, vK] 37) = W := ⟨_, rfl⟩
  have hX : W0.heap[w.heap.size]? = some (.cells #[.int .i64 a, .int .i64 b, .int .i64 c, .int .i64 d, .int .i64 e, .slice A N cc, vL, .int .i64 r, vK] 37 (0, 0)) := by rw [← hW0]; exact heap_alloc_new w _
  have HB : Hid (Below w.heap.size w W0) := by rw [← hW0]; exact Me.below_alloc (Below.refl _ _)
  have HW0 := Lib.hid hW0
  clear hW0 hv hN hlu
  obtain ⟨y0, y1, y2, y3, y4, y5, y6, y7, y8⟩ := rs_cells hX
  clear hX
  go_enter Tryz.func30, Tryz.ntmps30
  go_wp2
  rw [HW0.out]
  go_loopw [5] (fun v5 wr => ∃ j : Nat, v5 = .int .i64 (j : Int) ∧ j ≤ N ∧ Hid (∀ (k : Nat) (q : Int × Int), k < j → U[k]? = some q → q.1 ≠ x) ∧ W0 = wr) (fun v5 _ => N - (intOf v5).toNat)
  case atStart => exact ⟨0, rfl, Nat.zero_le _, fun k q hk => absurd hk (by omega), rfl⟩
  case round =>
    obtain ⟨j, rfl, hj, HNe, rfl⟩ := hrel
    by_cases hlt : j < N
    · obtain ⟨g, p1, p2, rfl, hq, hc⟩ := HA.out j hlt
      obtain ⟨z0, z1⟩ := hc W0 HB.out
      have g1 : (j : Int) < (N : Int) := by omega
      have g2 : (j : Int) < 1000 := by omega
      by_cases he : p1 = x
      · have hBt := HYes.out j (p1, p2) HNe.out hq he
        simp only at hBt
        subst hBt he
        clear hc hq
        go_wp2
        go_ret
        exact ⟨rfl, HB.out⟩
      · have HN2 : Hid (∀ (k : Nat) (q : Int × Int), k < j + 1 → U[k]? = some q → q.1 ≠ x) := fun k q' hk hq' => by
          by_cases h : k = j
          · subst h
            rw [hq] at hq'
            cases hq'
            exact he
          · exact HNe.out k q' (by omega) hq'
        have g3 : (p1 == x) = false := by simpa using he
        clear he hc hq
        go_wp2
        go_roundw
        case rel => exact ⟨j + 1, by go_num, by omega, HN2, trivial⟩
        case measure => simp [intOf]; omega
    · have hBf := HNo.out j (by omega) HNe.out
      subst hBf
      have g1 : ¬ (j : Int) < (N : Int) := by omega
      go_wp2
      go_ret
      exact ⟨rfl, HB.out⟩
end Go.Proofs.YtfnlhfelpdkieaaGreat.So
/- The document's counters: use. -/
namespace Go.Proofs.YtfnlhfelpdkieaaGreat.So
open Go.RowKit Go.Deep
open Go.Proofs.YtfnlhfelpdkieaaGreat.Me Go.Proofs.YtfnlhfelpdkieaaGreat.Sb
set_option linter.unusedVariables false
set_option linter.unusedSimpArgs false

theorem nx_new {w V : World} {a b : Int} (h : w.alloc (.cells #[.int .i64 a, .int .i64 b] 62) = V) : ∀ i u, (nV (a, b))[i]? = some u → V.cell? ⟨w.heap.size, i, none⟩ = some u := fun i u hu => by
  have hx : V.heap[w.heap.size]? = some (.cells #[.int .i64 a, .int .i64 b] 62 (0, 0)) := by rw [← h]; exact heap_alloc_new w _
  rw [cell_of_row V w.heap.size i _ _ (0, 0) hx, ← hu]
  show (#[Value.int .i64 a, .int .i64 b] : Array Value)[i]? = _
  rw [← Array.getElem?_toList]
  rfl
set_option maxRecDepth 100000 in
set_option maxHeartbeats 32000000 in
theorem Ruse_any (v : Value) (U : Nx) (d c : Int) (w : World) (hv : Hid (Kn w 0 v U)) (hL : U.length ≤ 1000) : Calls Tryz.prog 31 #[v, .agg #[.int .i64 d, .int .i64 c]] w fun e w' => ∃ v', e = .returned v' ∧ Hid (Kn w' w.heap.size v' (useU d c U)) ∧ Hid (Below w.heap.size w w') := by
  obtain ⟨A, cc, rfl, _, _⟩ := hv.out.form
  have HA := Lib.hid (kn_cells hv.out)
  have HT : Hid (∀ j (p : Int × Int), U[j]? = some p → uGo d c (U.take (j + 1)) = uStep d c (uGo d c (U.take j)) p) := fun j p h => by rw [List.take_add_one, h]; exact uGo_snoc d c _ p
  have HLen : Hid (∀ j, (uGo d c (U.take j)).1.length ≤ 2 * U.length) := fun j => by
    have := uGo_len d c (U.take j)
    rw [List.length_take] at this
    omega
  have HAll : Hid (U.take U.length = U) := List.take_length
  obtain ⟨N, hN⟩ : ∃ N, U.length = N := ⟨_, rfl⟩
  rw [hN] at HA HAll HLen hL ⊢
  obtain ⟨W0, hW0⟩ : ∃ W, w.alloc (.cells #[.int .i64 d, .int .i64 c] 62) = W := ⟨_, rfl⟩
  have hX0 : W0.heap[w.heap.size]? = some (.cells #[.int .i64 d, .int .i64 c] 62 (0, 0)) := by rw [← hW0]; exact heap_alloc_new w _
  have hB0 : Below w.heap.size w W0 := by rw [← hW0]; exact Me.below_alloc (Below.refl _ _)
  have hz0 : W0.heap.size = w.heap.size + 1 := by rw [← hW0, World.size_alloc]
  obtain ⟨W1, hW1⟩ : ∃ W, W0.alloc (.cells #[] 62) = W := ⟨_, rfl⟩
  have hK1 : Kn W1 (w.heap.size + 1) (.slice (some ⟨w.heap.size + 1, 0, none⟩) 0 0) [] := by rw [← hW1, ← hz0]; exact Kn.lit (Nat.le_refl _)
  have hb1 : Below W0.heap.size W0 W1 := by rw [← hW1]; exact Me.below_alloc (Below.refl _ _)
  have HK1 := Lib.hid hK1
  have HX1 : Hid (W1.heap[w.heap.size]? = some (.cells #[.int .i64 d, .int .i64 c] 62 (0, 0))) := (hb1.block _ (Array.getElem?_eq_some_iff.1 hX0).1).trans hX0
  have HB1 := Lib.hid (go_on hB0 hb1)
  have HW0 := Lib.hid hW0
  have HW1 := Lib.hid hW1
  have hu0 : uGo d c (U.take 0) = ([], false) := rfl
  clear hW0 hW1 hX0 hB0 hz0 hK1 hb1 hv hN
  go_enter Tryz.func31, Tryz.ntmps31
  go_wp2
  rw [HW0.out, HW1.out]
  go_loopw [5, 6, 7] (fun v5 v6 v7 wr => ∃ j : Nat, v7 = .int .i64 (j : Int) ∧ j ≤ N ∧ v6 = .bool (uGo d c (U.take j)).2 ∧ Hid (Kn wr (w.heap.size + 1) v5 (uGo d c (U.take j)).1) ∧ Hid (wr.heap[w.heap.size]? = some (.cells #[.int .i64 d, .int .i64 c] 62 (0, 0))) ∧ Hid (Below w.heap.size w wr)) (fun _ _ v7 _ => N - (intOf v7).toNat)
  case atStart => exact ⟨0, rfl, Nat.zero_le _, by rw [hu0], (by show Kn _ _ _ _; rw [hu0]; exact HK1), HX1, HB1⟩
  case round =>
    obtain ⟨j, rfl, hj, rfl, HK, HXr, HBr⟩ := hrel
    have HLj := Lib.hid (HLen.out j)
    obtain ⟨⟨OU, dn⟩, hO⟩ : ∃ x, uGo d c (U.take j) = x := ⟨_, rfl⟩
    rw [hO] at HK HLj ⊢
    simp only at HK HLj ⊢
    have hl5 : OU.length ≤ 10000 := by have := HLj.out; omega
    have HL5 := Lib.hid hl5
    have y0 := cell_of_row wr w.heap.size 0 _ _ (0, 0) HXr.out
    have y1 := cell_of_row wr w.heap.size 1 _ _ (0, 0) HXr.out
    have HXc : Hid (∀ W, Below wr.heap.size wr W → W.heap[w.heap.size]? = some (.cells #[.int .i64 d, .int .i64 c] 62 (0, 0))) := fun W hW => (hW.block _ (Array.getElem?_eq_some_iff.1 HXr.out).1).trans HXr.out
    by_cases hlt : j < N
    · obtain ⟨g, a, b, rfl, hq, hc⟩ := HA.out j hlt
      have hTq := HT.out j (a, b) hq
      rw [hO] at hTq
      obtain ⟨z0, z1⟩ := hc wr HBr.out
      have g1 : (j : Int) < (N : Int) := by omega
      have g2 : (j : Int) < 1000 := by omega
      have HC := Lib.hid hc
      clear hc hq hO hl5
      by_cases ha : a = d
      · have HS : Hid (uGo d c (U.take (j + 1)) = (OU, dn)) := by show _ = _; rw [hTq]; unfold uStep; rw [if_pos ha]
        have g3 : (a == d) = true := by simpa using ha
        clear hTq ha z1 y1
        go_wp2
        go_quiet (fail)
        go_wp2
        go_roundw
        case rel => exact ⟨j + 1, by go_num, by omega, by rw [HS.out], (by show Kn _ _ _ _; rw [HS.out]; exact HK.out.below (Me.below_drewN (Below.refl _ _) _)), HXc.out _ (Me.below_drewN (Below.refl _ _) _), Me.below_drewN HBr.out _⟩
        case measure => simp [intOf]; omega
      · have g3 : (a == d) = false := by simpa using ha
        by_cases hd : dn = false ∧ d < a
        · obtain ⟨rfl, hda⟩ := hd
          have HS : Hid (uGo d c (U.take (j + 1)) = (OU ++ [(d, c)] ++ [(a, b)], true)) := by show _ = _; rw [hTq]; unfold uStep; rw [if_neg ha, if_pos ⟨rfl, hda⟩]
          have g4 : decide (d < a) = true := by simpa using hda
          clear hTq ha
          go_wp2
          go_quiet (fail)
          have hbx : Below wr.heap.size wr (wr.drewN nq) := Me.below_drewN (Below.refl _ _) nq
          obtain ⟨wx, hwx⟩ : ∃ x, wr.drewN nq = x := ⟨_, rfl⟩
          rw [hwx] at hbx ⊢
          have hBx := go_on HBr.out hbx
          obtain ⟨u0, u1⟩ := HC.out wx hBx
          have q0 := cell_of_row wx w.heap.size 0 _ _ (0, 0) (HXc.out wx hbx)
          have q1 := cell_of_row wx w.heap.size 1 _ _ (0, 0) (HXc.out wx hbx)
          have Kx := Lib.hid (HK.out.below hbx)
          have BX := Lib.hid hBx
          have HBX := Lib.hid hbx
          clear hwx hbx hBx z0 z1 y0 y1
          go_wp2
          go_quiet (fail)
          have hby : Below wx.heap.size wx (wx.drewN nq) := Me.below_drewN (Below.refl _ _) nq
          obtain ⟨wy, hwy⟩ : ∃ x, wx.drewN nq = x := ⟨_, rfl⟩
          rw [hwy] at hby ⊢
          have hBy := go_on BX.out hby
          have hbz := go_on HBX.out hby
          obtain ⟨r0, r1⟩ := HC.out wy hBy
          have s0 := cell_of_row wy w.heap.size 0 _ _ (0, 0) (HXc.out wy hbz)
          have s1 := cell_of_row wy w.heap.size 1 _ _ (0, 0) (HXc.out wy hbz)
          have Ky := Lib.hid (Kx.out.below hby)
          have BY := Lib.hid hBy
          have XY := Lib.hid (HXc.out wy hbz)
          clear hwy hby hBy hbz u0 u1 q0 q1
          obtain ⟨V6, hV6⟩ : ∃ x, wy.alloc (.cells #[.int .i64 d, .int .i64 c] 62) = x := ⟨_, rfl⟩
          have hb6 : Below wy.heap.size wy V6 := by rw [← hV6]; exact Me.below_alloc (Below.refl _ _)
          have HZ6 := Lib.hid (nx_new hV6)
          have K6 := Lib.hid (Ky.out.below hb6)
          have B6 := Lib.hid (go_on BY.out hb6)
          have X6 := Lib.hid ((hb6.block _ (Array.getElem?_eq_some_iff.1 XY.out).1).trans XY.out)
          have hs6 : w.heap.size + 1 ≤ V6.heap.size := (Array.getElem?_eq_some_iff.1 X6.out).1
          have HS6 := Lib.hid hs6
          have HV6 := Lib.hid hV6
          have hl6 : (OU).length ≤ 100000 := by have := HL5.out; omega
          have HL6 := Lib.hid hl6
          clear hV6 hb6 hs6 hl6
          go_wp2_with (first
            | (rw [HV6.out]; refine wpList_plain rfl fun _ hK => ?_; refine appNx (.tmp 35) (.tmp 37) rfl (w.heap.size + 1) u5 (OU) (d, c) wy.heap.size rfl K6.out rfl HZ6.out HL6.out HS6.out ?_; intro v6 w6 ho6 hg6 hlt6; refine hK _ _ ?_; have HO6 := Lib.hid ho6; have HB6 : Hid (Below w.heap.size w w6) := (B6.out.trans (((But.refl (fun k => (u5 : Value).ownBlock = some k) V6).grown hg6 fun r e => .inl e).below B6.out.size fun k e => by have := hlt6 k e; omega)); have HX6 := Lib.hid ((hg6.block _ (Array.getElem?_eq_some_iff.1 X6.out).1 (fun e => by have := hlt6 _ e.symm; omega)).trans X6.out); clear ho6 hg6 hlt6; obtain ⟨t0, t1⟩ := HC.out w6 HB6.out; obtain ⟨V8, hV8⟩ : ∃ x, w6.alloc (.cells #[.int .i64 a, .int .i64 b] 62) = x := ⟨_, rfl⟩; have hb8 : Below w6.heap.size w6 V8 := (by rw [← hV8]; exact Me.below_alloc (Below.refl _ _)); have HZ8 := Lib.hid (nx_new hV8); have K8 := Lib.hid (HO6.out.below hb8); have B8 := Lib.hid (go_on HB6.out hb8); have X8 := Lib.hid ((hb8.block _ (Array.getElem?_eq_some_iff.1 HX6.out).1).trans HX6.out); have hs8 : w.heap.size + 1 ≤ V8.heap.size := (Array.getElem?_eq_some_iff.1 X8.out).1; have HS8 := Lib.hid hs8; have HV8 := Lib.hid hV8; have hl8 : (OU ++ [(d, c)]).length ≤ 100000 := (by have := HL5.out; simp only [List.length_append, List.length_cons, List.length_nil]; omega); have HL8 := Lib.hid hl8; clear hV8 hb8 hs8 hl8)
            | (rw [HV8.out]; refine wpList_plain rfl fun _ hK => ?_; refine appNx (.tmp 39) (.tmp 44) rfl (w.heap.size + 1) v6 (OU ++ [(d, c)]) (a, b) w6.heap.size rfl K8.out rfl HZ8.out HL8.out HS8.out ?_; intro v8 w8 ho8 hg8 hlt8; refine hK _ _ ?_; have HO8 := Lib.hid ho8; have HB8 : Hid (Below w.heap.size w w8) := (B8.out.trans (((But.refl (fun k => (v6 : Value).ownBlock = some k) V8).grown hg8 fun r e => .inl e).below B8.out.size fun k e => by have := hlt8 k e; omega)); have HX8 := Lib.hid ((hg8.block _ (Array.getElem?_eq_some_iff.1 X8.out).1 (fun e => by have := hlt8 _ e.symm; omega)).trans X8.out); clear ho8 hg8 hlt8))
          go_roundw
          case rel => exact ⟨j + 1, by go_num, by omega, by rw [HS.out], (by show Kn _ _ _ _; rw [HS.out]; exact HO8), HX8, HB8⟩
          case measure => simp [intOf]; omega
        · have HS : Hid (uGo d c (U.take (j + 1)) = (OU ++ [(a, b)], dn)) := by show _ = _; rw [hTq]; unfold uStep; rw [if_neg ha, if_neg hd]
          have g4 : dn = true ∨ (dn = false ∧ decide (d < a) = false) := by
            cases dn
            · exact .inr ⟨rfl, by simpa using fun h : d < a => hd ⟨rfl, h⟩⟩
            · exact .inl rfl
          clear hTq ha hd
          rcases g4 with rfl | ⟨rfl, g4⟩
          all_goals
            go_wp2
            go_quiet (fail)
            have hbx : Below wr.heap.size wr (wr.drewN nq) := Me.below_drewN (Below.refl _ _) nq
            obtain ⟨wx, hwx⟩ : ∃ x, wr.drewN nq = x := ⟨_, rfl⟩
            rw [hwx] at hbx ⊢
            have hBx := go_on HBr.out hbx
            obtain ⟨u0, u1⟩ := HC.out wx hBx
            have q0 := cell_of_row wx w.heap.size 0 _ _ (0, 0) (HXc.out wx hbx)
            have q1 := cell_of_row wx w.heap.size 1 _ _ (0, 0) (HXc.out wx hbx)
            have Kx := Lib.hid (HK.out.below hbx)
            have BX := Lib.hid hBx
            have HBX := Lib.hid hbx
            clear hwx hbx hBx z0 z1 y0 y1
            go_wp2
            go_quiet (fail)
            have hby : Below wx.heap.size wx (wx.drewN nq) := Me.below_drewN (Below.refl _ _) nq
            obtain ⟨wy, hwy⟩ : ∃ x, wx.drewN nq = x := ⟨_, rfl⟩
            rw [hwy] at hby ⊢
            have hBy := go_on BX.out hby
            have hbz := go_on HBX.out hby
            obtain ⟨r0, r1⟩ := HC.out wy hBy
            have s0 := cell_of_row wy w.heap.size 0 _ _ (0, 0) (HXc.out wy hbz)
            have s1 := cell_of_row wy w.heap.size 1 _ _ (0, 0) (HXc.out wy hbz)
            have Ky := Lib.hid (Kx.out.below hby)
            have BY := Lib.hid hBy
            have XY := Lib.hid (HXc.out wy hbz)
            clear hwy hby hBy hbz u0 u1 q0 q1
            obtain ⟨V6, hV6⟩ : ∃ x, wy.alloc (.cells #[.int .i64 a, .int .i64 b] 62) = x := ⟨_, rfl⟩
            have hb6 : Below wy.heap.size wy V6 := by rw [← hV6]; exact Me.below_alloc (Below.refl _ _)
            have HZ6 := Lib.hid (nx_new hV6)
            have K6 := Lib.hid (Ky.out.below hb6)
            have B6 := Lib.hid (go_on BY.out hb6)
            have X6 := Lib.hid ((hb6.block _ (Array.getElem?_eq_some_iff.1 XY.out).1).trans XY.out)
            have hs6 : w.heap.size + 1 ≤ V6.heap.size := (Array.getElem?_eq_some_iff.1 X6.out).1
            have HS6 := Lib.hid hs6
            have HV6 := Lib.hid hV6
            have hl6 : (OU).length ≤ 100000 := by have := HL5.out; omega
            have HL6 := Lib.hid hl6
            clear hV6 hb6 hs6 hl6
            go_wp2_with (rw [HV6.out]; refine wpList_plain rfl fun _ hK => ?_; refine appNx (.tmp 39) (.tmp 44) rfl (w.heap.size + 1) u5 (OU) (a, b) wy.heap.size rfl K6.out rfl HZ6.out HL6.out HS6.out ?_; intro v6 w6 ho6 hg6 hlt6; refine hK _ _ ?_; have HO6 := Lib.hid ho6; have HB6 : Hid (Below w.heap.size w w6) := (B6.out.trans (((But.refl (fun k => (u5 : Value).ownBlock = some k) V6).grown hg6 fun r e => .inl e).below B6.out.size fun k e => by have := hlt6 k e; omega)); have HX6 := Lib.hid ((hg6.block _ (Array.getElem?_eq_some_iff.1 X6.out).1 (fun e => by have := hlt6 _ e.symm; omega)).trans X6.out); clear ho6 hg6 hlt6)
            go_roundw
            case rel => exact ⟨j + 1, by go_num, by omega, by rw [HS.out], (by show Kn _ _ _ _; rw [HS.out]; exact HO6), HX6, HB6⟩
            case measure => simp [intOf]; omega
    · obtain rfl : j = N := by omega
      rw [HAll.out] at hO
      have g1 : ¬ (j : Int) < (j : Int) := by omega
      have HU : Hid (useU d c U = if dn = false then OU ++ [(d, c)] else OU) := by show _ = _; unfold useU; rw [hO]
      clear hO HA HT hl5
      cases dn with
      | true =>
        go_wp2
        go_ret
        exact ⟨_, rfl, (by show Kn _ _ _ _; rw [HU.out]; exact HK.out.base (Nat.le_succ _)), HBr⟩
      | false =>
        obtain ⟨V6, hV6⟩ : ∃ x, wr.alloc (.cells #[.int .i64 d, .int .i64 c] 62) = x := ⟨_, rfl⟩
        have hb6 : Below wr.heap.size wr V6 := by rw [← hV6]; exact Me.below_alloc (Below.refl _ _)
        have HZ6 := Lib.hid (nx_new hV6)
        have K6 := Lib.hid (HK.out.below hb6)
        have B6 := Lib.hid (go_on HBr.out hb6)
        have hs6 : w.heap.size + 1 ≤ V6.heap.size := by
          have h1 := (Array.getElem?_eq_some_iff.1 HXr.out).1
          have h2 := hb6.size
          omega
        have HS6 := Lib.hid hs6
        have HV6 := Lib.hid hV6
        have hl6 : OU.length ≤ 100000 := by have := HL5.out; omega
        have HL6 := Lib.hid hl6
        clear hV6 hb6 hs6 hl6
        go_wp2_with (rw [HV6.out]; refine wpList_plain rfl fun _ hK => ?_; refine appNx (.tmp 48) (.tmp 50) rfl (w.heap.size + 1) u5 OU (d, c) wr.heap.size rfl K6.out rfl HZ6.out HL6.out HS6.out ?_; intro v' w7 ho7 hg7 hlt7; refine hK _ _ ?_; have HO7 := Lib.hid ho7; have HB7 : Hid (Below w.heap.size w w7) := (B6.out.trans (((But.refl (fun k => u5.ownBlock = some k) V6).grown hg7 fun r e => .inl e).below B6.out.size fun k e => by have := hlt7 k e; omega)); clear ho7 hg7 hlt7)
        go_ret
        exact ⟨_, rfl, (by show Kn _ _ _ _; rw [HU.out]; exact HO7.out.base (Nat.le_succ _)), HB7⟩
end Go.Proofs.YtfnlhfelpdkieaaGreat.So
/- The document's Apply: of what may not be, of a boot. -/
namespace Go.Proofs.YtfnlhfelpdkieaaGreat.So
open Go.RowKit Go.Deep
open Go.Proofs.YtfnlhfelpdkieaaGreat.Me Go.Proofs.YtfnlhfelpdkieaaGreat.Sb
set_option linter.unusedVariables false
set_option linter.unusedSimpArgs false

/-- What holds over the calls of Apply: the world below, the store, the event, the answer's box. -/
structure Ap (w : World) (C E : Array Value) (W : World) : Prop where
  below : Below w.heap.size w W
  st : W.heap[w.heap.size]? = some (.cells C 37 (0, 0))
  ev : W.heap[w.heap.size + 1]? = some (.cells E 48 (0, 0))
theorem Ap.go {w : World} {C E : Array Value} {W W' : World} (h : Ap w C E W) (hb : Below W.heap.size W W') : Ap w C E W' :=
  ⟨go_on h.below hb, (hb.block _ (Array.getElem?_eq_some_iff.1 h.st).1).trans h.st, (hb.block _ (Array.getElem?_eq_some_iff.1 h.ev).1).trans h.ev⟩
theorem Ap.drew {w : World} {C E : Array Value} {W : World} (h : Ap w C E W) : Ap w C E W.drew := ⟨h.below.drew, h.st, h.ev⟩
/-- The store's box written in place. -/
theorem Ap.but {w : World} {C C' E : Array Value} {W W' : World} (h : Ap w C E W) (hb : But (fun k => k = w.heap.size) W W') (hs : W'.heap[w.heap.size]? = some (.cells C' 37 (0, 0))) : Ap w C' E W' :=
  ⟨h.below.trans (hb.below h.below.size fun k e => by omega), hs, (hb.same _ (Array.getElem?_eq_some_iff.1 h.ev).1 (by omega)).trans h.ev⟩
theorem Ap.start (w : World) (C E : Array Value) : ∃ W3, ((w.alloc (.cells C 37)).alloc (.cells E 48)).alloc (.cells rs0 37) = W3 ∧ Ap w C E W3 ∧ W3.heap[w.heap.size + 1 + 1]? = some (.cells rs0 37 (0, 0)) := by
  obtain ⟨hB, hY, hX⟩ := two_new w C E 37 48
  obtain ⟨W2, hW2⟩ : ∃ W, (w.alloc (.cells C 37)).alloc (.cells E 48) = W := ⟨_, rfl⟩
  have z2 : W2.heap.size = w.heap.size + 1 + 1 := by rw [← hW2]; simp
  rw [hW2] at hB hY hX
  rw [hW2]
  have hb : Below W2.heap.size W2 (W2.alloc (.cells rs0 37)) := Me.below_alloc (Below.refl _ _)
  refine ⟨_, rfl, ⟨go_on hB hb, (hb.block _ (Array.getElem?_eq_some_iff.1 hX).1).trans hX, (hb.block _ (Array.getElem?_eq_some_iff.1 hY).1).trans hY⟩, ?_⟩
  rw [← z2]
  exact heap_alloc_new W2 _
/-- The answer's box written: all else stands. -/
theorem Ap.row {w : World} {C E : Array Value} {W : World} (h : Ap w C E W) (cs : Array Value) : Ap w C E (W.setRow (w.heap.size + 1 + 1) cs) :=
  ⟨Sb.below_setRow _ h.below (by omega), (setRow_other _ _ _ _ (by omega)).trans h.st, (setRow_other _ _ _ _ (by omega)).trans h.ev⟩
theorem rs_onev (a b c d e r : Int) {u l k : Value} (hu : u.oneCell' = true) (hl : l.oneCell' = true) (hk : k.oneCell' = true) : (#[.int .i64 a, .int .i64 b, .int .i64 c, .int .i64 d, .int .i64 e, u, l, .int .i64 r, k] : Array Value).all (·.oneCell') = true := by
  simp [Value.oneCell'] at hu hl hk ⊢
  exact ⟨hu, hl, hk⟩
set_option maxRecDepth 100000 in
set_option maxHeartbeats 16000000 in
theorem apply_no (me qh qb qg ep k o d ee cc : Int) (vU vL vK : Value) (A : Option Addr) (n c : Nat) (w : World)
    (z : Nat) (hz : ((z : Int) != 0) = true)
    (hone : (#[.int .i64 me, .int .i64 qh, .int .i64 qb, .int .i64 qg, .int .i64 ep, vU, vL, .int .i64 qg, vK] : Array Value).all (·.oneCell') = true)
    (HM : Hid (∀ W, Below w.heap.size w W → Calls Tryz.prog 29 #[.agg #[.int .i64 me, .int .i64 qh, .int .i64 qb, .int .i64 qg, .int .i64 ep, vU, vL, .int .i64 qg, vK], .agg #[.int .i64 k, .int .i64 o, .int .i64 d, .int .i64 ee, .int .i64 cc, .slice A n c]] W fun e w' => e = .returned (.int .i64 (z : Int)) ∧ Hid (Below W.heap.size W w'))) : Calls Tryz.prog 12 #[.agg #[.int .i64 me, .int .i64 qh, .int .i64 qb, .int .i64 qg, .int .i64 ep, vU, vL, .int .i64 qg, vK], .agg #[.int .i64 k, .int .i64 o, .int .i64 d, .int .i64 ee, .int .i64 cc, .slice A n c]] w fun e w' => e = .returned (.tuple #[.agg #[.int .i64 me, .int .i64 qh, .int .i64 qb, .int .i64 qg, .int .i64 ep, vU, vL, .int .i64 qg, vK], .int .i64 (z : Int)]) ∧ Hid (Below w.heap.size w w') := by
  obtain ⟨W3, hW3, s3, r3⟩ := Ap.start w #[.int .i64 me, .int .i64 qh, .int .i64 qb, .int .i64 qg, .int .i64 ep, vU, vL, .int .i64 qg, vK] #[.int .i64 k, .int .i64 o, .int .i64 d, .int .i64 ee, .int .i64 cc, .slice A n c]
  have HW := Lib.hid hW3
  unfold rs0 at HW
  have Hone := Lib.hid hone
  clear hW3 hone
  obtain ⟨x0, x1, x2, x3, x4, x5, x6, x7, x8⟩ := rs_cells s3.st
  obtain ⟨u0, u1, u2, u3, u4, u5⟩ := ev_cells s3.ev
  go_enter Tryz.func12, Tryz.ntmps12
  go_wp2_with (go_at_call 29; (try rw [HW.out]); refine (HM.out _ s3.below).mono ?_; rintro e w3 ⟨rfl, b3⟩; have s4 := s3.go b3.out; have r4 := (b3.out.block _ (Array.getElem?_eq_some_iff.1 r3).1).trans r3; clear x0 x1 x2 x3 x4 x5 x6 x7 x8 u0 u1 u2 u3 u4 u5; obtain ⟨x0, x1, x2, x3, x4, x5, x6, x7, x8⟩ := rs_cells s4.st; obtain ⟨u0, u1, u2, u3, u4, u5⟩ := ev_cells s4.ev)
  have S0 := s4.drew
  refine wp_region_held_drew (S := fun W => Ap w #[.int .i64 me, .int .i64 qh, .int .i64 qb, .int .i64 qg, .int .i64 ep, vU, vL, .int .i64 qg, vK] #[.int .i64 k, .int .i64 o, .int .i64 d, .int .i64 ee, .int .i64 cc, .slice A n c] W) (by kernel_rfl) S0 (fun hHeld => ?_)
  refine wpAnyH_take (i := 0) (v := .agg #[.int .i64 me, .int .i64 qh, .int .i64 qb, .int .i64 qg, .int .i64 ep, vU, vL, .int .i64 qg, vK]) rfl (by kernel_rfl) (by kernel_rfl) (by kernel_rfl) (fun _ _ _ h => h) (Or.inl ⟨by rfl, ?_⟩) (by first | assumption | exact trivial) ?_
  · intro W hSW; obtain ⟨x0, x1, x2, x3, x4, x5, x6, x7, x8⟩ := rs_cells hSW.st; go_simp; try (with_reducible rfl)
  simp only [Act.put, List.getElem_toArray, List.getElem_cons_succ, List.getElem_cons_zero, List.setIfInBounds_toArray, List.set_cons_zero, List.set_cons_succ]
  refine wpAnyH_take (i := 1) (v := .agg #[.int .i64 me, .int .i64 qh, .int .i64 qb, .int .i64 qg, .int .i64 ep, vU, vL, .int .i64 qg, vK]) rfl (by kernel_rfl) (by kernel_rfl) (by kernel_rfl) (fun _ _ _ h => h) (Or.inl ⟨by rfl, ?_⟩) (by first | assumption | exact trivial) ?_
  · intro W hSW; obtain ⟨x0, x1, x2, x3, x4, x5, x6, x7, x8⟩ := rs_cells hSW.st; go_simp; try (with_reducible rfl)
  simp only [Act.put, List.getElem_toArray, List.getElem_cons_succ, List.getElem_cons_zero, List.setIfInBounds_toArray, List.set_cons_zero, List.set_cons_succ]
  refine wpAnyH_take (i := 2) (v := .agg #[.int .i64 k, .int .i64 o, .int .i64 d, .int .i64 ee, .int .i64 cc, .slice A n c]) rfl (by kernel_rfl) (by kernel_rfl) (by kernel_rfl) (fun _ _ _ h => h) (Or.inl ⟨by rfl, ?_⟩) (by first | assumption | exact trivial) ?_
  · intro W hSW; obtain ⟨u0, u1, u2, u3, u4, u5⟩ := ev_cells hSW.ev; go_simp; try (with_reducible rfl)
  simp only [Act.put, List.getElem_toArray, List.getElem_cons_succ, List.getElem_cons_zero, List.setIfInBounds_toArray, List.set_cons_zero, List.set_cons_succ]
  refine wpAnyH_ready (rs := [3]) (by kernel_rfl) (by simp) ?_
  refine AllReadyH.cons rfl (fun K hK => ?_) AllReadyH.nil
  go_simp
  go_wp2_with (go_at_call 29; refine (HM.out _ S0.below).mono ?_; rintro e w5 ⟨rfl, b5⟩)
  have S5 := S0.go b5.out
  have r5 : w5.heap[w.heap.size + 1 + 1]? = some (.cells rs0 37 (0, 0)) := (b5.out.block _ (Array.getElem?_eq_some_iff.1 r4).1).trans r4
  refine hK.out _ _ (S5) (fun hHeld => ?_)
  clear hK K
  refine wpAnyH_ready (rs := [4]) (by kernel_rfl) (by simp) ?_
  refine AllReadyH.cons rfl (fun K hK => ?_) AllReadyH.nil
  rw [if_pos (by kernel_rfl)]
  refine wp_store_row 37 (.tmp 4) (.tmp 12) rfl (w.heap.size + 1 + 1) #[.int .i64 me, .int .i64 qh, .int .i64 qb, .int .i64 qg, .int .i64 ep, vU, vL, .int .i64 qg, vK] rfl (by rfl) 37 _ r5 (by kernel_rfl) rfl Hone.out ?_
  simp only [Act.put, List.getElem_toArray, List.getElem_cons_succ, List.getElem_cons_zero, List.setIfInBounds_toArray, List.set_cons_zero, List.set_cons_succ]
  have S6 := S5.row #[.int .i64 me, .int .i64 qh, .int .i64 qb, .int .i64 qg, .int .i64 ep, vU, vL, .int .i64 qg, vK]
  have r6 := setRow_heap _ _ _ #[.int .i64 me, .int .i64 qh, .int .i64 qb, .int .i64 qg, .int .i64 ep, vU, vL, .int .i64 qg, vK] _ _ r5
  obtain ⟨V6, hV6⟩ : ∃ V, w5.setRow (w.heap.size + 1 + 1) #[.int .i64 me, .int .i64 qh, .int .i64 qb, .int .i64 qg, .int .i64 ep, vU, vL, .int .i64 qg, vK] = V := ⟨_, rfl⟩
  rw [hV6] at S6 r6 ⊢
  clear hV6
  refine hK.out _ _ (S6) (fun hHeld => ?_)
  clear hK K
  refine wpAnyH_take (i := 5) (v := .int .i64 (z : Int)) rfl (by kernel_rfl) (by kernel_rfl) (by kernel_rfl) (fun _ _ _ h => h) (Or.inl ⟨by rfl, ?_⟩) (by first | assumption | exact trivial) ?_
  · intro W hSW; go_simp; try (with_reducible rfl)
  simp only [Act.put, List.getElem_toArray, List.getElem_cons_succ, List.getElem_cons_zero, List.setIfInBounds_toArray, List.set_cons_zero, List.set_cons_succ]
  refine wpAnyH_done (by kernel_rfl) ?_ _
  go_wp2
  exact Sb.ret_box2 (g := w.heap.size + 1 + 1) rfl (by rfl) r6 rfl Tryz.underlying37 (by kernel_rfl) rfl ⟨rfl, S6.below⟩
set_option maxRecDepth 100000 in
set_option maxHeartbeats 16000000 in
theorem apply_boot (me qh qb qg ep o d ee cc : Int) (vU vL vK : Value) (A : Option Addr) (n c : Nat) (w : World)
    (hep : ep ≤ 65534) (he0 : 0 ≤ ep)
    (hone : (#[.int .i64 me, .int .i64 qh, .int .i64 qb, .int .i64 qg, .int .i64 (ep + 1), .slice none 0 0, vL, .int .i64 qg, vK] : Array Value).all (·.oneCell') = true)
    (HM : Hid (∀ W, Below w.heap.size w W → Calls Tryz.prog 29 #[.agg #[.int .i64 me, .int .i64 qh, .int .i64 qb, .int .i64 qg, .int .i64 ep, vU, vL, .int .i64 qg, vK], .agg #[.int .i64 1, .int .i64 o, .int .i64 d, .int .i64 ee, .int .i64 cc, .slice A n c]] W fun e w' => e = .returned (.int .i64 0) ∧ Hid (Below W.heap.size W w'))) : Calls Tryz.prog 12 #[.agg #[.int .i64 me, .int .i64 qh, .int .i64 qb, .int .i64 qg, .int .i64 ep, vU, vL, .int .i64 qg, vK], .agg #[.int .i64 1, .int .i64 o, .int .i64 d, .int .i64 ee, .int .i64 cc, .slice A n c]] w fun e w' => e = .returned (.tuple #[.agg #[.int .i64 me, .int .i64 qh, .int .i64 qb, .int .i64 qg, .int .i64 (ep + 1), .slice none 0 0, vL, .int .i64 qg, vK], .int .i64 0]) ∧ Hid (Below w.heap.size w w') := by
  obtain ⟨W3, hW3, s3, r3⟩ := Ap.start w #[.int .i64 me, .int .i64 qh, .int .i64 qb, .int .i64 qg, .int .i64 ep, vU, vL, .int .i64 qg, vK] #[.int .i64 1, .int .i64 o, .int .i64 d, .int .i64 ee, .int .i64 cc, .slice A n c]
  have HW := Lib.hid hW3
  unfold rs0 at HW
  have Hone := Lib.hid hone
  clear hW3 hone
  obtain ⟨x0, x1, x2, x3, x4, x5, x6, x7, x8⟩ := rs_cells s3.st
  obtain ⟨u0, u1, u2, u3, u4, u5⟩ := ev_cells s3.ev
  go_enter Tryz.func12, Tryz.ntmps12
  go_wp2_with (first
    | (go_at_call 29; (try rw [HW.out]); refine (HM.out _ s3.below).mono ?_; rintro e w3 ⟨rfl, b3⟩; have s4 := s3.go b3.out; have r4 := (b3.out.block _ (Array.getElem?_eq_some_iff.1 r3).1).trans r3; clear x0 x1 x2 x3 x4 x5 x6 x7 x8 u0 u1 u2 u3 u4 u5; obtain ⟨u0, u1, u2, u3, u4, u5⟩ := ev_cells s4.ev; have hn5 : Below w3.heap.size w3 (w3.alloc (.cells #[.int .i64 o, .int .i64 d, .int .i64 ee, .int .i64 cc] 43)) := Me.below_alloc (Below.refl _ _); have S5 := Lib.hid (s4.go hn5); have R5 := Lib.hid ((hn5.block _ (Array.getElem?_eq_some_iff.1 r4).1).trans r4); obtain ⟨x0, x1, x2, x3, x4, x5, x6, x7, x8⟩ := rs_cells S5.out.st; obtain ⟨v0, v1, v2, v3, v4, v5⟩ := ev_cells S5.out.ev; have f4 := frozen_of_row _ w.heap.size 4 _ _ S5.out.st; have f5 := frozen_of_row _ w.heap.size 5 _ _ S5.out.st; clear hn5)
    | (have hst := heap_setCell_same _ w.heap.size 5 _ _ (.slice none 0 0) (heap_setCell_same _ w.heap.size 4 _ _ (.int .i64 (ep + 1)) S5.out.st)
       have hbt := ((But.refl (fun k => k = w.heap.size) (w3.alloc (.cells #[.int .i64 o, .int .i64 d, .int .i64 ee, .int .i64 cc] 43))).set (p := ⟨w.heap.size, 4, none⟩) (.inl rfl) (.int .i64 (ep + 1))).set (p := ⟨w.heap.size, 5, none⟩) (.inl rfl) (.slice none 0 0)
       obtain ⟨V7, hV7⟩ : ∃ V, ((w3.alloc (.cells #[.int .i64 o, .int .i64 d, .int .i64 ee, .int .i64 cc] 43)).setCell ⟨w.heap.size, 4, none⟩ (.int .i64 (ep + 1))).setCell ⟨w.heap.size, 5, none⟩ (.slice none 0 0) = V := ⟨_, rfl⟩
       rw [hV7] at hst hbt
       rw [hV7]
       have S7 := Lib.hid (S5.out.but hbt hst)
       have R7 := Lib.hid ((hbt.same _ (Array.getElem?_eq_some_iff.1 R5.out).1 (by omega)).trans R5.out)
       clear hV7 hst hbt
       refine wpList_store_row rfl 37 (.tmp 4) (.tmp 92) rfl (w.heap.size + 1 + 1) #[.int .i64 me, .int .i64 qh, .int .i64 qb, .int .i64 qg, .int .i64 (ep + 1), .slice none 0 0, vL, .int .i64 qg, vK] rfl rfl 37 _ R7.out (by kernel_rfl) rfl Hone.out ?_))
  exact Sb.ret_box2 (g := w.heap.size + 1 + 1) rfl (by rfl) (setRow_heap _ _ _ _ _ _ R7.out) rfl Tryz.underlying37 (by kernel_rfl) rfl ⟨rfl, (S7.out.row _).below⟩
end Go.Proofs.YtfnlhfelpdkieaaGreat.So
/- The document's Apply: of a release, of a delivery. -/
namespace Go.Proofs.YtfnlhfelpdkieaaGreat.So
open Go.RowKit Go.Deep
open Go.Proofs.YtfnlhfelpdkieaaGreat.Me Go.Proofs.YtfnlhfelpdkieaaGreat.Sb
set_option linter.unusedVariables false
set_option linter.unusedSimpArgs false

theorem Rl.but {Q S : Nat → Prop} {w w' : World} {B : Nat} {v : Value} {P : List Pq} (h : Rl Q w B v P) (hb : But S w w') (hB : ∀ k, S k → k < B) (hQ : ∀ k, S k → ¬ Q k) : Rl Q w' B v P :=
  ⟨own_same h.own fun k e hk => hb.same k hk fun hs => by have := (h.own.lt k e).1; have := hB k hs; omega,
   fun p hp => ⟨own_same (h.each p hp).1 fun k e hk => hb.same k hk fun hs => hQ k hs ((h.each p hp).2 k e), (h.each p hp).2⟩⟩
theorem set_key {w : World} {g T : Nat} {a b c d e u l x y : Value} (x' y' : Value) (h : w.heap[g]? = some (.cells #[a, b, c, d, e, u, l, x, y] T (0, 0))) : (w.setCells g 7 [x', y']).heap[g]? = some (.cells #[a, b, c, d, e, u, l, x', y'] T (0, 0)) ∧ But (fun q => q = g) w (w.setCells g 7 [x', y']) := by
  refine ⟨?_, (but_setCells w g 7 _).1⟩
  obtain ⟨cur', q1, q2, q3, q4⟩ := heap_setCells g T [x', y'] 7 w _ h
  have e : cur' = #[a, b, c, d, e, u, l, x', y'] := by
    apply Array.ext_getElem?
    intro j
    have hj : j = 0 ∨ j = 1 ∨ j = 2 ∨ j = 3 ∨ j = 4 ∨ j = 5 ∨ j = 6 ∨ j = 7 ∨ j = 8 ∨ 9 ≤ j := by omega
    rcases hj with rfl | rfl | rfl | rfl | rfl | rfl | rfl | rfl | rfl | hj
    · rw [q3 0 (by simp)]; rfl
    · rw [q3 1 (by simp)]; rfl
    · rw [q3 2 (by simp)]; rfl
    · rw [q3 3 (by simp)]; rfl
    · rw [q3 4 (by simp)]; rfl
    · rw [q3 5 (by simp)]; rfl
    · rw [q3 6 (by simp)]; rfl
    · rw [show (7 : Nat) = 7 + 0 from rfl, q4 0 (by simp) (by simp)]; rfl
    · rw [show (8 : Nat) = 7 + 1 from rfl, q4 1 (by simp) (by simp)]; rfl
    · rw [Array.getElem?_eq_none (by rw [q2]; simp; omega), Array.getElem?_eq_none (by simp; omega)]
  rw [q1, e]
theorem there_key {w : World} {g T : Nat} {a b c d e u l x y : Value} (h : w.heap[g]? = some (.cells #[a, b, c, d, e, u, l, x, y] T (0, 0))) : w.there g 7 2 := fun j hj => ⟨by
  have hj' : j = 0 ∨ j = 1 := by omega
  rw [cell_of_row _ g _ _ _ (0, 0) h]
  rcases hj' with rfl | rfl <;> rfl, frozen_of_row w g _ _ _ h⟩
set_option maxRecDepth 100000 in
set_option maxHeartbeats 16000000 in
theorem apply_rel (me qh qb qg ep o d ee cc : Int) (vU vL vK : Value) (A : Option Addr) (n c : Nat) (w : World) (Q : Nat → Prop) (P2 : List Pq)
    (hQ : ∀ k, Q k → k < w.heap.size) (hU : vU.oneCell' = true) (hK : vK.oneCell' = true)
    (HM : Hid (∀ W, Below w.heap.size w W → Calls Tryz.prog 29 #[.agg #[.int .i64 me, .int .i64 qh, .int .i64 qb, .int .i64 qg, .int .i64 ep, vU, vL, .int .i64 qg, vK], .agg #[.int .i64 3, .int .i64 o, .int .i64 d, .int .i64 ee, .int .i64 cc, .slice A n c]] W fun e w' => e = .returned (.int .i64 0) ∧ Hid (Below W.heap.size W w')))
    (HWo : Hid (∀ W, Below w.heap.size w W → Calls Tryz.prog 32 #[vL, .agg #[.int .i64 o, .int .i64 d, .int .i64 ee, .int .i64 cc]] W fun e w' => ∃ v', e = .returned v' ∧ Hid (Rl Q w' W.heap.size v' P2) ∧ Hid (Below W.heap.size W w'))) : Calls Tryz.prog 12 #[.agg #[.int .i64 me, .int .i64 qh, .int .i64 qb, .int .i64 qg, .int .i64 ep, vU, vL, .int .i64 qg, vK], .agg #[.int .i64 3, .int .i64 o, .int .i64 d, .int .i64 ee, .int .i64 cc, .slice A n c]] w fun e w' => ∃ v', e = .returned (.tuple #[.agg #[.int .i64 me, .int .i64 qh, .int .i64 qb, .int .i64 qg, .int .i64 ep, vU, v', .int .i64 qg, vK], .int .i64 0]) ∧ Hid (Rl Q w' (w.heap.size + 1 + 1 + 1) v' P2) ∧ Hid (Below w.heap.size w w') := by
  obtain ⟨W3, hW3, s3, r3⟩ := Ap.start w #[.int .i64 me, .int .i64 qh, .int .i64 qb, .int .i64 qg, .int .i64 ep, vU, vL, .int .i64 qg, vK] #[.int .i64 3, .int .i64 o, .int .i64 d, .int .i64 ee, .int .i64 cc, .slice A n c]
  have HW := Lib.hid hW3
  unfold rs0 at HW
  have HQ := Lib.hid hQ
  have HU := Lib.hid hU
  have HK := Lib.hid hK
  clear hW3 hQ hU hK
  obtain ⟨x0, x1, x2, x3, x4, x5, x6, x7, x8⟩ := rs_cells s3.st
  obtain ⟨u0, u1, u2, u3, u4, u5⟩ := ev_cells s3.ev
  go_enter Tryz.func12, Tryz.ntmps12
  go_wp2_with (first
    | (go_at_call 29; (try rw [HW.out]); refine (HM.out _ s3.below).mono ?_; rintro e w3 ⟨rfl, b3⟩; have s4 := s3.go b3.out; have r4 := (b3.out.block _ (Array.getElem?_eq_some_iff.1 r3).1).trans r3; clear x0 x1 x2 x3 x4 x5 x6 x7 x8 u0 u1 u2 u3 u4 u5; obtain ⟨u0, u1, u2, u3, u4, u5⟩ := ev_cells s4.ev; have hn5 : Below w3.heap.size w3 (w3.alloc (.cells #[.int .i64 o, .int .i64 d, .int .i64 ee, .int .i64 cc] 43)) := Me.below_alloc (Below.refl _ _); have S5 := Lib.hid (s4.go hn5); have R5 := Lib.hid ((hn5.block _ (Array.getElem?_eq_some_iff.1 r4).1).trans r4); obtain ⟨x0, x1, x2, x3, x4, x5, x6, x7, x8⟩ := rs_cells S5.out.st; obtain ⟨v0, v1, v2, v3, v4, v5⟩ := ev_cells S5.out.ev; obtain ⟨i0, i1, i2, i3⟩ := id_cells (heap_alloc_new w3 (.cells #[.int .i64 o, .int .i64 d, .int .i64 ee, .int .i64 cc] 43)); clear hn5)
    | (go_at_call 32
       refine (HWo.out _ S5.out.below).mono ?_
       rintro e w6 ⟨v6, rfl, l6, b6⟩
       obtain ⟨A6, c6, rfl, _⟩ := l6.out.form
       have S6 := Lib.hid (S5.out.go b6.out)
       have R6 := Lib.hid ((b6.out.block _ (Array.getElem?_eq_some_iff.1 R5.out).1).trans R5.out)
       have L6 := Lib.hid (l6.out.base (B' := w.heap.size + 1 + 1 + 1) (Array.getElem?_eq_some_iff.1 R5.out).1)
       clear x0 x1 x2 x3 x4 x5 x6 x7 x8
       obtain ⟨x0, x1, x2, x3, x4, x5, x6, x7, x8⟩ := rs_cells S6.out.st
       have f6 := frozen_of_row _ w.heap.size 6 _ _ S6.out.st)
    | (have hst := heap_setCell_same _ w.heap.size 6 _ _ (.slice A6 P2.length c6) S6.out.st
       have hbt := (But.refl (fun k => k = w.heap.size) w6).set (p := ⟨w.heap.size, 6, none⟩) (.inl rfl) (.slice A6 P2.length c6)
       obtain ⟨V7, hV7⟩ : ∃ V, w6.setCell ⟨w.heap.size, 6, none⟩ (.slice A6 P2.length c6) = V := ⟨_, rfl⟩
       rw [hV7] at hst hbt
       rw [hV7]
       have S7 := Lib.hid (S6.out.but hbt hst)
       have R7 := Lib.hid ((hbt.same _ (Array.getElem?_eq_some_iff.1 R6.out).1 (by omega)).trans R6.out)
       have L7 := Lib.hid (L6.out.but hbt (fun k e => by omega) (fun k e hq => by have := HQ.out k hq; omega))
       clear hV7 hst hbt
       refine wpList_store_row rfl 37 (.tmp 4) (.tmp 92) rfl (w.heap.size + 1 + 1) #[.int .i64 me, .int .i64 qh, .int .i64 qb, .int .i64 qg, .int .i64 ep, vU, .slice A6 P2.length c6, .int .i64 qg, vK] rfl rfl 37 _ R7.out (by kernel_rfl) rfl (rs_onev _ _ _ _ _ _ HU.out rfl HK.out) ?_))
  refine Sb.ret_box2 (g := w.heap.size + 1 + 1) rfl (by rfl) (setRow_heap _ _ _ _ _ _ R7.out) rfl Tryz.underlying37 (by kernel_rfl) rfl ⟨_, rfl, ?_, (S7.out.row _).below⟩
  exact L7.out.but ((But.refl (fun k => k = w.heap.size + 1 + 1) V7).setRow (.inl rfl) _) (fun k e => by omega) (fun k e hq => by have := HQ.out k hq; omega)
set_option maxRecDepth 100000 in
set_option maxHeartbeats 16000000 in
theorem apply_del (me qh qb qg ep o d ee cc : Int) (vU vL vK : Value) (A : Option Addr) (n c : Nat) (w : World) (Q : Nat → Prop) (K2 : Se.Ks)
    (hQ : ∀ k, Q k → k ≠ w.heap.size ∧ k ≠ w.heap.size + 1 + 1) (hU : vU.oneCell' = true) (hL : vL.oneCell' = true)
    (HM : Hid (∀ W, Below w.heap.size w W → Calls Tryz.prog 29 #[.agg #[.int .i64 me, .int .i64 qh, .int .i64 qb, .int .i64 qg, .int .i64 ep, vU, vL, .int .i64 qg, vK], .agg #[.int .i64 4, .int .i64 o, .int .i64 d, .int .i64 ee, .int .i64 cc, .slice A n c]] W fun e w' => e = .returned (.int .i64 0) ∧ Hid (Below W.heap.size W w')))
    (HAd : Hid (∀ W, Below w.heap.size w W → w.heap.size + 1 + 1 + 1 ≤ W.heap.size → Calls Tryz.prog 33 #[.agg #[.int .i64 qg, vK], .agg #[.int .i64 o, .int .i64 d, .int .i64 ee, .int .i64 cc]] W fun e w' => ∃ v' z, e = .returned (.tuple #[.agg #[.int .i64 qg, v'], .int .i64 z]) ∧ Hid (Se.Kv Q w' v' K2) ∧ Hid (Below W.heap.size W w'))) : Calls Tryz.prog 12 #[.agg #[.int .i64 me, .int .i64 qh, .int .i64 qb, .int .i64 qg, .int .i64 ep, vU, vL, .int .i64 qg, vK], .agg #[.int .i64 4, .int .i64 o, .int .i64 d, .int .i64 ee, .int .i64 cc, .slice A n c]] w fun e w' => ∃ v', e = .returned (.tuple #[.agg #[.int .i64 me, .int .i64 qh, .int .i64 qb, .int .i64 qg, .int .i64 ep, vU, vL, .int .i64 qg, v'], .int .i64 0]) ∧ Hid (Se.Kv Q w' v' K2) ∧ Hid (Below w.heap.size w w') := by
  obtain ⟨W3, hW3, s3, r3⟩ := Ap.start w #[.int .i64 me, .int .i64 qh, .int .i64 qb, .int .i64 qg, .int .i64 ep, vU, vL, .int .i64 qg, vK] #[.int .i64 4, .int .i64 o, .int .i64 d, .int .i64 ee, .int .i64 cc, .slice A n c]
  have HW := Lib.hid hW3
  unfold rs0 at HW
  have HQ := Lib.hid hQ
  have HU := Lib.hid hU
  have HL := Lib.hid hL
  clear hW3 hQ hU hL
  obtain ⟨x0, x1, x2, x3, x4, x5, x6, x7, x8⟩ := rs_cells s3.st
  obtain ⟨u0, u1, u2, u3, u4, u5⟩ := ev_cells s3.ev
  go_enter Tryz.func12, Tryz.ntmps12
  go_wp2_with (first
    | (go_at_call 29; (try rw [HW.out]); refine (HM.out _ s3.below).mono ?_; rintro e w3 ⟨rfl, b3⟩; have s4 := s3.go b3.out; have r4 := (b3.out.block _ (Array.getElem?_eq_some_iff.1 r3).1).trans r3; clear x0 x1 x2 x3 x4 x5 x6 x7 x8 u0 u1 u2 u3 u4 u5; obtain ⟨u0, u1, u2, u3, u4, u5⟩ := ev_cells s4.ev; have hn5 : Below w3.heap.size w3 (w3.alloc (.cells #[.int .i64 o, .int .i64 d, .int .i64 ee, .int .i64 cc] 43)) := Me.below_alloc (Below.refl _ _); have S5 := Lib.hid (s4.go hn5); have R5 := Lib.hid ((hn5.block _ (Array.getElem?_eq_some_iff.1 r4).1).trans r4); obtain ⟨x0, x1, x2, x3, x4, x5, x6, x7, x8⟩ := rs_cells S5.out.st; obtain ⟨v0, v1, v2, v3, v4, v5⟩ := ev_cells S5.out.ev; obtain ⟨i0, i1, i2, i3⟩ := id_cells (heap_alloc_new w3 (.cells #[.int .i64 o, .int .i64 d, .int .i64 ee, .int .i64 cc] 43)); clear hn5)
    | (go_at_call 33
       refine (HAd.out _ S5.out.below (Array.getElem?_eq_some_iff.1 R5.out).1).mono ?_
       rintro e w6 ⟨v6, z, rfl, l6, b6⟩
       obtain ⟨A6, c6, rfl, _⟩ := l6.out.form
       have S6 := Lib.hid (S5.out.go b6.out)
       have R6 := Lib.hid ((b6.out.block _ (Array.getElem?_eq_some_iff.1 R5.out).1).trans R5.out)
       clear x0 x1 x2 x3 x4 x5 x6 x7 x8
       obtain ⟨x0, x1, x2, x3, x4, x5, x6, x7, x8⟩ := rs_cells S6.out.st)
    | (refine wpList_store_mid rfl 35 (.tmp 91) (.tmp 89) rfl w.heap.size 7 #[.int .i64 qg, .slice A6 K2.length c6] rfl rfl (there_key S6.out.st) (by kernel_rfl) (Se.set_one _ _ rfl) ?_
       obtain ⟨V7, hV7⟩ : ∃ V, w6.setCells w.heap.size 7 (#[.int .i64 qg, .slice A6 K2.length c6] : Array Value).toList = V := ⟨_, rfl⟩
       have hs := set_key (.int .i64 qg) (.slice A6 K2.length c6) S6.out.st
       rw [show [Value.int .i64 qg, .slice A6 K2.length c6] = (#[.int .i64 qg, .slice A6 K2.length c6] : Array Value).toList from rfl, hV7] at hs
       rw [hV7]
       have S7 := Lib.hid (S6.out.but hs.2 hs.1)
       have R7 := Lib.hid ((hs.2.same _ (Array.getElem?_eq_some_iff.1 R6.out).1 (by omega)).trans R6.out)
       have L7 := Lib.hid (l6.out.but hs.2 (fun k hq e => (HQ.out k hq).1 e))
       clear x0 x1 x2 x3 x4 x5 x6 x7 x8
       obtain ⟨x0, x1, x2, x3, x4, x5, x6, x7, x8⟩ := rs_cells S7.out.st
       clear hV7 hs)
    | (refine wpList_store_row rfl 37 (.tmp 4) (.tmp 92) rfl (w.heap.size + 1 + 1) #[.int .i64 me, .int .i64 qh, .int .i64 qb, .int .i64 qg, .int .i64 ep, vU, vL, .int .i64 qg, .slice A6 K2.length c6] rfl rfl 37 _ R7.out (by kernel_rfl) rfl (rs_onev _ _ _ _ _ _ HU.out HL.out rfl) ?_))
  refine Sb.ret_box2 (g := w.heap.size + 1 + 1) rfl (by rfl) (setRow_heap _ _ _ _ _ _ R7.out) rfl Tryz.underlying37 (by kernel_rfl) rfl ⟨_, rfl, ?_, (S7.out.row _).below⟩
  exact L7.out.but ((But.refl (fun k => k = w.heap.size + 1 + 1) V7).setRow (.inl rfl) _) (fun k hq e => (HQ.out k hq).2 e)
end Go.Proofs.YtfnlhfelpdkieaaGreat.So
