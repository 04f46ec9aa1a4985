/- The walk of the law RecvAll. -/
import Derived.Test.YtnfjfcoonabmmaaRvAll
namespace Go.Proofs.Ytnfjfcoonabmmaa.Rv
open Go.RowKit
open Go.Proofs.Ytnfjfcoonabmmaa.Me Go.Proofs.Ytnfjfcoonabmmaa.Hd Go.Proofs.Ytnfjfcoonabmmaa.Sn
set_option linter.unusedVariables false
set_option linter.unusedSimpArgs false

set_option maxRecDepth 100000 in
set_option maxHeartbeats 8000000 in
theorem rall (size : Int) (Al : Option Addr) (len cap : Nat) (ls : List (Int × Int)) (w : World) (w0 : (Lit.int .i64 size).wf = true) (w1 : len = ls.length ∧ len ≤ cap ∧ cap ≤ 9223372036854775807 ∧ Ways w Al ls) :
    Calls Try.prog 5 #[.int .i64 size, .slice Al len cap] w fun e w' => e = .returned (.bool true) ∧ Below w.heap.size w w' := by
  obtain ⟨rfl, hlc, hm, hways⟩ := w1
  by_cases hbad : size < 1 ∨ 63 < size
  · have N := Lib.hid (begin_bad size hbad w)
    have HW := Lib.hid (awake_any w)
    by_cases h1 : size < 1
    all_goals
      try (have h2 : 63 < size := by omega)
      clear hbad w0 hways
      go_enter Try.func5, Try.ntmps5
      go_wp2_with (first
        | (go_at_call 12; refine N.out.mono ?_; rintro e w' ⟨rfl, rfl⟩)
        | (go_at_call 8; refine HW.out.mono ?_; rintro e w9 ⟨rfl, hb9⟩))
      go_ret
      exact ⟨rfl, hb9.out⟩
  · obtain ⟨n, rfl⟩ : ∃ n : Nat, size = (n : Int) := ⟨size.toNat, by omega⟩
    have hn1 : 1 ≤ n := by omega
    have hn63 : n ≤ 63 := by omega
    have N := Lib.hid (begin_ok n hn1 hn63 w)
    have HN1 := Lib.hid hn1
    have HN63 := Lib.hid hn63
    have hn63' : (n : Int) < 64 := by omega
    have HA := Lib.hid hways
    obtain ⟨L, hL⟩ : ∃ L, ls.length = L := ⟨_, rfl⟩
    have HL := Lib.hid hL
    rw [hL] at hlc ⊢
    clear hbad w0 hways hL hn1 hn63
    go_enter Try.func5, Try.ntmps5
    go_wp2_with (go_at_call 12; refine N.out.mono ?_; rintro e w1 ⟨P, Ds, D, mb, rfl, H1, B1⟩)
    go_loopw [6] (fun v wr => ∃ (k : Nat) (x : Pr), k ≤ L ∧ k ≤ 300 ∧ v = .int .i64 k ∧ PM w.heap.size wr P Ds D mb n x ∧ x.ps.length ≤ k ∧ Below w.heap.size w wr) (fun v _ => L - (intOf v).toNat)
    case atStart => exact ⟨0, newP n, Nat.zero_le _, by omega, rfl, H1.out, Nat.zero_le _, B1.out⟩
    case round =>
      obtain ⟨k, x, hk, hk300, rfl, hp, hps, hb⟩ := hrel
      have HP := Lib.hid hp
      have HPS := Lib.hid hps
      have HB := Lib.hid hb
      clear hp hps hb H1 B1 N
      by_cases hlt : k < L ∧ k < 300
      · obtain ⟨hlt, hlt2⟩ := hlt
        have hlt3 : (k : Int) < 300 := by omega
        obtain ⟨b, off, rfl, hbb, c0, c1⟩ := HA.out k (by rw [HL.out]; exact hlt)
        have d0 := (HB.out.cell (p := ⟨b, off + k * 2, none⟩) hbb).trans c0
        have d1 := (HB.out.cell (p := ⟨b, off + k * 2 + 1, none⟩) hbb).trans c1
        obtain ⟨ak, hak⟩ : ∃ ak, (wyAt ls k).1 = ak := ⟨_, rfl⟩
        obtain ⟨an, han⟩ : ∃ an, (wyAt ls k).2 = an := ⟨_, rfl⟩
        rw [hak] at d0
        rw [han] at d1
        have ST := Lib.hid (step_any w.heap.size wr P Ds D mb n x HP (show Hid (x.ps.length < 300) by have := HPS.out; show _ < _; omega) ak an)
        clear c0 c1 hak han
        go_wp2_with (go_at_call 13; refine ST.out.mono ?_; rintro e w2 ⟨⟨vv, rfl⟩, h2, b2⟩; obtain ⟨x2, p2, l2⟩ := h2.out; have P2 := Lib.hid p2; have L2 : Hid (x2.ps.length ≤ k + 1) := Nat.le_trans l2 (Nat.succ_le_succ HPS.out); have B2 : Hid (Below w.heap.size w w2) := HB.out.trans b2.out; clear h2 b2 p2 l2)
        go_roundw
        case rel => exact ⟨k + 1, x2, by omega, by omega, by go_num, P2.out, L2.out, B2.out⟩
        case measure => simp [intOf]; omega
      · have H300 : Hid (x.ps.length ≤ 300) := Nat.le_trans HPS.out hk300
        have hex : (¬ (k : Int) < (L : Int)) ∨ ((k : Int) < (L : Int) ∧ ¬ (k : Int) < 300) := by omega
        clear hlt HPS
        rcases hex with g1 | ⟨g1, g2⟩
        · go_wp2
          go_loopw [7] (fun v W => ∃ (q : Nat) (y : Pr), q ≤ 65 ∧ v = .int .i64 q ∧ PM w.heap.size W P Ds D mb n y ∧ y.ps.length ≤ 300 ∧ y.s.l.length ≤ 64 - q ∧ Below w.heap.size w W) (fun v _ => 65 - (intOf v).toNat)
          case atStart => exact ⟨0, x, by omega, rfl, HP.out, H300.out, by have := HP.out.1.sok.q; omega, HB.out⟩
          case round =>
            obtain ⟨q, y, hq, rfl, hy, hy3, hyl, hyb⟩ := hrel
            have HY := Lib.hid hy
            have HY3 := Lib.hid hy3
            have HYL := Lib.hid hyl
            have HYB := Lib.hid hyb
            obtain ⟨e0, lc⟩ := Len_p HY
            have HLC := Lib.hid lc
            clear hy hy3 hyl hyb lc HP HB
            obtain ⟨ll, hll⟩ : ∃ ll, y.s.l.length = ll := ⟨_, rfl⟩
            have HLL := Lib.hid hll
            rw [hll] at HLC HYL
            by_cases hin : q ≤ 64 ∧ 0 < ll
            · obtain ⟨hq64, hl0⟩ := hin
              have g3 : (q : Int) ≤ 64 := by omega
              have g4 : (0 : Int) < (ll : Int) := by omega
              have HQ64 : Hid (ll + q ≤ 64) := by have := HYL.out; show _ ≤ _; omega
              have HL0 := Lib.hid hl0
              clear hll
              go_wp2_with (go_at_call 15; refine HLC.out.mono ?_; rintro e w' ⟨rfl, rfl⟩)
              go_loopw [8] (fun v W => ∃ (i : Nat) (z : Pr), i ≤ n ∧ v = .int .i64 i ∧ PM w.heap.size W P Ds D mb n z ∧ z.s.l = y.s.l ∧ z.ps = y.ps ∧ (1 ≤ i → 1 ≤ z.s.under) ∧ Below w.heap.size w W) (fun v _ => n - (intOf v).toNat)
              case atStart => exact ⟨0, y, Nat.zero_le _, rfl, HY.out, rfl, rfl, fun h => absurd h (by omega), HYB.out⟩
              case round =>
                obtain ⟨i, z, hi, rfl, hz, hzl, hzp, hzu, hzb⟩ := hrel
                have HZ := Lib.hid hz
                have HZL := Lib.hid hzl
                have HZP := Lib.hid hzp
                have HZU := Lib.hid hzu
                have HZB := Lib.hid hzb
                clear hz hzl hzp hzu hzb e0
                by_cases hin2 : i < n
                · have hin3 : (i : Int) < (n : Int) := by omega
                  have HSD := Lib.hid (step_send w.heap.size _ P Ds D mb n z HZ (show Hid (z.ps.length ≤ 300) by show _ ≤ _; rw [HZP.out]; exact HY3.out) 0)
                  go_wp2_with (go_at_call 13; refine HSD.out.mono ?_; rintro e w2 ⟨⟨vv, rfl⟩, h2, b2⟩; have B2 : Hid (Below w.heap.size w w2) := HZB.out.trans b2.out)
                  go_roundw
                  case rel => exact ⟨i + 1, _, by omega, by go_num, h2.out, (send_l _).trans HZL.out, HZP.out, fun _ => send_u HZ.out.1 (by rw [HZL.out, HLL.out]; exact HL0.out), B2.out⟩
                  case measure => simp [intOf]; omega
                · have hin3 : ¬ (i : Int) < (n : Int) := by omega
                  have HU1 : Hid (1 ≤ z.s.under) := HZU.out (by have := HN1.out; omega)
                  have HZ3 : Hid (z.ps.length ≤ 300) := by show _ ≤ _; rw [HZP.out]; exact HY3.out
                  obtain ⟨e0, uc⟩ := Under_p HZ
                  have HUC := Lib.hid uc
                  have hgl := Wn.goes_length (z.s.base : Int) z.s.under
                  have HBS : Hid (z.s.base = z.g % 128) := HZ.out.1.gone.2.2
                  have hu63 : z.s.under ≤ 63 := Nat.le_trans HZ.out.1.under HN63.out
                  have HGW : Hid (z.g ≤ z.W) := HZ.out.1.gw
                  have HZLL : Hid (z.s.l.length = ll) := by show _ = _; rw [HZL.out, HLL.out]
                  obtain ⟨u, hu⟩ : ∃ u, z.s.under = u := ⟨_, rfl⟩
                  have HUU := Lib.hid hu
                  rw [hu] at HUC hgl hu63 HU1
                  have HGL := Lib.hid hgl
                  have hu64 : (u : Int) < 64 := by omega
                  clear uc hgl hu hin2 HZU HZL
                  go_wp2_with (go_at_call 16; refine HUC.out.mono ?_; rintro e w2 ⟨v2, rfl, ho2, hb2⟩; obtain ⟨Au, cu, rfl, _, _, _, _, _⟩ := Mi.Own.form ho2.out; have HO2 : Hid (Mi.Own w2 0 (.slice Au (Wn.goes (z.s.base : Int) u).length cu) (Wn.goes (z.s.base : Int) u)) := ho2.out.zero; have HZ2 := Lib.hid (HZ.out.below hb2.out); have HB2 : Hid (Below w.heap.size w w2) := HZB.out.trans (hb2.out.mono HZ.out.hM); rw [HGL.out]; rw [HGL.out] at HO2; clear ho2 hb2)
                  go_loopw [10] (fun v W => ∃ (j : Nat) (r' : Rcv) (W' : Nat), j ≤ u ∧ v = .int .i64 j ∧ PM w.heap.size W P Ds D mb n ⟨z.s, r', z.ps, z.g, W'⟩ ∧ z.g + j ≤ W' ∧ Mi.Own W 0 (.slice Au u cu) (Wn.goes (z.s.base : Int) u) ∧ Below w.heap.size w W) (fun v _ => u - (intOf v).toNat)
                  case atStart => exact ⟨0, z.r, z.W, Nat.zero_le _, rfl, HZ2.out, HGW.out, HO2.out, HB2.out⟩
                  case round =>
                    obtain ⟨j, r', W', hj, rfl, ha, hgj, hou, hab⟩ := hrel
                    have HAA := Lib.hid ha
                    have HGJ := Lib.hid hgj
                    have HOU := Lib.hid hou
                    have HAB := Lib.hid hab
                    clear ha hgj hou hab e0 HO2 HZ2 HB2 HZ HUC
                    by_cases hju : j < u
                    · have hju2 : (j : Int) < (u : Int) := by omega
                      obtain ⟨bu, ou, rfl, hbu, hcu⟩ := own_at HOU.out (by rw [HGL.out]; exact hju)
                      rw [Wn.goes_at hju, HBS.out] at hcu
                      obtain ⟨mm, hmm⟩ : ∃ mm, (z.g + j) % 128 = mm := ⟨_, rfl⟩
                      rw [show (((z.g % 128 : Nat) : Int) + (j : Int)) % 128 = (mm : Int) by omega] at hcu
                      obtain ⟨e0, ag⟩ := Again_p (t := j) HAA (show j < z.s.under by rw [HUU.out]; exact hju)
                      have HAG := Lib.hid ag
                      have HCM := Lib.hid (fun (W : World) (hW : Below wr.heap.size wr W) (A : Option Addr) (c : Nat) (hp : Hid (Me.Rd W W.heap.size A (lsAt z.ps (z.g + j)))) (hA : Hid (A = none → (lsAt z.ps (z.g + j)).length = 0 ∧ c = 0)) => comes_any w.heap.size W P Ds D mb n (z.g + j) ⟨z.s, r', z.ps, z.g, W'⟩ (Lib.hid (HAA.out.below hW)) HZ3 (show z.g + j < z.g + z.s.under by rw [HUU.out]; omega) (show z.g + z.s.under ≤ z.g + j + 63 by rw [HUU.out]; omega) 0 A c hp hA)
                      rw [show (({ s := z.s, r := r', ps := z.ps, g := z.g, W := W' } : Pr).g + j) % 128 = mm from hmm] at HAG
                      rw [hmm] at HCM
                      have HBU := Lib.hid hbu
                      have HPl : Hid (P < wr.heap.size) := by obtain ⟨_, _, _, _, _, _, _, hpp⟩ := HAA.out; exact hpp.lt
                      clear ag hmm hbu
                      go_wp2
                      refine wp_region_held_drew (S := KeptN wr) (by kernel_rfl) ((Below.refl _ wr).drew) (fun hHeld => ?_)
                      refine wpAnyH_take (i := 0) (v := ?vz1) rfl (by kernel_rfl) (by kernel_rfl) (by kernel_rfl) (fun _ _ _ h => h) (Or.inl ⟨by rfl, ?hyz1⟩) (by first | assumption | exact trivial) ?restz1
                      case hyz1 => intro W hSW; go_simp; try (with_reducible rfl)
                      simp only [Act.put, List.getElem_toArray, List.getElem_cons_succ, List.getElem_cons_zero, List.setIfInBounds_toArray, List.set_cons_zero, List.set_cons_succ]
                      refine wpAnyH_take (i := 1) (v := ?vz2) rfl (by kernel_rfl) (by kernel_rfl) (by kernel_rfl) (fun _ _ _ h => h) (Or.inl ⟨by rfl, ?hyz2⟩) (by first | assumption | exact trivial) ?restz2
                      case hyz2 => intro W hSW; go_simp; try (with_reducible rfl)
                      simp only [Act.put, List.getElem_toArray, List.getElem_cons_succ, List.getElem_cons_zero, List.setIfInBounds_toArray, List.set_cons_zero, List.set_cons_succ]
                      refine wpAnyH_take (i := 2) (v := ?vz3) rfl (by kernel_rfl) (by kernel_rfl) (by kernel_rfl) (fun _ _ _ h => h) (Or.inl ⟨by rfl, ?hyz3⟩) (by first | assumption | exact trivial) ?restz3
                      case hyz3 => intro W hSW; go_simp; try (with_reducible rfl)
                      simp only [Act.put, List.getElem_toArray, List.getElem_cons_succ, List.getElem_cons_zero, List.setIfInBounds_toArray, List.set_cons_zero, List.set_cons_succ]
                      refine wpAnyH_take (i := 3) (v := ?vz4) rfl (by kernel_rfl) (by kernel_rfl) (by kernel_rfl) (fun _ _ _ h => h) (Or.inl ⟨by rfl, ?hyz4⟩) (by first | assumption | exact trivial) ?restz4
                      case hyz4 => intro W hSW; have q3 := (KeptN.cell hSW HPl.out 0).trans e0; go_simp; try (with_reducible rfl)
                      simp only [Act.put, List.getElem_toArray, List.getElem_cons_succ, List.getElem_cons_zero, List.setIfInBounds_toArray, List.set_cons_zero, List.set_cons_succ]
                      refine wpAnyH_take (i := 4) (v := ?vz5) rfl (by kernel_rfl) (by kernel_rfl) (by kernel_rfl) (fun _ _ _ h => h) (Or.inl ⟨by rfl, ?hyz5⟩) (by first | assumption | exact trivial) ?restz5
                      case hyz5 => intro W hSW; go_simp; try (with_reducible rfl)
                      simp only [Act.put, List.getElem_toArray, List.getElem_cons_succ, List.getElem_cons_zero, List.setIfInBounds_toArray, List.set_cons_zero, List.set_cons_succ]
                      refine wpAnyH_take (i := 5) (v := ?vz6) rfl (by kernel_rfl) (by kernel_rfl) (by kernel_rfl) (fun _ _ _ h => h) (Or.inl ⟨by rfl, ?hyz6⟩) (by first | assumption | exact trivial) ?restz6
                      case hyz6 => intro W hSW; go_simp; try (with_reducible rfl)
                      simp only [Act.put, List.getElem_toArray, List.getElem_cons_succ, List.getElem_cons_zero, List.setIfInBounds_toArray, List.set_cons_zero, List.set_cons_succ]
                      refine wpAnyH_take (i := 6) (v := ?vz7) rfl (by kernel_rfl) (by kernel_rfl) (by kernel_rfl) (fun _ _ _ h => h) (Or.inl ⟨by rfl, ?hyz7⟩) (by first | assumption | exact trivial) ?restz7
                      case hyz7 => intro W hSW; go_simp; try (with_reducible rfl)
                      simp only [Act.put, List.getElem_toArray, List.getElem_cons_succ, List.getElem_cons_zero, List.setIfInBounds_toArray, List.set_cons_zero, List.set_cons_succ]
                      refine wpAnyH_take (i := 7) (v := ?vz8) rfl (by kernel_rfl) (by kernel_rfl) (by kernel_rfl) (fun _ _ _ h => h) (Or.inl ⟨by rfl, ?hyz8⟩) (by first | assumption | exact trivial) ?restz8
                      case hyz8 => intro W hSW; have q7 := (KeptN.cell hSW HBU.out (ou + j)).trans hcu; go_simp; try (with_reducible rfl)
                      simp only [Act.put, List.getElem_toArray, List.getElem_cons_succ, List.getElem_cons_zero, List.setIfInBounds_toArray, List.set_cons_zero, List.set_cons_succ]
                      refine wpAnyH_ready (rs := [8]) (by kernel_rfl) (by simp) ?_
                      refine AllReadyH.cons rfl (fun K hK => ?_) AllReadyH.nil
                      go_simp
                      go_wp2_with (go_at_call 17; refine HAG.out.mono ?_; rintro e w3 ⟨A, c, rfl, hr3, hn3, hb3⟩)
                      have S3 : KeptN wr w3 := hb3.out
                      refine hK.out _ _ (S3) (fun hHeld => ?_)
                      clear hK K
                      refine wpAnyH_take (i := 9) (v := ?vz9) rfl (by kernel_rfl) (by kernel_rfl) (by kernel_rfl) (fun _ _ _ h => h) (Or.inl ⟨by rfl, ?hyz9⟩) (by first | assumption | exact trivial) ?restz9
                      case hyz9 => intro W hSW; go_simp; try (with_reducible rfl)
                      simp only [Act.put, List.getElem_toArray, List.getElem_cons_succ, List.getElem_cons_zero, List.setIfInBounds_toArray, List.set_cons_zero, List.set_cons_succ]
                      refine wpAnyH_take (i := 10) (v := ?vz10) rfl (by kernel_rfl) (by kernel_rfl) (by kernel_rfl) (fun _ _ _ h => h) (Or.inl ⟨by rfl, ?hyz10⟩) (by first | assumption | exact trivial) ?restz10
                      case hyz10 => intro W hSW; go_simp; try (with_reducible rfl)
                      simp only [Act.put, List.getElem_toArray, List.getElem_cons_succ, List.getElem_cons_zero, List.setIfInBounds_toArray, List.set_cons_zero, List.set_cons_succ]
                      refine wpAnyH_take (i := 11) (v := ?vz11) rfl (by kernel_rfl) (by kernel_rfl) (by kernel_rfl) (fun _ _ _ h => h) (Or.inl ⟨by rfl, ?hyz11⟩) (by first | assumption | exact trivial) ?restz11
                      case hyz11 => intro W hSW; go_simp; try (with_reducible rfl)
                      simp only [Act.put, List.getElem_toArray, List.getElem_cons_succ, List.getElem_cons_zero, List.setIfInBounds_toArray, List.set_cons_zero, List.set_cons_succ]
                      refine wpAnyH_take (i := 12) (v := ?vz12) rfl (by kernel_rfl) (by kernel_rfl) (by kernel_rfl) (fun _ _ _ h => h) (Or.inl ⟨by rfl, ?hyz12⟩) (by first | assumption | exact trivial) ?restz12
                      case hyz12 => intro W hSW; go_simp; try (with_reducible rfl)
                      simp only [Act.put, List.getElem_toArray, List.getElem_cons_succ, List.getElem_cons_zero, List.setIfInBounds_toArray, List.set_cons_zero, List.set_cons_succ]
                      refine wpAnyH_take (i := 13) (v := ?vz13) rfl (by kernel_rfl) (by kernel_rfl) (by kernel_rfl) (fun _ _ _ h => h) (Or.inl ⟨by rfl, ?hyz13⟩) (by first | assumption | exact trivial) ?restz13
                      case hyz13 => intro W hSW; go_simp; try (with_reducible rfl)
                      simp only [Act.put, List.getElem_toArray, List.getElem_cons_succ, List.getElem_cons_zero, List.setIfInBounds_toArray, List.set_cons_zero, List.set_cons_succ]
                      refine wpAnyH_done (by kernel_rfl) ?_ _
                      have hcu3 := (KeptN.cell S3 HBU.out (ou + j)).trans hcu
                      have HCC := Lib.hid (HCM.out w3 hb3.out A c hr3 hn3)
                      have HO3 : Hid (Mi.Own w3 0 (.slice (some ⟨bu, ou, none⟩) u cu) (Wn.goes (z.s.base : Int) u)) := HOU.out.below hb3.out
                      have HB3 : Hid (Below w.heap.size w w3) := HAB.out.trans (hb3.out.mono HAA.out.hM)
                      clear S3 hb3 hr3 hn3 hcu e0
                      go_wp2_with (go_at_call 18; refine HCC.out.mono ?_; rintro e w4 ⟨⟨vv, rfl⟩, h4, b4, k4⟩; obtain ⟨r4, W4, p4, l4, m4⟩ := h4.out; have P4 := Lib.hid p4; have HL4 : Hid (z.g + (j + 1) ≤ W4) := (by have h1 := HGJ.out; have h2 : W' ≤ W4 := l4; have h3 : z.g + j = W' → W' + 1 ≤ W4 := m4; show _ ≤ _; omega); have HO4 := Lib.hid (own_quiet HO3.out k4.out); have HB4 : Hid (Below w.heap.size w w4) := HB3.out.trans b4.out; clear h4 b4 k4 p4 l4 m4)
                      go_roundw
                      case rel => exact ⟨j + 1, r4, W4, by omega, by go_num, P4.out, HL4.out, HO4.out, HB4.out⟩
                      case measure => simp [intOf]; omega
                    · have hju2 : ¬ (j : Int) < (u : Int) := by omega
                      have HSK := Lib.hid (step_ack w.heap.size _ P Ds D mb n ⟨z.s, r', z.ps, z.g, W'⟩ HAA 0)
                      obtain ⟨_, ak, _⟩ := HAA.out.1.ack
                      have HDEC : Hid ((ackS z.s (r'.waits : Int)).l.length + 1 ≤ ll) := by
                        have h1 : (ackS z.s (r'.waits : Int)).l.length + (W' - z.g) = z.s.l.length := ak
                        have h2 := HGJ.out
                        have h3 := HU1.out
                        have h4 := HZLL.out
                        show _ ≤ _
                        omega
                      have HFIN : Hid ((ackS z.s (r'.waits : Int)).l.length ≤ 64 - (q + 1)) := by have := HDEC.out; have := HQ64.out; show _ ≤ _; omega
                      clear ak
                      go_wp2_with (go_at_call 13; refine HSK.out.mono ?_; rintro e w5 ⟨⟨vv, rfl⟩, h5, b5⟩; have B5 : Hid (Below w.heap.size w w5) := HAB.out.trans b5.out)
                      go_roundw
                      case rel => exact ⟨q + 1, _, by omega, by go_num, h5.out, HZ3.out, HFIN.out, B5.out⟩
                      case measure => simp [intOf]; omega
            · have hl0 : ll = 0 := by have := HYL.out; omega
              have h0 : y.s.l.length = 0 := by rw [hll, hl0]
              obtain ⟨A1, c1, A3, c3, x0, x1, x2, x4, hS, hK, hN⟩ := end_p HY HY3 h0
              have HPl : Hid (P < wr.heap.size) := by obtain ⟨_, _, _, _, _, _, _, hpp⟩ := HY.out; exact hpp.lt
              have HS := Lib.hid hS
              have HK := Lib.hid hK
              have HN := Lib.hid hN
              obtain ⟨lp, hlp⟩ : ∃ lp, y.ps.length = lp := ⟨_, rfl⟩
              rw [hlp] at x2 x4 HS
              rw [hl0, show ((0 : Nat) : Int) = 0 from rfl] at HLC
              clear hS hK hN hlp hll HLL h0
              by_cases hq4 : q ≤ 64
              · have g3 : (q : Int) ≤ 64 := by omega
                clear hin
                go_wp2_with (go_at_call 15; refine HLC.out.mono ?_; rintro e w' ⟨rfl, rfl⟩)
                refine wp_region_held_drew (S := KeptN wr) (by kernel_rfl) ((Below.refl _ wr).drew) (fun hHeld => ?_)
                refine wpAnyH_take (i := 0) (v := ?vz14) rfl (by kernel_rfl) (by kernel_rfl) (by kernel_rfl) (fun _ _ _ h => h) (Or.inl ⟨by rfl, ?hyz14⟩) (by first | assumption | exact trivial) ?restz14
                case hyz14 => intro W hSW; go_simp; try (with_reducible rfl)
                simp only [Act.put, List.getElem_toArray, List.getElem_cons_succ, List.getElem_cons_zero, List.setIfInBounds_toArray, List.set_cons_zero, List.set_cons_succ]
                refine wpAnyH_take (i := 1) (v := ?vz15) rfl (by kernel_rfl) (by kernel_rfl) (by kernel_rfl) (fun _ _ _ h => h) (Or.inl ⟨by rfl, ?hyz15⟩) (by first | assumption | exact trivial) ?restz15
                case hyz15 => intro W hSW; go_simp; try (with_reducible rfl)
                simp only [Act.put, List.getElem_toArray, List.getElem_cons_succ, List.getElem_cons_zero, List.setIfInBounds_toArray, List.set_cons_zero, List.set_cons_succ]
                refine wpAnyH_take (i := 2) (v := ?vz16) rfl (by kernel_rfl) (by kernel_rfl) (by kernel_rfl) (fun _ _ _ h => h) (Or.inl ⟨by rfl, ?hyz16⟩) (by first | assumption | exact trivial) ?restz16
                case hyz16 => intro W hSW; go_simp; try (with_reducible rfl)
                simp only [Act.put, List.getElem_toArray, List.getElem_cons_succ, List.getElem_cons_zero, List.setIfInBounds_toArray, List.set_cons_zero, List.set_cons_succ]
                refine wpAnyH_take (i := 3) (v := ?vz17) rfl (by kernel_rfl) (by kernel_rfl) (by kernel_rfl) (fun _ _ _ h => h) (Or.inl ⟨by rfl, ?hyz17⟩) (by first | assumption | exact trivial) ?restz17
                case hyz17 => intro W hSW; have z3 := (KeptN.cell hSW HPl.out 0).trans x0; go_simp; try (with_reducible rfl)
                simp only [Act.put, List.getElem_toArray, List.getElem_cons_succ, List.getElem_cons_zero, List.setIfInBounds_toArray, List.set_cons_zero, List.set_cons_succ]
                refine wpAnyH_ready (rs := [4]) (by kernel_rfl) (by simp) ?_
                refine AllReadyH.cons rfl (fun K hK => ?_) AllReadyH.nil
                go_simp
                go_wp2_with (go_at_call 15; refine (HN.out wr.drew ((Below.refl _ wr).drew)).mono ?_; rintro e w' ⟨rfl, rfl⟩)
                refine hK.out _ _ ((Below.refl _ wr).drew) (fun hHeld => ?_)
                clear hK K
                refine wpAnyH_take (i := 5) (v := ?vz18) rfl (by kernel_rfl) (by kernel_rfl) (by kernel_rfl) (fun _ _ _ h => h) (Or.inl ⟨by rfl, ?hyz18⟩) (by first | assumption | exact trivial) ?restz18
                case hyz18 => intro W hSW; go_simp; try (with_reducible rfl)
                simp only [Act.put, List.getElem_toArray, List.getElem_cons_succ, List.getElem_cons_zero, List.setIfInBounds_toArray, List.set_cons_zero, List.set_cons_succ]
                refine wpAnyH_take (i := 6) (v := ?vz19) rfl (by kernel_rfl) (by kernel_rfl) (by kernel_rfl) (fun _ _ _ h => h) (Or.inl ⟨by rfl, ?hyz19⟩) (by first | assumption | exact trivial) ?restz19
                case hyz19 => intro W hSW; go_simp; try (with_reducible rfl)
                simp only [Act.put, List.getElem_toArray, List.getElem_cons_succ, List.getElem_cons_zero, List.setIfInBounds_toArray, List.set_cons_zero, List.set_cons_succ]
                refine wpAnyH_take (i := 7) (v := ?vz20) rfl (by kernel_rfl) (by kernel_rfl) (by kernel_rfl) (fun _ _ _ h => h) (Or.inl ⟨by rfl, ?hyz20⟩) (by first | assumption | exact trivial) ?restz20
                case hyz20 => intro W hSW; go_simp; try (with_reducible rfl)
                simp only [Act.put, List.getElem_toArray, List.getElem_cons_succ, List.getElem_cons_zero, List.setIfInBounds_toArray, List.set_cons_zero, List.set_cons_succ]
                refine wpAnyH_take (i := 8) (v := ?vz21) rfl (by kernel_rfl) (by kernel_rfl) (by kernel_rfl) (fun _ _ _ h => h) (Or.inl ⟨by rfl, ?hyz21⟩) (by first | assumption | exact trivial) ?restz21
                case hyz21 => intro W hSW; go_simp; try (with_reducible rfl)
                simp only [Act.put, List.getElem_toArray, List.getElem_cons_succ, List.getElem_cons_zero, List.setIfInBounds_toArray, List.set_cons_zero, List.set_cons_succ]
                refine wpAnyH_take (i := 9) (v := ?vz22) rfl (by kernel_rfl) (by kernel_rfl) (by kernel_rfl) (fun _ _ _ h => h) (Or.inl ⟨by rfl, ?hyz22⟩) (by first | assumption | exact trivial) ?restz22
                case hyz22 => intro W hSW; go_simp; try (with_reducible rfl)
                simp only [Act.put, List.getElem_toArray, List.getElem_cons_succ, List.getElem_cons_zero, List.setIfInBounds_toArray, List.set_cons_zero, List.set_cons_succ]
                refine wpAnyH_take (i := 10) (v := ?vz23) rfl (by kernel_rfl) (by kernel_rfl) (by kernel_rfl) (fun _ _ _ h => h) (Or.inl ⟨by rfl, ?hyz23⟩) (by first | assumption | exact trivial) ?restz23
                case hyz23 => intro W hSW; have z10 := (KeptN.cell hSW HPl.out 4).trans x4; go_simp; try (with_reducible rfl)
                simp only [Act.put, List.getElem_toArray, List.getElem_cons_succ, List.getElem_cons_zero, List.setIfInBounds_toArray, List.set_cons_zero, List.set_cons_succ]
                refine wpAnyH_take (i := 11) (v := ?vz24) rfl (by kernel_rfl) (by kernel_rfl) (by kernel_rfl) (fun _ _ _ h => h) (Or.inl ⟨by rfl, ?hyz24⟩) (by first | assumption | exact trivial) ?restz24
                case hyz24 => intro W hSW; go_simp; try (with_reducible rfl)
                simp only [Act.put, List.getElem_toArray, List.getElem_cons_succ, List.getElem_cons_zero, List.setIfInBounds_toArray, List.set_cons_zero, List.set_cons_succ]
                refine wpAnyH_take (i := 12) (v := ?vz25) rfl (by kernel_rfl) (by kernel_rfl) (by kernel_rfl) (fun _ _ _ h => h) (Or.inl ⟨by rfl, ?hyz25⟩) (by first | assumption | exact trivial) ?restz25
                case hyz25 => intro W hSW; go_simp; try (with_reducible rfl)
                simp only [Act.put, List.getElem_toArray, List.getElem_cons_succ, List.getElem_cons_zero, List.setIfInBounds_toArray, List.set_cons_zero, List.set_cons_succ]
                refine wpAnyH_take (i := 13) (v := ?vz26) rfl (by kernel_rfl) (by kernel_rfl) (by kernel_rfl) (fun _ _ _ h => h) (Or.inl ⟨by rfl, ?hyz26⟩) (by first | assumption | exact trivial) ?restz26
                case hyz26 => intro W hSW; go_simp; try (with_reducible rfl)
                simp only [Act.put, List.getElem_toArray, List.getElem_cons_succ, List.getElem_cons_zero, List.setIfInBounds_toArray, List.set_cons_zero, List.set_cons_succ]
                refine wpAnyH_take (i := 14) (v := ?vz27) rfl (by kernel_rfl) (by kernel_rfl) (by kernel_rfl) (fun _ _ _ h => h) (Or.inl ⟨by rfl, ?hyz27⟩) (by first | assumption | exact trivial) ?restz27
                case hyz27 => intro W hSW; have z14 := (KeptN.cell hSW HPl.out 2).trans x2; go_simp; try (with_reducible rfl)
                simp only [Act.put, List.getElem_toArray, List.getElem_cons_succ, List.getElem_cons_zero, List.setIfInBounds_toArray, List.set_cons_zero, List.set_cons_succ]
                refine wpAnyH_ready (rs := [15]) (by kernel_rfl) (by simp) ?_
                refine AllReadyH.cons rfl (fun K hK => ?_) AllReadyH.nil
                go_simp
                go_wp2_with (go_at_call 19; refine (HS.out wr.drew ((Below.refl _ wr).drew)).mono ?_; rintro e w2 ⟨rfl, b2⟩)
                have S2 : KeptN wr w2 := Below.trans ((Below.refl _ wr).drew) b2.out
                refine hK.out _ _ (S2) (fun hHeld => ?_)
                clear hK K
                refine wpAnyH_take (i := 16) (v := ?vz28) rfl (by kernel_rfl) (by kernel_rfl) (by kernel_rfl) (fun _ _ _ h => h) (Or.inl ⟨by rfl, ?hyz28⟩) (by first | assumption | exact trivial) ?restz28
                case hyz28 => intro W hSW; go_simp; try (with_reducible rfl)
                simp only [Act.put, List.getElem_toArray, List.getElem_cons_succ, List.getElem_cons_zero, List.setIfInBounds_toArray, List.set_cons_zero, List.set_cons_succ]
                refine wpAnyH_take (i := 17) (v := ?vz29) rfl (by kernel_rfl) (by kernel_rfl) (by kernel_rfl) (fun _ _ _ h => h) (Or.inl ⟨by rfl, ?hyz29⟩) (by first | assumption | exact trivial) ?restz29
                case hyz29 => intro W hSW; go_simp; try (with_reducible rfl)
                simp only [Act.put, List.getElem_toArray, List.getElem_cons_succ, List.getElem_cons_zero, List.setIfInBounds_toArray, List.set_cons_zero, List.set_cons_succ]
                refine wpAnyH_take (i := 18) (v := ?vz30) rfl (by kernel_rfl) (by kernel_rfl) (by kernel_rfl) (fun _ _ _ h => h) (Or.inl ⟨by rfl, ?hyz30⟩) (by first | assumption | exact trivial) ?restz30
                case hyz30 => intro W hSW; go_simp; try (with_reducible rfl)
                simp only [Act.put, List.getElem_toArray, List.getElem_cons_succ, List.getElem_cons_zero, List.setIfInBounds_toArray, List.set_cons_zero, List.set_cons_succ]
                refine wpAnyH_take (i := 19) (v := ?vz31) rfl (by kernel_rfl) (by kernel_rfl) (by kernel_rfl) (fun _ _ _ h => h) (Or.inl ⟨by rfl, ?hyz31⟩) (by first | assumption | exact trivial) ?restz31
                case hyz31 => intro W hSW; go_simp; try (with_reducible rfl)
                simp only [Act.put, List.getElem_toArray, List.getElem_cons_succ, List.getElem_cons_zero, List.setIfInBounds_toArray, List.set_cons_zero, List.set_cons_succ]
                refine wpAnyH_take (i := 20) (v := ?vz32) rfl (by kernel_rfl) (by kernel_rfl) (by kernel_rfl) (fun _ _ _ h => h) (Or.inl ⟨by rfl, ?hyz32⟩) (by first | assumption | exact trivial) ?restz32
                case hyz32 => intro W hSW; go_simp; try (with_reducible rfl)
                simp only [Act.put, List.getElem_toArray, List.getElem_cons_succ, List.getElem_cons_zero, List.setIfInBounds_toArray, List.set_cons_zero, List.set_cons_succ]
                refine wpAnyH_take (i := 21) (v := ?vz33) rfl (by kernel_rfl) (by kernel_rfl) (by kernel_rfl) (fun _ _ _ h => h) (Or.inl ⟨by rfl, ?hyz33⟩) (by first | assumption | exact trivial) ?restz33
                case hyz33 => intro W hSW; have z21 := (KeptN.cell hSW HPl.out 1).trans x1; go_simp; try (with_reducible rfl)
                simp only [Act.put, List.getElem_toArray, List.getElem_cons_succ, List.getElem_cons_zero, List.setIfInBounds_toArray, List.set_cons_zero, List.set_cons_succ]
                refine wpAnyH_ready (rs := [22]) (by kernel_rfl) (by simp) ?_
                refine AllReadyH.cons rfl (fun K hK => ?_) AllReadyH.nil
                go_simp
                go_wp2_with (go_at_call 20; refine (HK.out w2 S2).mono ?_; rintro e w3 ⟨v3, rfl, ho3, b3⟩; obtain ⟨Ak, ck, rfl, _, _, _, _, _⟩ := Mi.Own.form ho3.out)
                have S3 : KeptN wr w3 := Below.trans S2 (b3.out.mono (Below.size S2))
                refine hK.out _ _ (S3) (fun hHeld => ?_)
                clear hK K
                refine wpAnyH_take (i := 23) (v := ?vz34) rfl (by kernel_rfl) (by kernel_rfl) (by kernel_rfl) (fun _ _ _ h => h) (Or.inl ⟨by rfl, ?hyz34⟩) (by first | assumption | exact trivial) ?restz34
                case hyz34 => intro W hSW; go_simp; try (with_reducible rfl)
                simp only [Act.put, List.getElem_toArray, List.getElem_cons_succ, List.getElem_cons_zero, List.setIfInBounds_toArray, List.set_cons_zero, List.set_cons_succ]
                refine wpAnyH_take (i := 24) (v := ?vz35) rfl (by kernel_rfl) (by kernel_rfl) (by kernel_rfl) (fun _ _ _ h => h) (Or.inl ⟨by rfl, ?hyz35⟩) (by first | assumption | exact trivial) ?restz35
                case hyz35 => intro W hSW; go_simp; try (with_reducible rfl)
                simp only [Act.put, List.getElem_toArray, List.getElem_cons_succ, List.getElem_cons_zero, List.setIfInBounds_toArray, List.set_cons_zero, List.set_cons_succ]
                refine wpAnyH_take (i := 25) (v := ?vz36) rfl (by kernel_rfl) (by kernel_rfl) (by kernel_rfl) (fun _ _ _ h => h) (Or.inl ⟨by rfl, ?hyz36⟩) (by first | assumption | exact trivial) ?restz36
                case hyz36 => intro W hSW; go_simp; try (with_reducible rfl)
                simp only [Act.put, List.getElem_toArray, List.getElem_cons_succ, List.getElem_cons_zero, List.setIfInBounds_toArray, List.set_cons_zero, List.set_cons_succ]
                refine wpAnyH_take (i := 26) (v := ?vz37) rfl (by kernel_rfl) (by kernel_rfl) (by kernel_rfl) (fun _ _ _ h => h) (Or.inl ⟨by rfl, ?hyz37⟩) (by first | assumption | exact trivial) ?restz37
                case hyz37 => intro W hSW; go_simp; try (with_reducible rfl)
                simp only [Act.put, List.getElem_toArray, List.getElem_cons_succ, List.getElem_cons_zero, List.setIfInBounds_toArray, List.set_cons_zero, List.set_cons_succ]
                refine wpAnyH_ready (rs := [27]) (by kernel_rfl) (by simp) ?_
                refine AllReadyH.cons rfl (fun K hK => ?_) AllReadyH.nil
                go_simp
                go_wp2_with (go_at_call 8; refine (awake_any w3).mono ?_; rintro e w4 ⟨rfl, b4⟩)
                have S4 : KeptN wr w4 := Below.trans S3 (b4.out.mono (Below.size S3))
                refine hK.out _ _ (S4) (fun hHeld => ?_)
                clear hK K
                refine wpAnyH_take (i := 28) (v := ?vz38) rfl (by kernel_rfl) (by kernel_rfl) (by kernel_rfl) (fun _ _ _ h => h) (Or.inl ⟨by rfl, ?hyz38⟩) (by first | assumption | exact trivial) ?restz38
                case hyz38 => intro W hSW; go_simp; try (with_reducible rfl)
                simp only [Act.put, List.getElem_toArray, List.getElem_cons_succ, List.getElem_cons_zero, List.setIfInBounds_toArray, List.set_cons_zero, List.set_cons_succ]
                refine wpAnyH_take (i := 29) (v := ?vz39) rfl (by kernel_rfl) (by kernel_rfl) (by kernel_rfl) (fun _ _ _ h => h) (Or.inl ⟨by rfl, ?hyz39⟩) (by first | assumption | exact trivial) ?restz39
                case hyz39 => intro W hSW; go_simp; try (with_reducible rfl)
                simp only [Act.put, List.getElem_toArray, List.getElem_cons_succ, List.getElem_cons_zero, List.setIfInBounds_toArray, List.set_cons_zero, List.set_cons_succ]
                refine wpAnyH_done (by kernel_rfl) ?_ _
                have HB4 : Hid (Below w.heap.size w w4) := HYB.out.trans (Below.mono S4 HYB.out.size)
                clear S2 S3 S4 b2 b3 b4 ho3
                go_wp2
                go_ret
                exact ⟨rfl, HB4.out⟩
              · have g3 : ¬ (q : Int) ≤ 64 := by omega
                clear hin
                go_wp2
                refine wp_region_held_drew (S := KeptN wr) (by kernel_rfl) ((Below.refl _ wr).drew) (fun hHeld => ?_)
                refine wpAnyH_take (i := 0) (v := ?vz40) rfl (by kernel_rfl) (by kernel_rfl) (by kernel_rfl) (fun _ _ _ h => h) (Or.inl ⟨by rfl, ?hyz40⟩) (by first | assumption | exact trivial) ?restz40
                case hyz40 => intro W hSW; go_simp; try (with_reducible rfl)
                simp only [Act.put, List.getElem_toArray, List.getElem_cons_succ, List.getElem_cons_zero, List.setIfInBounds_toArray, List.set_cons_zero, List.set_cons_succ]
                refine wpAnyH_take (i := 1) (v := ?vz41) rfl (by kernel_rfl) (by kernel_rfl) (by kernel_rfl) (fun _ _ _ h => h) (Or.inl ⟨by rfl, ?hyz41⟩) (by first | assumption | exact trivial) ?restz41
                case hyz41 => intro W hSW; go_simp; try (with_reducible rfl)
                simp only [Act.put, List.getElem_toArray, List.getElem_cons_succ, List.getElem_cons_zero, List.setIfInBounds_toArray, List.set_cons_zero, List.set_cons_succ]
                refine wpAnyH_take (i := 2) (v := ?vz42) rfl (by kernel_rfl) (by kernel_rfl) (by kernel_rfl) (fun _ _ _ h => h) (Or.inl ⟨by rfl, ?hyz42⟩) (by first | assumption | exact trivial) ?restz42
                case hyz42 => intro W hSW; go_simp; try (with_reducible rfl)
                simp only [Act.put, List.getElem_toArray, List.getElem_cons_succ, List.getElem_cons_zero, List.setIfInBounds_toArray, List.set_cons_zero, List.set_cons_succ]
                refine wpAnyH_take (i := 3) (v := ?vz43) rfl (by kernel_rfl) (by kernel_rfl) (by kernel_rfl) (fun _ _ _ h => h) (Or.inl ⟨by rfl, ?hyz43⟩) (by first | assumption | exact trivial) ?restz43
                case hyz43 => intro W hSW; have z3 := (KeptN.cell hSW HPl.out 0).trans x0; go_simp; try (with_reducible rfl)
                simp only [Act.put, List.getElem_toArray, List.getElem_cons_succ, List.getElem_cons_zero, List.setIfInBounds_toArray, List.set_cons_zero, List.set_cons_succ]
                refine wpAnyH_ready (rs := [4]) (by kernel_rfl) (by simp) ?_
                refine AllReadyH.cons rfl (fun K hK => ?_) AllReadyH.nil
                go_simp
                go_wp2_with (go_at_call 15; refine (HN.out wr.drew ((Below.refl _ wr).drew)).mono ?_; rintro e w' ⟨rfl, rfl⟩)
                refine hK.out _ _ ((Below.refl _ wr).drew) (fun hHeld => ?_)
                clear hK K
                refine wpAnyH_take (i := 5) (v := ?vz44) rfl (by kernel_rfl) (by kernel_rfl) (by kernel_rfl) (fun _ _ _ h => h) (Or.inl ⟨by rfl, ?hyz44⟩) (by first | assumption | exact trivial) ?restz44
                case hyz44 => intro W hSW; go_simp; try (with_reducible rfl)
                simp only [Act.put, List.getElem_toArray, List.getElem_cons_succ, List.getElem_cons_zero, List.setIfInBounds_toArray, List.set_cons_zero, List.set_cons_succ]
                refine wpAnyH_take (i := 6) (v := ?vz45) rfl (by kernel_rfl) (by kernel_rfl) (by kernel_rfl) (fun _ _ _ h => h) (Or.inl ⟨by rfl, ?hyz45⟩) (by first | assumption | exact trivial) ?restz45
                case hyz45 => intro W hSW; go_simp; try (with_reducible rfl)
                simp only [Act.put, List.getElem_toArray, List.getElem_cons_succ, List.getElem_cons_zero, List.setIfInBounds_toArray, List.set_cons_zero, List.set_cons_succ]
                refine wpAnyH_take (i := 7) (v := ?vz46) rfl (by kernel_rfl) (by kernel_rfl) (by kernel_rfl) (fun _ _ _ h => h) (Or.inl ⟨by rfl, ?hyz46⟩) (by first | assumption | exact trivial) ?restz46
                case hyz46 => intro W hSW; go_simp; try (with_reducible rfl)
                simp only [Act.put, List.getElem_toArray, List.getElem_cons_succ, List.getElem_cons_zero, List.setIfInBounds_toArray, List.set_cons_zero, List.set_cons_succ]
                refine wpAnyH_take (i := 8) (v := ?vz47) rfl (by kernel_rfl) (by kernel_rfl) (by kernel_rfl) (fun _ _ _ h => h) (Or.inl ⟨by rfl, ?hyz47⟩) (by first | assumption | exact trivial) ?restz47
                case hyz47 => intro W hSW; go_simp; try (with_reducible rfl)
                simp only [Act.put, List.getElem_toArray, List.getElem_cons_succ, List.getElem_cons_zero, List.setIfInBounds_toArray, List.set_cons_zero, List.set_cons_succ]
                refine wpAnyH_take (i := 9) (v := ?vz48) rfl (by kernel_rfl) (by kernel_rfl) (by kernel_rfl) (fun _ _ _ h => h) (Or.inl ⟨by rfl, ?hyz48⟩) (by first | assumption | exact trivial) ?restz48
                case hyz48 => intro W hSW; go_simp; try (with_reducible rfl)
                simp only [Act.put, List.getElem_toArray, List.getElem_cons_succ, List.getElem_cons_zero, List.setIfInBounds_toArray, List.set_cons_zero, List.set_cons_succ]
                refine wpAnyH_take (i := 10) (v := ?vz49) rfl (by kernel_rfl) (by kernel_rfl) (by kernel_rfl) (fun _ _ _ h => h) (Or.inl ⟨by rfl, ?hyz49⟩) (by first | assumption | exact trivial) ?restz49
                case hyz49 => intro W hSW; have z10 := (KeptN.cell hSW HPl.out 4).trans x4; go_simp; try (with_reducible rfl)
                simp only [Act.put, List.getElem_toArray, List.getElem_cons_succ, List.getElem_cons_zero, List.setIfInBounds_toArray, List.set_cons_zero, List.set_cons_succ]
                refine wpAnyH_take (i := 11) (v := ?vz50) rfl (by kernel_rfl) (by kernel_rfl) (by kernel_rfl) (fun _ _ _ h => h) (Or.inl ⟨by rfl, ?hyz50⟩) (by first | assumption | exact trivial) ?restz50
                case hyz50 => intro W hSW; go_simp; try (with_reducible rfl)
                simp only [Act.put, List.getElem_toArray, List.getElem_cons_succ, List.getElem_cons_zero, List.setIfInBounds_toArray, List.set_cons_zero, List.set_cons_succ]
                refine wpAnyH_take (i := 12) (v := ?vz51) rfl (by kernel_rfl) (by kernel_rfl) (by kernel_rfl) (fun _ _ _ h => h) (Or.inl ⟨by rfl, ?hyz51⟩) (by first | assumption | exact trivial) ?restz51
                case hyz51 => intro W hSW; go_simp; try (with_reducible rfl)
                simp only [Act.put, List.getElem_toArray, List.getElem_cons_succ, List.getElem_cons_zero, List.setIfInBounds_toArray, List.set_cons_zero, List.set_cons_succ]
                refine wpAnyH_take (i := 13) (v := ?vz52) rfl (by kernel_rfl) (by kernel_rfl) (by kernel_rfl) (fun _ _ _ h => h) (Or.inl ⟨by rfl, ?hyz52⟩) (by first | assumption | exact trivial) ?restz52
                case hyz52 => intro W hSW; go_simp; try (with_reducible rfl)
                simp only [Act.put, List.getElem_toArray, List.getElem_cons_succ, List.getElem_cons_zero, List.setIfInBounds_toArray, List.set_cons_zero, List.set_cons_succ]
                refine wpAnyH_take (i := 14) (v := ?vz53) rfl (by kernel_rfl) (by kernel_rfl) (by kernel_rfl) (fun _ _ _ h => h) (Or.inl ⟨by rfl, ?hyz53⟩) (by first | assumption | exact trivial) ?restz53
                case hyz53 => intro W hSW; have z14 := (KeptN.cell hSW HPl.out 2).trans x2; go_simp; try (with_reducible rfl)
                simp only [Act.put, List.getElem_toArray, List.getElem_cons_succ, List.getElem_cons_zero, List.setIfInBounds_toArray, List.set_cons_zero, List.set_cons_succ]
                refine wpAnyH_ready (rs := [15]) (by kernel_rfl) (by simp) ?_
                refine AllReadyH.cons rfl (fun K hK => ?_) AllReadyH.nil
                go_simp
                go_wp2_with (go_at_call 19; refine (HS.out wr.drew ((Below.refl _ wr).drew)).mono ?_; rintro e w2 ⟨rfl, b2⟩)
                have S2 : KeptN wr w2 := Below.trans ((Below.refl _ wr).drew) b2.out
                refine hK.out _ _ (S2) (fun hHeld => ?_)
                clear hK K
                refine wpAnyH_take (i := 16) (v := ?vz54) rfl (by kernel_rfl) (by kernel_rfl) (by kernel_rfl) (fun _ _ _ h => h) (Or.inl ⟨by rfl, ?hyz54⟩) (by first | assumption | exact trivial) ?restz54
                case hyz54 => intro W hSW; go_simp; try (with_reducible rfl)
                simp only [Act.put, List.getElem_toArray, List.getElem_cons_succ, List.getElem_cons_zero, List.setIfInBounds_toArray, List.set_cons_zero, List.set_cons_succ]
                refine wpAnyH_take (i := 17) (v := ?vz55) rfl (by kernel_rfl) (by kernel_rfl) (by kernel_rfl) (fun _ _ _ h => h) (Or.inl ⟨by rfl, ?hyz55⟩) (by first | assumption | exact trivial) ?restz55
                case hyz55 => intro W hSW; go_simp; try (with_reducible rfl)
                simp only [Act.put, List.getElem_toArray, List.getElem_cons_succ, List.getElem_cons_zero, List.setIfInBounds_toArray, List.set_cons_zero, List.set_cons_succ]
                refine wpAnyH_take (i := 18) (v := ?vz56) rfl (by kernel_rfl) (by kernel_rfl) (by kernel_rfl) (fun _ _ _ h => h) (Or.inl ⟨by rfl, ?hyz56⟩) (by first | assumption | exact trivial) ?restz56
                case hyz56 => intro W hSW; go_simp; try (with_reducible rfl)
                simp only [Act.put, List.getElem_toArray, List.getElem_cons_succ, List.getElem_cons_zero, List.setIfInBounds_toArray, List.set_cons_zero, List.set_cons_succ]
                refine wpAnyH_take (i := 19) (v := ?vz57) rfl (by kernel_rfl) (by kernel_rfl) (by kernel_rfl) (fun _ _ _ h => h) (Or.inl ⟨by rfl, ?hyz57⟩) (by first | assumption | exact trivial) ?restz57
                case hyz57 => intro W hSW; go_simp; try (with_reducible rfl)
                simp only [Act.put, List.getElem_toArray, List.getElem_cons_succ, List.getElem_cons_zero, List.setIfInBounds_toArray, List.set_cons_zero, List.set_cons_succ]
                refine wpAnyH_take (i := 20) (v := ?vz58) rfl (by kernel_rfl) (by kernel_rfl) (by kernel_rfl) (fun _ _ _ h => h) (Or.inl ⟨by rfl, ?hyz58⟩) (by first | assumption | exact trivial) ?restz58
                case hyz58 => intro W hSW; go_simp; try (with_reducible rfl)
                simp only [Act.put, List.getElem_toArray, List.getElem_cons_succ, List.getElem_cons_zero, List.setIfInBounds_toArray, List.set_cons_zero, List.set_cons_succ]
                refine wpAnyH_take (i := 21) (v := ?vz59) rfl (by kernel_rfl) (by kernel_rfl) (by kernel_rfl) (fun _ _ _ h => h) (Or.inl ⟨by rfl, ?hyz59⟩) (by first | assumption | exact trivial) ?restz59
                case hyz59 => intro W hSW; have z21 := (KeptN.cell hSW HPl.out 1).trans x1; go_simp; try (with_reducible rfl)
                simp only [Act.put, List.getElem_toArray, List.getElem_cons_succ, List.getElem_cons_zero, List.setIfInBounds_toArray, List.set_cons_zero, List.set_cons_succ]
                refine wpAnyH_ready (rs := [22]) (by kernel_rfl) (by simp) ?_
                refine AllReadyH.cons rfl (fun K hK => ?_) AllReadyH.nil
                go_simp
                go_wp2_with (go_at_call 20; refine (HK.out w2 S2).mono ?_; rintro e w3 ⟨v3, rfl, ho3, b3⟩; obtain ⟨Ak, ck, rfl, _, _, _, _, _⟩ := Mi.Own.form ho3.out)
                have S3 : KeptN wr w3 := Below.trans S2 (b3.out.mono (Below.size S2))
                refine hK.out _ _ (S3) (fun hHeld => ?_)
                clear hK K
                refine wpAnyH_take (i := 23) (v := ?vz60) rfl (by kernel_rfl) (by kernel_rfl) (by kernel_rfl) (fun _ _ _ h => h) (Or.inl ⟨by rfl, ?hyz60⟩) (by first | assumption | exact trivial) ?restz60
                case hyz60 => intro W hSW; go_simp; try (with_reducible rfl)
                simp only [Act.put, List.getElem_toArray, List.getElem_cons_succ, List.getElem_cons_zero, List.setIfInBounds_toArray, List.set_cons_zero, List.set_cons_succ]
                refine wpAnyH_take (i := 24) (v := ?vz61) rfl (by kernel_rfl) (by kernel_rfl) (by kernel_rfl) (fun _ _ _ h => h) (Or.inl ⟨by rfl, ?hyz61⟩) (by first | assumption | exact trivial) ?restz61
                case hyz61 => intro W hSW; go_simp; try (with_reducible rfl)
                simp only [Act.put, List.getElem_toArray, List.getElem_cons_succ, List.getElem_cons_zero, List.setIfInBounds_toArray, List.set_cons_zero, List.set_cons_succ]
                refine wpAnyH_take (i := 25) (v := ?vz62) rfl (by kernel_rfl) (by kernel_rfl) (by kernel_rfl) (fun _ _ _ h => h) (Or.inl ⟨by rfl, ?hyz62⟩) (by first | assumption | exact trivial) ?restz62
                case hyz62 => intro W hSW; go_simp; try (with_reducible rfl)
                simp only [Act.put, List.getElem_toArray, List.getElem_cons_succ, List.getElem_cons_zero, List.setIfInBounds_toArray, List.set_cons_zero, List.set_cons_succ]
                refine wpAnyH_take (i := 26) (v := ?vz63) rfl (by kernel_rfl) (by kernel_rfl) (by kernel_rfl) (fun _ _ _ h => h) (Or.inl ⟨by rfl, ?hyz63⟩) (by first | assumption | exact trivial) ?restz63
                case hyz63 => intro W hSW; go_simp; try (with_reducible rfl)
                simp only [Act.put, List.getElem_toArray, List.getElem_cons_succ, List.getElem_cons_zero, List.setIfInBounds_toArray, List.set_cons_zero, List.set_cons_succ]
                refine wpAnyH_ready (rs := [27]) (by kernel_rfl) (by simp) ?_
                refine AllReadyH.cons rfl (fun K hK => ?_) AllReadyH.nil
                go_simp
                go_wp2_with (go_at_call 8; refine (awake_any w3).mono ?_; rintro e w4 ⟨rfl, b4⟩)
                have S4 : KeptN wr w4 := Below.trans S3 (b4.out.mono (Below.size S3))
                refine hK.out _ _ (S4) (fun hHeld => ?_)
                clear hK K
                refine wpAnyH_take (i := 28) (v := ?vz64) rfl (by kernel_rfl) (by kernel_rfl) (by kernel_rfl) (fun _ _ _ h => h) (Or.inl ⟨by rfl, ?hyz64⟩) (by first | assumption | exact trivial) ?restz64
                case hyz64 => intro W hSW; go_simp; try (with_reducible rfl)
                simp only [Act.put, List.getElem_toArray, List.getElem_cons_succ, List.getElem_cons_zero, List.setIfInBounds_toArray, List.set_cons_zero, List.set_cons_succ]
                refine wpAnyH_take (i := 29) (v := ?vz65) rfl (by kernel_rfl) (by kernel_rfl) (by kernel_rfl) (fun _ _ _ h => h) (Or.inl ⟨by rfl, ?hyz65⟩) (by first | assumption | exact trivial) ?restz65
                case hyz65 => intro W hSW; go_simp; try (with_reducible rfl)
                simp only [Act.put, List.getElem_toArray, List.getElem_cons_succ, List.getElem_cons_zero, List.setIfInBounds_toArray, List.set_cons_zero, List.set_cons_succ]
                refine wpAnyH_done (by kernel_rfl) ?_ _
                have HB4 : Hid (Below w.heap.size w w4) := HYB.out.trans (Below.mono S4 HYB.out.size)
                clear S2 S3 S4 b2 b3 b4 ho3
                go_wp2
                go_ret
                exact ⟨rfl, HB4.out⟩
        · go_wp2
          go_loopw [7] (fun v W => ∃ (q : Nat) (y : Pr), q ≤ 65 ∧ v = .int .i64 q ∧ PM w.heap.size W P Ds D mb n y ∧ y.ps.length ≤ 300 ∧ y.s.l.length ≤ 64 - q ∧ Below w.heap.size w W) (fun v _ => 65 - (intOf v).toNat)
          case atStart => exact ⟨0, x, by omega, rfl, HP.out, H300.out, by have := HP.out.1.sok.q; omega, HB.out⟩
          case round =>
            obtain ⟨q, y, hq, rfl, hy, hy3, hyl, hyb⟩ := hrel
            have HY := Lib.hid hy
            have HY3 := Lib.hid hy3
            have HYL := Lib.hid hyl
            have HYB := Lib.hid hyb
            obtain ⟨e0, lc⟩ := Len_p HY
            have HLC := Lib.hid lc
            clear hy hy3 hyl hyb lc HP HB
            obtain ⟨ll, hll⟩ : ∃ ll, y.s.l.length = ll := ⟨_, rfl⟩
            have HLL := Lib.hid hll
            rw [hll] at HLC HYL
            by_cases hin : q ≤ 64 ∧ 0 < ll
            · obtain ⟨hq64, hl0⟩ := hin
              have g3 : (q : Int) ≤ 64 := by omega
              have g4 : (0 : Int) < (ll : Int) := by omega
              have HQ64 : Hid (ll + q ≤ 64) := by have := HYL.out; show _ ≤ _; omega
              have HL0 := Lib.hid hl0
              clear hll
              go_wp2_with (go_at_call 15; refine HLC.out.mono ?_; rintro e w' ⟨rfl, rfl⟩)
              go_loopw [8] (fun v W => ∃ (i : Nat) (z : Pr), i ≤ n ∧ v = .int .i64 i ∧ PM w.heap.size W P Ds D mb n z ∧ z.s.l = y.s.l ∧ z.ps = y.ps ∧ (1 ≤ i → 1 ≤ z.s.under) ∧ Below w.heap.size w W) (fun v _ => n - (intOf v).toNat)
              case atStart => exact ⟨0, y, Nat.zero_le _, rfl, HY.out, rfl, rfl, fun h => absurd h (by omega), HYB.out⟩
              case round =>
                obtain ⟨i, z, hi, rfl, hz, hzl, hzp, hzu, hzb⟩ := hrel
                have HZ := Lib.hid hz
                have HZL := Lib.hid hzl
                have HZP := Lib.hid hzp
                have HZU := Lib.hid hzu
                have HZB := Lib.hid hzb
                clear hz hzl hzp hzu hzb e0
                by_cases hin2 : i < n
                · have hin3 : (i : Int) < (n : Int) := by omega
                  have HSD := Lib.hid (step_send w.heap.size _ P Ds D mb n z HZ (show Hid (z.ps.length ≤ 300) by show _ ≤ _; rw [HZP.out]; exact HY3.out) 0)
                  go_wp2_with (go_at_call 13; refine HSD.out.mono ?_; rintro e w2 ⟨⟨vv, rfl⟩, h2, b2⟩; have B2 : Hid (Below w.heap.size w w2) := HZB.out.trans b2.out)
                  go_roundw
                  case rel => exact ⟨i + 1, _, by omega, by go_num, h2.out, (send_l _).trans HZL.out, HZP.out, fun _ => send_u HZ.out.1 (by rw [HZL.out, HLL.out]; exact HL0.out), B2.out⟩
                  case measure => simp [intOf]; omega
                · have hin3 : ¬ (i : Int) < (n : Int) := by omega
                  have HU1 : Hid (1 ≤ z.s.under) := HZU.out (by have := HN1.out; omega)
                  have HZ3 : Hid (z.ps.length ≤ 300) := by show _ ≤ _; rw [HZP.out]; exact HY3.out
                  obtain ⟨e0, uc⟩ := Under_p HZ
                  have HUC := Lib.hid uc
                  have hgl := Wn.goes_length (z.s.base : Int) z.s.under
                  have HBS : Hid (z.s.base = z.g % 128) := HZ.out.1.gone.2.2
                  have hu63 : z.s.under ≤ 63 := Nat.le_trans HZ.out.1.under HN63.out
                  have HGW : Hid (z.g ≤ z.W) := HZ.out.1.gw
                  have HZLL : Hid (z.s.l.length = ll) := by show _ = _; rw [HZL.out, HLL.out]
                  obtain ⟨u, hu⟩ : ∃ u, z.s.under = u := ⟨_, rfl⟩
                  have HUU := Lib.hid hu
                  rw [hu] at HUC hgl hu63 HU1
                  have HGL := Lib.hid hgl
                  have hu64 : (u : Int) < 64 := by omega
                  clear uc hgl hu hin2 HZU HZL
                  go_wp2_with (go_at_call 16; refine HUC.out.mono ?_; rintro e w2 ⟨v2, rfl, ho2, hb2⟩; obtain ⟨Au, cu, rfl, _, _, _, _, _⟩ := Mi.Own.form ho2.out; have HO2 : Hid (Mi.Own w2 0 (.slice Au (Wn.goes (z.s.base : Int) u).length cu) (Wn.goes (z.s.base : Int) u)) := ho2.out.zero; have HZ2 := Lib.hid (HZ.out.below hb2.out); have HB2 : Hid (Below w.heap.size w w2) := HZB.out.trans (hb2.out.mono HZ.out.hM); rw [HGL.out]; rw [HGL.out] at HO2; clear ho2 hb2)
                  go_loopw [10] (fun v W => ∃ (j : Nat) (r' : Rcv) (W' : Nat), j ≤ u ∧ v = .int .i64 j ∧ PM w.heap.size W P Ds D mb n ⟨z.s, r', z.ps, z.g, W'⟩ ∧ z.g + j ≤ W' ∧ Mi.Own W 0 (.slice Au u cu) (Wn.goes (z.s.base : Int) u) ∧ Below w.heap.size w W) (fun v _ => u - (intOf v).toNat)
                  case atStart => exact ⟨0, z.r, z.W, Nat.zero_le _, rfl, HZ2.out, HGW.out, HO2.out, HB2.out⟩
                  case round =>
                    obtain ⟨j, r', W', hj, rfl, ha, hgj, hou, hab⟩ := hrel
                    have HAA := Lib.hid ha
                    have HGJ := Lib.hid hgj
                    have HOU := Lib.hid hou
                    have HAB := Lib.hid hab
                    clear ha hgj hou hab e0 HO2 HZ2 HB2 HZ HUC
                    by_cases hju : j < u
                    · have hju2 : (j : Int) < (u : Int) := by omega
                      obtain ⟨bu, ou, rfl, hbu, hcu⟩ := own_at HOU.out (by rw [HGL.out]; exact hju)
                      rw [Wn.goes_at hju, HBS.out] at hcu
                      obtain ⟨mm, hmm⟩ : ∃ mm, (z.g + j) % 128 = mm := ⟨_, rfl⟩
                      rw [show (((z.g % 128 : Nat) : Int) + (j : Int)) % 128 = (mm : Int) by omega] at hcu
                      obtain ⟨e0, ag⟩ := Again_p (t := j) HAA (show j < z.s.under by rw [HUU.out]; exact hju)
                      have HAG := Lib.hid ag
                      have HCM := Lib.hid (fun (W : World) (hW : Below wr.heap.size wr W) (A : Option Addr) (c : Nat) (hp : Hid (Me.Rd W W.heap.size A (lsAt z.ps (z.g + j)))) (hA : Hid (A = none → (lsAt z.ps (z.g + j)).length = 0 ∧ c = 0)) => comes_any w.heap.size W P Ds D mb n (z.g + j) ⟨z.s, r', z.ps, z.g, W'⟩ (Lib.hid (HAA.out.below hW)) HZ3 (show z.g + j < z.g + z.s.under by rw [HUU.out]; omega) (show z.g + z.s.under ≤ z.g + j + 63 by rw [HUU.out]; omega) 0 A c hp hA)
                      rw [show (({ s := z.s, r := r', ps := z.ps, g := z.g, W := W' } : Pr).g + j) % 128 = mm from hmm] at HAG
                      rw [hmm] at HCM
                      have HBU := Lib.hid hbu
                      have HPl : Hid (P < wr.heap.size) := by obtain ⟨_, _, _, _, _, _, _, hpp⟩ := HAA.out; exact hpp.lt
                      clear ag hmm hbu
                      go_wp2
                      refine wp_region_held_drew (S := KeptN wr) (by kernel_rfl) ((Below.refl _ wr).drew) (fun hHeld => ?_)
                      refine wpAnyH_take (i := 0) (v := ?vz66) rfl (by kernel_rfl) (by kernel_rfl) (by kernel_rfl) (fun _ _ _ h => h) (Or.inl ⟨by rfl, ?hyz66⟩) (by first | assumption | exact trivial) ?restz66
                      case hyz66 => intro W hSW; go_simp; try (with_reducible rfl)
                      simp only [Act.put, List.getElem_toArray, List.getElem_cons_succ, List.getElem_cons_zero, List.setIfInBounds_toArray, List.set_cons_zero, List.set_cons_succ]
                      refine wpAnyH_take (i := 1) (v := ?vz67) rfl (by kernel_rfl) (by kernel_rfl) (by kernel_rfl) (fun _ _ _ h => h) (Or.inl ⟨by rfl, ?hyz67⟩) (by first | assumption | exact trivial) ?restz67
                      case hyz67 => intro W hSW; go_simp; try (with_reducible rfl)
                      simp only [Act.put, List.getElem_toArray, List.getElem_cons_succ, List.getElem_cons_zero, List.setIfInBounds_toArray, List.set_cons_zero, List.set_cons_succ]
                      refine wpAnyH_take (i := 2) (v := ?vz68) rfl (by kernel_rfl) (by kernel_rfl) (by kernel_rfl) (fun _ _ _ h => h) (Or.inl ⟨by rfl, ?hyz68⟩) (by first | assumption | exact trivial) ?restz68
                      case hyz68 => intro W hSW; go_simp; try (with_reducible rfl)
                      simp only [Act.put, List.getElem_toArray, List.getElem_cons_succ, List.getElem_cons_zero, List.setIfInBounds_toArray, List.set_cons_zero, List.set_cons_succ]
                      refine wpAnyH_take (i := 3) (v := ?vz69) rfl (by kernel_rfl) (by kernel_rfl) (by kernel_rfl) (fun _ _ _ h => h) (Or.inl ⟨by rfl, ?hyz69⟩) (by first | assumption | exact trivial) ?restz69
                      case hyz69 => intro W hSW; have q3 := (KeptN.cell hSW HPl.out 0).trans e0; go_simp; try (with_reducible rfl)
                      simp only [Act.put, List.getElem_toArray, List.getElem_cons_succ, List.getElem_cons_zero, List.setIfInBounds_toArray, List.set_cons_zero, List.set_cons_succ]
                      refine wpAnyH_take (i := 4) (v := ?vz70) rfl (by kernel_rfl) (by kernel_rfl) (by kernel_rfl) (fun _ _ _ h => h) (Or.inl ⟨by rfl, ?hyz70⟩) (by first | assumption | exact trivial) ?restz70
                      case hyz70 => intro W hSW; go_simp; try (with_reducible rfl)
                      simp only [Act.put, List.getElem_toArray, List.getElem_cons_succ, List.getElem_cons_zero, List.setIfInBounds_toArray, List.set_cons_zero, List.set_cons_succ]
                      refine wpAnyH_take (i := 5) (v := ?vz71) rfl (by kernel_rfl) (by kernel_rfl) (by kernel_rfl) (fun _ _ _ h => h) (Or.inl ⟨by rfl, ?hyz71⟩) (by first | assumption | exact trivial) ?restz71
                      case hyz71 => intro W hSW; go_simp; try (with_reducible rfl)
                      simp only [Act.put, List.getElem_toArray, List.getElem_cons_succ, List.getElem_cons_zero, List.setIfInBounds_toArray, List.set_cons_zero, List.set_cons_succ]
                      refine wpAnyH_take (i := 6) (v := ?vz72) rfl (by kernel_rfl) (by kernel_rfl) (by kernel_rfl) (fun _ _ _ h => h) (Or.inl ⟨by rfl, ?hyz72⟩) (by first | assumption | exact trivial) ?restz72
                      case hyz72 => intro W hSW; go_simp; try (with_reducible rfl)
                      simp only [Act.put, List.getElem_toArray, List.getElem_cons_succ, List.getElem_cons_zero, List.setIfInBounds_toArray, List.set_cons_zero, List.set_cons_succ]
                      refine wpAnyH_take (i := 7) (v := ?vz73) rfl (by kernel_rfl) (by kernel_rfl) (by kernel_rfl) (fun _ _ _ h => h) (Or.inl ⟨by rfl, ?hyz73⟩) (by first | assumption | exact trivial) ?restz73
                      case hyz73 => intro W hSW; have q7 := (KeptN.cell hSW HBU.out (ou + j)).trans hcu; go_simp; try (with_reducible rfl)
                      simp only [Act.put, List.getElem_toArray, List.getElem_cons_succ, List.getElem_cons_zero, List.setIfInBounds_toArray, List.set_cons_zero, List.set_cons_succ]
                      refine wpAnyH_ready (rs := [8]) (by kernel_rfl) (by simp) ?_
                      refine AllReadyH.cons rfl (fun K hK => ?_) AllReadyH.nil
                      go_simp
                      go_wp2_with (go_at_call 17; refine HAG.out.mono ?_; rintro e w3 ⟨A, c, rfl, hr3, hn3, hb3⟩)
                      have S3 : KeptN wr w3 := hb3.out
                      refine hK.out _ _ (S3) (fun hHeld => ?_)
                      clear hK K
                      refine wpAnyH_take (i := 9) (v := ?vz74) rfl (by kernel_rfl) (by kernel_rfl) (by kernel_rfl) (fun _ _ _ h => h) (Or.inl ⟨by rfl, ?hyz74⟩) (by first | assumption | exact trivial) ?restz74
                      case hyz74 => intro W hSW; go_simp; try (with_reducible rfl)
                      simp only [Act.put, List.getElem_toArray, List.getElem_cons_succ, List.getElem_cons_zero, List.setIfInBounds_toArray, List.set_cons_zero, List.set_cons_succ]
                      refine wpAnyH_take (i := 10) (v := ?vz75) rfl (by kernel_rfl) (by kernel_rfl) (by kernel_rfl) (fun _ _ _ h => h) (Or.inl ⟨by rfl, ?hyz75⟩) (by first | assumption | exact trivial) ?restz75
                      case hyz75 => intro W hSW; go_simp; try (with_reducible rfl)
                      simp only [Act.put, List.getElem_toArray, List.getElem_cons_succ, List.getElem_cons_zero, List.setIfInBounds_toArray, List.set_cons_zero, List.set_cons_succ]
                      refine wpAnyH_take (i := 11) (v := ?vz76) rfl (by kernel_rfl) (by kernel_rfl) (by kernel_rfl) (fun _ _ _ h => h) (Or.inl ⟨by rfl, ?hyz76⟩) (by first | assumption | exact trivial) ?restz76
                      case hyz76 => intro W hSW; go_simp; try (with_reducible rfl)
                      simp only [Act.put, List.getElem_toArray, List.getElem_cons_succ, List.getElem_cons_zero, List.setIfInBounds_toArray, List.set_cons_zero, List.set_cons_succ]
                      refine wpAnyH_take (i := 12) (v := ?vz77) rfl (by kernel_rfl) (by kernel_rfl) (by kernel_rfl) (fun _ _ _ h => h) (Or.inl ⟨by rfl, ?hyz77⟩) (by first | assumption | exact trivial) ?restz77
                      case hyz77 => intro W hSW; go_simp; try (with_reducible rfl)
                      simp only [Act.put, List.getElem_toArray, List.getElem_cons_succ, List.getElem_cons_zero, List.setIfInBounds_toArray, List.set_cons_zero, List.set_cons_succ]
                      refine wpAnyH_take (i := 13) (v := ?vz78) rfl (by kernel_rfl) (by kernel_rfl) (by kernel_rfl) (fun _ _ _ h => h) (Or.inl ⟨by rfl, ?hyz78⟩) (by first | assumption | exact trivial) ?restz78
                      case hyz78 => intro W hSW; go_simp; try (with_reducible rfl)
                      simp only [Act.put, List.getElem_toArray, List.getElem_cons_succ, List.getElem_cons_zero, List.setIfInBounds_toArray, List.set_cons_zero, List.set_cons_succ]
                      refine wpAnyH_done (by kernel_rfl) ?_ _
                      have hcu3 := (KeptN.cell S3 HBU.out (ou + j)).trans hcu
                      have HCC := Lib.hid (HCM.out w3 hb3.out A c hr3 hn3)
                      have HO3 : Hid (Mi.Own w3 0 (.slice (some ⟨bu, ou, none⟩) u cu) (Wn.goes (z.s.base : Int) u)) := HOU.out.below hb3.out
                      have HB3 : Hid (Below w.heap.size w w3) := HAB.out.trans (hb3.out.mono HAA.out.hM)
                      clear S3 hb3 hr3 hn3 hcu e0
                      go_wp2_with (go_at_call 18; refine HCC.out.mono ?_; rintro e w4 ⟨⟨vv, rfl⟩, h4, b4, k4⟩; obtain ⟨r4, W4, p4, l4, m4⟩ := h4.out; have P4 := Lib.hid p4; have HL4 : Hid (z.g + (j + 1) ≤ W4) := (by have h1 := HGJ.out; have h2 : W' ≤ W4 := l4; have h3 : z.g + j = W' → W' + 1 ≤ W4 := m4; show _ ≤ _; omega); have HO4 := Lib.hid (own_quiet HO3.out k4.out); have HB4 : Hid (Below w.heap.size w w4) := HB3.out.trans b4.out; clear h4 b4 k4 p4 l4 m4)
                      go_roundw
                      case rel => exact ⟨j + 1, r4, W4, by omega, by go_num, P4.out, HL4.out, HO4.out, HB4.out⟩
                      case measure => simp [intOf]; omega
                    · have hju2 : ¬ (j : Int) < (u : Int) := by omega
                      have HSK := Lib.hid (step_ack w.heap.size _ P Ds D mb n ⟨z.s, r', z.ps, z.g, W'⟩ HAA 0)
                      obtain ⟨_, ak, _⟩ := HAA.out.1.ack
                      have HDEC : Hid ((ackS z.s (r'.waits : Int)).l.length + 1 ≤ ll) := by
                        have h1 : (ackS z.s (r'.waits : Int)).l.length + (W' - z.g) = z.s.l.length := ak
                        have h2 := HGJ.out
                        have h3 := HU1.out
                        have h4 := HZLL.out
                        show _ ≤ _
                        omega
                      have HFIN : Hid ((ackS z.s (r'.waits : Int)).l.length ≤ 64 - (q + 1)) := by have := HDEC.out; have := HQ64.out; show _ ≤ _; omega
                      clear ak
                      go_wp2_with (go_at_call 13; refine HSK.out.mono ?_; rintro e w5 ⟨⟨vv, rfl⟩, h5, b5⟩; have B5 : Hid (Below w.heap.size w w5) := HAB.out.trans b5.out)
                      go_roundw
                      case rel => exact ⟨q + 1, _, by omega, by go_num, h5.out, HZ3.out, HFIN.out, B5.out⟩
                      case measure => simp [intOf]; omega
            · have hl0 : ll = 0 := by have := HYL.out; omega
              have h0 : y.s.l.length = 0 := by rw [hll, hl0]
              obtain ⟨A1, c1, A3, c3, x0, x1, x2, x4, hS, hK, hN⟩ := end_p HY HY3 h0
              have HPl : Hid (P < wr.heap.size) := by obtain ⟨_, _, _, _, _, _, _, hpp⟩ := HY.out; exact hpp.lt
              have HS := Lib.hid hS
              have HK := Lib.hid hK
              have HN := Lib.hid hN
              obtain ⟨lp, hlp⟩ : ∃ lp, y.ps.length = lp := ⟨_, rfl⟩
              rw [hlp] at x2 x4 HS
              rw [hl0, show ((0 : Nat) : Int) = 0 from rfl] at HLC
              clear hS hK hN hlp hll HLL h0
              by_cases hq4 : q ≤ 64
              · have g3 : (q : Int) ≤ 64 := by omega
                clear hin
                go_wp2_with (go_at_call 15; refine HLC.out.mono ?_; rintro e w' ⟨rfl, rfl⟩)
                refine wp_region_held_drew (S := KeptN wr) (by kernel_rfl) ((Below.refl _ wr).drew) (fun hHeld => ?_)
                refine wpAnyH_take (i := 0) (v := ?vz79) rfl (by kernel_rfl) (by kernel_rfl) (by kernel_rfl) (fun _ _ _ h => h) (Or.inl ⟨by rfl, ?hyz79⟩) (by first | assumption | exact trivial) ?restz79
                case hyz79 => intro W hSW; go_simp; try (with_reducible rfl)
                simp only [Act.put, List.getElem_toArray, List.getElem_cons_succ, List.getElem_cons_zero, List.setIfInBounds_toArray, List.set_cons_zero, List.set_cons_succ]
                refine wpAnyH_take (i := 1) (v := ?vz80) rfl (by kernel_rfl) (by kernel_rfl) (by kernel_rfl) (fun _ _ _ h => h) (Or.inl ⟨by rfl, ?hyz80⟩) (by first | assumption | exact trivial) ?restz80
                case hyz80 => intro W hSW; go_simp; try (with_reducible rfl)
                simp only [Act.put, List.getElem_toArray, List.getElem_cons_succ, List.getElem_cons_zero, List.setIfInBounds_toArray, List.set_cons_zero, List.set_cons_succ]
                refine wpAnyH_take (i := 2) (v := ?vz81) rfl (by kernel_rfl) (by kernel_rfl) (by kernel_rfl) (fun _ _ _ h => h) (Or.inl ⟨by rfl, ?hyz81⟩) (by first | assumption | exact trivial) ?restz81
                case hyz81 => intro W hSW; go_simp; try (with_reducible rfl)
                simp only [Act.put, List.getElem_toArray, List.getElem_cons_succ, List.getElem_cons_zero, List.setIfInBounds_toArray, List.set_cons_zero, List.set_cons_succ]
                refine wpAnyH_take (i := 3) (v := ?vz82) rfl (by kernel_rfl) (by kernel_rfl) (by kernel_rfl) (fun _ _ _ h => h) (Or.inl ⟨by rfl, ?hyz82⟩) (by first | assumption | exact trivial) ?restz82
                case hyz82 => intro W hSW; have z3 := (KeptN.cell hSW HPl.out 0).trans x0; go_simp; try (with_reducible rfl)
                simp only [Act.put, List.getElem_toArray, List.getElem_cons_succ, List.getElem_cons_zero, List.setIfInBounds_toArray, List.set_cons_zero, List.set_cons_succ]
                refine wpAnyH_ready (rs := [4]) (by kernel_rfl) (by simp) ?_
                refine AllReadyH.cons rfl (fun K hK => ?_) AllReadyH.nil
                go_simp
                go_wp2_with (go_at_call 15; refine (HN.out wr.drew ((Below.refl _ wr).drew)).mono ?_; rintro e w' ⟨rfl, rfl⟩)
                refine hK.out _ _ ((Below.refl _ wr).drew) (fun hHeld => ?_)
                clear hK K
                refine wpAnyH_take (i := 5) (v := ?vz83) rfl (by kernel_rfl) (by kernel_rfl) (by kernel_rfl) (fun _ _ _ h => h) (Or.inl ⟨by rfl, ?hyz83⟩) (by first | assumption | exact trivial) ?restz83
                case hyz83 => intro W hSW; go_simp; try (with_reducible rfl)
                simp only [Act.put, List.getElem_toArray, List.getElem_cons_succ, List.getElem_cons_zero, List.setIfInBounds_toArray, List.set_cons_zero, List.set_cons_succ]
                refine wpAnyH_take (i := 6) (v := ?vz84) rfl (by kernel_rfl) (by kernel_rfl) (by kernel_rfl) (fun _ _ _ h => h) (Or.inl ⟨by rfl, ?hyz84⟩) (by first | assumption | exact trivial) ?restz84
                case hyz84 => intro W hSW; go_simp; try (with_reducible rfl)
                simp only [Act.put, List.getElem_toArray, List.getElem_cons_succ, List.getElem_cons_zero, List.setIfInBounds_toArray, List.set_cons_zero, List.set_cons_succ]
                refine wpAnyH_take (i := 7) (v := ?vz85) rfl (by kernel_rfl) (by kernel_rfl) (by kernel_rfl) (fun _ _ _ h => h) (Or.inl ⟨by rfl, ?hyz85⟩) (by first | assumption | exact trivial) ?restz85
                case hyz85 => intro W hSW; go_simp; try (with_reducible rfl)
                simp only [Act.put, List.getElem_toArray, List.getElem_cons_succ, List.getElem_cons_zero, List.setIfInBounds_toArray, List.set_cons_zero, List.set_cons_succ]
                refine wpAnyH_take (i := 8) (v := ?vz86) rfl (by kernel_rfl) (by kernel_rfl) (by kernel_rfl) (fun _ _ _ h => h) (Or.inl ⟨by rfl, ?hyz86⟩) (by first | assumption | exact trivial) ?restz86
                case hyz86 => intro W hSW; go_simp; try (with_reducible rfl)
                simp only [Act.put, List.getElem_toArray, List.getElem_cons_succ, List.getElem_cons_zero, List.setIfInBounds_toArray, List.set_cons_zero, List.set_cons_succ]
                refine wpAnyH_take (i := 9) (v := ?vz87) rfl (by kernel_rfl) (by kernel_rfl) (by kernel_rfl) (fun _ _ _ h => h) (Or.inl ⟨by rfl, ?hyz87⟩) (by first | assumption | exact trivial) ?restz87
                case hyz87 => intro W hSW; go_simp; try (with_reducible rfl)
                simp only [Act.put, List.getElem_toArray, List.getElem_cons_succ, List.getElem_cons_zero, List.setIfInBounds_toArray, List.set_cons_zero, List.set_cons_succ]
                refine wpAnyH_take (i := 10) (v := ?vz88) rfl (by kernel_rfl) (by kernel_rfl) (by kernel_rfl) (fun _ _ _ h => h) (Or.inl ⟨by rfl, ?hyz88⟩) (by first | assumption | exact trivial) ?restz88
                case hyz88 => intro W hSW; have z10 := (KeptN.cell hSW HPl.out 4).trans x4; go_simp; try (with_reducible rfl)
                simp only [Act.put, List.getElem_toArray, List.getElem_cons_succ, List.getElem_cons_zero, List.setIfInBounds_toArray, List.set_cons_zero, List.set_cons_succ]
                refine wpAnyH_take (i := 11) (v := ?vz89) rfl (by kernel_rfl) (by kernel_rfl) (by kernel_rfl) (fun _ _ _ h => h) (Or.inl ⟨by rfl, ?hyz89⟩) (by first | assumption | exact trivial) ?restz89
                case hyz89 => intro W hSW; go_simp; try (with_reducible rfl)
                simp only [Act.put, List.getElem_toArray, List.getElem_cons_succ, List.getElem_cons_zero, List.setIfInBounds_toArray, List.set_cons_zero, List.set_cons_succ]
                refine wpAnyH_take (i := 12) (v := ?vz90) rfl (by kernel_rfl) (by kernel_rfl) (by kernel_rfl) (fun _ _ _ h => h) (Or.inl ⟨by rfl, ?hyz90⟩) (by first | assumption | exact trivial) ?restz90
                case hyz90 => intro W hSW; go_simp; try (with_reducible rfl)
                simp only [Act.put, List.getElem_toArray, List.getElem_cons_succ, List.getElem_cons_zero, List.setIfInBounds_toArray, List.set_cons_zero, List.set_cons_succ]
                refine wpAnyH_take (i := 13) (v := ?vz91) rfl (by kernel_rfl) (by kernel_rfl) (by kernel_rfl) (fun _ _ _ h => h) (Or.inl ⟨by rfl, ?hyz91⟩) (by first | assumption | exact trivial) ?restz91
                case hyz91 => intro W hSW; go_simp; try (with_reducible rfl)
                simp only [Act.put, List.getElem_toArray, List.getElem_cons_succ, List.getElem_cons_zero, List.setIfInBounds_toArray, List.set_cons_zero, List.set_cons_succ]
                refine wpAnyH_take (i := 14) (v := ?vz92) rfl (by kernel_rfl) (by kernel_rfl) (by kernel_rfl) (fun _ _ _ h => h) (Or.inl ⟨by rfl, ?hyz92⟩) (by first | assumption | exact trivial) ?restz92
                case hyz92 => intro W hSW; have z14 := (KeptN.cell hSW HPl.out 2).trans x2; go_simp; try (with_reducible rfl)
                simp only [Act.put, List.getElem_toArray, List.getElem_cons_succ, List.getElem_cons_zero, List.setIfInBounds_toArray, List.set_cons_zero, List.set_cons_succ]
                refine wpAnyH_ready (rs := [15]) (by kernel_rfl) (by simp) ?_
                refine AllReadyH.cons rfl (fun K hK => ?_) AllReadyH.nil
                go_simp
                go_wp2_with (go_at_call 19; refine (HS.out wr.drew ((Below.refl _ wr).drew)).mono ?_; rintro e w2 ⟨rfl, b2⟩)
                have S2 : KeptN wr w2 := Below.trans ((Below.refl _ wr).drew) b2.out
                refine hK.out _ _ (S2) (fun hHeld => ?_)
                clear hK K
                refine wpAnyH_take (i := 16) (v := ?vz93) rfl (by kernel_rfl) (by kernel_rfl) (by kernel_rfl) (fun _ _ _ h => h) (Or.inl ⟨by rfl, ?hyz93⟩) (by first | assumption | exact trivial) ?restz93
                case hyz93 => intro W hSW; go_simp; try (with_reducible rfl)
                simp only [Act.put, List.getElem_toArray, List.getElem_cons_succ, List.getElem_cons_zero, List.setIfInBounds_toArray, List.set_cons_zero, List.set_cons_succ]
                refine wpAnyH_take (i := 17) (v := ?vz94) rfl (by kernel_rfl) (by kernel_rfl) (by kernel_rfl) (fun _ _ _ h => h) (Or.inl ⟨by rfl, ?hyz94⟩) (by first | assumption | exact trivial) ?restz94
                case hyz94 => intro W hSW; go_simp; try (with_reducible rfl)
                simp only [Act.put, List.getElem_toArray, List.getElem_cons_succ, List.getElem_cons_zero, List.setIfInBounds_toArray, List.set_cons_zero, List.set_cons_succ]
                refine wpAnyH_take (i := 18) (v := ?vz95) rfl (by kernel_rfl) (by kernel_rfl) (by kernel_rfl) (fun _ _ _ h => h) (Or.inl ⟨by rfl, ?hyz95⟩) (by first | assumption | exact trivial) ?restz95
                case hyz95 => intro W hSW; go_simp; try (with_reducible rfl)
                simp only [Act.put, List.getElem_toArray, List.getElem_cons_succ, List.getElem_cons_zero, List.setIfInBounds_toArray, List.set_cons_zero, List.set_cons_succ]
                refine wpAnyH_take (i := 19) (v := ?vz96) rfl (by kernel_rfl) (by kernel_rfl) (by kernel_rfl) (fun _ _ _ h => h) (Or.inl ⟨by rfl, ?hyz96⟩) (by first | assumption | exact trivial) ?restz96
                case hyz96 => intro W hSW; go_simp; try (with_reducible rfl)
                simp only [Act.put, List.getElem_toArray, List.getElem_cons_succ, List.getElem_cons_zero, List.setIfInBounds_toArray, List.set_cons_zero, List.set_cons_succ]
                refine wpAnyH_take (i := 20) (v := ?vz97) rfl (by kernel_rfl) (by kernel_rfl) (by kernel_rfl) (fun _ _ _ h => h) (Or.inl ⟨by rfl, ?hyz97⟩) (by first | assumption | exact trivial) ?restz97
                case hyz97 => intro W hSW; go_simp; try (with_reducible rfl)
                simp only [Act.put, List.getElem_toArray, List.getElem_cons_succ, List.getElem_cons_zero, List.setIfInBounds_toArray, List.set_cons_zero, List.set_cons_succ]
                refine wpAnyH_take (i := 21) (v := ?vz98) rfl (by kernel_rfl) (by kernel_rfl) (by kernel_rfl) (fun _ _ _ h => h) (Or.inl ⟨by rfl, ?hyz98⟩) (by first | assumption | exact trivial) ?restz98
                case hyz98 => intro W hSW; have z21 := (KeptN.cell hSW HPl.out 1).trans x1; go_simp; try (with_reducible rfl)
                simp only [Act.put, List.getElem_toArray, List.getElem_cons_succ, List.getElem_cons_zero, List.setIfInBounds_toArray, List.set_cons_zero, List.set_cons_succ]
                refine wpAnyH_ready (rs := [22]) (by kernel_rfl) (by simp) ?_
                refine AllReadyH.cons rfl (fun K hK => ?_) AllReadyH.nil
                go_simp
                go_wp2_with (go_at_call 20; refine (HK.out w2 S2).mono ?_; rintro e w3 ⟨v3, rfl, ho3, b3⟩; obtain ⟨Ak, ck, rfl, _, _, _, _, _⟩ := Mi.Own.form ho3.out)
                have S3 : KeptN wr w3 := Below.trans S2 (b3.out.mono (Below.size S2))
                refine hK.out _ _ (S3) (fun hHeld => ?_)
                clear hK K
                refine wpAnyH_take (i := 23) (v := ?vz99) rfl (by kernel_rfl) (by kernel_rfl) (by kernel_rfl) (fun _ _ _ h => h) (Or.inl ⟨by rfl, ?hyz99⟩) (by first | assumption | exact trivial) ?restz99
                case hyz99 => intro W hSW; go_simp; try (with_reducible rfl)
                simp only [Act.put, List.getElem_toArray, List.getElem_cons_succ, List.getElem_cons_zero, List.setIfInBounds_toArray, List.set_cons_zero, List.set_cons_succ]
                refine wpAnyH_take (i := 24) (v := ?vz100) rfl (by kernel_rfl) (by kernel_rfl) (by kernel_rfl) (fun _ _ _ h => h) (Or.inl ⟨by rfl, ?hyz100⟩) (by first | assumption | exact trivial) ?restz100
                case hyz100 => intro W hSW; go_simp; try (with_reducible rfl)
                simp only [Act.put, List.getElem_toArray, List.getElem_cons_succ, List.getElem_cons_zero, List.setIfInBounds_toArray, List.set_cons_zero, List.set_cons_succ]
                refine wpAnyH_take (i := 25) (v := ?vz101) rfl (by kernel_rfl) (by kernel_rfl) (by kernel_rfl) (fun _ _ _ h => h) (Or.inl ⟨by rfl, ?hyz101⟩) (by first | assumption | exact trivial) ?restz101
                case hyz101 => intro W hSW; go_simp; try (with_reducible rfl)
                simp only [Act.put, List.getElem_toArray, List.getElem_cons_succ, List.getElem_cons_zero, List.setIfInBounds_toArray, List.set_cons_zero, List.set_cons_succ]
                refine wpAnyH_take (i := 26) (v := ?vz102) rfl (by kernel_rfl) (by kernel_rfl) (by kernel_rfl) (fun _ _ _ h => h) (Or.inl ⟨by rfl, ?hyz102⟩) (by first | assumption | exact trivial) ?restz102
                case hyz102 => intro W hSW; go_simp; try (with_reducible rfl)
                simp only [Act.put, List.getElem_toArray, List.getElem_cons_succ, List.getElem_cons_zero, List.setIfInBounds_toArray, List.set_cons_zero, List.set_cons_succ]
                refine wpAnyH_ready (rs := [27]) (by kernel_rfl) (by simp) ?_
                refine AllReadyH.cons rfl (fun K hK => ?_) AllReadyH.nil
                go_simp
                go_wp2_with (go_at_call 8; refine (awake_any w3).mono ?_; rintro e w4 ⟨rfl, b4⟩)
                have S4 : KeptN wr w4 := Below.trans S3 (b4.out.mono (Below.size S3))
                refine hK.out _ _ (S4) (fun hHeld => ?_)
                clear hK K
                refine wpAnyH_take (i := 28) (v := ?vz103) rfl (by kernel_rfl) (by kernel_rfl) (by kernel_rfl) (fun _ _ _ h => h) (Or.inl ⟨by rfl, ?hyz103⟩) (by first | assumption | exact trivial) ?restz103
                case hyz103 => intro W hSW; go_simp; try (with_reducible rfl)
                simp only [Act.put, List.getElem_toArray, List.getElem_cons_succ, List.getElem_cons_zero, List.setIfInBounds_toArray, List.set_cons_zero, List.set_cons_succ]
                refine wpAnyH_take (i := 29) (v := ?vz104) rfl (by kernel_rfl) (by kernel_rfl) (by kernel_rfl) (fun _ _ _ h => h) (Or.inl ⟨by rfl, ?hyz104⟩) (by first | assumption | exact trivial) ?restz104
                case hyz104 => intro W hSW; go_simp; try (with_reducible rfl)
                simp only [Act.put, List.getElem_toArray, List.getElem_cons_succ, List.getElem_cons_zero, List.setIfInBounds_toArray, List.set_cons_zero, List.set_cons_succ]
                refine wpAnyH_done (by kernel_rfl) ?_ _
                have HB4 : Hid (Below w.heap.size w w4) := HYB.out.trans (Below.mono S4 HYB.out.size)
                clear S2 S3 S4 b2 b3 b4 ho3
                go_wp2
                go_ret
                exact ⟨rfl, HB4.out⟩
              · have g3 : ¬ (q : Int) ≤ 64 := by omega
                clear hin
                go_wp2
                refine wp_region_held_drew (S := KeptN wr) (by kernel_rfl) ((Below.refl _ wr).drew) (fun hHeld => ?_)
                refine wpAnyH_take (i := 0) (v := ?vz105) rfl (by kernel_rfl) (by kernel_rfl) (by kernel_rfl) (fun _ _ _ h => h) (Or.inl ⟨by rfl, ?hyz105⟩) (by first | assumption | exact trivial) ?restz105
                case hyz105 => intro W hSW; go_simp; try (with_reducible rfl)
                simp only [Act.put, List.getElem_toArray, List.getElem_cons_succ, List.getElem_cons_zero, List.setIfInBounds_toArray, List.set_cons_zero, List.set_cons_succ]
                refine wpAnyH_take (i := 1) (v := ?vz106) rfl (by kernel_rfl) (by kernel_rfl) (by kernel_rfl) (fun _ _ _ h => h) (Or.inl ⟨by rfl, ?hyz106⟩) (by first | assumption | exact trivial) ?restz106
                case hyz106 => intro W hSW; go_simp; try (with_reducible rfl)
                simp only [Act.put, List.getElem_toArray, List.getElem_cons_succ, List.getElem_cons_zero, List.setIfInBounds_toArray, List.set_cons_zero, List.set_cons_succ]
                refine wpAnyH_take (i := 2) (v := ?vz107) rfl (by kernel_rfl) (by kernel_rfl) (by kernel_rfl) (fun _ _ _ h => h) (Or.inl ⟨by rfl, ?hyz107⟩) (by first | assumption | exact trivial) ?restz107
                case hyz107 => intro W hSW; go_simp; try (with_reducible rfl)
                simp only [Act.put, List.getElem_toArray, List.getElem_cons_succ, List.getElem_cons_zero, List.setIfInBounds_toArray, List.set_cons_zero, List.set_cons_succ]
                refine wpAnyH_take (i := 3) (v := ?vz108) rfl (by kernel_rfl) (by kernel_rfl) (by kernel_rfl) (fun _ _ _ h => h) (Or.inl ⟨by rfl, ?hyz108⟩) (by first | assumption | exact trivial) ?restz108
                case hyz108 => intro W hSW; have z3 := (KeptN.cell hSW HPl.out 0).trans x0; go_simp; try (with_reducible rfl)
                simp only [Act.put, List.getElem_toArray, List.getElem_cons_succ, List.getElem_cons_zero, List.setIfInBounds_toArray, List.set_cons_zero, List.set_cons_succ]
                refine wpAnyH_ready (rs := [4]) (by kernel_rfl) (by simp) ?_
                refine AllReadyH.cons rfl (fun K hK => ?_) AllReadyH.nil
                go_simp
                go_wp2_with (go_at_call 15; refine (HN.out wr.drew ((Below.refl _ wr).drew)).mono ?_; rintro e w' ⟨rfl, rfl⟩)
                refine hK.out _ _ ((Below.refl _ wr).drew) (fun hHeld => ?_)
                clear hK K
                refine wpAnyH_take (i := 5) (v := ?vz109) rfl (by kernel_rfl) (by kernel_rfl) (by kernel_rfl) (fun _ _ _ h => h) (Or.inl ⟨by rfl, ?hyz109⟩) (by first | assumption | exact trivial) ?restz109
                case hyz109 => intro W hSW; go_simp; try (with_reducible rfl)
                simp only [Act.put, List.getElem_toArray, List.getElem_cons_succ, List.getElem_cons_zero, List.setIfInBounds_toArray, List.set_cons_zero, List.set_cons_succ]
                refine wpAnyH_take (i := 6) (v := ?vz110) rfl (by kernel_rfl) (by kernel_rfl) (by kernel_rfl) (fun _ _ _ h => h) (Or.inl ⟨by rfl, ?hyz110⟩) (by first | assumption | exact trivial) ?restz110
                case hyz110 => intro W hSW; go_simp; try (with_reducible rfl)
                simp only [Act.put, List.getElem_toArray, List.getElem_cons_succ, List.getElem_cons_zero, List.setIfInBounds_toArray, List.set_cons_zero, List.set_cons_succ]
                refine wpAnyH_take (i := 7) (v := ?vz111) rfl (by kernel_rfl) (by kernel_rfl) (by kernel_rfl) (fun _ _ _ h => h) (Or.inl ⟨by rfl, ?hyz111⟩) (by first | assumption | exact trivial) ?restz111
                case hyz111 => intro W hSW; go_simp; try (with_reducible rfl)
                simp only [Act.put, List.getElem_toArray, List.getElem_cons_succ, List.getElem_cons_zero, List.setIfInBounds_toArray, List.set_cons_zero, List.set_cons_succ]
                refine wpAnyH_take (i := 8) (v := ?vz112) rfl (by kernel_rfl) (by kernel_rfl) (by kernel_rfl) (fun _ _ _ h => h) (Or.inl ⟨by rfl, ?hyz112⟩) (by first | assumption | exact trivial) ?restz112
                case hyz112 => intro W hSW; go_simp; try (with_reducible rfl)
                simp only [Act.put, List.getElem_toArray, List.getElem_cons_succ, List.getElem_cons_zero, List.setIfInBounds_toArray, List.set_cons_zero, List.set_cons_succ]
                refine wpAnyH_take (i := 9) (v := ?vz113) rfl (by kernel_rfl) (by kernel_rfl) (by kernel_rfl) (fun _ _ _ h => h) (Or.inl ⟨by rfl, ?hyz113⟩) (by first | assumption | exact trivial) ?restz113
                case hyz113 => intro W hSW; go_simp; try (with_reducible rfl)
                simp only [Act.put, List.getElem_toArray, List.getElem_cons_succ, List.getElem_cons_zero, List.setIfInBounds_toArray, List.set_cons_zero, List.set_cons_succ]
                refine wpAnyH_take (i := 10) (v := ?vz114) rfl (by kernel_rfl) (by kernel_rfl) (by kernel_rfl) (fun _ _ _ h => h) (Or.inl ⟨by rfl, ?hyz114⟩) (by first | assumption | exact trivial) ?restz114
                case hyz114 => intro W hSW; have z10 := (KeptN.cell hSW HPl.out 4).trans x4; go_simp; try (with_reducible rfl)
                simp only [Act.put, List.getElem_toArray, List.getElem_cons_succ, List.getElem_cons_zero, List.setIfInBounds_toArray, List.set_cons_zero, List.set_cons_succ]
                refine wpAnyH_take (i := 11) (v := ?vz115) rfl (by kernel_rfl) (by kernel_rfl) (by kernel_rfl) (fun _ _ _ h => h) (Or.inl ⟨by rfl, ?hyz115⟩) (by first | assumption | exact trivial) ?restz115
                case hyz115 => intro W hSW; go_simp; try (with_reducible rfl)
                simp only [Act.put, List.getElem_toArray, List.getElem_cons_succ, List.getElem_cons_zero, List.setIfInBounds_toArray, List.set_cons_zero, List.set_cons_succ]
                refine wpAnyH_take (i := 12) (v := ?vz116) rfl (by kernel_rfl) (by kernel_rfl) (by kernel_rfl) (fun _ _ _ h => h) (Or.inl ⟨by rfl, ?hyz116⟩) (by first | assumption | exact trivial) ?restz116
                case hyz116 => intro W hSW; go_simp; try (with_reducible rfl)
                simp only [Act.put, List.getElem_toArray, List.getElem_cons_succ, List.getElem_cons_zero, List.setIfInBounds_toArray, List.set_cons_zero, List.set_cons_succ]
                refine wpAnyH_take (i := 13) (v := ?vz117) rfl (by kernel_rfl) (by kernel_rfl) (by kernel_rfl) (fun _ _ _ h => h) (Or.inl ⟨by rfl, ?hyz117⟩) (by first | assumption | exact trivial) ?restz117
                case hyz117 => intro W hSW; go_simp; try (with_reducible rfl)
                simp only [Act.put, List.getElem_toArray, List.getElem_cons_succ, List.getElem_cons_zero, List.setIfInBounds_toArray, List.set_cons_zero, List.set_cons_succ]
                refine wpAnyH_take (i := 14) (v := ?vz118) rfl (by kernel_rfl) (by kernel_rfl) (by kernel_rfl) (fun _ _ _ h => h) (Or.inl ⟨by rfl, ?hyz118⟩) (by first | assumption | exact trivial) ?restz118
                case hyz118 => intro W hSW; have z14 := (KeptN.cell hSW HPl.out 2).trans x2; go_simp; try (with_reducible rfl)
                simp only [Act.put, List.getElem_toArray, List.getElem_cons_succ, List.getElem_cons_zero, List.setIfInBounds_toArray, List.set_cons_zero, List.set_cons_succ]
                refine wpAnyH_ready (rs := [15]) (by kernel_rfl) (by simp) ?_
                refine AllReadyH.cons rfl (fun K hK => ?_) AllReadyH.nil
                go_simp
                go_wp2_with (go_at_call 19; refine (HS.out wr.drew ((Below.refl _ wr).drew)).mono ?_; rintro e w2 ⟨rfl, b2⟩)
                have S2 : KeptN wr w2 := Below.trans ((Below.refl _ wr).drew) b2.out
                refine hK.out _ _ (S2) (fun hHeld => ?_)
                clear hK K
                refine wpAnyH_take (i := 16) (v := ?vz119) rfl (by kernel_rfl) (by kernel_rfl) (by kernel_rfl) (fun _ _ _ h => h) (Or.inl ⟨by rfl, ?hyz119⟩) (by first | assumption | exact trivial) ?restz119
                case hyz119 => intro W hSW; go_simp; try (with_reducible rfl)
                simp only [Act.put, List.getElem_toArray, List.getElem_cons_succ, List.getElem_cons_zero, List.setIfInBounds_toArray, List.set_cons_zero, List.set_cons_succ]
                refine wpAnyH_take (i := 17) (v := ?vz120) rfl (by kernel_rfl) (by kernel_rfl) (by kernel_rfl) (fun _ _ _ h => h) (Or.inl ⟨by rfl, ?hyz120⟩) (by first | assumption | exact trivial) ?restz120
                case hyz120 => intro W hSW; go_simp; try (with_reducible rfl)
                simp only [Act.put, List.getElem_toArray, List.getElem_cons_succ, List.getElem_cons_zero, List.setIfInBounds_toArray, List.set_cons_zero, List.set_cons_succ]
                refine wpAnyH_take (i := 18) (v := ?vz121) rfl (by kernel_rfl) (by kernel_rfl) (by kernel_rfl) (fun _ _ _ h => h) (Or.inl ⟨by rfl, ?hyz121⟩) (by first | assumption | exact trivial) ?restz121
                case hyz121 => intro W hSW; go_simp; try (with_reducible rfl)
                simp only [Act.put, List.getElem_toArray, List.getElem_cons_succ, List.getElem_cons_zero, List.setIfInBounds_toArray, List.set_cons_zero, List.set_cons_succ]
                refine wpAnyH_take (i := 19) (v := ?vz122) rfl (by kernel_rfl) (by kernel_rfl) (by kernel_rfl) (fun _ _ _ h => h) (Or.inl ⟨by rfl, ?hyz122⟩) (by first | assumption | exact trivial) ?restz122
                case hyz122 => intro W hSW; go_simp; try (with_reducible rfl)
                simp only [Act.put, List.getElem_toArray, List.getElem_cons_succ, List.getElem_cons_zero, List.setIfInBounds_toArray, List.set_cons_zero, List.set_cons_succ]
                refine wpAnyH_take (i := 20) (v := ?vz123) rfl (by kernel_rfl) (by kernel_rfl) (by kernel_rfl) (fun _ _ _ h => h) (Or.inl ⟨by rfl, ?hyz123⟩) (by first | assumption | exact trivial) ?restz123
                case hyz123 => intro W hSW; go_simp; try (with_reducible rfl)
                simp only [Act.put, List.getElem_toArray, List.getElem_cons_succ, List.getElem_cons_zero, List.setIfInBounds_toArray, List.set_cons_zero, List.set_cons_succ]
                refine wpAnyH_take (i := 21) (v := ?vz124) rfl (by kernel_rfl) (by kernel_rfl) (by kernel_rfl) (fun _ _ _ h => h) (Or.inl ⟨by rfl, ?hyz124⟩) (by first | assumption | exact trivial) ?restz124
                case hyz124 => intro W hSW; have z21 := (KeptN.cell hSW HPl.out 1).trans x1; go_simp; try (with_reducible rfl)
                simp only [Act.put, List.getElem_toArray, List.getElem_cons_succ, List.getElem_cons_zero, List.setIfInBounds_toArray, List.set_cons_zero, List.set_cons_succ]
                refine wpAnyH_ready (rs := [22]) (by kernel_rfl) (by simp) ?_
                refine AllReadyH.cons rfl (fun K hK => ?_) AllReadyH.nil
                go_simp
                go_wp2_with (go_at_call 20; refine (HK.out w2 S2).mono ?_; rintro e w3 ⟨v3, rfl, ho3, b3⟩; obtain ⟨Ak, ck, rfl, _, _, _, _, _⟩ := Mi.Own.form ho3.out)
                have S3 : KeptN wr w3 := Below.trans S2 (b3.out.mono (Below.size S2))
                refine hK.out _ _ (S3) (fun hHeld => ?_)
                clear hK K
                refine wpAnyH_take (i := 23) (v := ?vz125) rfl (by kernel_rfl) (by kernel_rfl) (by kernel_rfl) (fun _ _ _ h => h) (Or.inl ⟨by rfl, ?hyz125⟩) (by first | assumption | exact trivial) ?restz125
                case hyz125 => intro W hSW; go_simp; try (with_reducible rfl)
                simp only [Act.put, List.getElem_toArray, List.getElem_cons_succ, List.getElem_cons_zero, List.setIfInBounds_toArray, List.set_cons_zero, List.set_cons_succ]
                refine wpAnyH_take (i := 24) (v := ?vz126) rfl (by kernel_rfl) (by kernel_rfl) (by kernel_rfl) (fun _ _ _ h => h) (Or.inl ⟨by rfl, ?hyz126⟩) (by first | assumption | exact trivial) ?restz126
                case hyz126 => intro W hSW; go_simp; try (with_reducible rfl)
                simp only [Act.put, List.getElem_toArray, List.getElem_cons_succ, List.getElem_cons_zero, List.setIfInBounds_toArray, List.set_cons_zero, List.set_cons_succ]
                refine wpAnyH_take (i := 25) (v := ?vz127) rfl (by kernel_rfl) (by kernel_rfl) (by kernel_rfl) (fun _ _ _ h => h) (Or.inl ⟨by rfl, ?hyz127⟩) (by first | assumption | exact trivial) ?restz127
                case hyz127 => intro W hSW; go_simp; try (with_reducible rfl)
                simp only [Act.put, List.getElem_toArray, List.getElem_cons_succ, List.getElem_cons_zero, List.setIfInBounds_toArray, List.set_cons_zero, List.set_cons_succ]
                refine wpAnyH_take (i := 26) (v := ?vz128) rfl (by kernel_rfl) (by kernel_rfl) (by kernel_rfl) (fun _ _ _ h => h) (Or.inl ⟨by rfl, ?hyz128⟩) (by first | assumption | exact trivial) ?restz128
                case hyz128 => intro W hSW; go_simp; try (with_reducible rfl)
                simp only [Act.put, List.getElem_toArray, List.getElem_cons_succ, List.getElem_cons_zero, List.setIfInBounds_toArray, List.set_cons_zero, List.set_cons_succ]
                refine wpAnyH_ready (rs := [27]) (by kernel_rfl) (by simp) ?_
                refine AllReadyH.cons rfl (fun K hK => ?_) AllReadyH.nil
                go_simp
                go_wp2_with (go_at_call 8; refine (awake_any w3).mono ?_; rintro e w4 ⟨rfl, b4⟩)
                have S4 : KeptN wr w4 := Below.trans S3 (b4.out.mono (Below.size S3))
                refine hK.out _ _ (S4) (fun hHeld => ?_)
                clear hK K
                refine wpAnyH_take (i := 28) (v := ?vz129) rfl (by kernel_rfl) (by kernel_rfl) (by kernel_rfl) (fun _ _ _ h => h) (Or.inl ⟨by rfl, ?hyz129⟩) (by first | assumption | exact trivial) ?restz129
                case hyz129 => intro W hSW; go_simp; try (with_reducible rfl)
                simp only [Act.put, List.getElem_toArray, List.getElem_cons_succ, List.getElem_cons_zero, List.setIfInBounds_toArray, List.set_cons_zero, List.set_cons_succ]
                refine wpAnyH_take (i := 29) (v := ?vz130) rfl (by kernel_rfl) (by kernel_rfl) (by kernel_rfl) (fun _ _ _ h => h) (Or.inl ⟨by rfl, ?hyz130⟩) (by first | assumption | exact trivial) ?restz130
                case hyz130 => intro W hSW; go_simp; try (with_reducible rfl)
                simp only [Act.put, List.getElem_toArray, List.getElem_cons_succ, List.getElem_cons_zero, List.setIfInBounds_toArray, List.set_cons_zero, List.set_cons_succ]
                refine wpAnyH_done (by kernel_rfl) ?_ _
                have HB4 : Hid (Below w.heap.size w w4) := HYB.out.trans (Below.mono S4 HYB.out.size)
                clear S2 S3 S4 b2 b3 b4 ho3
                go_wp2
                go_ret
                exact ⟨rfl, HB4.out⟩
end Go.Proofs.Ytnfjfcoonabmmaa.Rv
