/- The contract of the law's step that sends once more. -/
import Derived.Test.YtnfjfcoonabmmaaRvSend
namespace Go.Proofs.Ytnfjfcoonabmmaa.Rv
open Go.RowKit
open Go.Proofs.Ytnfjfcoonabmmaa.Me Go.Proofs.Ytnfjfcoonabmmaa.Hd Go.Proofs.Ytnfjfcoonabmmaa.Sn
set_option linter.unusedVariables false
set_option linter.unusedSimpArgs false

/-- A number under way, and its payload. -/
theorem Pst.again {n : Nat} {x : Pr} (h : Pst n x) {t : Nat} (ht : t < x.s.under) : againE x.s (((x.g + t) % 128 : Nat) : Int) = 0 ∧ againP x.s (((x.g + t) % 128 : Nat) : Int) = lsAt x.ps (x.g + t) := by
  have hu := h.under
  have h63 := h.n63
  have hway : wayOf x.s (((x.g + t) % 128 : Nat) : Int) = t := by
    unfold wayOf
    rw [h.gone.2.2]
    omega
  have he : againE x.s (((x.g + t) % 128 : Nat) : Int) = 0 := by
    unfold againE
    rw [if_neg (by omega), if_neg (by rw [hway]; omega)]
  refine ⟨he, ?_⟩
  unfold againP
  rw [if_pos he, hway, h.gone.2.1, lsAt_drop]
theorem rem_nat (N : Int) (u : Nat) (h0 : 0 < u) (h1 : u ≤ 1000) : ∃ t : Nat, wrap64 ((IntKind.u64.wrap N).tmod (u : Int)) = (t : Int) ∧ t < u := by
  obtain ⟨a, ha⟩ : ∃ a : Nat, IntKind.u64.wrap N = (a : Int) := by
    refine ⟨(IntKind.u64.wrap N).toNat, ?_⟩
    simp [IntKind.wrap, IntKind.bits, IntKind.signed]
    omega
  refine ⟨a % u, ?_, Nat.mod_lt _ h0⟩
  have h2 := Nat.mod_lt a h0
  rw [ha, ← Int.ofNat_tmod]
  exact Mi.fits (Mi.small (by omega) (by omega))
set_option maxRecDepth 100000 in
set_option maxHeartbeats 4000000 in
theorem step_again (M : Nat) (w : World) (P Ds D mb n : Nat) (x : Pr) (h : Hid (PM M w P Ds D mb n x)) (h300 : Hid (x.ps.length ≤ 300)) (N : Int) :
    Calls Try.prog 13 #[.pointer (some ⟨P, 0, none⟩), .agg #[.int .i64 3, .int .i64 N]] w fun e w' => (∃ v, e = .returned v) ∧ Hid (∃ r' W', PM M w' P Ds D mb n ⟨x.s, r', x.ps, x.g, W'⟩ ∧ x.W ≤ W') ∧ Hid (Below M w w') := by
  obtain ⟨hst, G, A1, c1, v2, A3, c3, hpm⟩ := h.out
  have HB : Below w.heap.size w (w.alloc (.cells #[.int .i64 3, .int .i64 N] 43)) := Me.below_alloc (Below.refl _ _)
  have HPA := Lib.hid (hpm.below HB)
  have HB0 : Hid (Below M w (w.alloc (.cells #[.int .i64 3, .int .i64 N] 43))) := HB.mono hpm.hM
  have hrow : (w.alloc (.cells #[.int .i64 3, .int .i64 N] 43)).cell? ⟨w.heap.size, 0, none⟩ = some (.int .i64 3) := cell_of_row _ _ 0 _ _ (0, 0) (heap_alloc_new w _)
  have hrow1 : (w.alloc (.cells #[.int .i64 3, .int .i64 N] 43)).cell? ⟨w.heap.size, 1, none⟩ = some (.int .i64 N) := cell_of_row _ _ 1 _ _ (0, 0) (heap_alloc_new w _)
  have HST := Lib.hid hst
  have e0 : (w.alloc (.cells #[.int .i64 3, .int .i64 N] 43)).cell? ⟨P, 0, none⟩ = some (.pointer (some ⟨Ds, 0, none⟩)) := HPA.out.cell 0
  have HBlt : Hid (w.heap.size < (w.alloc (.cells #[.int .i64 3, .int .i64 N] 43)).heap.size) := by show _ < _; simp
  obtain ⟨WA, hWA⟩ : ∃ WA, w.alloc (.cells #[.int .i64 3, .int .i64 N] 43) = WA := ⟨_, rfl⟩
  rw [hWA] at HPA HB0 e0 hrow hrow1 HBlt
  have HUn := Lib.hid (Under_s M G WA Ds x.s (Lib.hid HPA.out.sn) (Lib.hid hst.sok))
  have hgl := Wn.goes_length (x.s.base : Int) x.s.under
  obtain ⟨u, hu⟩ : ∃ u, x.s.under = u := ⟨_, rfl⟩
  have HU := Lib.hid hu
  have hu63 : u ≤ 63 := by have := hst.under; have := hst.n63; omega
  rw [hu] at HUn hgl
  clear HB hpm hst hu
  by_cases hz : u = 0
  · subst hz
    rw [show Wn.goes (x.s.base : Int) 0 = [] from rfl] at HUn
    clear hgl hu63
    go_enter Try.func13, Try.ntmps13
    go_wp2_with (go_at_call 16; refine HUn.out.mono ?_; rintro e w2 ⟨v2u, rfl, ho, hb2⟩; obtain ⟨Au, cu, rfl, _, _, hru, _, _⟩ := Mi.Own.form ho.out)
    go_end0
    exact ⟨⟨_, rfl⟩, ⟨x.r, x.W, ⟨HST.out, G, A1, c1, v2, A3, c3, HPA.out.below hb2.out⟩, Nat.le_refl _⟩, HB0.out.trans (hb2.out.mono HPA.out.hM)⟩
  · have HGL := Lib.hid hgl
    have hu1 : (0 : Int) < (u : Int) := by omega
    obtain ⟨t, hw, htu⟩ := rem_nat N u (by omega) (by omega)
    have ht2 : (t : Int) < (u : Int) := by omega
    have HTU := Lib.hid htu
    obtain ⟨g1, g2⟩ := HST.out.again (t := t) (by rw [HU.out]; exact htu)
    have hm : x.g + t < x.S := by have := HU.out; unfold Pr.S; omega
    have hm63 : x.S ≤ (x.g + t) + 63 := by have := HU.out; unfold Pr.S; omega
    obtain ⟨a1, a2⟩ := HST.out.at_ (m := x.g + t) (by have := HST.out.Sle; omega)
    have HAT : Hid (Mi.at_ (Wn.goes (x.s.base : Int) u) t = (((x.g + t) % 128 : Nat) : Int)) := by
      show _ = _
      rw [Wn.goes_at htu, HST.out.gone.2.2]
      omega
    have HA := Lib.hid (fun (W : World) (hW : Sn M G W Ds x.s) => Again_s M G W Ds x.s (Lib.hid hW) (Lib.hid HST.out.sok) (((x.g + t) % 128 : Nat) : Int))
    rw [g1, g2, a1] at HA
    have HC := Lib.hid (fun (W : World) (hW : Hid (PM M W P Ds D mb n x)) (R : Option Addr) (cr : Nat) (hp : Hid (Me.Rd W W.heap.size R (lsAt x.ps (x.g + t)))) (hA : Hid (R = none → (lsAt x.ps (x.g + t)).length = 0 ∧ cr = 0)) => comes_any M W P Ds D mb n (x.g + t) x hW h300 hm hm63 0 R cr hp hA)
    have HBY := Lib.hid a2
    have HA2 := Lib.hid a1
    obtain ⟨mm, hmm⟩ : ∃ mm, (x.g + t) % 128 = mm := ⟨_, rfl⟩
    rw [hmm] at HAT HA HC
    clear hgl htu g1 g2 hm hm63 a1 a2 hmm
    go_enter Try.func13, Try.ntmps13
    go_wp2_with (first
      | (go_at_call 16; refine HUn.out.mono ?_; rintro e w2 ⟨v2u, rfl, ho, hb2⟩; obtain ⟨Au, cu, rfl, _, _, hru, _, _⟩ := Mi.Own.form ho.out; obtain ⟨b, off, rfl, _, hcs⟩ := hru (by rw [HGL.out]; omega); have hc := hcs t (by rw [HGL.out]; exact HTU.out); rw [HAT.out] at hc; rw [HGL.out]; have r1 := (hb2.out.cell (p := ⟨w.heap.size, 1, none⟩) HBlt.out).trans hrow1; have HP2 := Lib.hid (HPA.out.below hb2.out); have HB2 : Hid (Below M w w2) := HB0.out.trans (hb2.out.mono HPA.out.hM); have q0 : w2.cell? ⟨P, 0, none⟩ = some (.pointer (some ⟨Ds, 0, none⟩)) := HP2.out.cell 0; have HAG := Lib.hid (HA.out w2 HP2.out.sn); clear ho hru hcs hb2)
      | (go_at_call 17; refine HAG.out.mono ?_; rintro e w3 ⟨A, c, rfl, ho3, hb3⟩; have HP3 : Hid (PM M w3 P Ds D mb n x) := ⟨HST.out, G, A1, c1, v2, A3, c3, HP2.out.below hb3.out⟩; have HB3 : Hid (Below M w w3) := HB2.out.trans (hb3.out.mono HP2.out.hM); have ho3' : Me.Own w3 w2.heap.size (.slice A (lsAt x.ps (x.g + t)).length c) (lsAt x.ps (x.g + t)) := (by rw [HA2.out]; exact ho3.out); obtain ⟨z1, z2, _, _⟩ := own_rd ho3' HBY.out; have HCC := Lib.hid (HC.out w3 HP3 A c (Lib.hid z1) (Lib.hid z2)); clear ho3 ho3' z1 z2 hb3)
      | (go_at_call 18; refine HCC.out.mono ?_; rintro e w4 ⟨⟨vv, rfl⟩, hp4, hb4, _⟩))
    go_end0
    obtain ⟨r', W', p1, p2, _⟩ := hp4.out
    exact ⟨⟨_, rfl⟩, ⟨r', W', p1, p2⟩, HB3.out.trans hb4.out⟩
end Go.Proofs.Ytnfjfcoonabmmaa.Rv
