/- The contract of the reference's Parts. -/
import Derived.Test.YtpnmigfgeieggaaStRows
import Derived.Test.YtpnmigfgeieggaaStParts
namespace Go.Proofs.Ytpnmigfgeieggaa.St
open Go.RowKit
open Go.Proofs.Ytpnmigfgeieggaa.Me Go.Proofs.Ytpnmigfgeieggaa.It
set_option linter.unusedVariables false

set_option maxHeartbeats 2000000 in
theorem RParts_any (A : Option Addr) (cap : Nat) (B : Nat) (zs : List Nat) (w : World) (hr : Hid (Rd w B A zs)) (hA : Hid (A = none → zs.length = 0 ∧ cap = 0)) (hB : B ≤ w.heap.size) (hlc : zs.length ≤ cap) (hc : cap ≤ 1048576) :
    Calls Try.prog 17 #[.slice A zs.length cap] w fun e w' => ∃ v, e = .returned v ∧ Hid (RowsOf w' w.heap.size v (done zs (zs.length + 1))) ∧ Hid (Below w.heap.size w w') := by
  have HZ := Lib.hid hr.out.1
  go_enter Try.func17, Try.ntmps17
  go_wp2
  have hown0 : Hid (RowsOf (w.alloc (.cells #[] 22)) w.heap.size (.slice (some ⟨w.heap.size, 0, none⟩) 0 0) []) := RowsOf.lit (Below.refl _ _)
  have hbel0 : Hid (Below w.heap.size w (w.alloc (.cells #[] 22))) := below_alloc (Below.refl _ _)
  go_loopw [3, 4, 5] (fun v f i wr => ∃ k : Nat, k ≤ zs.length + 1 ∧ i = .int .i64 k ∧ f = .int .i64 (frm zs k : Int) ∧ RowsOf wr w.heap.size v (done zs k) ∧ Below w.heap.size w wr) (fun _ _ i _ => zs.length + 1 - (intOf i).toNat)
  case atStart => exact ⟨0, Nat.zero_le _, rfl, rfl, hown0.out, hbel0.out⟩
  case round =>
    obtain ⟨k, hk, rfl, rfl, hown, hbel⟩ := hrel
    have HO := Lib.hid hown
    have HBE := Lib.hid hbel
    have HRD := Lib.hid (hr.out.below (HBE.out.mono hB))
    have hfk := frm_le zs k
    clear hown hbel
    by_cases hle : k ≤ zs.length
    · by_cases hcut : isCut zs k = true
      · obtain ⟨A2, hA2, hr2, hn2⟩ := cut_rd HRD.out hle hlc hA.out
        have HR2 := Lib.hid hr2
        have HN2 := Lib.hid hn2
        have hsl := seg_length hle
        have hdl := done_le zs k
        have HD := Lib.hid (done_cut hcut)
        have HF := Lib.hid (frm_cut hcut)
        have HSb : Hid (∀ z ∈ seg zs k, z < 256) := hr2.1
        obtain ⟨r, hr'⟩ : ∃ r, seg zs k = r := ⟨_, rfl⟩
        obtain ⟨ps, hps⟩ : ∃ ps, done zs k = ps := ⟨_, rfl⟩
        obtain ⟨f, hf⟩ : ∃ f, frm zs k = f := ⟨_, rfl⟩
        rw [hr'] at HR2 HN2 hsl HD HSb
        rw [hps] at HO HD hdl
        rw [hf] at hA2 HN2 hsl hfk ⊢
        have g1 : (f : Int) ≤ (k : Int) := by omega
        have g2 : (k : Int) ≤ (cap : Int) := by omega
        have HSL := Lib.hid hsl
        clear hr2 hn2 hsl
        rcases Nat.lt_or_ge k zs.length with hlt | hge
        · have h126 : by_ zs k = 126 := by
            have h := hcut
            simp only [isCut, Bool.or_eq_true, decide_eq_true_eq] at h
            omega
          obtain ⟨b, off, rfl, hbB, hcs⟩ := HRD.out.2 (by omega)
          have hcell := hcs k hlt
          rw [h126] at hcell
          have hA3 : A2 = some ⟨b, off + f, none⟩ := by
            rw [← hA2, if_neg (by omega)]
            show some (Addr.add ⟨b, off, none⟩ f) = _
            congr 1
            unfold Addr.add; split <;> simp_all
          clear hcs hcut hA2
          subst hA3
          go_wp2_with (first
            | (at_builtin; refine app8 rfl (.tmp 25) (.tmp 29) rfl wr.heap.size B _ [] r rfl (Me.Own.lit (Below.refl _ _)) (below_alloc (Below.refl _ _)) (by simp) (some ⟨b, off + f, none⟩) (cap - f) (by rw [HSL.out]; rfl) (HR2.out.below ((Below.refl _ _).alloc (Nat.le_trans hB HBE.out.size) _)) HN2.out (by have := HSL.out; simp; omega) ?_; intro v2 w2 ho2 hb2 _; obtain ⟨A3, c3, rfl, q1, q2, HH3⟩ := Me.Own.held ho2 (by simpa using HSb.out); have HO2 := Lib.hid (own_more ho2 HBE.out.size); have HB2 := Lib.hid hb2; have HRW := Lib.hid (RowsOf.below HO.out hb2); clear ho2 hb2 HH3)
            | (at_builtin; refine appR rfl (.tmp 24) (.tmp 31) rfl w.heap.size _ ps r A3 c3 rfl w2 rfl HRW.out HO2.out (HBE.out.trans (HB2.out.mono HBE.out.size)) (Nat.le_refl _) rfl rfl (by omega) ?_; intro v4 w4 ho4 hb4; have HO4 := Lib.hid ho4; have HB4 := Lib.hid hb4; clear ho4 hb4))
          go_roundw
          case rel => exact ⟨k + 1, by omega, by go_num, by rw [HF.out]; go_num, by rw [HD.out]; exact HO4.out, HB4.out⟩
          case measure => simp [intOf]; omega
        · obtain rfl : k = zs.length := by omega
          clear hcut
          go_wp2_with (first
            | (at_builtin; refine app8 rfl (.tmp 25) (.tmp 29) rfl wr.heap.size B _ [] r rfl (Me.Own.lit (Below.refl _ _)) (below_alloc (Below.refl _ _)) (by simp) A2 (cap - f) (by rw [HSL.out]; rfl) (HR2.out.below ((Below.refl _ _).alloc (Nat.le_trans hB HBE.out.size) _)) HN2.out (by have := HSL.out; simp; omega) ?_; intro v2 w2 ho2 hb2 _; obtain ⟨A3, c3, rfl, q1, q2, HH3⟩ := Me.Own.held ho2 (by simpa using HSb.out); have HO2 := Lib.hid (own_more ho2 HBE.out.size); have HB2 := Lib.hid hb2; have HRW := Lib.hid (RowsOf.below HO.out hb2); clear ho2 hb2 HH3)
            | (at_builtin; refine appR rfl (.tmp 24) (.tmp 31) rfl w.heap.size _ ps r A3 c3 rfl w2 rfl HRW.out HO2.out (HBE.out.trans (HB2.out.mono HBE.out.size)) (Nat.le_refl _) rfl rfl (by omega) ?_; intro v4 w4 ho4 hb4; have HO4 := Lib.hid ho4; have HB4 := Lib.hid hb4; clear ho4 hb4))
          go_roundw
          case rel => exact ⟨zs.length + 1, by omega, by go_num, by rw [HF.out]; go_num, by rw [HD.out]; exact HO4.out, HB4.out⟩
          case measure => simp [intOf]
      · have HD := Lib.hid (done_skip hcut)
        have HF := Lib.hid (frm_skip hcut)
        have hlt : k < zs.length := by
          apply Classical.byContradiction
          intro hn
          obtain rfl : k = zs.length := by omega
          exact hcut (cut_end zs)
        have h126 : by_ zs k ≠ 126 := fun e => hcut (cut_flag e)
        obtain ⟨b, off, rfl, hbB, hcs⟩ := HRD.out.2 (by omega)
        have hcell := hcs k hlt
        have e1 : ((by_ zs k : Int) == 126) = false := by simp; omega
        obtain ⟨y, hy⟩ : ∃ y, by_ zs k = y := ⟨_, rfl⟩
        rw [hy] at hcell e1 h126
        have HOn : Hid (RowsOf wr w.heap.size u3 (done zs (k + 1))) := by rw [HD.out]; exact HO
        have HFn : Hid (frm zs (k + 1) = frm zs k) := HF
        obtain ⟨f, hf⟩ : ∃ f, frm zs k = f := ⟨_, rfl⟩
        rw [hf] at HFn ⊢
        clear hcs hy hcut HD HF hf hfk
        go_wp2
        go_roundw
        case rel => exact ⟨k + 1, by omega, by go_num, by rw [HFn.out], HOn.out, HBE.out⟩
        case measure => simp [intOf]; omega
    · obtain rfl : k = zs.length + 1 := by omega
      go_wp2
      go_ret
      exact ⟨_, rfl, HO, HBE⟩
end Go.Proofs.Ytpnmigfgeieggaa.St
