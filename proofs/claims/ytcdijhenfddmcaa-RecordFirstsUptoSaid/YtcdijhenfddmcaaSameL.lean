/- The contract of Same of stuff's reference: are two lists of bytes the same? -/
import Derived.Test.YtcdijhenfddmcaaRows2
namespace Go.Proofs.Ytcdijhenfddmcaa.Hd
open Go.RowKit
open Go.Proofs.Ytcdijhenfddmcaa.Me
set_option linter.unusedVariables false
set_option linter.unusedSimpArgs false

theorem bytes_list (l : List Nat) : (strOf l).toList = l.map fun b => UInt8.ofNat b := by simp [strOf]
theorem same_at {ps qs : List (List Nat)} (h : ps.length = qs.length) (hk : ∀ j, j < ps.length → lsAt ps j = lsAt qs j) : ps = qs := by
  refine List.ext_getElem h fun i h1 h2 => ?_
  have := hk i h1
  simpa [lsAt, h1, h2] using this
set_option maxHeartbeats 1000000 in
theorem Same_any (w : World) (A A' : Option Addr) (c c' : Nat) (ps qs : List (List Nat)) (h1 : Hid (Lst w w.heap.size A ps)) (n1 : Hid (Nils w A ps)) (h2 : Hid (Lst w w.heap.size A' qs)) (n2 : Hid (Nils w A' qs)) (hl : ps.length ≤ 9223372036854775806) :
    Calls Try.prog 16 #[.slice A ps.length c, .slice A' qs.length c'] w fun e w' => e = .returned (.bool (decide (ps = qs))) ∧ Hid (Below w.heap.size w w') := by
  by_cases hlen : ps.length = qs.length
  · obtain ⟨n, hn⟩ : ∃ n, ps.length = n := ⟨_, rfl⟩
    have HL1 : Hid (ps.length = n) := hn
    have HL2 : Hid (qs.length = n) := by rw [← hlen]; exact hn
    rw [← hlen, hn]
    rw [hn] at hl
    clear hlen hn
    have HEQ : Hid ((∀ j, j < n → lsAt ps j = lsAt qs j) → decide (ps = qs) = true) := fun h => decide_eq_true (same_at (HL1.out.trans HL2.out.symm) fun j hj => h j (by rw [← HL1.out]; exact hj))
    go_enter Try.func16, Try.ntmps16
    go_wp2
    go_loopw [5] (fun i wr => ∃ k : Nat, k ≤ n ∧ i = .int .i64 k ∧ (∀ j, j < k → lsAt ps j = lsAt qs j) ∧ Below w.heap.size w wr) (fun i _ => n - (intOf i).toNat)
    case atStart => exact ⟨0, Nat.zero_le _, rfl, fun j hj => absurd hj (by omega), Below.refl _ _⟩
    case round =>
      obtain ⟨k, hk, rfl, hsm, hbr⟩ := hrel
      have HSM := Lib.hid hsm
      have HBR := Lib.hid hbr
      clear hsm hbr
      by_cases hlt : k < n
      · obtain ⟨b, off, rfl, hbB, hcs⟩ := h1.out (by rw [HL1.out]; omega)
        obtain ⟨b', off', rfl, hbB', hcs'⟩ := h2.out (by rw [HL2.out]; omega)
        obtain ⟨R, cr, g1, g2, g3, g4⟩ := hcs k (by rw [HL1.out]; exact hlt)
        obtain ⟨R', cr', g1', g2', g3', g4'⟩ := hcs' k (by rw [HL2.out]; exact hlt)
        have hc1 := (HBR.out.cell (p := ⟨b, off + k, none⟩) hbB).trans g1
        have hc2 := (HBR.out.cell (p := ⟨b', off' + k, none⟩) hbB').trans g1'
        have hv1 : ∀ m, (convert 22 9 (.slice R (lsAt ps k).length cr)).run Try.prog (wr.drewN m) = .ok (.string (strOf (lsAt ps k))) (wr.drewN m) := fun m =>
          conv_rd (wr.drewN m) w.heap.size R _ cr (g4.below (below_drewN HBR.out m)) (by rintro rfl; exact n1.out b off rfl k (by rw [HL1.out]; exact hlt) _ _ g1)
        have hv2 : ∀ m, (convert 22 9 (.slice R' (lsAt qs k).length cr')).run Try.prog (wr.drewN m) = .ok (.string (strOf (lsAt qs k))) (wr.drewN m) := fun m =>
          conv_rd (wr.drewN m) w.heap.size R' _ cr' (g4'.below (below_drewN HBR.out m)) (by rintro rfl; exact n2.out b' off' rfl k (by rw [HL2.out]; exact hlt) _ _ g1')
        have hb1 := g4.1
        have hb2 := g4'.1
        by_cases hr : lsAt ps k = lsAt qs k
        · have HSM2 : Hid (∀ j, j < k + 1 → lsAt ps j = lsAt qs j) := fun j hj => by
            by_cases hjk : j < k
            · exact HSM.out j hjk
            · obtain rfl : j = k := by omega
              exact hr
          rw [hr] at hc1 hv1
          obtain ⟨r, hrr⟩ : ∃ r, lsAt qs k = r := ⟨_, rfl⟩
          rw [hrr] at hc1 hc2 hv1 hv2
          clear g1 g1' g2 g2' g3 g3' g4 g4' hb1 hb2 hr hrr hcs hcs'
          go_wp2
          go_quiet (fail)
          go_wp2
          go_roundw
          case rel => exact ⟨k + 1, by omega, by go_num, HSM2.out, below_drewN HBR.out _⟩
          case measure => simp [intOf]; omega
        · have HNE : Hid (decide (ps = qs) = false) := by
            show decide (ps = qs) = false
            exact decide_eq_false fun e => hr (by rw [e])
          have hs : ¬ strOf (lsAt ps k) = strOf (lsAt qs k) := fun e => hr (strOf_inj hb1 hb2 e)
          obtain ⟨r, hrr⟩ : ∃ r, lsAt ps k = r := ⟨_, rfl⟩
          obtain ⟨r', hrr'⟩ : ∃ r, lsAt qs k = r := ⟨_, rfl⟩
          rw [hrr] at hc1 hv1 hs
          rw [hrr'] at hc2 hv2 hs
          have hs2 : ¬ (strOf r).toList = (strOf r').toList := fun e => hs (by rw [bytes_list, bytes_list] at e; unfold strOf; rw [e])
          have hs3 : ((strOf r).toList == (strOf r').toList) = false := by simpa using hs2
          clear g1 g1' g2 g2' g3 g3' g4 g4' hb1 hb2 hr hrr hrr' hcs hcs'
          go_wp2
          go_quiet (fail)
          go_wp2
          go_ret
          exact ⟨ret_b HNE.out.symm, below_drewN HBR.out _⟩
      · have HT : Hid (decide (ps = qs) = true) := HEQ.out fun j hj => HSM.out j (by omega)
        go_wp2
        go_ret
        exact ⟨ret_b HT.out.symm, HBR.out⟩
  · have HNE : Hid (decide (ps = qs) = false) := by
      show decide (ps = qs) = false
      exact decide_eq_false fun e => hlen (by rw [e])
    have e1 : ((ps.length : Int) == (qs.length : Int)) = false := by simp; omega
    obtain ⟨n, hn⟩ : ∃ n, ps.length = n := ⟨_, rfl⟩
    obtain ⟨n', hn'⟩ : ∃ n, qs.length = n := ⟨_, rfl⟩
    rw [hn, hn'] at e1 hlen
    rw [hn, hn']
    go_enter Try.func16, Try.ntmps16
    go_wp2
    go_ret
    exact ⟨ret_b HNE.out.symm, Below.refl _ _⟩
end Go.Proofs.Ytcdijhenfddmcaa.Hd
