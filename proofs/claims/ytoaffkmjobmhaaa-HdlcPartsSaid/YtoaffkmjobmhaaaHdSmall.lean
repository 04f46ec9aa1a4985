/- Contracts of Same, Stats, Inside, Clone. -/
import Derived.Test.YtoaffkmjobmhaaaHdRFeed
import Derived.Lib.SliceRun
namespace Go.Proofs.Ytoaffkmjobmhaaa.Hd
open Go.RowKit
open Go.Proofs.Ytoaffkmjobmhaaa.Me Go.Proofs.Ytoaffkmjobmhaaa.St
open Go.Proofs.Ytoaffkmjobmhaaa.Cr (addL rightB)
set_option linter.unusedVariables false
set_option linter.unusedSimpArgs false

theorem bytes_list (l : List Nat) : (strOf l).toList = l.map fun b => UInt8.ofNat b := by simp [strOf]
theorem same_at {ps qs : List (List Nat)} (h : ps.length = qs.length) (hk : ∀ j, j < ps.length → lsAt ps j = lsAt qs j) : ps = qs := by
  refine List.ext_getElem h fun i h1 h2 => ?_
  have := hk i h1
  simpa [lsAt, h1, h2] using this
set_option maxHeartbeats 1000000 in
theorem Same_any (w : World) (A A' : Option Addr) (c c' : Nat) (ps qs : List (List Nat)) (h1 : Hid (Lst w w.heap.size A ps)) (n1 : Hid (Nils w A ps)) (h2 : Hid (Lst w w.heap.size A' qs)) (n2 : Hid (Nils w A' qs)) (hl : ps.length ≤ 9223372036854775806) :
    Calls Try.prog 17 #[.slice A ps.length c, .slice A' qs.length c'] w fun e w' => e = .returned (.bool (decide (ps = qs))) ∧ Hid (Below w.heap.size w w') := by
  by_cases hlen : ps.length = qs.length
  · obtain ⟨n, hn⟩ : ∃ n, ps.length = n := ⟨_, rfl⟩
    have HL1 : Hid (ps.length = n) := hn
    have HL2 : Hid (qs.length = n) := by rw [← hlen]; exact hn
    rw [← hlen, hn]
    rw [hn] at hl
    clear hlen hn
    have HEQ : Hid ((∀ j, j < n → lsAt ps j = lsAt qs j) → decide (ps = qs) = true) := fun h => decide_eq_true (same_at (HL1.out.trans HL2.out.symm) fun j hj => h j (by rw [← HL1.out]; exact hj))
    go_enter Try.func17, Try.ntmps17
    go_wp2
    go_loopw [5] (fun i wr => ∃ k : Nat, k ≤ n ∧ i = .int .i64 k ∧ (∀ j, j < k → lsAt ps j = lsAt qs j) ∧ Below w.heap.size w wr) (fun i _ => n - (intOf i).toNat)
    case atStart => exact ⟨0, Nat.zero_le _, rfl, fun j hj => absurd hj (by omega), Below.refl _ _⟩
    case round =>
      obtain ⟨k, hk, rfl, hsm, hbr⟩ := hrel
      have HSM := Lib.hid hsm
      have HBR := Lib.hid hbr
      clear hsm hbr
      by_cases hlt : k < n
      · obtain ⟨b, off, rfl, hbB, hcs⟩ := h1.out (by rw [HL1.out]; omega)
        obtain ⟨b', off', rfl, hbB', hcs'⟩ := h2.out (by rw [HL2.out]; omega)
        obtain ⟨R, cr, g1, g2, g3, g4⟩ := hcs k (by rw [HL1.out]; exact hlt)
        obtain ⟨R', cr', g1', g2', g3', g4'⟩ := hcs' k (by rw [HL2.out]; exact hlt)
        have hc1 := (HBR.out.cell (p := ⟨b, off + k, none⟩) hbB).trans g1
        have hc2 := (HBR.out.cell (p := ⟨b', off' + k, none⟩) hbB').trans g1'
        have hv1 : ∀ m, (convert 22 9 (.slice R (lsAt ps k).length cr)).run Try.prog (wr.drewN m) = .ok (.string (strOf (lsAt ps k))) (wr.drewN m) := fun m =>
          conv_rd (wr.drewN m) w.heap.size R _ cr (g4.below (below_drewN HBR.out m)) (by rintro rfl; exact n1.out b off rfl k (by rw [HL1.out]; exact hlt) _ _ g1)
        have hv2 : ∀ m, (convert 22 9 (.slice R' (lsAt qs k).length cr')).run Try.prog (wr.drewN m) = .ok (.string (strOf (lsAt qs k))) (wr.drewN m) := fun m =>
          conv_rd (wr.drewN m) w.heap.size R' _ cr' (g4'.below (below_drewN HBR.out m)) (by rintro rfl; exact n2.out b' off' rfl k (by rw [HL2.out]; exact hlt) _ _ g1')
        have hb1 := g4.1
        have hb2 := g4'.1
        by_cases hr : lsAt ps k = lsAt qs k
        · have HSM2 : Hid (∀ j, j < k + 1 → lsAt ps j = lsAt qs j) := fun j hj => by
            by_cases hjk : j < k
            · exact HSM.out j hjk
            · obtain rfl : j = k := by omega
              exact hr
          rw [hr] at hc1 hv1
          obtain ⟨r, hrr⟩ : ∃ r, lsAt qs k = r := ⟨_, rfl⟩
          rw [hrr] at hc1 hc2 hv1 hv2
          clear g1 g1' g2 g2' g3 g3' g4 g4' hb1 hb2 hr hrr hcs hcs'
          go_wp2
          go_quiet (fail)
          go_wp2
          go_roundw
          case rel => exact ⟨k + 1, by omega, by go_num, HSM2.out, below_drewN HBR.out _⟩
          case measure => simp [intOf]; omega
        · have HNE : Hid (decide (ps = qs) = false) := by
            show decide (ps = qs) = false
            exact decide_eq_false fun e => hr (by rw [e])
          have hs : ¬ strOf (lsAt ps k) = strOf (lsAt qs k) := fun e => hr (strOf_inj hb1 hb2 e)
          obtain ⟨r, hrr⟩ : ∃ r, lsAt ps k = r := ⟨_, rfl⟩
          obtain ⟨r', hrr'⟩ : ∃ r, lsAt qs k = r := ⟨_, rfl⟩
          rw [hrr] at hc1 hv1 hs
          rw [hrr'] at hc2 hv2 hs
          have hs2 : ¬ (strOf r).toList = (strOf r').toList := fun e => hs (by rw [bytes_list, bytes_list] at e; unfold strOf; rw [e])
          have hs3 : ((strOf r).toList == (strOf r').toList) = false := by simpa using hs2
          clear g1 g1' g2 g2' g3 g3' g4 g4' hb1 hb2 hr hrr hrr' hcs hcs'
          go_wp2
          go_quiet (fail)
          go_wp2
          go_ret
          exact ⟨ret_b HNE.out.symm, below_drewN HBR.out _⟩
      · have HT : Hid (decide (ps = qs) = true) := HEQ.out fun j hj => HSM.out j (by omega)
        go_wp2
        go_ret
        exact ⟨ret_b HT.out.symm, HBR.out⟩
  · have HNE : Hid (decide (ps = qs) = false) := by
      show decide (ps = qs) = false
      exact decide_eq_false fun e => hlen (by rw [e])
    have e1 : ((ps.length : Int) == (qs.length : Int)) = false := by simp; omega
    obtain ⟨n, hn⟩ : ∃ n, ps.length = n := ⟨_, rfl⟩
    obtain ⟨n', hn'⟩ : ∃ n, qs.length = n := ⟨_, rfl⟩
    rw [hn, hn'] at e1 hlen
    rw [hn, hn']
    go_enter Try.func17, Try.ntmps17
    go_wp2
    go_ret
    exact ⟨ret_b HNE.out.symm, Below.refl _ _⟩
theorem Inside_any (w : World) (D : Nat) (d : Dec) (A : Option Addr) (c : Nat) (h : Hid (Dblk w D d (.slice A d.inn.length c))) :
    Calls Try.prog 19 #[.pointer (some ⟨D, 0, none⟩)] w fun e w' => e = .returned (.int .i64 (if d.hunts then -1 else (d.inn.length : Int))) ∧ w = w' := by
  have c0 : w.cell? ⟨D, 0, none⟩ = some (.bool (!d.hunts)) := h.out.cell 0
  have c1 : w.cell? ⟨D, 1, none⟩ = some (.slice A d.inn.length c) := h.out.cell 1
  cases hh : d.hunts with
  | true =>
    rw [hh] at c0
    simp only [Bool.not_true] at c0
    clear hh
    go_enter Try.func19, Try.ntmps19
    go_wp2
    go_ret
    exact ⟨rfl, rfl⟩
  | false =>
    rw [hh] at c0
    simp only [Bool.not_false] at c0
    clear hh
    go_enter Try.func19, Try.ntmps19
    go_wp2
    go_ret
    exact ⟨rfl, rfl⟩
theorem dblk_met {w : World} {D : Nat} {d : Dec} {v : Value} (h : Dblk w D d v) :
    w.cell? ⟨D, 2, none⟩ = some (.int .i64 (d.met.good : Int)) ∧ w.cell? ⟨D, 3, none⟩ = some (.int .i64 (d.met.bad : Int)) ∧ w.cell? ⟨D, 4, none⟩ = some (.int .i64 (d.met.short : Int)) ∧ w.cell? ⟨D, 5, none⟩ = some (.int .i64 (d.met.long : Int)) ∧ w.cell? ⟨D, 6, none⟩ = some (.int .i64 (d.met.broken : Int)) :=
  ⟨h.cell 2, h.cell 3, h.cell 4, h.cell 5, h.cell 6⟩
theorem Stats_any (w : World) (D : Nat) (d : Dec) (v : Value) (h : Hid (Dblk w D d v)) :
    Calls Try.prog 18 #[.pointer (some ⟨D, 0, none⟩)] w fun e w' => e = .returned (mval d.met) ∧ Hid (Below w.heap.size w w') := by
  obtain ⟨m1, m2, m3, m4, m5⟩ := dblk_met h.out
  have hlt : D < w.heap.size := h.out.lt
  have ha := fun (o : Obj) => dblk_met (h.out.alloc o)
  obtain ⟨q1, q2, q3, q4, q5⟩ := ha (.cells #[.int .i64 0, .int .i64 0, .int .i64 0, .int .i64 0, .int .i64 0] 32)
  clear ha
  unfold mval
  go_enter Try.func18, Try.ntmps18
  go_wp2
  go_returns
  exact ⟨rfl, below_alloc (Below.refl _ _)⟩
theorem NStats_any (w : World) : Calls Try.prog 18 #[.pointer none] w fun e w' => e = .returned (mval met0) ∧ Hid (Below w.heap.size w w') := by
  unfold mval
  go_enter Try.func18, Try.ntmps18
  go_wp2
  go_returns
  exact ⟨rfl, below_alloc (Below.refl _ _)⟩
end Go.Proofs.Ytoaffkmjobmhaaa.Hd
