/- The reference's Vector and Froms. -/
import Derived.Test.YtablejhajilpiaaRtRNext
namespace Go.Proofs.Ytablejhajilpiaa.Rt
open Go.RowKit Go.Maps
open Go.Proofs.Ytablejhajilpiaa.Sb
set_option linter.unusedVariables false
set_option linter.unusedSimpArgs false

def vecOf (q : RQ) (to : Int) (d : Nat) : Int := if (nextQ q (d : Int)).2 = true ∧ (nextQ q (d : Int)).1 = to then 16 else costQ q (d : Int)
def vecQ (q : RQ) (to : Int) (k : Nat) : List Int := (List.range k).map (vecOf q to)
theorem vecQ_snoc (q : RQ) (to : Int) (k : Nat) : vecQ q to (k + 1) = vecQ q to k ++ [vecOf q to k] := by simp [vecQ, List.range_succ]
theorem vecQ_len (q : RQ) (to : Int) (k : Nat) : (vecQ q to k).length = k := by simp [vecQ]
theorem RVector_no {M : Nat → Prop} (q : RQ) (p : Pl) (to : Int) (w : World) (h : Hid (Asked M w q p)) (hc : q.nbs.contains to = false) : Calls Try.prog 22 #[.agg (rqV q p), .int .i64 to] w fun e w' => e = .returned (.slice none 0 0) ∧ Hid (Below w.heap.size w w') := by
  have HQ : Hid (Bq (w.alloc (.cells (rqV q p) 33)) w.heap.size q p) := box_rq q p w
  have HB : Hid (Below w.heap.size w (w.alloc (.cells (rqV q p) 33))) := Mi.below_alloc (Below.refl _ _)
  have HA : Hid (Asked M (w.alloc (.cells (rqV q p) 33)) q p) := h.out.below HB.out
  obtain ⟨w1, hw1⟩ : ∃ w1, w.alloc (.cells (rqV q p) 33) = w1 := ⟨_, rfl⟩
  have HW1 : Hid (w.alloc (.cells (rqV q p) 33) = w1) := hw1
  rw [hw1] at HQ HB HA
  have HH := Lib.hid (RHas_any p.A p.cA q.nbs to w1 HA.out.rf.nbs (Nat.le_trans HA.out.nl (by decide)))
  rw [hc] at HH
  clear hw1 hc
  obtain ⟨b0, b1, b2, b3, b4⟩ := HQ.out.cells
  go_enter Try.func22, Try.ntmps22
  go_wp2_with (first
    | (refine Mi.allocTo rfl (.pointer (some ⟨_, 0, none⟩)) (.cells (rqV q p) 33 (0, 0)) (exec_boxq _ _ q p (.tmp 0) rfl rfl _) ?_; rw [HW1.out])
    | (go_at_call 25; refine HH.out.mono ?_; rintro e w' ⟨rfl, rfl⟩))
  go_ret
  exact ⟨rfl, HB⟩
set_option maxRecDepth 100000 in
set_option maxHeartbeats 4000000 in
theorem RVector_any {M : Nat → Prop} (q : RQ) (p : Pl) (to : Int) (w : World) (h : Hid (Asked M w q p)) (hc : q.nbs.contains to = true) : Calls Try.prog 22 #[.agg (rqV q p), .int .i64 to] w fun e w' => ∃ v, e = .returned v ∧ Hid (Mi.Own w' w.heap.size v (vecQ q to 64)) ∧ Hid (Below w.heap.size w w') := by
  have HQ : Hid (Bq (w.alloc (.cells (rqV q p) 33)) w.heap.size q p) := box_rq q p w
  have HB : Hid (Below w.heap.size w (w.alloc (.cells (rqV q p) 33))) := Mi.below_alloc (Below.refl _ _)
  have HA : Hid (Asked M (w.alloc (.cells (rqV q p) 33)) q p) := h.out.below HB.out
  obtain ⟨w1, hw1⟩ : ∃ w1, w.alloc (.cells (rqV q p) 33) = w1 := ⟨_, rfl⟩
  have HW1 : Hid (w.alloc (.cells (rqV q p) 33) = w1) := hw1
  rw [hw1] at HQ HB HA
  have HH := Lib.hid (RHas_any p.A p.cA q.nbs to w1 HA.out.rf.nbs (Nat.le_trans HA.out.nl (by decide)))
  rw [hc] at HH
  clear hw1 hc
  obtain ⟨b0, b1, b2, b3, b4⟩ := HQ.out.cells
  have HO0 : Hid (Mi.Own (w1.alloc (.cells #[] 3)) w1.heap.size (.slice (some ⟨w1.heap.size, 0, none⟩) 0 0) []) := Mi.Own.lit (Below.refl _ _)
  have HB0 : Hid (Below w1.heap.size w1 (w1.alloc (.cells #[] 3))) := Mi.below_alloc (Below.refl _ _)
  go_enter Try.func22, Try.ntmps22
  go_wp2_with (first
    | (refine Mi.allocTo rfl (.pointer (some ⟨_, 0, none⟩)) (.cells (rqV q p) 33 (0, 0)) (exec_boxq _ _ q p (.tmp 0) rfl rfl _) ?_; rw [HW1.out])
    | (go_at_call 25; refine HH.out.mono ?_; rintro e w' ⟨rfl, rfl⟩))
  go_loopw [5, 6] (fun u i wr => ∃ k : Nat, k ≤ 64 ∧ i = .int .i64 k ∧ Hid (Mi.Own wr 0 u (vecQ q to k)) ∧ Hid (∀ b, u.ownBlock = some b → w1.heap.size ≤ b) ∧ Hid (Below w1.heap.size w1 wr)) (fun _ i _ => 64 - (intOf i).toNat)
  case atStart => exact ⟨0, Nat.zero_le _, rfl, HO0.out.zero, fun b e => (HO0.out.lt b e).1, HB0⟩
  case round =>
    obtain ⟨k, hk, rfl, HO, HOB, HBr⟩ := hrel
    clear HO0 HB0 b0 b1 b2 b3 b4
    have HQr : Hid (Bq wr w.heap.size q p) := HQ.out.at_ HBr.out HQ.out.lt
    by_cases hlt : k < 64
    · have HN := Lib.hid (fun (W : World) (hW : Below w1.heap.size w1 W) => RNext_any q p (k : Int) W (HA.out.below hW))
      have HCo := Lib.hid (fun (W : World) (hW : Below w1.heap.size w1 W) => RCost_any q p (k : Int) W (HA.out.below hW))
      have hvs := vecQ_snoc q to k
      have hvo : vecOf q to k = if (nextQ q (k : Int)).2 = true ∧ (nextQ q (k : Int)).1 = to then 16 else costQ q (k : Int) := rfl
      have HL : Hid (((vecQ q to k).length + 1) * 8 ≤ 140737488355328) := by show _ ≤ _; rw [vecQ_len]; omega
      obtain ⟨z, hz⟩ : ∃ z, nextQ q (k : Int) = z := ⟨_, rfl⟩
      obtain ⟨cc, hcc⟩ : ∃ cc, costQ q (k : Int) = cc := ⟨_, rfl⟩
      rw [hz] at HN hvo
      rw [hcc] at HCo hvo
      obtain ⟨z1, z2⟩ := z
      obtain ⟨vl, hvl⟩ : ∃ vl, vecQ q to k = vl := ⟨_, rfl⟩
      rw [hvl] at HO HL hvs
      clear hz hcc hvl
      simp only at hvo HN
      by_cases hy : z2 = true ∧ z1 = to
      · obtain ⟨rfl, h2⟩ := hy
        rw [if_pos ⟨rfl, h2⟩] at hvo
        rw [hvo] at hvs
        have HS := Lib.hid hvs
        have g1 : (z1 == to) = true := beq_iff_eq.mpr h2
        clear hvs hvo h2
        go_wp2_with (first
          | (refine wpList_load_row rfl 33 (.tmp 2) rfl w.heap.size rfl 33 _ (0, 0) _ HQr.out Try.underlying33 rfl (rq_size _ _) ?_)
          | (go_at_call 17; refine (HN.out _ HBr.out).mono ?_; rintro e w2 ⟨rfl, hb2⟩; have HO2 : Hid (Mi.Own w2 0 u5 vl) := HO.out.below hb2.out)
          | (at_builtin; refine Mi.app1q (wl := w2) rfl (.tmp 31) (.tmp 32) rfl u5 vl 16 rfl rfl HO2.out _ rfl rfl HL.out ?_; intro v3 w3 ho3 hg3 hl3; have HO3 := Lib.hid ho3; have HG3 := Lib.hid hg3; have HL3 := Lib.hid hl3; clear ho3 hg3 hl3))
        go_roundw
        case rel => exact ⟨k + 1, by omega, by go_num, by rw [HS.out]; exact HO3.out, (fun b e => by
          rcases HL3.out b e with h | h
          · exact HOB.out b h
          · exact Nat.le_trans (Nat.le_trans HBr.out.size hb2.out.size) h), (go_on HBr.out hb2.out).grown HG3.out (Nat.le_trans HBr.out.size hb2.out.size) fun b e => HOB.out b e⟩
        case measure => simp [intOf]; omega
      · rw [if_neg hy] at hvo
        rw [hvo] at hvs
        have HS := Lib.hid hvs
        have hz12 : z2 = false ∨ (z2 = true ∧ (z1 == to) = false) := by
          cases z2
          · exact .inl rfl
          · exact .inr ⟨rfl, beq_eq_false_iff_ne.mpr fun e => hy ⟨rfl, e⟩⟩
        clear hvs hvo hy
        rcases hz12 with rfl | ⟨rfl, g1⟩
        all_goals
          go_wp2_with (first
            | (refine wpList_load_row rfl 33 (.tmp 2) rfl w.heap.size rfl 33 _ (0, 0) _ HQr.out Try.underlying33 rfl (rq_size _ _) ?_)
            | (go_at_call 17; refine (HN.out _ HBr.out).mono ?_; rintro e w2 ⟨rfl, hb2⟩; have k2 : Below w1.heap.size w1 w2 := go_on HBr.out hb2.out; have HQ2 : Hid (Bq w2 w.heap.size q p) := HQ.out.at_ k2 HQ.out.lt)
            | (refine wpList_load_row rfl 33 (.tmp 2) rfl w.heap.size rfl 33 _ (0, 0) _ HQ2.out Try.underlying33 rfl (rq_size _ _) ?_)
            | (go_at_call 19; refine (HCo.out _ k2).mono ?_; rintro e w4 ⟨rfl, hb4⟩; have k4 : Below w1.heap.size w1 w4 := go_on k2 hb4.out; have HO4 : Hid (Mi.Own w4 0 u5 vl) := (HO.out.below hb2.out).below hb4.out)
            | (at_builtin; refine Mi.app1q (wl := w4) rfl (.tmp 34) (.tmp 38) rfl u5 vl cc rfl rfl HO4.out _ rfl rfl HL.out ?_; intro v3 w3 ho3 hg3 hl3; have HO3 := Lib.hid ho3; have HG3 := Lib.hid hg3; have HL3 := Lib.hid hl3; clear ho3 hg3 hl3))
          go_roundw
          case rel => exact ⟨k + 1, by omega, by go_num, by rw [HS.out]; exact HO3.out, (fun b e => by
            rcases HL3.out b e with h | h
            · exact HOB.out b h
            · exact Nat.le_trans k4.size h), k4.grown HG3.out k4.size fun b e => HOB.out b e⟩
          case measure => simp [intOf]; omega
    · obtain rfl : k = 64 := by omega
      go_wp2
      go_ret
      exact ⟨_, rfl, HO.out.base fun b e => Nat.le_trans HB.out.size (HOB.out b e), HB.out.trans (HBr.out.mono HB.out.size)⟩
def fromsQ (l : List He) : List Int := l.map fun e => e.f
set_option maxRecDepth 100000 in
theorem RFroms_any {M : Nat → Prop} (q : RQ) (p : Pl) (w : World) (h : Hid (Rf M w q p)) (hs : q.l.length ≤ 1000) : Calls Try.prog 15 #[.agg (rqV q p)] w fun e w' => ∃ v, e = .returned v ∧ Hid (Mi.Own w' w.heap.size v (fromsQ q.l)) ∧ Hid (Below w.heap.size w w') := by
  have HQ : Hid (Bq (w.alloc (.cells (rqV q p) 33)) w.heap.size q p) := box_rq q p w
  have HB : Hid (Below w.heap.size w (w.alloc (.cells (rqV q p) 33))) := Mi.below_alloc (Below.refl _ _)
  have HA : Hid (Rf M (w.alloc (.cells (rqV q p) 33)) q p) := h.out.below HB.out
  obtain ⟨w1, hw1⟩ : ∃ w1, w.alloc (.cells (rqV q p) 33) = w1 := ⟨_, rfl⟩
  have HW1 : Hid (w.alloc (.cells (rqV q p) 33) = w1) := hw1
  rw [hw1] at HQ HB HA
  obtain ⟨N, hN⟩ : ∃ N, q.l.length = N := ⟨_, rfl⟩
  have HN : Hid (q.l.length = N) := hN
  rw [hN] at hs
  clear hw1 hN
  have HO0 : Hid (Mi.Own (w1.alloc (.cells #[] 3)) w1.heap.size (.slice (some ⟨w1.heap.size, 0, none⟩) 0 0) []) := Mi.Own.lit (Below.refl _ _)
  have HB0 : Hid (Below w1.heap.size w1 (w1.alloc (.cells #[] 3))) := Mi.below_alloc (Below.refl _ _)
  go_enter Try.func15, Try.ntmps15
  go_wp2_with (refine Mi.allocTo rfl (.pointer (some ⟨_, 0, none⟩)) (.cells (rqV q p) 33 (0, 0)) (exec_boxq _ _ q p (.tmp 0) rfl rfl _) ?_; rw [HW1.out])
  go_loopw [3, 4] (fun u i wr => ∃ k : Nat, k ≤ N ∧ i = .int .i64 k ∧ Hid (Mi.Own wr 0 u (fromsQ (q.l.take k))) ∧ Hid (∀ b, u.ownBlock = some b → w1.heap.size ≤ b) ∧ Hid (Below w1.heap.size w1 wr)) (fun _ i _ => N - (intOf i).toNat)
  case atStart => exact ⟨0, Nat.zero_le _, rfl, HO0.out.zero, fun b e => (HO0.out.lt b e).1, HB0⟩
  case round =>
    obtain ⟨k, hk, rfl, HO, HOB, HBr⟩ := hrel
    clear HO0 HB0
    obtain ⟨b0, b1, b2, b3, b4⟩ := (HQ.out.at_ HBr.out HQ.out.lt).cells
    rw [HN.out] at b4
    by_cases hlt : k < N
    · obtain ⟨r, hrk⟩ : ∃ r, q.l[k]? = some r := ⟨_, List.getElem?_eq_getElem (by rw [HN.out]; exact hlt)⟩
      obtain ⟨b, off, hA, _, _, y0, y1, y2⟩ := (HA.out.below HBr.out).l.at_ hrk
      rw [hA] at b4
      have HS : Hid (fromsQ (q.l.take (k + 1)) = fromsQ (q.l.take k) ++ [r.f]) := by show _ = _; rw [List.take_add_one, hrk]; simp [fromsQ]
      have HL : Hid (((fromsQ (q.l.take k)).length + 1) * 8 ≤ 140737488355328) := by show _ ≤ _; unfold fromsQ; rw [List.length_map, List.length_take]; omega
      obtain ⟨ff, hff⟩ : ∃ ff, fromsQ (q.l.take k) = ff := ⟨_, rfl⟩
      rw [hff] at HS HO HL
      obtain ⟨rf, hrf⟩ : ∃ rf, r.f = rf := ⟨_, rfl⟩
      rw [hrf] at y0 HS
      clear hrk hff hA hrf
      go_wp2_with (at_builtin; refine Mi.app1q (wl := wr) rfl (.tmp 13) (.tmp 20) rfl u3 ff rf rfl rfl HO.out _ rfl rfl HL.out ?_; intro v3 w3 ho3 hg3 hl3; have HO3 := Lib.hid ho3; have HG3 := Lib.hid hg3; have HL3 := Lib.hid hl3; clear ho3 hg3 hl3)
      go_roundw
      case rel => exact ⟨k + 1, by omega, by go_num, by rw [HS.out]; exact HO3.out, (fun b e => by
        rcases HL3.out b e with h | h
        · exact HOB.out b h
        · exact Nat.le_trans HBr.out.size h), HBr.out.grown HG3.out HBr.out.size fun b e => HOB.out b e⟩
      case measure => simp [intOf]; omega
    · obtain rfl : k = N := by omega
      have HF : Hid (Mi.Own wr 0 u3 (fromsQ q.l)) := by
        have := HO.out
        rwa [List.take_of_length_le (by rw [HN.out]; exact Nat.le_refl _)] at this
      go_wp2
      go_ret
      exact ⟨_, rfl, HF.out.base fun b e => Nat.le_trans HB.out.size (HOB.out b e), HB.out.trans (HBr.out.mono HB.out.size)⟩
end Go.Proofs.Ytablejhajilpiaa.Rt
