/- The reference's Next. -/
import Derived.Test.YtablejhajilpiaaRtRCost
namespace Go.Proofs.Ytablejhajilpiaa.Rt
open Go.RowKit Go.Maps
open Go.Proofs.Ytablejhajilpiaa.Sb
set_option linter.unusedVariables false
set_option linter.unusedSimpArgs false

/-- Is x a neighbour by which it costs least? -/
def isHop (l : List He) (d : Nat) (c x : Int) : Bool := decide (byQ l d x < 16) && (byQ l d x == c)
def hopQ (l : List He) (d : Nat) (c : Int) (nbs : List Int) : Int × Bool := match nbs.find? (isHop l d c) with
  | none => (0, false)
  | some x => (x, true)
def nextQ (q : RQ) (n : Int) : Int × Bool := if isN n = false ∨ n = q.self then (0, false) else if 0 ≤ viaL q.set n then (viaL q.set n, true) else hopQ q.l n.toNat (costQ q n) q.nbs
set_option maxRecDepth 100000 in
set_option maxHeartbeats 4000000 in
theorem RNext_any {M : Nat → Prop} (q : RQ) (p : Pl) (n : Int) (w : World) (h : Hid (Asked M w q p)) : Calls Try.prog 17 #[.agg (rqV q p), .int .i64 n] w fun e w' => e = .returned (.tuple #[.int .i64 (nextQ q n).1, .bool (nextQ q n).2]) ∧ Hid (Below w.heap.size w w') := by
  have HQ : Hid (Bq (w.alloc (.cells (rqV q p) 33)) w.heap.size q p) := box_rq q p w
  have HB : Hid (Below w.heap.size w (w.alloc (.cells (rqV q p) 33))) := Mi.below_alloc (Below.refl _ _)
  have HA : Hid (Asked M (w.alloc (.cells (rqV q p) 33)) q p) := h.out.below HB.out
  have HI := Lib.hid (RNode_any n)
  obtain ⟨w1, hw1⟩ : ∃ w1, w.alloc (.cells (rqV q p) 33) = w1 := ⟨_, rfl⟩
  have HW1 : Hid (w.alloc (.cells (rqV q p) 33) = w1) := hw1
  rw [hw1] at HQ HB HA
  clear hw1
  obtain ⟨b0, b1, b2, b3, b4⟩ := HQ.out.cells
  unfold nextQ
  cases hn : isN n with
  | false =>
    rw [hn] at HI
    rw [if_pos (Or.inl rfl)]
    go_enter Try.func17, Try.ntmps17
    go_wp2_with (first
      | (refine Mi.allocTo rfl (.pointer (some ⟨_, 0, none⟩)) (.cells (rqV q p) 33 (0, 0)) (exec_boxq _ _ q p (.tmp 0) rfl rfl _) ?_; rw [HW1.out])
      | (go_at_call 34; refine (HI.out _).mono ?_; rintro e w' ⟨rfl, rfl⟩))
    go_ret2
    exact ⟨rfl, HB⟩
  | true =>
    obtain ⟨d, rfl, hd⟩ := isN_of hn
    rw [hn] at HI
    by_cases hs : (d : Int) = q.self
    · rw [if_pos (Or.inr hs)]
      have g1 : ((d : Int) == q.self) = true := beq_iff_eq.mpr hs
      clear hs hn
      go_enter Try.func17, Try.ntmps17
      go_wp2_with (first
        | (refine Mi.allocTo rfl (.pointer (some ⟨_, 0, none⟩)) (.cells (rqV q p) 33 (0, 0)) (exec_boxq _ _ q p (.tmp 0) rfl rfl _) ?_; rw [HW1.out])
        | (go_at_call 34; refine (HI.out _).mono ?_; rintro e w' ⟨rfl, rfl⟩))
      go_ret2
      exact ⟨rfl, HB⟩
    · rw [if_neg (by simp [hs]), show ((d : Int)).toNat = d by omega]
      have g1 : ((d : Int) == q.self) = false := beq_eq_false_iff_ne.mpr hs
      have HV := Lib.hid (fun (W : World) (hW : Below w1.heap.size w1 W) => RVia_any q p (d : Int) W (HA.out.below hW).rf (Nat.le_trans HA.out.sl (by decide)))
      have HBy := Lib.hid (fun (x : Int) (W : World) (hW : Below w1.heap.size w1 W) => RBy_any q p d hd x W (HA.out.below hW).rf HA.out.ok (Nat.le_trans HA.out.ll (by decide)))
      have HCo := Lib.hid (fun (W : World) (hW : Below w1.heap.size w1 W) => RCost_any q p (d : Int) W (HA.out.below hW))
      obtain ⟨v, hv⟩ : ∃ v, viaL q.set (d : Int) = v := ⟨_, rfl⟩
      obtain ⟨cc, hcc⟩ : ∃ cc, costQ q (d : Int) = cc := ⟨_, rfl⟩
      rw [hv] at HV ⊢
      rw [hcc] at HCo ⊢
      clear hs hn hv hcc
      by_cases hv0 : 0 ≤ v
      · rw [if_pos hv0]
        go_enter Try.func17, Try.ntmps17
        go_wp2_with (first
          | (refine Mi.allocTo rfl (.pointer (some ⟨_, 0, none⟩)) (.cells (rqV q p) 33 (0, 0)) (exec_boxq _ _ q p (.tmp 0) rfl rfl _) ?_; rw [HW1.out])
          | (go_at_call 34; refine (HI.out _).mono ?_; rintro e w' ⟨rfl, rfl⟩)
          | (refine wpList_load_row rfl 33 (.tmp 2) rfl w.heap.size rfl 33 _ (0, 0) _ HQ.out Try.underlying33 rfl (rq_size _ _) ?_)
          | (go_at_call 41; refine (HV.out w1 (Below.refl _ _)).mono ?_; rintro e w2 ⟨rfl, hb2⟩; have HQ2 : Hid (Bq w2 w.heap.size q p) := HQ.out.at_ hb2.out HQ.out.lt)
          | (refine wpList_load_row rfl 33 (.tmp 2) rfl w.heap.size rfl 33 _ (0, 0) _ HQ2.out Try.underlying33 rfl (rq_size _ _) ?_)
          | (go_at_call 41; refine (HV.out w2 hb2.out).mono ?_; rintro e w3 ⟨rfl, hb3⟩))
        go_ret2
        exact ⟨rfl, go_on HB.out (go_on hb2.out hb3.out)⟩
      · rw [if_neg hv0]
        obtain ⟨N, hN⟩ : ∃ N, q.nbs.length = N := ⟨_, rfl⟩
        have HN : Hid (q.nbs.length = N) := hN
        have hN64 : N ≤ 64 := by rw [← hN]; exact HA.out.nl
        rw [hN] at b2
        clear hN
        go_enter Try.func17, Try.ntmps17
        go_wp2_with (first
          | (refine Mi.allocTo rfl (.pointer (some ⟨_, 0, none⟩)) (.cells (rqV q p) 33 (0, 0)) (exec_boxq _ _ q p (.tmp 0) rfl rfl _) ?_; rw [HW1.out])
          | (go_at_call 34; refine (HI.out _).mono ?_; rintro e w' ⟨rfl, rfl⟩)
          | (refine wpList_load_row rfl 33 (.tmp 2) rfl w.heap.size rfl 33 _ (0, 0) _ HQ.out Try.underlying33 rfl (rq_size _ _) ?_)
          | (go_at_call 41; refine (HV.out _ (Below.refl _ _)).mono ?_; rintro e w2 ⟨rfl, hb2⟩))
        go_loopw [6] (fun i wr => ∃ k : Nat, k ≤ N ∧ i = .int .i64 k ∧ Hid (∀ j x, j < k → q.nbs[j]? = some x → isHop q.l d cc x = false) ∧ Hid (Below w1.heap.size w1 wr)) (fun i _ => N - (intOf i).toNat)
        case atStart => exact ⟨0, Nat.zero_le _, rfl, fun j x hj => absurd hj (by omega), hb2⟩
        case round =>
          obtain ⟨k, hk, rfl, hno, HBr⟩ := hrel
          clear b0 b1 b2 b3 b4
          obtain ⟨b0, b1, b2, b3, b4⟩ := (HQ.out.at_ HBr.out HQ.out.lt).cells
          rw [HN.out] at b2
          by_cases hlt : k < N
          · obtain ⟨x, hx⟩ : ∃ x, Mi.at_ q.nbs k = x := ⟨_, rfl⟩
            have hxk : q.nbs[k]? = some x := by rw [← hx, Mi.at_get (by rw [HN.out]; exact hlt)]; exact List.getElem?_eq_getElem _
            obtain ⟨b, off, hA, _, hlb, y0⟩ := (HA.out.rf.nbs).at_ (j := k) (by rw [HN.out]; exact hlt)
            have y1 := (HBr.out.cell (p := ⟨b, off + k, none⟩) hlb).trans y0
            have hih : isHop q.l d cc x = (decide (byQ q.l d x < 16) && (byQ q.l d x == cc)) := rfl
            obtain ⟨y, hy⟩ : ∃ y, byQ q.l d x = y := ⟨_, rfl⟩
            have HByx := Lib.hid (fun W hW => HBy.out x W hW)
            rw [hx] at y1
            rw [hy] at HByx hih
            rw [hA] at b2
            have hki : (k : Int) < (N : Int) := by omega
            clear hx hy hA y0
            by_cases h16 : y < 16
            · have g16 : decide (y < 16) = true := decide_eq_true h16
              cases hyc : (y == cc) with
              | true =>
                have HF : Hid (hopQ q.l d cc q.nbs = (x, true)) := by
                  show _ = _
                  unfold hopQ
                  rw [find_first hxk (by rw [hih, hyc, g16]; rfl) fun j hj s hs => hno.out j s hj hs]
                clear hih hno hxk g16
                go_wp2
                refine wp_region_held_drew (S := fun W => Below w1.heap.size w1 W) (by kernel_rfl) HBr.out.drew (fun hHeld => ?_)
                refine wpAnyH_take (i := 0) (v := .agg (rqV q p)) rfl (by kernel_rfl) (by kernel_rfl) (by kernel_rfl) (fun _ _ _ h => h) (yieldsIf_load_rq (by rfl) (.tmp 2) rfl w.heap.size rfl q p (fun W hW => HQ.out.at_ hW HQ.out.lt)) (by first | assumption | exact trivial) ?_
                simp only [Act.put, List.getElem_toArray, List.getElem_cons_succ, List.getElem_cons_zero, List.setIfInBounds_toArray, List.set_cons_zero, List.set_cons_succ]
                refine wpAnyH_take (i := 1) (v := .int .i64 (d : Int)) rfl (by kernel_rfl) (by kernel_rfl) (by kernel_rfl) (fun _ _ _ h => h) (Or.inl ⟨by rfl, ?_⟩) (by first | assumption | exact trivial) ?_
                · intro W hSW; go_simp; try (with_reducible rfl)
                simp only [Act.put, List.getElem_toArray, List.getElem_cons_succ, List.getElem_cons_zero, List.setIfInBounds_toArray, List.set_cons_zero, List.set_cons_succ]
                refine wpAnyH_take (i := 2) (v := .int .i64 x) rfl (by kernel_rfl) (by kernel_rfl) (by kernel_rfl) (fun _ _ _ h => h) (Or.inl ⟨by rfl, ?_⟩) (by first | assumption | exact trivial) ?_
                · intro W hSW; go_simp; try (with_reducible rfl)
                simp only [Act.put, List.getElem_toArray, List.getElem_cons_succ, List.getElem_cons_zero, List.setIfInBounds_toArray, List.set_cons_zero, List.set_cons_succ]
                refine wpAnyH_ready (rs := [3]) (by kernel_rfl) (by simp) ?_
                refine AllReadyH.cons rfl (fun K hK => ?_) AllReadyH.nil
                go_simp
                go_wp2_with (go_at_call 42; refine (HByx.out _ HBr.out.drew).mono ?_; rintro e w4 ⟨rfl, hb4⟩)
                have k4 : Below w1.heap.size w1 w4 := go_on HBr.out.drew hb4.out
                refine hK.out _ _ (k4) (fun hHeld => ?_)
                clear hK K
                refine wpAnyH_take (i := 4) (v := .bool true) rfl (by kernel_rfl) (by kernel_rfl) (by kernel_rfl) (fun _ _ _ h => h) (Or.inl ⟨by rfl, ?_⟩) (by first | assumption | exact trivial) ?_
                · intro W hSW; have q16 := h16; go_simp; try (with_reducible rfl)
                simp only [Act.put, List.getElem_toArray, List.getElem_cons_succ, List.getElem_cons_zero, List.setIfInBounds_toArray, List.set_cons_zero, List.set_cons_succ]
                refine wpAnyH_take (i := 5) (v := .bool true) rfl (by kernel_rfl) (by kernel_rfl) (by kernel_rfl) (fun _ _ _ h => h) (Or.inl ⟨by rfl, ?_⟩) (by first | assumption | exact trivial) ?_
                · intro W hSW; go_simp; try (with_reducible rfl)
                simp only [Act.put, List.getElem_toArray, List.getElem_cons_succ, List.getElem_cons_zero, List.setIfInBounds_toArray, List.set_cons_zero, List.set_cons_succ]
                refine wpAnyH_take (i := 6) (v := .agg (rqV q p)) rfl (by kernel_rfl) (by kernel_rfl) (by kernel_rfl) (fun _ _ _ h => h) (yieldsIf_load_rq (by rfl) (.tmp 2) rfl w.heap.size rfl q p (fun W hW => HQ.out.at_ hW HQ.out.lt)) (by first | assumption | exact trivial) ?_
                simp only [Act.put, List.getElem_toArray, List.getElem_cons_succ, List.getElem_cons_zero, List.setIfInBounds_toArray, List.set_cons_zero, List.set_cons_succ]
                refine wpAnyH_take (i := 7) (v := .int .i64 (d : Int)) rfl (by kernel_rfl) (by kernel_rfl) (by kernel_rfl) (fun _ _ _ h => h) (Or.inl ⟨by rfl, ?_⟩) (by first | assumption | exact trivial) ?_
                · intro W hSW; go_simp; try (with_reducible rfl)
                simp only [Act.put, List.getElem_toArray, List.getElem_cons_succ, List.getElem_cons_zero, List.setIfInBounds_toArray, List.set_cons_zero, List.set_cons_succ]
                refine wpAnyH_take (i := 8) (v := .int .i64 x) rfl (by kernel_rfl) (by kernel_rfl) (by kernel_rfl) (fun _ _ _ h => h) (Or.inl ⟨by rfl, ?_⟩) (by first | assumption | exact trivial) ?_
                · intro W hSW; go_simp; try (with_reducible rfl)
                simp only [Act.put, List.getElem_toArray, List.getElem_cons_succ, List.getElem_cons_zero, List.setIfInBounds_toArray, List.set_cons_zero, List.set_cons_succ]
                refine wpAnyH_take (i := 10) (v := .agg (rqV q p)) rfl (by kernel_rfl) (by kernel_rfl) (by kernel_rfl) (fun _ _ _ h => h) (yieldsIf_load_rq (by rfl) (.tmp 2) rfl w.heap.size rfl q p (fun W hW => HQ.out.at_ hW HQ.out.lt)) (by first | assumption | exact trivial) ?_
                simp only [Act.put, List.getElem_toArray, List.getElem_cons_succ, List.getElem_cons_zero, List.setIfInBounds_toArray, List.set_cons_zero, List.set_cons_succ]
                refine wpAnyH_take (i := 11) (v := .int .i64 (d : Int)) rfl (by kernel_rfl) (by kernel_rfl) (by kernel_rfl) (fun _ _ _ h => h) (Or.inl ⟨by rfl, ?_⟩) (by first | assumption | exact trivial) ?_
                · intro W hSW; go_simp; try (with_reducible rfl)
                simp only [Act.put, List.getElem_toArray, List.getElem_cons_succ, List.getElem_cons_zero, List.setIfInBounds_toArray, List.set_cons_zero, List.set_cons_succ]
                refine wpAnyH_ready (rs := [9]) (by kernel_rfl) (by simp) ?_
                refine AllReadyH.cons rfl (fun K hK => ?_) AllReadyH.nil
                go_simp
                go_wp2_with (go_at_call 42; refine (HByx.out _ k4).mono ?_; rintro e w5 ⟨rfl, hb5⟩)
                have k5 : Below w1.heap.size w1 w5 := go_on k4 hb5.out
                refine hK.out _ _ (k5) (fun hHeld => ?_)
                clear hK K
                refine wpAnyH_ready (rs := [12]) (by kernel_rfl) (by simp) ?_
                refine AllReadyH.cons rfl (fun K hK => ?_) AllReadyH.nil
                go_simp
                go_wp2_with (go_at_call 19; refine (HCo.out _ k5).mono ?_; rintro e w6 ⟨rfl, hb6⟩)
                have k6 : Below w1.heap.size w1 w6 := go_on k5 hb6.out
                refine hK.out _ _ (k6) (fun hHeld => ?_)
                clear hK K
                refine wpAnyH_take (i := 13) (v := .bool true) rfl (by kernel_rfl) (by kernel_rfl) (by kernel_rfl) (fun _ _ _ h => h) (Or.inl ⟨by rfl, ?_⟩) (by first | assumption | exact trivial) ?_
                · intro W hSW; have qyc := hyc; go_simp; try (with_reducible rfl)
                simp only [Act.put, List.getElem_toArray, List.getElem_cons_succ, List.getElem_cons_zero, List.setIfInBounds_toArray, List.set_cons_zero, List.set_cons_succ]
                refine wpAnyH_take (i := 14) (v := .bool true) rfl (by kernel_rfl) (by kernel_rfl) (by kernel_rfl) (fun _ _ _ h => h) (Or.inl ⟨by rfl, ?_⟩) (by first | assumption | exact trivial) ?_
                · intro W hSW; go_simp; try (with_reducible rfl)
                simp only [Act.put, List.getElem_toArray, List.getElem_cons_succ, List.getElem_cons_zero, List.setIfInBounds_toArray, List.set_cons_zero, List.set_cons_succ]
                refine wpAnyH_done (by kernel_rfl) ?_ _
                go_wp2
                go_ret2
                exact ⟨by rw [HF.out]; rfl, go_on HB.out k6⟩
              | false =>
                have HNO : Hid (∀ j z, j < k + 1 → q.nbs[j]? = some z → isHop q.l d cc z = false) := fun j z hj hz => by
                  by_cases e : j = k
                  · subst e
                    rw [hxk] at hz
                    cases hz
                    rw [hih, hyc, g16]; rfl
                  · exact hno.out j z (by omega) hz
                clear hih hno hxk g16
                go_wp2
                refine wp_region_held_drew (S := fun W => Below w1.heap.size w1 W) (by kernel_rfl) HBr.out.drew (fun hHeld => ?_)
                refine wpAnyH_take (i := 0) (v := .agg (rqV q p)) rfl (by kernel_rfl) (by kernel_rfl) (by kernel_rfl) (fun _ _ _ h => h) (yieldsIf_load_rq (by rfl) (.tmp 2) rfl w.heap.size rfl q p (fun W hW => HQ.out.at_ hW HQ.out.lt)) (by first | assumption | exact trivial) ?_
                simp only [Act.put, List.getElem_toArray, List.getElem_cons_succ, List.getElem_cons_zero, List.setIfInBounds_toArray, List.set_cons_zero, List.set_cons_succ]
                refine wpAnyH_take (i := 1) (v := .int .i64 (d : Int)) rfl (by kernel_rfl) (by kernel_rfl) (by kernel_rfl) (fun _ _ _ h => h) (Or.inl ⟨by rfl, ?_⟩) (by first | assumption | exact trivial) ?_
                · intro W hSW; go_simp; try (with_reducible rfl)
                simp only [Act.put, List.getElem_toArray, List.getElem_cons_succ, List.getElem_cons_zero, List.setIfInBounds_toArray, List.set_cons_zero, List.set_cons_succ]
                refine wpAnyH_take (i := 2) (v := .int .i64 x) rfl (by kernel_rfl) (by kernel_rfl) (by kernel_rfl) (fun _ _ _ h => h) (Or.inl ⟨by rfl, ?_⟩) (by first | assumption | exact trivial) ?_
                · intro W hSW; go_simp; try (with_reducible rfl)
                simp only [Act.put, List.getElem_toArray, List.getElem_cons_succ, List.getElem_cons_zero, List.setIfInBounds_toArray, List.set_cons_zero, List.set_cons_succ]
                refine wpAnyH_ready (rs := [3]) (by kernel_rfl) (by simp) ?_
                refine AllReadyH.cons rfl (fun K hK => ?_) AllReadyH.nil
                go_simp
                go_wp2_with (go_at_call 42; refine (HByx.out _ HBr.out.drew).mono ?_; rintro e w4 ⟨rfl, hb4⟩)
                have k4 : Below w1.heap.size w1 w4 := go_on HBr.out.drew hb4.out
                refine hK.out _ _ (k4) (fun hHeld => ?_)
                clear hK K
                refine wpAnyH_take (i := 4) (v := .bool true) rfl (by kernel_rfl) (by kernel_rfl) (by kernel_rfl) (fun _ _ _ h => h) (Or.inl ⟨by rfl, ?_⟩) (by first | assumption | exact trivial) ?_
                · intro W hSW; have q16 := h16; go_simp; try (with_reducible rfl)
                simp only [Act.put, List.getElem_toArray, List.getElem_cons_succ, List.getElem_cons_zero, List.setIfInBounds_toArray, List.set_cons_zero, List.set_cons_succ]
                refine wpAnyH_take (i := 5) (v := .bool true) rfl (by kernel_rfl) (by kernel_rfl) (by kernel_rfl) (fun _ _ _ h => h) (Or.inl ⟨by rfl, ?_⟩) (by first | assumption | exact trivial) ?_
                · intro W hSW; go_simp; try (with_reducible rfl)
                simp only [Act.put, List.getElem_toArray, List.getElem_cons_succ, List.getElem_cons_zero, List.setIfInBounds_toArray, List.set_cons_zero, List.set_cons_succ]
                refine wpAnyH_take (i := 6) (v := .agg (rqV q p)) rfl (by kernel_rfl) (by kernel_rfl) (by kernel_rfl) (fun _ _ _ h => h) (yieldsIf_load_rq (by rfl) (.tmp 2) rfl w.heap.size rfl q p (fun W hW => HQ.out.at_ hW HQ.out.lt)) (by first | assumption | exact trivial) ?_
                simp only [Act.put, List.getElem_toArray, List.getElem_cons_succ, List.getElem_cons_zero, List.setIfInBounds_toArray, List.set_cons_zero, List.set_cons_succ]
                refine wpAnyH_take (i := 7) (v := .int .i64 (d : Int)) rfl (by kernel_rfl) (by kernel_rfl) (by kernel_rfl) (fun _ _ _ h => h) (Or.inl ⟨by rfl, ?_⟩) (by first | assumption | exact trivial) ?_
                · intro W hSW; go_simp; try (with_reducible rfl)
                simp only [Act.put, List.getElem_toArray, List.getElem_cons_succ, List.getElem_cons_zero, List.setIfInBounds_toArray, List.set_cons_zero, List.set_cons_succ]
                refine wpAnyH_take (i := 8) (v := .int .i64 x) rfl (by kernel_rfl) (by kernel_rfl) (by kernel_rfl) (fun _ _ _ h => h) (Or.inl ⟨by rfl, ?_⟩) (by first | assumption | exact trivial) ?_
                · intro W hSW; go_simp; try (with_reducible rfl)
                simp only [Act.put, List.getElem_toArray, List.getElem_cons_succ, List.getElem_cons_zero, List.setIfInBounds_toArray, List.set_cons_zero, List.set_cons_succ]
                refine wpAnyH_take (i := 10) (v := .agg (rqV q p)) rfl (by kernel_rfl) (by kernel_rfl) (by kernel_rfl) (fun _ _ _ h => h) (yieldsIf_load_rq (by rfl) (.tmp 2) rfl w.heap.size rfl q p (fun W hW => HQ.out.at_ hW HQ.out.lt)) (by first | assumption | exact trivial) ?_
                simp only [Act.put, List.getElem_toArray, List.getElem_cons_succ, List.getElem_cons_zero, List.setIfInBounds_toArray, List.set_cons_zero, List.set_cons_succ]
                refine wpAnyH_take (i := 11) (v := .int .i64 (d : Int)) rfl (by kernel_rfl) (by kernel_rfl) (by kernel_rfl) (fun _ _ _ h => h) (Or.inl ⟨by rfl, ?_⟩) (by first | assumption | exact trivial) ?_
                · intro W hSW; go_simp; try (with_reducible rfl)
                simp only [Act.put, List.getElem_toArray, List.getElem_cons_succ, List.getElem_cons_zero, List.setIfInBounds_toArray, List.set_cons_zero, List.set_cons_succ]
                refine wpAnyH_ready (rs := [9]) (by kernel_rfl) (by simp) ?_
                refine AllReadyH.cons rfl (fun K hK => ?_) AllReadyH.nil
                go_simp
                go_wp2_with (go_at_call 42; refine (HByx.out _ k4).mono ?_; rintro e w5 ⟨rfl, hb5⟩)
                have k5 : Below w1.heap.size w1 w5 := go_on k4 hb5.out
                refine hK.out _ _ (k5) (fun hHeld => ?_)
                clear hK K
                refine wpAnyH_ready (rs := [12]) (by kernel_rfl) (by simp) ?_
                refine AllReadyH.cons rfl (fun K hK => ?_) AllReadyH.nil
                go_simp
                go_wp2_with (go_at_call 19; refine (HCo.out _ k5).mono ?_; rintro e w6 ⟨rfl, hb6⟩)
                have k6 : Below w1.heap.size w1 w6 := go_on k5 hb6.out
                refine hK.out _ _ (k6) (fun hHeld => ?_)
                clear hK K
                refine wpAnyH_take (i := 13) (v := .bool false) rfl (by kernel_rfl) (by kernel_rfl) (by kernel_rfl) (fun _ _ _ h => h) (Or.inl ⟨by rfl, ?_⟩) (by first | assumption | exact trivial) ?_
                · intro W hSW; have qyc := hyc; go_simp; try (with_reducible rfl)
                simp only [Act.put, List.getElem_toArray, List.getElem_cons_succ, List.getElem_cons_zero, List.setIfInBounds_toArray, List.set_cons_zero, List.set_cons_succ]
                refine wpAnyH_take (i := 14) (v := .bool false) rfl (by kernel_rfl) (by kernel_rfl) (by kernel_rfl) (fun _ _ _ h => h) (Or.inl ⟨by rfl, ?_⟩) (by first | assumption | exact trivial) ?_
                · intro W hSW; go_simp; try (with_reducible rfl)
                simp only [Act.put, List.getElem_toArray, List.getElem_cons_succ, List.getElem_cons_zero, List.setIfInBounds_toArray, List.set_cons_zero, List.set_cons_succ]
                refine wpAnyH_done (by kernel_rfl) ?_ _
                go_wp2
                go_roundw
                case rel => exact ⟨k + 1, by omega, by go_num, HNO, k6⟩
                case measure => simp [intOf]; omega
            · have g16 : decide (y < 16) = false := decide_eq_false h16
              have HNO : Hid (∀ j z, j < k + 1 → q.nbs[j]? = some z → isHop q.l d cc z = false) := fun j z hj hz => by
                by_cases e : j = k
                · subst e
                  rw [hxk] at hz
                  cases hz
                  rw [hih, g16]; rfl
                · exact hno.out j z (by omega) hz
              clear hih hno hxk
              go_wp2
              refine wp_region_held_drew (S := fun W => Below w1.heap.size w1 W) (by kernel_rfl) HBr.out.drew (fun hHeld => ?_)
              refine wpAnyH_take (i := 0) (v := .agg (rqV q p)) rfl (by kernel_rfl) (by kernel_rfl) (by kernel_rfl) (fun _ _ _ h => h) (yieldsIf_load_rq (by rfl) (.tmp 2) rfl w.heap.size rfl q p (fun W hW => HQ.out.at_ hW HQ.out.lt)) (by first | assumption | exact trivial) ?_
              simp only [Act.put, List.getElem_toArray, List.getElem_cons_succ, List.getElem_cons_zero, List.setIfInBounds_toArray, List.set_cons_zero, List.set_cons_succ]
              refine wpAnyH_take (i := 1) (v := .int .i64 (d : Int)) rfl (by kernel_rfl) (by kernel_rfl) (by kernel_rfl) (fun _ _ _ h => h) (Or.inl ⟨by rfl, ?_⟩) (by first | assumption | exact trivial) ?_
              · intro W hSW; go_simp; try (with_reducible rfl)
              simp only [Act.put, List.getElem_toArray, List.getElem_cons_succ, List.getElem_cons_zero, List.setIfInBounds_toArray, List.set_cons_zero, List.set_cons_succ]
              refine wpAnyH_take (i := 2) (v := .int .i64 x) rfl (by kernel_rfl) (by kernel_rfl) (by kernel_rfl) (fun _ _ _ h => h) (Or.inl ⟨by rfl, ?_⟩) (by first | assumption | exact trivial) ?_
              · intro W hSW; go_simp; try (with_reducible rfl)
              simp only [Act.put, List.getElem_toArray, List.getElem_cons_succ, List.getElem_cons_zero, List.setIfInBounds_toArray, List.set_cons_zero, List.set_cons_succ]
              refine wpAnyH_ready (rs := [3]) (by kernel_rfl) (by simp) ?_
              refine AllReadyH.cons rfl (fun K hK => ?_) AllReadyH.nil
              go_simp
              go_wp2_with (go_at_call 42; refine (HByx.out _ HBr.out.drew).mono ?_; rintro e w4 ⟨rfl, hb4⟩)
              have k4 : Below w1.heap.size w1 w4 := go_on HBr.out.drew hb4.out
              refine hK.out _ _ (k4) (fun hHeld => ?_)
              clear hK K
              refine wpAnyH_take (i := 4) (v := .bool false) rfl (by kernel_rfl) (by kernel_rfl) (by kernel_rfl) (fun _ _ _ h => h) (Or.inl ⟨by rfl, ?_⟩) (by first | assumption | exact trivial) ?_
              · intro W hSW; have q16 := h16; go_simp; try (with_reducible rfl)
              simp only [Act.put, List.getElem_toArray, List.getElem_cons_succ, List.getElem_cons_zero, List.setIfInBounds_toArray, List.set_cons_zero, List.set_cons_succ]
              refine wpAnyH_take (i := 5) (v := .bool false) rfl (by kernel_rfl) (by kernel_rfl) (by kernel_rfl) (fun _ _ _ h => h) (Or.inl ⟨by rfl, ?_⟩) (by first | assumption | exact trivial) ?_
              · intro W hSW; go_simp; try (with_reducible rfl)
              simp only [Act.put, List.getElem_toArray, List.getElem_cons_succ, List.getElem_cons_zero, List.setIfInBounds_toArray, List.set_cons_zero, List.set_cons_succ]
              refine wpAnyH_take (i := 6) (v := undef) rfl (by kernel_rfl) (by kernel_rfl) (by kernel_rfl) (fun _ _ _ h => h) (Or.inr ⟨by rfl, rfl⟩) (by first | assumption | exact trivial) ?restz1
              simp only [Act.put, List.getElem_toArray, List.getElem_cons_succ, List.getElem_cons_zero, List.setIfInBounds_toArray, List.set_cons_zero, List.set_cons_succ]
              refine wpAnyH_take (i := 7) (v := undef) rfl (by kernel_rfl) (by kernel_rfl) (by kernel_rfl) (fun _ _ _ h => h) (Or.inr ⟨by rfl, rfl⟩) (by first | assumption | exact trivial) ?restz2
              simp only [Act.put, List.getElem_toArray, List.getElem_cons_succ, List.getElem_cons_zero, List.setIfInBounds_toArray, List.set_cons_zero, List.set_cons_succ]
              refine wpAnyH_take (i := 8) (v := undef) rfl (by kernel_rfl) (by kernel_rfl) (by kernel_rfl) (fun _ _ _ h => h) (Or.inr ⟨by rfl, rfl⟩) (by first | assumption | exact trivial) ?restz3
              simp only [Act.put, List.getElem_toArray, List.getElem_cons_succ, List.getElem_cons_zero, List.setIfInBounds_toArray, List.set_cons_zero, List.set_cons_succ]
              refine wpAnyH_take (i := 9) (v := undef) rfl (by kernel_rfl) (by kernel_rfl) (by kernel_rfl) (fun _ _ _ h => h) (Or.inr ⟨by rfl, rfl⟩) (by first | assumption | exact trivial) ?restz4
              simp only [Act.put, List.getElem_toArray, List.getElem_cons_succ, List.getElem_cons_zero, List.setIfInBounds_toArray, List.set_cons_zero, List.set_cons_succ]
              refine wpAnyH_take (i := 10) (v := undef) rfl (by kernel_rfl) (by kernel_rfl) (by kernel_rfl) (fun _ _ _ h => h) (Or.inr ⟨by rfl, rfl⟩) (by first | assumption | exact trivial) ?restz5
              simp only [Act.put, List.getElem_toArray, List.getElem_cons_succ, List.getElem_cons_zero, List.setIfInBounds_toArray, List.set_cons_zero, List.set_cons_succ]
              refine wpAnyH_take (i := 11) (v := undef) rfl (by kernel_rfl) (by kernel_rfl) (by kernel_rfl) (fun _ _ _ h => h) (Or.inr ⟨by rfl, rfl⟩) (by first | assumption | exact trivial) ?restz6
              simp only [Act.put, List.getElem_toArray, List.getElem_cons_succ, List.getElem_cons_zero, List.setIfInBounds_toArray, List.set_cons_zero, List.set_cons_succ]
              refine wpAnyH_take (i := 12) (v := undef) rfl (by kernel_rfl) (by kernel_rfl) (by kernel_rfl) (fun _ _ _ h => h) (Or.inr ⟨by rfl, rfl⟩) (by first | assumption | exact trivial) ?restz7
              simp only [Act.put, List.getElem_toArray, List.getElem_cons_succ, List.getElem_cons_zero, List.setIfInBounds_toArray, List.set_cons_zero, List.set_cons_succ]
              refine wpAnyH_take (i := 13) (v := undef) rfl (by kernel_rfl) (by kernel_rfl) (by kernel_rfl) (fun _ _ _ h => h) (Or.inr ⟨by rfl, rfl⟩) (by first | assumption | exact trivial) ?restz8
              simp only [Act.put, List.getElem_toArray, List.getElem_cons_succ, List.getElem_cons_zero, List.setIfInBounds_toArray, List.set_cons_zero, List.set_cons_succ]
              refine wpAnyH_take (i := 14) (v := .bool false) rfl (by kernel_rfl) (by kernel_rfl) (by kernel_rfl) (fun _ _ _ h => h) (Or.inl ⟨by rfl, ?_⟩) (by first | assumption | exact trivial) ?_
              · intro W hSW; go_simp; try (with_reducible rfl)
              simp only [Act.put, List.getElem_toArray, List.getElem_cons_succ, List.getElem_cons_zero, List.setIfInBounds_toArray, List.set_cons_zero, List.set_cons_succ]
              refine wpAnyH_done (by kernel_rfl) ?_ _
              go_wp2
              go_roundw
              case rel => exact ⟨k + 1, by omega, by go_num, HNO, k4⟩
              case measure => simp [intOf]; omega
          · obtain rfl : k = N := by omega
            have HF : Hid (hopQ q.l d cc q.nbs = (0, false)) := by
              show _ = _
              unfold hopQ
              rw [find_none fun j s hs => hno.out j s (by rw [← HN.out]; exact (List.getElem?_eq_some_iff.1 hs).1) hs]
            clear hno
            go_wp2
            go_ret2
            exact ⟨by rw [HF.out]; rfl, go_on HB.out HBr.out⟩
end Go.Proofs.Ytablejhajilpiaa.Rt
