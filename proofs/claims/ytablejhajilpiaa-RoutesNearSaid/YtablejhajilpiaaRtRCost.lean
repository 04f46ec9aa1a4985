/- The reference's Cost. -/
import Derived.Test.YtablejhajilpiaaRtRNew
import Derived.Deep.RegionHeld
namespace Go.Proofs.Ytablejhajilpiaa.Rt
open Go.RowKit Go.Maps
open Go.Proofs.Ytablejhajilpiaa.Sb
set_option linter.unusedVariables false
set_option linter.unusedSimpArgs false

theorem yieldsIf_load_rq {ops : Array Oper} {S : World → Prop} {op : Oper} {a : Act} (hw : Region.wanted op (yielded ops a.tmps) = true) (x : Operand) (ho : op.op = .load 33 x)
    (g : Nat) (hx : a.eval x = .pointer (some ⟨g, 0, none⟩)) (q : RQ) (p : Pl) (hS : ∀ W, S W → Bq W g q p) : YieldsIf Try.prog ops S op (.agg (rqV q p)) a := by
  have := yieldsIf_load_mid (P := Try.prog) (ops := ops) (S := S) (op := op) (a := a) hw 33 x ho g 0 hx (rqV q p).toList _ (fun W hW => by
    have h := World.rangeAt_of_block (hS W hW) 0 5
    have e : (rqV q p).extract 0 (0 + 5) = rqV q p := rfl
    rw [e] at h
    exact h) Try.underlying33 rfl (rq_size q p)
  simpa using this
def leastQ (l : List He) (d : Nat) (nbs : List Int) : Int := nbs.foldl (fun m x => min m (byQ l d x)) 16
def costQ (q : RQ) (n : Int) : Int := if isN n = false then 16 else if n = q.self then 0 else if 0 ≤ viaL q.set n then byQ q.l n.toNat (viaL q.set n) else leastQ q.l n.toNat q.nbs
theorem leastQ_snoc (l : List He) (d : Nat) (nbs : List Int) {k : Nat} (h : k < nbs.length) : leastQ l d (nbs.take (k + 1)) = min (leastQ l d (nbs.take k)) (byQ l d (Mi.at_ nbs k)) := by
  rw [List.take_add_one, List.getElem?_eq_getElem h, ← Mi.at_get h]
  simp [leastQ]
/-- What is known of the reference's table that is asked. -/
structure Asked (M : Nat → Prop) (w : World) (q : RQ) (p : Pl) : Prop where
  rf : Rf M w q p
  ok : CokL q.l
  nl : q.nbs.length ≤ 64
  sl : q.set.length ≤ 1000
  ll : q.l.length ≤ 1000
theorem Asked.below {M : Nat → Prop} {w w' : World} {q : RQ} {p : Pl} (h : Asked M w q p) (hb : Below w.heap.size w w') : Asked M w' q p := ⟨h.rf.below hb, h.ok, h.nl, h.sl, h.ll⟩
set_option maxRecDepth 100000 in
set_option maxHeartbeats 4000000 in
theorem RCost_any {M : Nat → Prop} (q : RQ) (p : Pl) (n : Int) (w : World) (h : Hid (Asked M w q p)) : Calls Try.prog 19 #[.agg (rqV q p), .int .i64 n] w fun e w' => e = .returned (.int .i64 (costQ q n)) ∧ Hid (Below w.heap.size w w') := by
  have HQ : Hid (Bq (w.alloc (.cells (rqV q p) 33)) w.heap.size q p) := box_rq q p w
  have HB : Hid (Below w.heap.size w (w.alloc (.cells (rqV q p) 33))) := Mi.below_alloc (Below.refl _ _)
  have HA : Hid (Asked M (w.alloc (.cells (rqV q p) 33)) q p) := h.out.below HB.out
  have HI := Lib.hid (RNode_any n)
  obtain ⟨w1, hw1⟩ : ∃ w1, w.alloc (.cells (rqV q p) 33) = w1 := ⟨_, rfl⟩
  have HW1 : Hid (w.alloc (.cells (rqV q p) 33) = w1) := hw1
  rw [hw1] at HQ HB HA
  clear hw1
  obtain ⟨b0, b1, b2, b3, b4⟩ := HQ.out.cells
  unfold costQ
  cases hn : isN n with
  | false =>
    rw [hn] at HI
    rw [if_pos rfl]
    go_enter Try.func19, Try.ntmps19
    go_wp2_with (first
      | (refine Mi.allocTo rfl (.pointer (some ⟨_, 0, none⟩)) (.cells (rqV q p) 33 (0, 0)) (exec_boxq _ _ q p (.tmp 0) rfl rfl _) ?_; rw [HW1.out])
      | (go_at_call 34; refine (HI.out _).mono ?_; rintro e w' ⟨rfl, rfl⟩))
    go_ret
    exact ⟨rfl, HB⟩
  | true =>
    obtain ⟨d, rfl, hd⟩ := isN_of hn
    rw [hn] at HI
    rw [if_neg (by decide), show ((d : Int)).toNat = d by omega]
    by_cases hs : (d : Int) = q.self
    · rw [if_pos hs]
      have g1 : ((d : Int) == q.self) = true := beq_iff_eq.mpr hs
      clear hs hn
      go_enter Try.func19, Try.ntmps19
      go_wp2_with (first
        | (refine Mi.allocTo rfl (.pointer (some ⟨_, 0, none⟩)) (.cells (rqV q p) 33 (0, 0)) (exec_boxq _ _ q p (.tmp 0) rfl rfl _) ?_; rw [HW1.out])
        | (go_at_call 34; refine (HI.out _).mono ?_; rintro e w' ⟨rfl, rfl⟩))
      go_ret
      exact ⟨rfl, HB⟩
    · rw [if_neg hs]
      have g1 : ((d : Int) == q.self) = false := beq_eq_false_iff_ne.mpr hs
      have HV := Lib.hid (fun (W : World) (hW : Below w1.heap.size w1 W) => RVia_any q p (d : Int) W (HA.out.below hW).rf (Nat.le_trans HA.out.sl (by decide)))
      have HBy := Lib.hid (fun (x : Int) (W : World) (hW : Below w1.heap.size w1 W) => RBy_any q p d hd x W (HA.out.below hW).rf HA.out.ok (Nat.le_trans HA.out.ll (by decide)))
      obtain ⟨v, hv⟩ : ∃ v, viaL q.set (d : Int) = v := ⟨_, rfl⟩
      rw [hv] at HV ⊢
      clear hs hn hv
      by_cases hv0 : 0 ≤ v
      · rw [if_pos hv0]
        obtain ⟨y, hy⟩ : ∃ y, byQ q.l d v = y := ⟨_, rfl⟩
        have HByv := Lib.hid (fun W hW => HBy.out v W hW)
        rw [hy] at HByv ⊢
        clear hy HBy
        go_enter Try.func19, Try.ntmps19
        go_wp2_with (first
          | (refine Mi.allocTo rfl (.pointer (some ⟨_, 0, none⟩)) (.cells (rqV q p) 33 (0, 0)) (exec_boxq _ _ q p (.tmp 0) rfl rfl _) ?_; rw [HW1.out])
          | (go_at_call 34; refine (HI.out _).mono ?_; rintro e w' ⟨rfl, rfl⟩)
          | (refine wpList_load_row rfl 33 (.tmp 2) rfl w.heap.size rfl 33 _ (0, 0) _ HQ.out Try.underlying33 rfl (rq_size _ _) ?_)
          | (go_at_call 41; refine (HV.out _ (Below.refl _ _)).mono ?_; rintro e w2 ⟨rfl, hb2⟩))
        refine wp_region_held_drew (S := fun W => Below w1.heap.size w1 W) (by kernel_rfl) hb2.out.drew (fun hHeld => ?_)
        refine wpAnyH_take (i := 0) (v := .agg (rqV q p)) rfl (by kernel_rfl) (by kernel_rfl) (by kernel_rfl) (fun _ _ _ h => h) (yieldsIf_load_rq (by rfl) (.tmp 2) rfl w.heap.size rfl q p (fun W hW => HQ.out.at_ hW HQ.out.lt)) (by first | assumption | exact trivial) ?_
        simp only [Act.put, List.getElem_toArray, List.getElem_cons_succ, List.getElem_cons_zero, List.setIfInBounds_toArray, List.set_cons_zero, List.set_cons_succ]
        refine wpAnyH_take (i := 1) (v := .int .i64 (d : Int)) rfl (by kernel_rfl) (by kernel_rfl) (by kernel_rfl) (fun _ _ _ h => h) (Or.inl ⟨by rfl, ?_⟩) (by first | assumption | exact trivial) ?_
        · intro W hSW; go_simp; try (with_reducible rfl)
        simp only [Act.put, List.getElem_toArray, List.getElem_cons_succ, List.getElem_cons_zero, List.setIfInBounds_toArray, List.set_cons_zero, List.set_cons_succ]
        refine wpAnyH_take (i := 2) (v := .agg (rqV q p)) rfl (by kernel_rfl) (by kernel_rfl) (by kernel_rfl) (fun _ _ _ h => h) (yieldsIf_load_rq (by rfl) (.tmp 2) rfl w.heap.size rfl q p (fun W hW => HQ.out.at_ hW HQ.out.lt)) (by first | assumption | exact trivial) ?_
        simp only [Act.put, List.getElem_toArray, List.getElem_cons_succ, List.getElem_cons_zero, List.setIfInBounds_toArray, List.set_cons_zero, List.set_cons_succ]
        refine wpAnyH_take (i := 3) (v := .int .i64 (d : Int)) rfl (by kernel_rfl) (by kernel_rfl) (by kernel_rfl) (fun _ _ _ h => h) (Or.inl ⟨by rfl, ?_⟩) (by first | assumption | exact trivial) ?_
        · intro W hSW; go_simp; try (with_reducible rfl)
        simp only [Act.put, List.getElem_toArray, List.getElem_cons_succ, List.getElem_cons_zero, List.setIfInBounds_toArray, List.set_cons_zero, List.set_cons_succ]
        refine wpAnyH_ready (rs := [4]) (by kernel_rfl) (by simp) ?_
        refine AllReadyH.cons rfl (fun K hK => ?_) AllReadyH.nil
        go_simp
        go_wp2_with (go_at_call 41; refine (HV.out _ hb2.out.drew).mono ?_; rintro e w3 ⟨rfl, hb3⟩)
        have k3 : Below w1.heap.size w1 w3 := go_on hb2.out.drew hb3.out
        refine hK.out _ _ (k3) (fun hHeld => ?_)
        clear hK K
        refine wpAnyH_ready (rs := [5]) (by kernel_rfl) (by simp) ?_
        refine AllReadyH.cons rfl (fun K hK => ?_) AllReadyH.nil
        go_simp
        go_wp2_with (go_at_call 42; refine (HByv.out _ k3).mono ?_; rintro e w4 ⟨rfl, hb4⟩)
        have k4 : Below w1.heap.size w1 w4 := go_on k3 hb4.out
        refine hK.out _ _ (k4) (fun hHeld => ?_)
        clear hK K
        refine wpAnyH_take (i := 6) (v := .int .i64 y) rfl (by kernel_rfl) (by kernel_rfl) (by kernel_rfl) (fun _ _ _ h => h) (Or.inl ⟨by rfl, ?_⟩) (by first | assumption | exact trivial) ?_
        · intro W hSW; go_simp; try (with_reducible rfl)
        simp only [Act.put, List.getElem_toArray, List.getElem_cons_succ, List.getElem_cons_zero, List.setIfInBounds_toArray, List.set_cons_zero, List.set_cons_succ]
        refine wpAnyH_done (by kernel_rfl) ?_ _
        go_wp2
        go_ret
        exact ⟨rfl, HB.out.trans (k4.mono HB.out.size)⟩
      · rw [if_neg hv0]
        obtain ⟨N, hN⟩ : ∃ N, q.nbs.length = N := ⟨_, rfl⟩
        have HN : Hid (q.nbs.length = N) := hN
        have hN64 : N ≤ 64 := by rw [← hN]; exact HA.out.nl
        rw [hN] at b2
        clear hN
        go_enter Try.func19, Try.ntmps19
        go_wp2_with (first
          | (refine Mi.allocTo rfl (.pointer (some ⟨_, 0, none⟩)) (.cells (rqV q p) 33 (0, 0)) (exec_boxq _ _ q p (.tmp 0) rfl rfl _) ?_; rw [HW1.out])
          | (go_at_call 34; refine (HI.out _).mono ?_; rintro e w' ⟨rfl, rfl⟩)
          | (refine wpList_load_row rfl 33 (.tmp 2) rfl w.heap.size rfl 33 _ (0, 0) _ HQ.out Try.underlying33 rfl (rq_size _ _) ?_)
          | (go_at_call 41; refine (HV.out _ (Below.refl _ _)).mono ?_; rintro e w2 ⟨rfl, hb2⟩))
        go_loopw [5, 6] (fun m i wr => ∃ k : Nat, k ≤ N ∧ i = .int .i64 k ∧ m = .int .i64 (leastQ q.l d (q.nbs.take k)) ∧ Hid (Below w1.heap.size w1 wr)) (fun _ i _ => N - (intOf i).toNat)
        case atStart => exact ⟨0, Nat.zero_le _, rfl, rfl, hb2⟩
        case round =>
          obtain ⟨k, hk, rfl, rfl, HBr⟩ := hrel
          clear b0 b1 b2 b3 b4
          obtain ⟨b0, b1, b2, b3, b4⟩ := (HQ.out.at_ HBr.out HQ.out.lt).cells
          rw [HN.out] at b2
          by_cases hlt : k < N
          · have hsn : Hid (leastQ q.l d (q.nbs.take (k + 1)) = min (leastQ q.l d (q.nbs.take k)) (byQ q.l d (Mi.at_ q.nbs k))) := leastQ_snoc _ _ _ (by rw [HN.out]; exact hlt)
            obtain ⟨x, hx⟩ : ∃ x, Mi.at_ q.nbs k = x := ⟨_, rfl⟩
            obtain ⟨m, hm⟩ : ∃ m, leastQ q.l d (q.nbs.take k) = m := ⟨_, rfl⟩
            obtain ⟨b, off, hA, _, hlb, y0⟩ := (HA.out.rf.nbs).at_ (j := k) (by rw [HN.out]; exact hlt)
            obtain ⟨y, hy⟩ : ∃ y, byQ q.l d x = y := ⟨_, rfl⟩
            have HByx := Lib.hid (fun W hW => HBy.out x W hW)
            rw [hx] at y0 hsn
            rw [hm] at hsn ⊢
            rw [hy] at hsn HByx
            rw [hA] at b2
            have HC : Hid (∀ W, Below w1.heap.size w1 W → W.cell? ⟨b, off + k, none⟩ = some (.int .i64 x) ∧ W.cell? ⟨w.heap.size, 2, none⟩ = some (.slice (some ⟨b, off, none⟩) N p.cA)) := fun W hW => ⟨(hW.cell (p := ⟨b, off + k, none⟩) hlb).trans y0, by
              have := (HQ.out.at_ hW HQ.out.lt).cells.2.2.1
              rw [HN.out, hA] at this
              exact this⟩
            have hki : (k : Int) < (N : Int) := by omega
            clear hx hm hy hA y0
            go_wp2
            refine wp_region_held_drew (S := fun W => Below w1.heap.size w1 W) (by kernel_rfl) HBr.out.drew (fun hHeld => ?_)
            refine wpAnyH_take (i := 0) (v := .int .i64 m) rfl (by kernel_rfl) (by kernel_rfl) (by kernel_rfl) (fun _ _ _ h => h) (Or.inl ⟨by rfl, ?_⟩) (by first | assumption | exact trivial) ?_
            · intro W hSW; go_simp; try (with_reducible rfl)
            simp only [Act.put, List.getElem_toArray, List.getElem_cons_succ, List.getElem_cons_zero, List.setIfInBounds_toArray, List.set_cons_zero, List.set_cons_succ]
            refine wpAnyH_take (i := 1) (v := .agg (rqV q p)) rfl (by kernel_rfl) (by kernel_rfl) (by kernel_rfl) (fun _ _ _ h => h) (yieldsIf_load_rq (by rfl) (.tmp 2) rfl w.heap.size rfl q p (fun W hW => HQ.out.at_ hW HQ.out.lt)) (by first | assumption | exact trivial) ?_
            simp only [Act.put, List.getElem_toArray, List.getElem_cons_succ, List.getElem_cons_zero, List.setIfInBounds_toArray, List.set_cons_zero, List.set_cons_succ]
            refine wpAnyH_take (i := 2) (v := .int .i64 (d : Int)) rfl (by kernel_rfl) (by kernel_rfl) (by kernel_rfl) (fun _ _ _ h => h) (Or.inl ⟨by rfl, ?_⟩) (by first | assumption | exact trivial) ?_
            · intro W hSW; go_simp; try (with_reducible rfl)
            simp only [Act.put, List.getElem_toArray, List.getElem_cons_succ, List.getElem_cons_zero, List.setIfInBounds_toArray, List.set_cons_zero, List.set_cons_succ]
            refine wpAnyH_take (i := 3) (v := .pointer (some ⟨w.heap.size, 2, none⟩)) rfl (by kernel_rfl) (by kernel_rfl) (by kernel_rfl) (fun _ _ _ h => h) (Or.inl ⟨by rfl, ?_⟩) (by first | assumption | exact trivial) ?_
            · intro W hSW; go_simp; try (with_reducible rfl)
            simp only [Act.put, List.getElem_toArray, List.getElem_cons_succ, List.getElem_cons_zero, List.setIfInBounds_toArray, List.set_cons_zero, List.set_cons_succ]
            refine wpAnyH_take (i := 4) (v := .slice (some ⟨b, off, none⟩) N p.cA) rfl (by kernel_rfl) (by kernel_rfl) (by kernel_rfl) (fun _ _ _ h => h) (Or.inl ⟨by rfl, ?_⟩) (by first | assumption | exact trivial) ?_
            · intro W hSW; have q4 := (HC.out W hSW).2; go_simp; try (with_reducible rfl)
            simp only [Act.put, List.getElem_toArray, List.getElem_cons_succ, List.getElem_cons_zero, List.setIfInBounds_toArray, List.set_cons_zero, List.set_cons_succ]
            refine wpAnyH_take (i := 5) (v := .int .i64 (k : Int)) rfl (by kernel_rfl) (by kernel_rfl) (by kernel_rfl) (fun _ _ _ h => h) (Or.inl ⟨by rfl, ?_⟩) (by first | assumption | exact trivial) ?_
            · intro W hSW; go_simp; try (with_reducible rfl)
            simp only [Act.put, List.getElem_toArray, List.getElem_cons_succ, List.getElem_cons_zero, List.setIfInBounds_toArray, List.set_cons_zero, List.set_cons_succ]
            refine wpAnyH_take (i := 6) (v := .pointer (some ⟨b, off + k, none⟩)) rfl (by kernel_rfl) (by kernel_rfl) (by kernel_rfl) (fun _ _ _ h => h) (Or.inl ⟨by rfl, ?_⟩) (by first | assumption | exact trivial) ?_
            · intro W hSW; have q6 := hki; go_simp; try (with_reducible rfl)
            simp only [Act.put, List.getElem_toArray, List.getElem_cons_succ, List.getElem_cons_zero, List.setIfInBounds_toArray, List.set_cons_zero, List.set_cons_succ]
            refine wpAnyH_take (i := 7) (v := .int .i64 x) rfl (by kernel_rfl) (by kernel_rfl) (by kernel_rfl) (fun _ _ _ h => h) (Or.inl ⟨by rfl, ?_⟩) (by first | assumption | exact trivial) ?_
            · intro W hSW; have q7 := (HC.out W hSW).1; go_simp; try (with_reducible rfl)
            simp only [Act.put, List.getElem_toArray, List.getElem_cons_succ, List.getElem_cons_zero, List.setIfInBounds_toArray, List.set_cons_zero, List.set_cons_succ]
            refine wpAnyH_ready (rs := [8]) (by kernel_rfl) (by simp) ?_
            refine AllReadyH.cons rfl (fun K hK => ?_) AllReadyH.nil
            go_simp
            go_wp2_with (go_at_call 42; refine (HByx.out _ HBr.out.drew).mono ?_; rintro e w4 ⟨rfl, hb4⟩)
            have k4 : Below w1.heap.size w1 w4 := go_on HBr.out.drew hb4.out
            refine hK.out _ _ (k4) (fun hHeld => ?_)
            clear hK K
            refine wpAnyH_take (i := 9) (v := .int .i64 (min m y)) rfl (by kernel_rfl) (by kernel_rfl) (by kernel_rfl) (fun _ _ _ h => h) (Or.inl ⟨by rfl, ?_⟩) (by first | assumption | exact trivial) ?_
            · intro W hSW; go_simp; try (with_reducible rfl)
            simp only [Act.put, List.getElem_toArray, List.getElem_cons_succ, List.getElem_cons_zero, List.setIfInBounds_toArray, List.set_cons_zero, List.set_cons_succ]
            refine wpAnyH_take (i := 10) (v := .int .i64 (min m y)) rfl (by kernel_rfl) (by kernel_rfl) (by kernel_rfl) (fun _ _ _ h => h) (Or.inl ⟨by rfl, ?_⟩) (by first | assumption | exact trivial) ?_
            · intro W hSW; go_simp; try (with_reducible rfl)
            simp only [Act.put, List.getElem_toArray, List.getElem_cons_succ, List.getElem_cons_zero, List.setIfInBounds_toArray, List.set_cons_zero, List.set_cons_succ]
            refine wpAnyH_done (by kernel_rfl) ?_ _
            go_wp2
            go_roundw
            case rel => exact ⟨k + 1, by omega, by go_num, by rw [hsn.out], k4⟩
            case measure => simp [intOf]; omega
          · obtain rfl : k = N := by omega
            have HF : Hid (leastQ q.l d (q.nbs.take k) = leastQ q.l d q.nbs) := by show _ = _; rw [List.take_of_length_le (by rw [HN.out]; exact Nat.le_refl _)]
            go_wp2
            go_ret
            refine ⟨?_, HB.out.trans (HBr.out.mono HB.out.size)⟩
            rw [← HF.out]
            rfl
end Go.Proofs.Ytablejhajilpiaa.Rt
