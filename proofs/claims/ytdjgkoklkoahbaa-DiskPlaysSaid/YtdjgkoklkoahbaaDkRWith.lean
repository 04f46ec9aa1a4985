/- The contracts of the reference's without and with. -/
import Derived.Test.YtdjgkoklkoahbaaDkRFun
namespace Go.Proofs.Ytdjgkoklkoahbaa.Dk
open Go.RowKit
open Go.Proofs.Ytdjgkoklkoahbaa.Me Go.Proofs.Ytdjgkoklkoahbaa.Hd
set_option linter.unusedVariables false
set_option linter.unusedSimpArgs false

/-- What a call answers that makes a slice of files. -/
def NewF (w : World) (L : Fs) (e : Ending) (w' : World) : Prop := ∃ v, e = .returned v ∧ Hid (Fv (fun k => w.heap.size ≤ k) w' v L) ∧ Hid (Below w.heap.size w w')
set_option maxRecDepth 100000 in
set_option maxHeartbeats 2000000 in
theorem without_any {Q : Nat → Prop} (w : World) (v : Value) (L : Fs) (hv : Hid (Fv Q w v L)) (hL : L.length ≤ 500) (n : Nm) : Calls Try.prog 59 #[v, nmV n] w (NewF w (del L n)) := by
  obtain ⟨A, c, rfl, h1, h2⟩ := hv.out.form
  obtain ⟨F, hF⟩ : ∃ F, L.length = F := ⟨_, rfl⟩
  have HF := Lib.hid hF
  rw [hF] at h1 hL ⊢
  obtain ⟨ns, hns⟩ : ∃ ns, (⟨n.toArray⟩ : ByteArray) = ns := ⟨_, rfl⟩
  have HNS := Lib.hid hns
  show Calls Try.prog 59 #[.slice A F c, .string ⟨n.toArray⟩] w _
  rw [hns]
  obtain ⟨W0, hW0⟩ : ∃ W0, w.alloc (.cells #[] 82) = W0 := ⟨_, rfl⟩
  have HWE := Lib.hid hW0
  have HO0 : Hid (Fo W0 w.heap.size (.slice (some ⟨w.heap.size, 0, none⟩) 0 0) (del (L.take 0) n)) := by show Fo _ _ _ _; rw [← hW0]; exact Fo.lit (Nat.le_refl _)
  have HB0 : Hid (Below w.heap.size w W0) := by show Below _ _ _; rw [← hW0]; exact Me.below_alloc (Below.refl _ _)
  clear hF hns hW0
  go_enter Try.func59, Try.ntmps59
  go_wp2
  rw [HWE.out]
  go_loopw [5, 6] (fun o u wr => ∃ k : Nat, k ≤ F ∧ u = .int .i64 k ∧ Hid (Fo wr w.heap.size o (del (L.take k) n)) ∧ Hid (Below w.heap.size w wr)) (fun _ u _ => F - (intOf u).toNat)
  case atStart => exact ⟨0, Nat.zero_le _, rfl, HO0, HB0⟩
  case round =>
    obtain ⟨k, hk, rfl, ho, hb⟩ := hrel
    clear HO0
    by_cases hlt : k < F
    · have hkF : k < L.length := by rw [HF.out]; exact hlt
      obtain ⟨g, rfl, hg, hc⟩ := hv.out.at_ (j := k) hkF
      obtain ⟨x0, x1, x2⟩ := hc wr hb.out
      have HQ : Hid ((del (L.take k) n).length ≤ 1000) := by
        have := del_len (L.take k) n
        have h2 : (L.take k).length ≤ k := List.length_take_le ..
        show _ ≤ _; omega
      have HS : Hid (del (L.take (k + 1)) n = if (flAt L k).1 = n then del (L.take k) n else del (L.take k) n ++ [flAt L k]) := by show _ = _; rw [take_succ hkF, del_snoc]
      have HWQ : Hid (wr.alloc (.cells #[.string ⟨(flAt L k).1.toArray⟩, .string (Me.strOf ((flAt L k).2.bytes.take (flAt L k).2.safe)), .string (Me.strOf ((flAt L k).2.bytes.drop (flAt L k).2.safe))] 82) = wr.alloc (.cells (flV (flAt L k)).toArray 82)) := rfl
      obtain ⟨m, hm⟩ : ∃ m, (flAt L k).1 = m := ⟨_, rfl⟩
      rw [hm] at x0 HWQ HS
      have hbeq := nm_beq m n
      rw [HNS.out] at hbeq
      simp only [nmV] at x0
      obtain ⟨ms, hms⟩ : ∃ ms, (⟨m.toArray⟩ : ByteArray) = ms := ⟨_, rfl⟩
      rw [hms] at x0 hbeq HWQ
      obtain ⟨S1, hS1⟩ : ∃ S, Me.strOf ((flAt L k).2.bytes.take (flAt L k).2.safe) = S := ⟨_, rfl⟩
      obtain ⟨S2, hS2⟩ : ∃ S, Me.strOf ((flAt L k).2.bytes.drop (flAt L k).2.safe) = S := ⟨_, rfl⟩
      rw [hS1] at x1 HWQ
      rw [hS2] at x2 HWQ
      have q1 : (k : Int) < (F : Int) := by omega
      have q0 : (0 : Int) ≤ (k : Int) := by omega
      clear hc hm hms hS1 hS2 hkF
      by_cases he : m = n
      · have HE : Hid (del (L.take (k + 1)) n = del (L.take k) n) := by show _ = _; rw [HS.out, if_pos he]
        rw [decide_eq_true he] at hbeq
        clear he HS
        go_wp2
        go_roundw
        case rel => exact ⟨k + 1, by omega, by go_num, by rw [HE.out]; exact ho, hb⟩
        case measure => simp [intOf]; omega
      · have HE : Hid (del (L.take (k + 1)) n = del (L.take k) n ++ [flAt L k]) := by show _ = _; rw [HS.out, if_neg he]
        rw [decide_eq_false he] at hbeq
        clear he HS
        go_wp2_with (at_builtin; refine appFl (wl := wr) rfl (.tmp 21) (.tmp 26) rfl w.heap.size _ (del (L.take k) n) (flAt L k) rfl HWQ.out ho.out hb.out hb.out.size _ rfl rfl HQ.out ?_; intro v2 w2 ho2 hb2 _ _; have HO2 := Lib.hid ho2; have HB2 := Lib.hid hb2; clear ho2 hb2)
        go_roundw
        case rel => exact ⟨k + 1, by omega, by go_num, by rw [HE.out]; exact HO2, HB2⟩
        case measure => simp [intOf]; omega
    · obtain rfl : k = F := by omega
      have q1 : ¬ (k : Int) < (k : Int) := by omega
      have HE : Hid (L.take k = L) := by show _ = _; rw [List.take_of_length_le (by rw [HF.out]; exact Nat.le_refl _)]
      rw [HE.out] at ho
      clear hk hlt
      go_wp2
      go_ret
      exact ⟨_, rfl, ho.out.fv, hb⟩
theorem with_step {w2 wr w' : World} {b : Nat} {v v' : Value} (hb : But (fun k => k = b) w2 wr) (ob : ∀ k, v.ownBlock = some k → k = b ∨ w2.heap.size ≤ k) (hg : wr.grownBy w' v.ownBlock) (hl : ∀ k, v'.ownBlock = some k → v.ownBlock = some k ∨ wr.heap.size ≤ k) :
    But (fun k => k = b) w2 w' ∧ ∀ k, v'.ownBlock = some k → k = b ∨ w2.heap.size ≤ k :=
  ⟨hb.grown hg fun r e => ob r e.symm.symm, fun k e => by
    rcases hl k e with h | h
    · exact ob k h
    · exact .inr (Nat.le_trans hb.size h)⟩
theorem with_cells {w2 wr : World} {a b : Nat} {o : Obj} (ha : w2.heap[a]? = some o) (hab : a ≠ b) (hb : But (fun k => k = b) w2 wr) : wr.heap[a]? = some o := hb.at_ ha hab
set_option maxRecDepth 100000 in
set_option maxHeartbeats 4000000 in
theorem with_any {Q : Nat → Prop} (w : World) (v : Value) (L : Fs) (hv : Hid (Fv Q w v L)) (hL : L.length ≤ 500) (p : Nm × Fl) : Calls Try.prog 57 #[v, .agg (flV p).toArray] w (NewF w (put L p.1 p.2)) := by
  obtain ⟨A, c, rfl, h1, h2⟩ := hv.out.form
  obtain ⟨F, hF⟩ : ∃ F, L.length = F := ⟨_, rfl⟩
  rw [hF] at h1 hL ⊢
  obtain ⟨n, hn⟩ : ∃ n, p.1 = n := ⟨_, rfl⟩
  have HN := Lib.hid hn
  have HV : Hid ((flV p).toArray = #[.string ⟨n.toArray⟩, .string (Me.strOf (p.2.bytes.take p.2.safe)), .string (Me.strOf (p.2.bytes.drop p.2.safe))]) := by show _ = _; rw [← hn]; rfl
  obtain ⟨ns, hns⟩ : ∃ ns, (⟨n.toArray⟩ : ByteArray) = ns := ⟨_, rfl⟩
  have HNS := Lib.hid hns
  obtain ⟨P1, hP1⟩ : ∃ S, Me.strOf (p.2.bytes.take p.2.safe) = S := ⟨_, rfl⟩
  obtain ⟨P2, hP2⟩ : ∃ S, Me.strOf (p.2.bytes.drop p.2.safe) = S := ⟨_, rfl⟩
  rw [hns, hP1, hP2] at HV
  rw [HV.out]
  obtain ⟨W1, hW1⟩ : ∃ W1, (w.alloc (.cells #[.string ns, .string P1, .string P2] 82)).alloc (.cells #[] 82) = W1 := ⟨_, rfl⟩
  have HWE := Lib.hid hW1
  have HB1 : Hid (Below w.heap.size w W1) := by show Below _ _ _; rw [← hW1]; exact Me.below_alloc (Me.below_alloc (Below.refl _ _))
  have HZ1 : Hid (W1.heap.size = w.heap.size + 1 + 1) := by show _ = _; rw [← hW1]; simp
  have HR1 : Hid (W1.heap[w.heap.size]? = some (.cells #[.string ns, .string P1, .string P2] 82 (0, 0))) := by
    show _ = _
    rw [← hW1]
    exact (Below.heap_alloc _ _ _ (by simp)).trans (heap_alloc_new w _)
  have HO1 : Hid (Fo W1 w.heap.size (.slice (some ⟨w.heap.size + 1, 0, none⟩) 0 0) []) := by
    show Fo _ _ _ _
    rw [← hW1]
    have := Fo.lit (w0 := w) (w := w.alloc (.cells #[.string ns, .string P1, .string P2] 82)) (by simp)
    rw [World.size_alloc] at this
    exact this
  have WO := Lib.hid (without_any W1 (.slice A L.length c) L (hv.out.below HB1.out) (by rw [hF]; exact hL) n)
  simp only [nmV, hF] at WO
  rw [hns] at WO
  have HLD := del_len L n
  rw [hF] at HLD
  have e1 : W1.cell? ⟨w.heap.size, 0, none⟩ = some (.string ns) := cell_of_row W1 _ 0 _ _ (0, 0) HR1.out
  clear hF hn hns hP1 hP2 hW1
  go_enter Try.func57, Try.ntmps57
  rw [← HWE.out] at e1
  go_wp2_with (go_at_call 59; rw [HWE.out]; refine WO.out.mono ?_; rintro e w2 ⟨v2, rfl, hv2, hb2⟩; obtain ⟨A2, c2, rfl, l1, l2⟩ := hv2.out.form)
  obtain ⟨R, hR⟩ : ∃ R, del L n = R := ⟨_, rfl⟩
  have HR := Lib.hid hR
  rw [hR] at hv2 l1 HLD ⊢
  obtain ⟨M, hM⟩ : ∃ M, R.length = M := ⟨_, rfl⟩
  have HM := Lib.hid hM
  rw [hM] at hv2 l1 HLD ⊢
  have HO2 : Hid (Fo w2 w.heap.size (.slice (some ⟨w.heap.size + 1, 0, none⟩) 0 0) []) := HO1.out.below hb2.out
  have HB2 : Hid (Below w.heap.size w w2) := HB1.out.trans (hb2.out.mono HB1.out.size)
  have HX2 : Hid (w2.heap[w.heap.size]? = some (.cells #[.string ns, .string P1, .string P2] 82 (0, 0))) := by
    have hz := HZ1.out
    show _ = _
    rw [hb2.out.block _ (by omega)]
    exact HR1.out
  have HV2 : Hid (Fv (fun k => ¬ k = w.heap.size + 1) w2 (.slice A2 M c2) R) := hv2.out.mono fun k _ hk => by
    have h1 : W1.heap.size ≤ k := hk
    have hz := HZ1.out
    show ¬ k = _
    omega
  have HSZ2 : Hid (w.heap.size + 1 < w2.heap.size) := by
    have hz := HZ1.out
    have := hb2.out.size
    show _ < _
    omega
  have HWI := Lib.hid (Wi.new R p)
  have HWQP : Hid (∀ wl : World, wl.alloc (.cells #[.string ns, .string P1, .string P2] 82) = wl.alloc (.cells (flV p).toArray 82)) := fun wl => by rw [HV.out]
  clear hM HO1 WO hv2 HR1 HB1
  go_loopw [5, 6, 7] (fun o d u wr => ∃ (k : Nat) (b : Bool) (out : Fs), k ≤ M ∧ d = .bool b ∧ u = .int .i64 k ∧ Hid (Wi R p k b out) ∧ Hid (Fo wr w.heap.size o out) ∧ Hid (But (fun k => k = w.heap.size + 1) w2 wr) ∧ Hid (∀ k, o.ownBlock = some k → k = w.heap.size + 1 ∨ w2.heap.size ≤ k)) (fun _ _ u _ => M - (intOf u).toNat)
  case atStart => exact ⟨0, false, [], Nat.zero_le _, rfl, rfl, HWI, HO2, But.refl _ _, fun k e => by cases e; exact .inl rfl⟩
  case round =>
    obtain ⟨k, b, out, hk, rfl, rfl, hwi, ho, hb, hob⟩ := hrel
    clear HWI HO2
    have hx := with_cells HX2.out (by omega) hb.out
    have y0 : wr.cell? ⟨w.heap.size, 0, none⟩ = some (.string ns) := cell_of_row wr _ 0 _ _ (0, 0) hx
    have y1 : wr.cell? ⟨w.heap.size, 1, none⟩ = some (.string P1) := cell_of_row wr _ 1 _ _ (0, 0) hx
    have y2 : wr.cell? ⟨w.heap.size, 2, none⟩ = some (.string P2) := cell_of_row wr _ 2 _ _ (0, 0) hx
    have hsz : Hid (w.heap.size ≤ wr.heap.size) := by have := HSZ2.out; have := hb.out.size; show _ ≤ _; omega
    have hlen := hwi.out.1
    clear hx
    by_cases hlt : k < M
    · have hkM : k < R.length := by rw [HM.out]; exact hlt
      obtain ⟨g, rfl, hg, hc⟩ := (HV2.out.but hb.out fun _ h => h).at_ (j := k) hkM
      have HC : Hid (∀ W, But (fun k => k = w.heap.size + 1) w2 W → W.cell? ⟨g, k * 3, none⟩ = some (nmV (flAt R k).1) ∧ W.cell? ⟨g, k * 3 + 1, none⟩ = some (.string (Me.strOf ((flAt R k).2.bytes.take (flAt R k).2.safe))) ∧ W.cell? ⟨g, k * 3 + 2, none⟩ = some (.string (Me.strOf ((flAt R k).2.bytes.drop (flAt R k).2.safe)))) := fun W hW => by
        obtain ⟨g', e, _, hc'⟩ := (HV2.out.but hW fun _ h => h).at_ (j := k) hkM
        cases e
        exact hc' W (Below.refl _ _)
      obtain ⟨x0, x1, x2⟩ := hc wr (Below.refl _ _)
      have HWQ : Hid (∀ wl : World, wl.alloc (.cells #[.string ⟨(flAt R k).1.toArray⟩, .string (Me.strOf ((flAt R k).2.bytes.take (flAt R k).2.safe)), .string (Me.strOf ((flAt R k).2.bytes.drop (flAt R k).2.safe))] 82) = wl.alloc (.cells (flV (flAt R k)).toArray 82)) := fun _ => rfl
      have hls := nm_less n (flAt R k).1
      rw [HNS.out] at hls
      have HMORE : Hid (b = true → Wi R p (k + 1) true (out ++ [flAt R k])) := fun e => by have h := hwi.out; rw [e] at h; exact h.more hkM
      have HSTEP : Hid (b = false → ¬ n < (flAt R k).1 → Wi R p (k + 1) false (out ++ [flAt R k])) := fun e hn => by have h := hwi.out; rw [e] at h; exact h.step hkM (by rw [HN.out]; exact hn)
      have HHERE : Hid (b = false → n < (flAt R k).1 → Wi R p (k + 1) true ((out ++ [p]) ++ [flAt R k])) := fun e hn => by have h := hwi.out; rw [e] at h; exact h.here hkM (by rw [HN.out]; exact hn)
      obtain ⟨m, hm⟩ : ∃ m, (flAt R k).1 = m := ⟨_, rfl⟩
      rw [hm] at x0 HWQ hls HSTEP HHERE HC
      simp only [nmV] at x0 HC
      obtain ⟨ms, hms⟩ : ∃ ms, (⟨m.toArray⟩ : ByteArray) = ms := ⟨_, rfl⟩
      rw [hms] at x0 hls HWQ HC
      obtain ⟨S1, hS1⟩ : ∃ S, Me.strOf ((flAt R k).2.bytes.take (flAt R k).2.safe) = S := ⟨_, rfl⟩
      obtain ⟨S2, hS2⟩ : ∃ S, Me.strOf ((flAt R k).2.bytes.drop (flAt R k).2.safe) = S := ⟨_, rfl⟩
      rw [hS1] at x1 HWQ HC
      rw [hS2] at x2 HWQ HC
      have q1 : (k : Int) < (M : Int) := by omega
      have q0 : (0 : Int) ≤ (k : Int) := by omega
      have HQ : Hid (out.length ≤ 990) := by show _ ≤ _; omega
      clear hc hm hms hS1 hS2 hkM hlen hwi hg
      cases b with
      | true =>
        have HW := Lib.hid (HMORE.out rfl)
        clear HMORE HSTEP HHERE hls y0 y1 y2
        go_wp2
        go_quiet (fail)
        obtain ⟨w3, hw3⟩ : ∃ w3, wr.drewN nq = w3 := ⟨_, rfl⟩
        have hb3 : Hid (But (fun k => k = w.heap.size + 1) w2 w3) := by show But _ _ _; rw [← hw3]; exact hb.out.trans (But.of_below (S := fun k => k = w.heap.size + 1) (Me.below_drewN (Below.refl _ wr) nq)) fun _ _ h => h
        have ho3 : Hid (Fo w3 w.heap.size u5 out) := by show Fo _ _ _ _; rw [← hw3]; exact ho.out.below (Me.below_drewN (Below.refl _ wr) nq)
        obtain ⟨x0', x1', x2'⟩ := HC.out w3 hb3.out
        have hsz3 : Hid (w.heap.size ≤ w3.heap.size) := by have := HSZ2.out; have := hb3.out.size; show _ ≤ _; omega
        rw [hw3]
        clear hw3 x0 x1 x2 ho hb hsz
        go_wp2_with (at_builtin; refine appFl (w0 := w3) (wl := w3) rfl (.tmp 35) (.tmp 40) rfl w.heap.size _ out (flAt R k) rfl (HWQ.out _) ho3.out (Below.refl _ _) hsz3.out _ rfl rfl (by have := HQ.out; omega) ?_; intro v4 w4 ho4 _ hg4 hl4; have HO4 := Lib.hid ho4; have HS4 := Lib.hid (with_step hb3.out hob.out hg4 hl4); clear ho4 hg4 hl4)
        go_roundw
        case rel => exact ⟨k + 1, true, _, by omega, rfl, by go_num, HW, HO4, HS4.out.1, HS4.out.2⟩
        case measure => simp [intOf]; omega
      | false =>
        by_cases hn : n < m
        · have HW := Lib.hid (HHERE.out rfl hn)
          rw [decide_eq_true hn] at hls
          clear HMORE HSTEP HHERE hn
          go_wp2
          go_quiet (fail)
          obtain ⟨w3, hw3⟩ : ∃ w3, wr.drewN nq = w3 := ⟨_, rfl⟩
          have hb3 : Hid (But (fun k => k = w.heap.size + 1) w2 w3) := by show But _ _ _; rw [← hw3]; exact hb.out.trans (But.of_below (S := fun k => k = w.heap.size + 1) (Me.below_drewN (Below.refl _ wr) nq)) fun _ _ h => h
          have ho3 : Hid (Fo w3 w.heap.size u5 out) := by show Fo _ _ _ _; rw [← hw3]; exact ho.out.below (Me.below_drewN (Below.refl _ wr) nq)
          have hx := with_cells HX2.out (by omega) hb3.out
          have y0' : w3.cell? ⟨w.heap.size, 0, none⟩ = some (.string ns) := cell_of_row w3 _ 0 _ _ (0, 0) hx
          have y1' : w3.cell? ⟨w.heap.size, 1, none⟩ = some (.string P1) := cell_of_row w3 _ 1 _ _ (0, 0) hx
          have y2' : w3.cell? ⟨w.heap.size, 2, none⟩ = some (.string P2) := cell_of_row w3 _ 2 _ _ (0, 0) hx
          have hsz3 : Hid (w.heap.size ≤ w3.heap.size) := by have := HSZ2.out; have := hb3.out.size; show _ ≤ _; omega
          rw [hw3]
          clear hw3 x0 x1 x2 ho hb hsz hx y0 y1 y2
          go_wp2_with (first
            | (at_builtin; refine appFl (w0 := w3) (wl := w3) rfl (.tmp 31) (.tmp 33) rfl w.heap.size _ out p rfl (HWQP.out _) ho3.out (Below.refl _ _) hsz3.out _ rfl rfl (by have := HQ.out; omega) ?_; intro v4 w4 ho4 _ hg4 hl4; have HO4 := Lib.hid ho4; have HS4 := Lib.hid (with_step hb3.out hob.out hg4 hl4); obtain ⟨A4, c4, rfl, _, _⟩ := ho4.form; obtain ⟨l4, hl4⟩ : ∃ l4, (out ++ [p]).length = l4 := ⟨_, rfl⟩; rw [hl4] at HO4 HS4; have HL4 : Hid (l4 ≤ 991) := (by have := HQ.out; simp at hl4; show _ ≤ _; omega); have HLE := Lib.hid hl4; rw [hl4]; obtain ⟨x0', x1', x2'⟩ := HC.out w4 HS4.out.1; have hsz4 : Hid (w.heap.size ≤ w4.heap.size) := (by have := HSZ2.out; have := HS4.out.1.size; show _ ≤ _; omega); clear ho4 hg4 hl4)
            | (at_builtin; refine appFl (w0 := w4) (wl := w4) rfl (.tmp 35) (.tmp 40) rfl w.heap.size _ (out ++ [p]) (flAt R k) rfl (HWQ.out _) HO4.out (Below.refl _ _) hsz4.out _ rfl rfl (by have := HL4.out; rw [HLE.out]; omega) ?_; intro v5 w5 ho5 _ hg5 hl5; have HO5 := Lib.hid ho5; have HS5 := Lib.hid (with_step HS4.out.1 HS4.out.2 hg5 hl5); clear ho5 hg5 hl5))
          go_roundw
          case rel => exact ⟨k + 1, true, _, by omega, rfl, by go_num, HW, HO5, HS5.out.1, HS5.out.2⟩
          case measure => simp [intOf]; omega
        · have HW := Lib.hid (HSTEP.out rfl hn)
          rw [decide_eq_false hn] at hls
          clear HMORE HSTEP HHERE hn
          go_wp2
          go_quiet (fail)
          obtain ⟨w3, hw3⟩ : ∃ w3, wr.drewN nq = w3 := ⟨_, rfl⟩
          have hb3 : Hid (But (fun k => k = w.heap.size + 1) w2 w3) := by show But _ _ _; rw [← hw3]; exact hb.out.trans (But.of_below (S := fun k => k = w.heap.size + 1) (Me.below_drewN (Below.refl _ wr) nq)) fun _ _ h => h
          have ho3 : Hid (Fo w3 w.heap.size u5 out) := by show Fo _ _ _ _; rw [← hw3]; exact ho.out.below (Me.below_drewN (Below.refl _ wr) nq)
          obtain ⟨x0', x1', x2'⟩ := HC.out w3 hb3.out
          have hsz3 : Hid (w.heap.size ≤ w3.heap.size) := by have := HSZ2.out; have := hb3.out.size; show _ ≤ _; omega
          rw [hw3]
          clear hw3 x0 x1 x2 ho hb hsz y0 y1 y2
          go_wp2_with (at_builtin; refine appFl (w0 := w3) (wl := w3) rfl (.tmp 35) (.tmp 40) rfl w.heap.size _ out (flAt R k) rfl (HWQ.out _) ho3.out (Below.refl _ _) hsz3.out _ rfl rfl (by have := HQ.out; omega) ?_; intro v4 w4 ho4 _ hg4 hl4; have HO4 := Lib.hid ho4; have HS4 := Lib.hid (with_step hb3.out hob.out hg4 hl4); clear ho4 hg4 hl4)
          go_roundw
          case rel => exact ⟨k + 1, false, _, by omega, rfl, by go_num, HW, HO4, HS4.out.1, HS4.out.2⟩
          case measure => simp [intOf]; omega
    · obtain rfl : k = M := by omega
      have q1 : ¬ (k : Int) < (k : Int) := by omega
      have HP : Hid (put L p.1 p.2 = ins R p.1 p.2) := by show _ = _; unfold put; rw [HN.out, HR.out]
      have HBW : Hid (Below w.heap.size w wr) := HB2.out.trans (hb.out.below (by have := HSZ2.out; omega) fun j hj => by omega)
      cases b with
      | true =>
        have HE : Hid (out = ins R p.1 p.2) := by have h := hwi.out; rw [← HM.out] at h; exact h.end_
        clear hwi hlen y0 y1 y2 hk hlt
        go_wp2
        go_ret
        exact ⟨_, rfl, by show Fv _ _ _ _; rw [HP.out, ← HE.out]; exact ho.out.fv, HBW⟩
      | false =>
        have HE : Hid (out ++ [p] = ins R p.1 p.2) := by have h := hwi.out; rw [← HM.out] at h; exact h.last
        have HQ : Hid (out.length ≤ 990) := by show _ ≤ _; omega
        clear hwi hlen hk hlt
        go_wp2_with (at_builtin; refine appFl (w0 := wr) (wl := wr) rfl (.tmp 44) (.tmp 46) rfl w.heap.size _ out p rfl (HWQP.out _) ho.out (Below.refl _ _) hsz.out _ rfl rfl (by have := HQ.out; omega) ?_; intro v4 w4 ho4 hb4 hg4 hl4; have HO4 := Lib.hid ho4; have HB4 := Lib.hid hb4; clear ho4 hg4 hl4 hb4)
        go_ret
        exact ⟨_, rfl, by show Fv _ _ _ _; rw [HP.out, ← HE.out]; exact HO4.out.fv, HBW.out.trans (HB4.out)⟩
end Go.Proofs.Ytdjgkoklkoahbaa.Dk
