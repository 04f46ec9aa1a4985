/- The reference's Set. -/
import Derived.Test.YtablejhajilpiaaRtRNew
namespace Go.Proofs.Ytablejhajilpiaa.Rt
open Go.RowKit Go.Maps
open Go.Proofs.Ytablejhajilpiaa.Sb
set_option linter.unusedVariables false
set_option linter.unusedSimpArgs false

/-- A new block whose address is said. -/
theorem allocAt {ops : Array Oper} {rest : List Oper} {o : Oper} {a : Act} {w : World} {Q : Exit → Act → World → Prop} (hg : o.guard = none) (g : Nat) (ob : Obj) (hrun : (execOp a.eval o).run Try.prog w = .ok (.value (.pointer (some ⟨w.heap.size, 0, none⟩))) (w.alloc ob)) (hgs : w.heap.size = g)
    (h : wpList Try.prog ops Q rest (a.put o.dst (.pointer (some ⟨g, 0, none⟩))) (w.alloc ob)) : wpList Try.prog ops Q (o :: rest) a w := by
  subst hgs
  exact Mi.allocTo hg _ _ hrun h
/-- What the reference's Set answers. -/
def setQE (q : RQ) (d by_ : Int) : Nat := if isN d = false then 1 else if d = q.self then 2 else if by_ ≠ -1 ∧ q.nbs.contains by_ = false then 4 else 0
def filtL (set : List (Int × Int)) (d : Int) : List (Int × Int) := set.filter fun r => !(r.1 == d)
def setL (set : List (Int × Int)) (d by_ : Int) : List (Int × Int) := if by_ = -1 then filtL set d else filtL set d ++ [(d, by_)]
def setQ (q : RQ) (d by_ : Int) : RQ := ⟨q.self, q.age, q.nbs, setL q.set d by_, q.l⟩
theorem filtL_snoc (l : List (Int × Int)) (d : Int) {k : Nat} {r : Int × Int} (h : l[k]? = some r) : filtL (l.take (k + 1)) d = if (r.1 == d) = true then filtL (l.take k) d else filtL (l.take k) d ++ [r] := by
  rw [List.take_add_one, h]
  unfold filtL
  rw [List.filter_append]
  cases e : (r.1 == d) <;> simp [e]
theorem filtL_len (l : List (Int × Int)) (d : Int) : (filtL l d).length ≤ l.length := List.length_filter_le _ _
/-- The two boxes of a call that answers a table. -/
structure Two2 (M : Nat → Prop) (w W : World) (q : RQ) (p : Pl) : Prop where
  b : Bq W w.heap.size q p
  z : Bq W (w.heap.size + 1) q0 p0
  bel : Below w.heap.size w W
  rf : Rf M W q p
  sz : W.heap.size = w.heap.size + 2
theorem two_boxes {M : Nat → Prop} {w : World} {q : RQ} {p : Pl} (h : Rf M w q p) : Two2 M w ((w.alloc (.cells (rqV q p) 33)).alloc (.cells (rqV q0 p0) 33)) q p := by
  have hb : Below w.heap.size w ((w.alloc (.cells (rqV q p) 33)).alloc (.cells (rqV q0 p0) 33)) := Mi.below_alloc (Mi.below_alloc (Below.refl _ _))
  refine ⟨(Below.heap_alloc _ _ _ (by simp)).trans (box_rq q p w), ?_, hb, h.below hb, by simp⟩
  have := box_rq q0 p0 (w.alloc (.cells (rqV q p) 33))
  rwa [World.size_alloc] at this
set_option maxRecDepth 100000 in
set_option maxHeartbeats 4000000 in
theorem RSet_no {M : Nat → Prop} (q : RQ) (p : Pl) (d by_ : Int) (w : World) (hr : Hid (Rf M w q p)) (hn : q.nbs.length ≤ 64) (hE : setQE q d by_ ≠ 0) :
    Calls Try.prog 36 #[.agg (rqV q p), .int .i64 d, .int .i64 by_] w fun e w' => e = .returned (.tuple #[.agg (rqV q p), .int .i64 (setQE q d by_ : Int)]) ∧ Hid (Below w.heap.size w w') := by
  have HI := Lib.hid (RNode_any d)
  have HT := Lib.hid (two_boxes hr.out)
  have HH := Lib.hid (RHas_any p.A p.cA q.nbs by_ _ HT.out.rf.nbs (Nat.le_trans hn (by decide)))
  obtain ⟨w1, hw1⟩ : ∃ w1, (w.alloc (.cells (rqV q p) 33)).alloc (.cells (rqV q0 p0) 33) = w1 := ⟨_, rfl⟩
  have HW1 : Hid ((w.alloc (.cells (rqV q p) 33)).alloc (.cells (rqV q0 p0) 33) = w1) := hw1
  rw [hw1] at HT HH
  obtain ⟨b0, b1, b2, b3, b4⟩ := HT.out.b.cells
  clear hw1
  unfold setQE at hE ⊢
  cases h1 : isN d with
  | false =>
    rw [h1] at HI
    rw [if_pos rfl]
    go_enter Try.func36, Try.ntmps36
    go_wp2_with (first
      | (refine Mi.allocTo rfl (.pointer (some ⟨_, 0, none⟩)) (.cells (rqV q p) 33 (0, 0)) (exec_boxq _ _ q p (.tmp 0) rfl rfl _) ?_)
      | (refine allocAt rfl (w.heap.size + 1) (.cells (rqV q0 p0) 33 (0, 0)) (alloc_rq _ _ rfl _) (World.size_alloc _ _) ?_; rw [HW1.out])
      | (go_at_call 34; refine (HI.out _).mono ?_; rintro e w' ⟨rfl, rfl⟩)
      | (refine wpList_load_row rfl 33 (.tmp 3) rfl w.heap.size rfl 33 _ (0, 0) _ HT.out.b Try.underlying33 rfl (rq_size _ _) ?_)
      | (refine wpList_store_row rfl 33 (.tmp 6) (.tmp 13) rfl (w.heap.size + 1) (rqV q p) rfl rfl 33 _ HT.out.z (rq_size _ _) rfl (rq_one _ _) ?_))
    refine ret_box2 rfl rfl (setRow_heap _ _ _ _ _ _ HT.out.z) rfl Try.underlying33 (rq_size _ _) rfl ⟨rfl, ?_⟩
    exact Sb.below_setRow _ HT.out.bel (Nat.le_succ _)
  | true =>
    rw [h1] at HI hE
    rw [if_neg (by decide)] at hE ⊢
    obtain ⟨sf, hsf⟩ : ∃ sf, q.self = sf := ⟨_, rfl⟩
    rw [hsf] at b0 hE ⊢
    by_cases h2 : d = sf
    · rw [if_pos h2]
      have g1 : (d == sf) = true := beq_iff_eq.mpr h2
      clear h2 hE hsf h1
      go_enter Try.func36, Try.ntmps36
      go_wp2_with (first
        | (refine Mi.allocTo rfl (.pointer (some ⟨_, 0, none⟩)) (.cells (rqV q p) 33 (0, 0)) (exec_boxq _ _ q p (.tmp 0) rfl rfl _) ?_)
        | (refine allocAt rfl (w.heap.size + 1) (.cells (rqV q0 p0) 33 (0, 0)) (alloc_rq _ _ rfl _) (World.size_alloc _ _) ?_; rw [HW1.out])
        | (go_at_call 34; refine (HI.out _).mono ?_; rintro e w' ⟨rfl, rfl⟩)
        | (refine wpList_load_row rfl 33 (.tmp 3) rfl w.heap.size rfl 33 _ (0, 0) _ HT.out.b Try.underlying33 rfl (rq_size _ _) ?_)
        | (refine wpList_store_row rfl 33 (.tmp 6) (.tmp 18) rfl (w.heap.size + 1) (rqV q p) rfl rfl 33 _ HT.out.z (rq_size _ _) rfl (rq_one _ _) ?_))
      refine ret_box2 rfl rfl (setRow_heap _ _ _ _ _ _ HT.out.z) rfl Try.underlying33 (rq_size _ _) rfl ⟨rfl, ?_⟩
      exact Sb.below_setRow _ HT.out.bel (Nat.le_succ _)
    · rw [if_neg h2] at hE ⊢
      have h3 : by_ ≠ -1 ∧ q.nbs.contains by_ = false := by
        apply Classical.byContradiction
        intro hc
        rw [if_neg hc] at hE
        exact hE rfl
      rw [if_pos h3]
      rw [h3.2] at HH
      have g1 : (d == sf) = false := beq_eq_false_iff_ne.mpr h2
      have g2 : (by_ != -1) = true := bne_iff_ne.mpr h3.1
      clear h2 hE hsf h1 h3
      go_enter Try.func36, Try.ntmps36
      go_wp2_with (first
        | (refine Mi.allocTo rfl (.pointer (some ⟨_, 0, none⟩)) (.cells (rqV q p) 33 (0, 0)) (exec_boxq _ _ q p (.tmp 0) rfl rfl _) ?_)
        | (refine allocAt rfl (w.heap.size + 1) (.cells (rqV q0 p0) 33 (0, 0)) (alloc_rq _ _ rfl _) (World.size_alloc _ _) ?_; rw [HW1.out])
        | (go_at_call 34; refine (HI.out _).mono ?_; rintro e w' ⟨rfl, rfl⟩)
        | (go_at_call 25; refine HH.out.mono ?_; rintro e w' ⟨rfl, rfl⟩)
        | (refine wpList_load_row rfl 33 (.tmp 3) rfl w.heap.size rfl 33 _ (0, 0) _ HT.out.b Try.underlying33 rfl (rq_size _ _) ?_)
        | (refine wpList_store_row rfl 33 (.tmp 6) (.tmp 28) rfl (w.heap.size + 1) (rqV q p) rfl rfl 33 _ HT.out.z (rq_size _ _) rfl (rq_one _ _) ?_))
      refine ret_box2 rfl rfl (setRow_heap _ _ _ _ _ _ HT.out.z) rfl Try.underlying33 (rq_size _ _) rfl ⟨rfl, ?_⟩
      exact Sb.below_setRow _ HT.out.bel (Nat.le_succ _)
set_option maxRecDepth 100000 in
set_option maxHeartbeats 4000000 in
theorem RSet_ok1 {M : Nat → Prop} (q : RQ) (p : Pl) (d : Int) (w : World) (hr : Hid (Rf M w q p)) (hn : q.nbs.length ≤ 64) (hs : q.set.length ≤ 1000) (hM : ∀ b, w.heap.size ≤ b → M b) (hE : setQE q d (-1) = 0) :
    Calls Try.prog 36 #[.agg (rqV q p), .int .i64 d, .int .i64 (-1)] w fun e w' => ∃ p', e = .returned (.tuple #[.agg (rqV (setQ q d (-1)) p'), .int .i64 0]) ∧ Hid (Rf M w' (setQ q d (-1)) p') ∧ Hid (Below w.heap.size w w') := by
  have HI := Lib.hid (RNode_any d)
  have HT := Lib.hid (two_boxes hr.out)
  have HH := Lib.hid (RHas_any p.A p.cA q.nbs (-1) _ HT.out.rf.nbs (Nat.le_trans hn (by decide)))
  obtain ⟨w1, hw1⟩ : ∃ w1, (w.alloc (.cells (rqV q p) 33)).alloc (.cells (rqV q0 p0) 33) = w1 := ⟨_, rfl⟩
  have HW1 : Hid ((w.alloc (.cells (rqV q p) 33)).alloc (.cells (rqV q0 p0) 33) = w1) := hw1
  rw [hw1] at HT HH
  obtain ⟨b0, b1, b2, b3, b4⟩ := HT.out.b.cells
  clear hw1
  unfold setQE at hE
  have h1 : isN d = true := by
    cases hb : isN d with
    | true => rfl
    | false => rw [if_pos hb] at hE; cases hE
  rw [h1] at HI hE
  rw [if_neg (by decide)] at hE
  have h2 : d ≠ q.self := fun e => by rw [if_pos e] at hE; cases hE
  rw [if_neg h2] at hE
  have g1 : (d == q.self) = false := beq_eq_false_iff_ne.mpr h2
  obtain ⟨N, hN⟩ : ∃ N, q.set.length = N := ⟨_, rfl⟩
  have HN : Hid (q.set.length = N) := hN
  rw [hN] at hs b3
  have HO0 : Hid (OR (w1.alloc (.cells #[] 94)) w1.heap.size (.slice (some ⟨w1.heap.size, 0, none⟩) 0 0) []) := Og.made w1
  have HB0 : Hid (Below w1.heap.size w1 (w1.alloc (.cells #[] 94))) := Mi.below_alloc (Below.refl _ _)
  have hfin : Hid (∀ (w5 : World) (u : Value), Below w1.heap.size w1 w5 → OR w5 w1.heap.size u (setL q.set d (-1)) → ∃ A c, u = .slice A (setL q.set d (-1)).length c ∧ Bq w5 (w.heap.size + 1) q0 p0 ∧ Rf M (w5.setRow (w.heap.size + 1) (rqV (setQ q d (-1)) ⟨p.A, p.cA, A, c, p.L, p.cL⟩)) (setQ q d (-1)) ⟨p.A, p.cA, A, c, p.L, p.cL⟩ ∧ Below w.heap.size w (w5.setRow (w.heap.size + 1) (rqV (setQ q d (-1)) ⟨p.A, p.cA, A, c, p.L, p.cL⟩))) := by
    intro w5 u hb5 ho
    have hsz := HT.out.sz
    obtain ⟨A, c, e, _, hrr⟩ := Og.form (enc := encR) (k := 2) (M := fun b => M b ∧ b ≠ w.heap.size + 1) (fun _ => rfl) ho (fun b hb => ⟨hM b (by omega), by omega⟩)
    have hbw : Below w.heap.size w (w5.setRow (w.heap.size + 1) (rqV (setQ q d (-1)) ⟨p.A, p.cA, A, c, p.L, p.cL⟩)) := Sb.below_setRow _ (HT.out.bel.trans (hb5.mono (by omega))) (Nat.le_succ _)
    have hR := hr.out.below hbw
    have hBU : But (fun k => k = w.heap.size + 1) w5 (w5.setRow (w.heap.size + 1) (rqV (setQ q d (-1)) ⟨p.A, p.cA, A, c, p.L, p.cL⟩)) := (But.refl (fun k => k = w.heap.size + 1) w5).setRow (D := w.heap.size + 1) (.inl rfl) _
    exact ⟨A, c, e, HT.out.z.at_ hb5 (by omega), ⟨hR.nbs, (hrr.but hBU fun b hb e => hb.2 e).mono fun b _ hb => hb.1, hR.l, hR.c⟩, hbw⟩
  clear hN h1 h2 hE HH
  go_enter Try.func36, Try.ntmps36
  go_wp2_with (first
    | (refine Mi.allocTo rfl (.pointer (some ⟨_, 0, none⟩)) (.cells (rqV q p) 33 (0, 0)) (exec_boxq _ _ q p (.tmp 0) rfl rfl _) ?_)
    | (refine allocAt rfl (w.heap.size + 1) (.cells (rqV q0 p0) 33 (0, 0)) (alloc_rq _ _ rfl _) (World.size_alloc _ _) ?_; rw [HW1.out])
    | (go_at_call 34; refine (HI.out _).mono ?_; rintro e w' ⟨rfl, rfl⟩))
  go_loopw [8, 9] (fun u i wr => ∃ k : Nat, k ≤ N ∧ i = .int .i64 k ∧ Hid (OR wr 0 u (filtL (q.set.take k) d)) ∧ Hid (∀ b, u.ownBlock = some b → w1.heap.size ≤ b) ∧ Hid (Below w1.heap.size w1 wr)) (fun _ i _ => N - (intOf i).toNat)
  case atStart => exact ⟨0, Nat.zero_le _, rfl, HO0.out.zero, fun b e => (HO0.out.lt b e).1, HB0⟩
  case round =>
    obtain ⟨k, hk, rfl, HO, HOB, HB⟩ := hrel
    clear b0 b1 b2 b3 b4 HO0 HB0
    obtain ⟨b0, b1, b2, b3, b4⟩ := (HT.out.b.at_ HB.out (by have := HT.out.sz; omega)).cells
    rw [HN.out] at b3
    by_cases hlt : k < N
    · obtain ⟨r, hrk⟩ : ∃ r, q.set[k]? = some r := ⟨_, List.getElem?_eq_getElem (by rw [HN.out]; exact hlt)⟩
      obtain ⟨b, off, hA, _, _, y0, y1⟩ := (HT.out.rf.below HB.out).set.at_ hrk
      rw [hA] at b3
      have HS : Hid (filtL (q.set.take (k + 1)) d = if (r.1 == d) = true then filtL (q.set.take k) d else filtL (q.set.take k) d ++ [r]) := filtL_snoc _ _ hrk
      have hfl : (filtL (q.set.take k) d).length ≤ 100000 := by have := filtL_len (q.set.take k) d; rw [List.length_take] at this; omega
      obtain ⟨ff, hff⟩ : ∃ ff, filtL (q.set.take k) d = ff := ⟨_, rfl⟩
      rw [hff] at HS HO hfl
      have HFL := Lib.hid hfl
      obtain ⟨r1, r2⟩ := r
      simp only at y0 y1
      clear hrk hff hA hfl
      cases he : (r1 == d) with
      | true =>
        have g3 : (r1 != d) = false := by simp [bne, he]
        rw [he, if_pos rfl] at HS
        go_wp2
        go_roundw
        case rel => exact ⟨k + 1, by omega, by go_num, by rw [HS.out]; exact HO.out, HOB, HB⟩
        case measure => simp [intOf]; omega
      | false =>
        have g3 : (r1 != d) = true := by simp [bne, he]
        rw [he, if_neg (by decide)] at HS
        go_wp2_with (at_builtin; refine appR1 (wl := wr) rfl (.tmp 45) (.tmp 51) rfl ff (r1, r2) rfl rfl HO.out _ rfl rfl HFL.out ?_; intro v2 w2 ho2 hg2 hl2; have HO2 := Lib.hid ho2; have HG2 := Lib.hid hg2; have HL2 := Lib.hid hl2; clear ho2 hg2 hl2)
        go_roundw
        case rel => exact ⟨k + 1, by omega, by go_num, by rw [HS.out]; exact HO2.out, (fun b e => by
          rcases HL2.out b e with h | h
          · exact HOB.out b h
          · exact Nat.le_trans HB.out.size h), HB.out.grown HG2.out HB.out.size fun b e => HOB.out b e⟩
        case measure => simp [intOf]; omega
    · obtain rfl : k = N := by omega
      have HO1 : Hid (OR wr w1.heap.size u8 (filtL q.set d)) := by
        have := HO.out
        rw [List.take_of_length_le (by rw [HN.out]; exact Nat.le_refl _)] at this
        exact this.base HOB.out
      have HO2 : Hid (OR wr w1.heap.size u8 (setL q.set d (-1))) := by rw [show setL q.set d (-1) = filtL q.set d by unfold setL; rw [if_pos rfl]]; exact HO1.out
      obtain ⟨A9, c9, rfl, z9, f9, b9⟩ := hfin.out wr u8 HB.out HO2.out
      have Z9 := Lib.hid z9
      have F9 := Lib.hid f9
      have B9 := Lib.hid b9
      clear z9 f9 b9 HO HO1 HO2
      go_wp2_with (first
        | (refine valTo rfl (.agg (rqV (setQ q d (-1)) ⟨p.A, p.cA, A9, c9, p.L, p.cL⟩)) (exec_build5 _ _ (setQ q d (-1)) ⟨p.A, p.cA, A9, c9, p.L, p.cL⟩ (.tmp 62) (.tmp 64) (.tmp 66) (.tmp 67) (.tmp 69) rfl rfl rfl rfl rfl rfl _) ?_)
        | (refine wpList_store_row rfl 33 (.tmp 6) (.tmp 70) rfl (w.heap.size + 1) (rqV (setQ q d (-1)) ⟨p.A, p.cA, A9, c9, p.L, p.cL⟩) rfl rfl 33 _ Z9.out (rq_size _ _) rfl (rq_one _ _) ?_))
      refine ret_box2 rfl rfl (setRow_heap _ _ _ _ _ _ Z9.out) rfl Try.underlying33 (rq_size _ _) rfl ⟨⟨p.A, p.cA, A9, c9, p.L, p.cL⟩, rfl, F9, B9⟩
set_option maxRecDepth 100000 in
set_option maxHeartbeats 4000000 in
theorem RSet_ok2 {M : Nat → Prop} (q : RQ) (p : Pl) (d by_ : Int) (w : World) (hr : Hid (Rf M w q p)) (hn : q.nbs.length ≤ 64) (hs : q.set.length ≤ 1000) (hM : ∀ b, w.heap.size ≤ b → M b) (hE : setQE q d by_ = 0) (hne : by_ ≠ -1) :
    Calls Try.prog 36 #[.agg (rqV q p), .int .i64 d, .int .i64 by_] w fun e w' => ∃ p', e = .returned (.tuple #[.agg (rqV (setQ q d by_) p'), .int .i64 0]) ∧ Hid (Rf M w' (setQ q d by_) p') ∧ Hid (Below w.heap.size w w') := by
  have HI := Lib.hid (RNode_any d)
  have HT := Lib.hid (two_boxes hr.out)
  have HH := Lib.hid (RHas_any p.A p.cA q.nbs by_ _ HT.out.rf.nbs (Nat.le_trans hn (by decide)))
  obtain ⟨w1, hw1⟩ : ∃ w1, (w.alloc (.cells (rqV q p) 33)).alloc (.cells (rqV q0 p0) 33) = w1 := ⟨_, rfl⟩
  have HW1 : Hid ((w.alloc (.cells (rqV q p) 33)).alloc (.cells (rqV q0 p0) 33) = w1) := hw1
  rw [hw1] at HT HH
  obtain ⟨b0, b1, b2, b3, b4⟩ := HT.out.b.cells
  clear hw1
  unfold setQE at hE
  have h1 : isN d = true := by
    cases hb : isN d with
    | true => rfl
    | false => rw [if_pos hb] at hE; cases hE
  rw [h1] at HI hE
  rw [if_neg (by decide)] at hE
  have h2 : d ≠ q.self := fun e => by rw [if_pos e] at hE; cases hE
  rw [if_neg h2] at hE
  have h3 : ¬ (by_ ≠ -1 ∧ q.nbs.contains by_ = false) := fun e => by rw [if_pos e] at hE; cases hE
  have g1 : (d == q.self) = false := beq_eq_false_iff_ne.mpr h2
  obtain ⟨N, hN⟩ : ∃ N, q.set.length = N := ⟨_, rfl⟩
  have HN : Hid (q.set.length = N) := hN
  rw [hN] at hs b3
  have HO0 : Hid (OR (w1.alloc (.cells #[] 94)) w1.heap.size (.slice (some ⟨w1.heap.size, 0, none⟩) 0 0) []) := Og.made w1
  have HB0 : Hid (Below w1.heap.size w1 (w1.alloc (.cells #[] 94))) := Mi.below_alloc (Below.refl _ _)
  have HNE := Lib.hid hne
  have hcon : q.nbs.contains by_ = true := by
    cases hc : q.nbs.contains by_ with
    | true => rfl
    | false => exact absurd ⟨hne, hc⟩ h3
  rw [hcon] at HH
  have g2 : (by_ != -1) = true := bne_iff_ne.mpr hne
  have hfin : Hid (∀ (w5 : World) (u : Value), Below w1.heap.size w1 w5 → OR w5 w1.heap.size u (setL q.set d by_) → ∃ A c, u = .slice A (setL q.set d by_).length c ∧ Bq w5 (w.heap.size + 1) q0 p0 ∧ Rf M (w5.setRow (w.heap.size + 1) (rqV (setQ q d by_) ⟨p.A, p.cA, A, c, p.L, p.cL⟩)) (setQ q d by_) ⟨p.A, p.cA, A, c, p.L, p.cL⟩ ∧ Below w.heap.size w (w5.setRow (w.heap.size + 1) (rqV (setQ q d by_) ⟨p.A, p.cA, A, c, p.L, p.cL⟩))) := by
    intro w5 u hb5 ho
    have hsz := HT.out.sz
    obtain ⟨A, c, e, _, hrr⟩ := Og.form (enc := encR) (k := 2) (M := fun b => M b ∧ b ≠ w.heap.size + 1) (fun _ => rfl) ho (fun b hb => ⟨hM b (by omega), by omega⟩)
    have hbw : Below w.heap.size w (w5.setRow (w.heap.size + 1) (rqV (setQ q d by_) ⟨p.A, p.cA, A, c, p.L, p.cL⟩)) := Sb.below_setRow _ (HT.out.bel.trans (hb5.mono (by omega))) (Nat.le_succ _)
    have hR := hr.out.below hbw
    have hBU : But (fun k => k = w.heap.size + 1) w5 (w5.setRow (w.heap.size + 1) (rqV (setQ q d by_) ⟨p.A, p.cA, A, c, p.L, p.cL⟩)) := (But.refl (fun k => k = w.heap.size + 1) w5).setRow (D := w.heap.size + 1) (.inl rfl) _
    exact ⟨A, c, e, HT.out.z.at_ hb5 (by omega), ⟨hR.nbs, (hrr.but hBU fun b hb e => hb.2 e).mono fun b _ hb => hb.1, hR.l, hR.c⟩, hbw⟩
  clear hN h1 h2 h3 hE hne hcon
  go_enter Try.func36, Try.ntmps36
  go_wp2_with (first
    | (refine Mi.allocTo rfl (.pointer (some ⟨_, 0, none⟩)) (.cells (rqV q p) 33 (0, 0)) (exec_boxq _ _ q p (.tmp 0) rfl rfl _) ?_)
    | (refine allocAt rfl (w.heap.size + 1) (.cells (rqV q0 p0) 33 (0, 0)) (alloc_rq _ _ rfl _) (World.size_alloc _ _) ?_; rw [HW1.out])
    | (go_at_call 34; refine (HI.out _).mono ?_; rintro e w' ⟨rfl, rfl⟩)
    | (go_at_call 25; refine HH.out.mono ?_; rintro e w' ⟨rfl, rfl⟩))
  go_loopw [8, 9] (fun u i wr => ∃ k : Nat, k ≤ N ∧ i = .int .i64 k ∧ Hid (OR wr 0 u (filtL (q.set.take k) d)) ∧ Hid (∀ b, u.ownBlock = some b → w1.heap.size ≤ b) ∧ Hid (Below w1.heap.size w1 wr)) (fun _ i _ => N - (intOf i).toNat)
  case atStart => exact ⟨0, Nat.zero_le _, rfl, HO0.out.zero, fun b e => (HO0.out.lt b e).1, HB0⟩
  case round =>
    obtain ⟨k, hk, rfl, HO, HOB, HB⟩ := hrel
    clear b0 b1 b2 b3 b4 HO0 HB0
    obtain ⟨b0, b1, b2, b3, b4⟩ := (HT.out.b.at_ HB.out (by have := HT.out.sz; omega)).cells
    rw [HN.out] at b3
    by_cases hlt : k < N
    · obtain ⟨r, hrk⟩ : ∃ r, q.set[k]? = some r := ⟨_, List.getElem?_eq_getElem (by rw [HN.out]; exact hlt)⟩
      obtain ⟨b, off, hA, _, _, y0, y1⟩ := (HT.out.rf.below HB.out).set.at_ hrk
      rw [hA] at b3
      have HS : Hid (filtL (q.set.take (k + 1)) d = if (r.1 == d) = true then filtL (q.set.take k) d else filtL (q.set.take k) d ++ [r]) := filtL_snoc _ _ hrk
      have hfl : (filtL (q.set.take k) d).length ≤ 100000 := by have := filtL_len (q.set.take k) d; rw [List.length_take] at this; omega
      obtain ⟨ff, hff⟩ : ∃ ff, filtL (q.set.take k) d = ff := ⟨_, rfl⟩
      rw [hff] at HS HO hfl
      have HFL := Lib.hid hfl
      obtain ⟨r1, r2⟩ := r
      simp only at y0 y1
      clear hrk hff hA hfl
      cases he : (r1 == d) with
      | true =>
        have g3 : (r1 != d) = false := by simp [bne, he]
        rw [he, if_pos rfl] at HS
        go_wp2
        go_roundw
        case rel => exact ⟨k + 1, by omega, by go_num, by rw [HS.out]; exact HO.out, HOB, HB⟩
        case measure => simp [intOf]; omega
      | false =>
        have g3 : (r1 != d) = true := by simp [bne, he]
        rw [he, if_neg (by decide)] at HS
        go_wp2_with (at_builtin; refine appR1 (wl := wr) rfl (.tmp 45) (.tmp 51) rfl ff (r1, r2) rfl rfl HO.out _ rfl rfl HFL.out ?_; intro v2 w2 ho2 hg2 hl2; have HO2 := Lib.hid ho2; have HG2 := Lib.hid hg2; have HL2 := Lib.hid hl2; clear ho2 hg2 hl2)
        go_roundw
        case rel => exact ⟨k + 1, by omega, by go_num, by rw [HS.out]; exact HO2.out, (fun b e => by
          rcases HL2.out b e with h | h
          · exact HOB.out b h
          · exact Nat.le_trans HB.out.size h), HB.out.grown HG2.out HB.out.size fun b e => HOB.out b e⟩
        case measure => simp [intOf]; omega
    · obtain rfl : k = N := by omega
      have HO1 : Hid (OR wr w1.heap.size u8 (filtL q.set d)) := by
        have := HO.out
        rw [List.take_of_length_le (by rw [HN.out]; exact Nat.le_refl _)] at this
        exact this.base HOB.out
      have HL : Hid ((filtL q.set d).length ≤ 100000) := by (have := filtL_len q.set d; show _ ≤ _; rw [HN.out] at this; omega)
      have HSL : Hid (setL q.set d by_ = filtL q.set d ++ [(d, by_)]) := by (show _ = _; unfold setL; rw [if_neg HNE.out])
      have HBC := Lib.hid (fun (w2 : World) (h2 : Below w1.heap.size w1 w2) => (HT.out.b.at_ h2 (by (have := HT.out.sz; omega))).cells)
      clear HO
      go_wp2_with (first
        | (at_builtin; refine appR1 (wl := wr) rfl (.tmp 55) (.tmp 59) rfl (filtL q.set d) (d, by_) rfl rfl HO1.out.zero _ rfl rfl HL.out ?_; intro v2 w2 ho2 hg2 hl2
           have HB2 : Hid (Below w1.heap.size w1 w2) := HB.out.grown hg2 HB.out.size fun b e => HOB.out b e
           have HO2 : Hid (OR w2 w1.heap.size v2 (setL q.set d by_)) := by (rw [HSL.out]; exact ho2.base fun b e => (hl2 b e).elim (fun h => HOB.out b h) (fun h => Nat.le_trans HB.out.size h))
           clear b0 b1 b2 b3 b4 ho2 hg2 hl2
           obtain ⟨b0, b1, b2, b3, b4⟩ := HBC.out w2 HB2.out
           obtain ⟨A9, c9, rfl, z9, f9, b9⟩ := hfin.out w2 v2 HB2.out HO2.out
           have Z9 := Lib.hid z9
           have F9 := Lib.hid f9
           have B9 := Lib.hid b9
           clear z9 f9 b9)
        | (refine valTo rfl (.agg (rqV (setQ q d by_) ⟨p.A, p.cA, A9, c9, p.L, p.cL⟩)) (exec_build5 _ _ (setQ q d by_) ⟨p.A, p.cA, A9, c9, p.L, p.cL⟩ (.tmp 62) (.tmp 64) (.tmp 66) (.tmp 67) (.tmp 69) rfl rfl rfl rfl rfl rfl _) ?_)
        | (refine wpList_store_row rfl 33 (.tmp 6) (.tmp 70) rfl (w.heap.size + 1) (rqV (setQ q d by_) ⟨p.A, p.cA, A9, c9, p.L, p.cL⟩) rfl rfl 33 _ Z9.out (rq_size _ _) rfl (rq_one _ _) ?_))
      refine ret_box2 rfl rfl (setRow_heap _ _ _ _ _ _ Z9.out) rfl Try.underlying33 (rq_size _ _) rfl ⟨⟨p.A, p.cA, A9, c9, p.L, p.cL⟩, rfl, F9, B9⟩
theorem RSet_ok {M : Nat → Prop} (q : RQ) (p : Pl) (d by_ : Int) (w : World) (hr : Hid (Rf M w q p)) (hn : q.nbs.length ≤ 64) (hs : q.set.length ≤ 1000) (hM : ∀ b, w.heap.size ≤ b → M b) (hE : setQE q d by_ = 0) :
    Calls Try.prog 36 #[.agg (rqV q p), .int .i64 d, .int .i64 by_] w fun e w' => ∃ p', e = .returned (.tuple #[.agg (rqV (setQ q d by_) p'), .int .i64 0]) ∧ Hid (Rf M w' (setQ q d by_) p') ∧ Hid (Below w.heap.size w w') := by
  by_cases h : by_ = -1
  · subst h
    exact RSet_ok1 q p d w hr hn hs hM hE
  · exact RSet_ok2 q p d by_ w hr hn hs hM hE h
end Go.Proofs.Ytablejhajilpiaa.Rt
