/- Cost, Next and Vector of a table. -/
import Derived.Test.YtkanebolfmpnfaaRtWaysW
namespace Go.Proofs.Ytkanebolfmpnfaa.Rt
open Go.RowKit Go.Maps
open Go.Proofs.Ytkanebolfmpnfaa.Sb
set_option linter.unusedVariables false
set_option linter.unusedSimpArgs false

def costN (t : Tb) (n : Int) : Int := if isN n = true then waysC t n.toNat else 16
def nextN (t : Tb) (n : Int) : Int × Bool := if isN n = true ∧ waysH t n.toNat ≠ -1 then (waysH t n.toNat, true) else (0, false)
theorem Cost_nil (n : Int) (w : World) : Calls Try.prog 18 #[.pointer none, .int .i64 n] w fun e w' => e = .returned (.int .i64 16) ∧ w = w' := by
  go_enter Try.func18, Try.ntmps18
  go_wp2_with (fail)
  go_ret
  exact ⟨rfl, rfl⟩
theorem Next_nil (n : Int) (w : World) : Calls Try.prog 16 #[.pointer none, .int .i64 n] w fun e w' => e = .returned (.tuple #[.int .i64 0, .bool false]) ∧ w = w' := by
  go_enter Try.func16, Try.ntmps16
  go_wp2_with (fail)
  go_ret2
  exact ⟨rfl, rfl⟩
theorem Vector_nil (n : Int) (w : World) : Calls Try.prog 21 #[.pointer none, .int .i64 n] w fun e w' => e = .returned (.slice none 0 0) ∧ w = w' := by
  go_enter Try.func21, Try.ntmps21
  go_wp2_with (fail)
  go_ret
  exact ⟨rfl, rfl⟩
/-- Two new boxes that hold what ways answers. -/
theorem boxes {w W : World} (hb : Below w.heap.size w W) (f g : Nat → Int) :
    Ar (((W.alloc (.cells (row fun _ => 0) 74)).alloc (.cells (row fun _ => 0) 74)).setRow W.heap.size (row f)) W.heap.size f ∧
    Ar ((W.alloc (.cells (row fun _ => 0) 74)).alloc (.cells (row fun _ => 0) 74)) W.heap.size (fun _ => 0) ∧
    Ar (((W.alloc (.cells (row fun _ => 0) 74)).alloc (.cells (row fun _ => 0) 74)).setRow W.heap.size (row f)) (W.heap.size + 1) (fun _ => 0) ∧
    Wy W ((((W.alloc (.cells (row fun _ => 0) 74)).alloc (.cells (row fun _ => 0) 74)).setRow W.heap.size (row f)).setRow (W.heap.size + 1) (row g)) (f, g) := by
  have h1 : Ar ((W.alloc (.cells (row fun _ => 0) 74)).alloc (.cells (row fun _ => 0) 74)) W.heap.size (fun _ => 0) := (Below.heap_alloc _ _ _ (by simp)).trans (heap_alloc_new W _)
  have h2 : Ar ((W.alloc (.cells (row fun _ => 0) 74)).alloc (.cells (row fun _ => 0) 74)) (W.heap.size + 1) (fun _ => 0) := by
    have := heap_alloc_new (W.alloc (.cells (row fun _ => 0) 74)) (.cells (row fun _ => 0) 74)
    rwa [World.size_alloc] at this
  have h3 := h1.setRow f
  have h4 := h2.rowOther (g' := W.heap.size) (by omega) (row f)
  exact ⟨h3, h1, h4, h3.rowOther (by omega) _, h4.setRow g, Sb.below_setRow _ (Sb.below_setRow _ (Mi.below_alloc (Mi.below_alloc (Below.refl _ _))) (Nat.le_refl _)) (Nat.le_succ _)⟩
/-- A new array whose address is said. -/
theorem allocAr {ops : Array Oper} {rest : List Oper} {o : Oper} {a : Act} {w : World} {Q : Exit → Act → World → Prop} (hg : o.guard = none) (ho : o.op = .alloc 74) (g : Nat) (hgs : w.heap.size = g)
    (h : wpList Try.prog ops Q rest (a.put o.dst (.pointer (some ⟨g, 0, none⟩))) (w.alloc (.cells (row fun _ => 0) 74 (0, 0)))) : wpList Try.prog ops Q (o :: rest) a w := by
  subst hgs
  exact Mi.allocTo hg _ _ (alloc_row _ _ ho _) h
theorem Cost_any (w : World) (D mb : Nat) (v : Value) (t : Tb) (h : Hid (Tq w D mb v t)) (ok : Hid t.Ok) (n : Int) :
    Calls Try.prog 18 #[.pointer (some ⟨D, 0, none⟩), .int .i64 n] w fun e w' => e = .returned (.int .i64 (costN t n)) ∧ Hid (Below w.heap.size w w') := by
  have HI := Lib.hid (isNode_any n)
  unfold costN
  cases hn : isN n with
  | false =>
    rw [hn] at HI
    go_enter Try.func18, Try.ntmps18
    go_wp2_with (go_at_call 31; refine (HI.out _).mono ?_; rintro e w' ⟨rfl, rfl⟩)
    go_ret
    exact ⟨rfl, Below.refl _ _⟩
  | true =>
    rw [hn] at HI
    obtain ⟨m, rfl, hm⟩ := isN_of hn
    have HW := Lib.hid (ways_any w D mb v t h ok)
    rw [if_pos rfl, show ((m : Int)).toNat = m by omega]
    have HBX := Lib.hid (fun (W : World) (hW : Below w.heap.size w W) => boxes hW (waysC t) (waysH t))
    obtain ⟨fc, hfc⟩ : ∃ fc, waysC t = fc := ⟨_, rfl⟩
    obtain ⟨fh, hfh⟩ : ∃ fh, waysH t = fh := ⟨_, rfl⟩
    rw [hfc, hfh] at HW HBX
    rw [hfc]
    clear hfc hfh hn
    have g1 : (m : Int) < 64 := by omega
    go_enter Try.func18, Try.ntmps18
    go_wp2_with (first
      | (go_at_call 31; refine (HI.out _).mono ?_; rintro e w' ⟨rfl, rfl⟩)
      | (go_at_call 40; refine HW.out.mono ?_; rintro e w1 ⟨rfl, hb1⟩; obtain ⟨q1, q2, q3, q4⟩ := HBX.out w1 hb1.out; have Q1 := Lib.hid q1; have Q2 := Lib.hid q2; have Q3 := Lib.hid q3; have Q4 := Lib.hid q4; have c2 := q4.a2.cell hm; clear q1 q2 q3 q4)
      | (refine allocAr rfl rfl (w1.heap.size + 1) (World.size_alloc _ _) ?_)
      | (refine allocAr rfl rfl w1.heap.size rfl ?_)
      | (refine wpList_store_row rfl 74 (.tmp 5) (.tmp 17) rfl w1.heap.size (row fc) rfl rfl 74 _ Q2.out (size64 _) (by simp only [row_size]) (row_one _) ?_)
      | (refine wpList_store_row rfl 74 (.tmp 6) (.tmp 18) rfl (w1.heap.size + 1) (row fh) rfl rfl 74 _ Q3.out (size64 _) (by simp only [row_size]) (row_one _) ?_))
    go_ret
    exact ⟨rfl, go_on hb1.out Q4.out.bel⟩
set_option maxHeartbeats 4000000 in
theorem Next_any (w : World) (D mb : Nat) (v : Value) (t : Tb) (h : Hid (Tq w D mb v t)) (ok : Hid t.Ok) (n : Int) :
    Calls Try.prog 16 #[.pointer (some ⟨D, 0, none⟩), .int .i64 n] w fun e w' => e = .returned (.tuple #[.int .i64 (nextN t n).1, .bool (nextN t n).2]) ∧ Hid (Below w.heap.size w w') := by
  have HI := Lib.hid (isNode_any n)
  unfold nextN
  cases hn : isN n with
  | false =>
    rw [hn] at HI
    rw [if_neg (fun e => by cases e.1)]
    go_enter Try.func16, Try.ntmps16
    go_wp2_with (go_at_call 31; refine (HI.out _).mono ?_; rintro e w' ⟨rfl, rfl⟩)
    go_ret2
    exact ⟨rfl, Below.refl _ _⟩
  | true =>
    rw [hn] at HI
    obtain ⟨m, rfl, hm⟩ := isN_of hn
    have HW := Lib.hid (ways_any w D mb v t h ok)
    rw [show ((m : Int)).toNat = m by omega]
    have HBX := Lib.hid (fun (W : World) (hW : Below w.heap.size w W) => boxes hW (waysC t) (waysH t))
    obtain ⟨fc, hfc⟩ : ∃ fc, waysC t = fc := ⟨_, rfl⟩
    obtain ⟨fh, hfh⟩ : ∃ fh, waysH t = fh := ⟨_, rfl⟩
    rw [hfc, hfh] at HW HBX
    rw [hfh]
    clear hfc hfh hn
    have g1 : (m : Int) < 64 := by omega
    obtain ⟨z, hz⟩ : ∃ z, fh m = z := ⟨_, rfl⟩
    rw [hz]
    by_cases h1 : z = -1
    · rw [if_neg (fun e => e.2 h1)]
      have g2 : (z == -1) = true := beq_iff_eq.mpr h1
      clear h1
      go_enter Try.func16, Try.ntmps16
      go_wp2_with (first
        | (go_at_call 31; refine (HI.out _).mono ?_; rintro e w' ⟨rfl, rfl⟩)
        | (go_at_call 40; refine HW.out.mono ?_; rintro e w1 ⟨rfl, hb1⟩; obtain ⟨q1, q2, q3, q4⟩ := HBX.out w1 hb1.out; have Q1 := Lib.hid q1; have Q2 := Lib.hid q2; have Q3 := Lib.hid q3; have Q4 := Lib.hid q4; have c2 := q4.a3.cell hm; simp only [hz] at c2; clear q1 q2 q3 q4)
        | (refine allocAr rfl rfl (w1.heap.size + 1) (World.size_alloc _ _) ?_)
        | (refine allocAr rfl rfl w1.heap.size rfl ?_)
        | (refine wpList_store_row rfl 74 (.tmp 6) (.tmp 18) rfl w1.heap.size (row fc) rfl rfl 74 _ Q2.out (size64 _) (by simp only [row_size]) (row_one _) ?_)
        | (refine wpList_store_row rfl 74 (.tmp 7) (.tmp 19) rfl (w1.heap.size + 1) (row fh) rfl rfl 74 _ Q3.out (size64 _) (by simp only [row_size]) (row_one _) ?_))
      go_ret2
      exact ⟨rfl, go_on hb1.out Q4.out.bel⟩
    · rw [if_pos ⟨rfl, h1⟩]
      have g2 : (z == -1) = false := beq_eq_false_iff_ne.mpr h1
      clear h1
      go_enter Try.func16, Try.ntmps16
      go_wp2_with (first
        | (go_at_call 31; refine (HI.out _).mono ?_; rintro e w' ⟨rfl, rfl⟩)
        | (go_at_call 40; refine HW.out.mono ?_; rintro e w1 ⟨rfl, hb1⟩; obtain ⟨q1, q2, q3, q4⟩ := HBX.out w1 hb1.out; have Q1 := Lib.hid q1; have Q2 := Lib.hid q2; have Q3 := Lib.hid q3; have Q4 := Lib.hid q4; have c2 := q4.a3.cell hm; simp only [hz] at c2; clear q1 q2 q3 q4)
        | (refine allocAr rfl rfl (w1.heap.size + 1) (World.size_alloc _ _) ?_)
        | (refine allocAr rfl rfl w1.heap.size rfl ?_)
        | (refine wpList_store_row rfl 74 (.tmp 6) (.tmp 18) rfl w1.heap.size (row fc) rfl rfl 74 _ Q2.out (size64 _) (by simp only [row_size]) (row_one _) ?_)
        | (refine wpList_store_row rfl 74 (.tmp 7) (.tmp 19) rfl (w1.heap.size + 1) (row fh) rfl rfl 74 _ Q3.out (size64 _) (by simp only [row_size]) (row_one _) ?_))
      go_ret2
      exact ⟨rfl, go_on hb1.out Q4.out.bel⟩
/-- What is said to a neighbour. -/
def vecF (t : Tb) (to : Int) : Nat → Int := fun d => if waysH t d = to then 16 else waysC t d
def vecJ (fc fh : Nat → Int) (to : Int) (j : Nat) : Nat → Int := fun d => if d < j ∧ fh d = to then 16 else fc d
theorem Vector_no (w : World) (D mb : Nat) (v : Value) (t : Tb) (h : Hid (Tq w D mb v t)) (to : Int) (hl : t.nbs.length ≤ 64) (hn : t.nbs.contains to = false) :
    Calls Try.prog 21 #[.pointer (some ⟨D, 0, none⟩), .int .i64 to] w fun e w' => e = .returned (.slice none 0 0) ∧ w = w' := by
  have HI := Lib.hid (isNeighbour_any w D mb v t h to hl)
  rw [hn] at HI
  clear hn
  go_enter Try.func21, Try.ntmps21
  go_wp2_with (go_at_call 43; refine HI.out.mono ?_; rintro e w' ⟨rfl, rfl⟩)
  go_ret
  exact ⟨rfl, rfl⟩
set_option maxHeartbeats 4000000 in
set_option maxRecDepth 100000 in
theorem Vector_any (w : World) (D mb : Nat) (v : Value) (t : Tb) (h : Hid (Tq w D mb v t)) (ok : Hid t.Ok) (to : Int) (hl : t.nbs.length ≤ 64) (hn : t.nbs.contains to = true) :
    Calls Try.prog 21 #[.pointer (some ⟨D, 0, none⟩), .int .i64 to] w fun e w' => ∃ g, e = .returned (.slice (some ⟨g, 0, none⟩) 64 64) ∧ w.heap.size ≤ g ∧ Hid (Ar w' g (vecF t to)) ∧ Hid (Below w.heap.size w w') := by
  have HI := Lib.hid (isNeighbour_any w D mb v t h to hl)
  have HW := Lib.hid (ways_any w D mb v t h ok)
  rw [hn] at HI
  have HBX := Lib.hid (fun (W : World) (hW : Below w.heap.size w W) => boxes hW (waysC t) (waysH t))
  unfold vecF
  obtain ⟨fc, hfc⟩ : ∃ fc, waysC t = fc := ⟨_, rfl⟩
  obtain ⟨fh, hfh⟩ : ∃ fh, waysH t = fh := ⟨_, rfl⟩
  rw [hfc, hfh] at HW HBX
  rw [hfc, hfh]
  clear hfc hfh hn
  go_enter Try.func21, Try.ntmps21
  go_wp2_with (first
    | (go_at_call 43; refine HI.out.mono ?_; rintro e w' ⟨rfl, rfl⟩)
    | (go_at_call 40; refine HW.out.mono ?_; rintro e w1 ⟨rfl, hb1⟩; obtain ⟨q1, q2, q3, q4⟩ := HBX.out w1 hb1.out; have Q1 := Lib.hid q1; have Q2 := Lib.hid q2; have Q3 := Lib.hid q3; have Q4 := Lib.hid q4; clear q1 q2 q3 q4)
    | (refine allocAr rfl rfl (w1.heap.size + 1) (World.size_alloc _ _) ?_)
    | (refine allocAr rfl rfl w1.heap.size rfl ?_)
    | (refine wpList_store_row rfl 74 (.tmp 5) (.tmp 20) rfl w1.heap.size (row fc) rfl rfl 74 _ Q2.out (size64 _) (by simp only [row_size]) (row_one _) ?_)
    | (refine wpList_store_row rfl 74 (.tmp 6) (.tmp 21) rfl (w1.heap.size + 1) (row fh) rfl rfl 74 _ Q3.out (size64 _) (by simp only [row_size]) (row_one _) ?_)
    | (refine wpList_load_row rfl 74 (.tmp 6) rfl (w1.heap.size + 1) rfl 74 _ (0, 0) _ Q4.out.a3 Try.underlying74 rfl (size64 _) ?_))
  have Q5 : Hid (Wy w1 _ (vecJ fc fh to 0, fh)) := Q4.out.eq (by intro d _; simp [vecJ]) (fun _ _ => rfl)
  go_loopw [23] (fun k wr => ∃ j : Nat, j ≤ 64 ∧ k = .int .i64 j ∧ Hid (Wy w1 wr (vecJ fc fh to j, fh))) (fun k _ => 64 - (intOf k).toNat)
  case atStart => exact ⟨0, Nat.zero_le _, rfl, Q5⟩
  case round =>
    obtain ⟨j, hj, rfl, HJ⟩ := hrel
    clear Q1 Q2 Q3 Q4 Q5
    by_cases hjl : j < 64
    · have kx := fun W => index_at fh hjl W
      have c2 := HJ.out.a2.cell hjl
      have f2 := HJ.out.a2.frozen j
      obtain ⟨z, hz⟩ : ∃ z, fh j = z := ⟨_, rfl⟩
      by_cases hzt : z = to
      · have HJ2 : Hid (Wy w1 (wr.setCell ⟨w1.heap.size, j, none⟩ (.int .i64 16)) (vecJ fc fh to (j + 1), fh)) := by
          refine ⟨(HJ.out.a2.set hjl 16).eq fun d hd => ?_, HJ.out.a3.other (by omega) _, HJ.out.bel.setCell (p := ⟨w1.heap.size, j, none⟩) (Nat.le_refl _) _⟩
          simp only [upd, vecJ]
          by_cases e : d = j
          · subst e
            rw [if_pos rfl, if_pos ⟨by omega, by rw [hz]; exact hzt⟩]
          · rw [if_neg e]
            by_cases h1 : d < j
            · simp [h1, show d < j + 1 by omega]
            · simp [h1, show ¬ d < j + 1 by omega]
        have g2 : (z == to) = true := beq_iff_eq.mpr hzt
        rw [hz] at kx
        clear hz hzt
        go_wp2
        go_roundw
        case rel => exact ⟨j + 1, by omega, by go_num, HJ2⟩
        case measure => simp [intOf]; omega
      · have HJ2 : Hid (Wy w1 wr (vecJ fc fh to (j + 1), fh)) := by
          refine HJ.out.eq (fun d hd => ?_) (fun _ _ => rfl)
          simp only [vecJ]
          by_cases e : d = j
          · subst e
            rw [if_neg (by omega), if_neg (fun hh => hzt (by rw [← hz]; exact hh.2))]
          · by_cases h1 : d < j
            · simp [h1, show d < j + 1 by omega]
            · simp [h1, show ¬ d < j + 1 by omega]
        have g2 : (z == to) = false := beq_eq_false_iff_ne.mpr hzt
        rw [hz] at kx
        clear hz hzt
        go_wp2
        go_roundw
        case rel => exact ⟨j + 1, by omega, by go_num, HJ2⟩
        case measure => simp [intOf]; omega
    · obtain rfl : j = 64 := by omega
      have HJ2 : Hid (Ar wr w1.heap.size fun d => if fh d = to then 16 else fc d) := HJ.out.a2.eq fun d hd => by simp [vecJ, hd]
      go_wp2
      go_ret
      exact ⟨_, rfl, hb1.out.size, HJ2, go_on hb1.out HJ.out.bel⟩
end Go.Proofs.Ytkanebolfmpnfaa.Rt
