/- The reference's Tick. -/
import Derived.Test.YtablejhajilpiaaRtRSet
namespace Go.Proofs.Ytablejhajilpiaa.Rt
open Go.RowKit Go.Maps
open Go.Proofs.Ytablejhajilpiaa.Sb
set_option linter.unusedVariables false
set_option linter.unusedSimpArgs false

def h0 : He := ⟨0, [], 0, none, 0⟩
/-- A box that holds what was heard. -/
def Bh (w : World) (g : Nat) (e : He) : Prop := w.heap[g]? = some (.cells (encH e).toArray 85 (0, 0))
theorem Bh.lt {w : World} {g : Nat} {e : He} (h : Bh w g e) : g < w.heap.size := (Array.getElem?_eq_some_iff.1 h).1
theorem Bh.cells {w : World} {g : Nat} {e : He} (h : Bh w g e) : w.cell? ⟨g, 0, none⟩ = some (.int .i64 e.f) ∧ w.cell? ⟨g, 1, none⟩ = some (.slice e.R e.c.length e.cr) ∧ w.cell? ⟨g, 2, none⟩ = some (.int .i64 e.left) := by
  refine ⟨?_, ?_, ?_⟩
  all_goals
    rw [cell_of_row _ g _ _ _ (0, 0) h]
    rfl
theorem Bh.at_ {w w' : World} {g B : Nat} {e : He} (h : Bh w g e) (hb : Below B w w') (hg : g < B) : Bh w' g e := (hb.block g hg).trans h
theorem sizeH (e : He) : (Try.prog.info? 85).map (·.size) = some (encH e).toArray.size := by
  show _ = some 3
  kernel_rfl
theorem he_one (e : He) : (encH e).toArray.all (·.oneCell') = true := by simp [encH, Value.oneCell']
theorem alloc_he (ρ : Operand → Value) (o : Oper) (ho : o.op = .alloc 85) (w : World) : (execOp ρ o).run Try.prog w = .ok (.value (.pointer (some ⟨w.heap.size, 0, none⟩))) (w.alloc (.cells (encH h0).toArray 85 (0, 0))) := by
  unfold execOp
  rw [ho]
  kernel_rfl
/-- One tick more. -/
def less (e : He) : He := ⟨e.f, e.c, e.left - 1, e.R, e.cr⟩
def tickL (l : List He) : List He := (l.filter fun e => decide (1 < e.left)).map less
def tickQ (q : RQ) : RQ := ⟨q.self, q.age, q.nbs, q.set, tickL q.l⟩
theorem tickL_snoc (l : List He) {k : Nat} {r : He} (h : l[k]? = some r) : tickL (l.take (k + 1)) = if 1 < r.left then tickL (l.take k) ++ [less r] else tickL (l.take k) := by
  rw [List.take_add_one, h]
  unfold tickL
  rw [List.filter_append, List.map_append]
  by_cases e : 1 < r.left <;> simp [e]
theorem tickL_len (l : List He) : (tickL l).length ≤ l.length := by
  unfold tickL
  rw [List.length_map]
  exact List.length_filter_le _ _
theorem tickL_mem {l : List He} {e : He} (h : e ∈ tickL l) : ∃ r ∈ l, 1 < r.left ∧ e = less r := by
  unfold tickL at h
  obtain ⟨r, h1, h2⟩ := List.mem_map.1 h
  obtain ⟨h3, h4⟩ := List.mem_filter.1 h1
  exact ⟨r, h3, by simpa using h4, h2.symm⟩
set_option maxRecDepth 100000 in
set_option maxHeartbeats 4000000 in
theorem RTick_any {M : Nat → Prop} (q : RQ) (p : Pl) (w : World) (hr : Hid (Rf M w q p)) (hs : q.l.length ≤ 1000) (hM : ∀ b, w.heap.size ≤ b → M b) (hle : Hid (∀ e ∈ q.l, 1 ≤ e.left ∧ e.left ≤ 64)) :
    Calls Try.prog 38 #[.agg (rqV q p)] w fun e w' => ∃ p', e = .returned (.agg (rqV (tickQ q) p')) ∧ Hid (Rf M w' (tickQ q) p') ∧ Hid (Below w.heap.size w w') := by
  have HT := Lib.hid (two_boxes hr.out)
  obtain ⟨w1, hw1⟩ : ∃ w1, (w.alloc (.cells (rqV q p) 33)).alloc (.cells (rqV q0 p0) 33) = w1 := ⟨_, rfl⟩
  have HW1 : Hid ((w.alloc (.cells (rqV q p) 33)).alloc (.cells (rqV q0 p0) 33) = w1) := hw1
  rw [hw1] at HT
  obtain ⟨b0, b1, b2, b3, b4⟩ := HT.out.b.cells
  clear hw1
  obtain ⟨N, hN⟩ : ∃ N, q.l.length = N := ⟨_, rfl⟩
  have HN : Hid (q.l.length = N) := hN
  rw [hN] at hs b4
  have HO0 : Hid (OH (w1.alloc (.cells #[] 85)) w1.heap.size (.slice (some ⟨w1.heap.size, 0, none⟩) 0 0) []) := Og.made w1
  have HB0 : Hid (Below w1.heap.size w1 (w1.alloc (.cells #[] 85))) := Mi.below_alloc (Below.refl _ _)
  have hfin : Hid (∀ (w5 : World) (u : Value), Below w1.heap.size w1 w5 → OH w5 w1.heap.size u (tickL q.l) → ∃ A c, u = .slice A (tickL q.l).length c ∧ Bq w5 (w.heap.size + 1) q0 p0 ∧ Rf M (w5.setRow (w.heap.size + 1) (rqV (tickQ q) ⟨p.A, p.cA, p.S, p.cS, A, c⟩)) (tickQ q) ⟨p.A, p.cA, p.S, p.cS, A, c⟩ ∧ Below w.heap.size w (w5.setRow (w.heap.size + 1) (rqV (tickQ q) ⟨p.A, p.cA, p.S, p.cS, A, c⟩))) := by
    intro w5 u hb5 ho
    have hsz := HT.out.sz
    obtain ⟨A, c, e, _, hrr⟩ := Og.form (enc := encH) (k := 3) (M := fun b => M b ∧ b ≠ w.heap.size + 1) (fun _ => rfl) ho (fun b hb => ⟨hM b (by omega), by omega⟩)
    have hbw : Below w.heap.size w (w5.setRow (w.heap.size + 1) (rqV (tickQ q) ⟨p.A, p.cA, p.S, p.cS, A, c⟩)) := Sb.below_setRow _ (HT.out.bel.trans (hb5.mono (by omega))) (Nat.le_succ _)
    have hR := hr.out.below hbw
    have hBU : But (fun k => k = w.heap.size + 1) w5 (w5.setRow (w.heap.size + 1) (rqV (tickQ q) ⟨p.A, p.cA, p.S, p.cS, A, c⟩)) := (But.refl (fun k => k = w.heap.size + 1) w5).setRow (D := w.heap.size + 1) (.inl rfl) _
    exact ⟨A, c, e, HT.out.z.at_ hb5 (by omega), ⟨hR.nbs, hR.set, (hrr.but hBU fun b hb e => hb.2 e).mono fun b _ hb => hb.1, fun e he => by
      obtain ⟨r, h1, _, rfl⟩ := tickL_mem he
      exact hR.c r h1⟩, hbw⟩
  clear hN
  go_enter Try.func38, Try.ntmps38
  go_wp2_with (first
    | (refine Mi.allocTo rfl (.pointer (some ⟨_, 0, none⟩)) (.cells (rqV q p) 33 (0, 0)) (exec_boxq _ _ q p (.tmp 0) rfl rfl _) ?_)
    | (refine allocAt rfl (w.heap.size + 1) (.cells (rqV q0 p0) 33 (0, 0)) (alloc_rq _ _ rfl _) (World.size_alloc _ _) ?_; rw [HW1.out]))
  go_loopw [3, 4] (fun u i wr => ∃ k : Nat, k ≤ N ∧ i = .int .i64 k ∧ Hid (OH wr 0 u (tickL (q.l.take k))) ∧ Hid (∀ b, u.ownBlock = some b → w1.heap.size ≤ b) ∧ Hid (Below w1.heap.size w1 wr)) (fun _ i _ => N - (intOf i).toNat)
  case atStart => exact ⟨0, Nat.zero_le _, rfl, HO0.out.zero, fun b e => (HO0.out.lt b e).1, HB0⟩
  case round =>
    obtain ⟨k, hk, rfl, HO, HOB, HB⟩ := hrel
    clear b0 b1 b2 b3 b4 HO0 HB0
    obtain ⟨b0, b1, b2, b3, b4⟩ := (HT.out.b.at_ HB.out (by have := HT.out.sz; omega)).cells
    rw [HN.out] at b4
    by_cases hlt : k < N
    · obtain ⟨r, hrk⟩ : ∃ r, q.l[k]? = some r := ⟨_, List.getElem?_eq_getElem (by rw [HN.out]; exact hlt)⟩
      obtain ⟨b, off, hA, _, _, y0, y1, y2⟩ := (HT.out.rf.below HB.out).l.at_ hrk
      rw [hA] at b4
      have HS : Hid (tickL (q.l.take (k + 1)) = if 1 < r.left then tickL (q.l.take k) ++ [less r] else tickL (q.l.take k)) := tickL_snoc _ hrk
      have hfl : (tickL (q.l.take k)).length ≤ 100000 := by have := tickL_len (q.l.take k); rw [List.length_take] at this; omega
      obtain ⟨l1, l2⟩ := hle.out r (List.mem_of_getElem? hrk)
      obtain ⟨ff, hff⟩ : ∃ ff, tickL (q.l.take k) = ff := ⟨_, rfl⟩
      rw [hff] at HS HO hfl
      have HFL := Lib.hid hfl
      have HH0 : Hid (Bh (wr.alloc (.cells (encH h0).toArray 85)) wr.heap.size h0) := heap_alloc_new wr _
      have HH1 : Hid (Bh ((wr.alloc (.cells (encH h0).toArray 85)).setRow wr.heap.size (encH r).toArray) wr.heap.size r) := setRow_heap _ _ _ _ _ _ HH0.out
      have HBx : Hid (Below wr.heap.size wr ((wr.alloc (.cells (encH h0).toArray 85)).setRow wr.heap.size (encH r).toArray)) := Sb.below_setRow _ (Mi.below_alloc (Below.refl _ _)) (Nat.le_refl _)
      obtain ⟨e0, e1, e2⟩ := HH1.out.cells
      obtain ⟨lf, hlf⟩ : ∃ lf, r.left = lf := ⟨_, rfl⟩
      have HLF : Hid (less r = ⟨r.f, r.c, lf - 1, r.R, r.cr⟩) := by rw [← hlf]; rfl
      rw [hlf] at y2 HS l1 l2 e2
      have HV : Hid ((encH r).toArray = #[.int .i64 r.f, .slice r.R r.c.length r.cr, .int .i64 lf]) := by rw [← hlf]; rfl
      clear hrk hff hA hfl hlf
      by_cases h1 : 1 < lf
      · rw [if_pos h1] at HS
        go_wp2_with (first
          | (refine Mi.allocTo rfl (.pointer (some ⟨_, 0, none⟩)) (.cells (encH h0).toArray 85 (0, 0)) (alloc_he _ _ rfl _) ?_)
          | (refine wpList_store_row rfl 85 (.tmp 5) (.tmp 18) rfl wr.heap.size (encH r).toArray rfl (by (rw [HV.out]; rfl)) 85 _ HH0.out (sizeH _) rfl (he_one _) ?_; obtain ⟨w2, hw2⟩ : ∃ w2, (wr.alloc (.cells (encH h0).toArray 85)).setRow wr.heap.size (encH r).toArray = w2 := ⟨_, rfl⟩; rw [hw2] at e0 e1 e2 HBx ⊢; clear hw2)
          | (at_builtin; refine appH1 (wl := w2) rfl (.tmp 22) (.tmp 31) rfl ff (less r) rfl (by (rw [HLF.out]; rfl)) (HO.out.below HBx.out) _ rfl rfl HFL.out ?_; intro v3 w3 ho3 hg3 hl3; have HO3 := Lib.hid ho3; have HG3 := Lib.hid hg3; have HL3 := Lib.hid hl3; clear ho3 hg3 hl3))
        go_roundw
        case rel => exact ⟨k + 1, by omega, by go_num, by rw [HS.out]; exact HO3.out, (fun b e => by
          rcases HL3.out b e with h | h
          · exact HOB.out b h
          · exact Nat.le_trans (Nat.le_trans HB.out.size HBx.out.size) h), (HB.out.trans (HBx.out.mono HB.out.size)).grown HG3.out (Nat.le_trans HB.out.size HBx.out.size) fun b e => HOB.out b e⟩
        case measure => simp [intOf]; omega
      · rw [if_neg h1] at HS
        go_wp2_with (first
          | (refine Mi.allocTo rfl (.pointer (some ⟨_, 0, none⟩)) (.cells (encH h0).toArray 85 (0, 0)) (alloc_he _ _ rfl _) ?_)
          | (refine wpList_store_row rfl 85 (.tmp 5) (.tmp 18) rfl wr.heap.size (encH r).toArray rfl (by (rw [HV.out]; rfl)) 85 _ HH0.out (sizeH _) rfl (he_one _) ?_; obtain ⟨w2, hw2⟩ : ∃ w2, (wr.alloc (.cells (encH h0).toArray 85)).setRow wr.heap.size (encH r).toArray = w2 := ⟨_, rfl⟩; rw [hw2] at e0 e1 e2 HBx ⊢; clear hw2))
        go_roundw
        case rel => exact ⟨k + 1, by omega, by go_num, by rw [HS.out]; exact HO.out.below HBx.out, HOB, HB.out.trans (HBx.out.mono HB.out.size)⟩
        case measure => simp [intOf]; omega
    · obtain rfl : k = N := by omega
      have HO1 : Hid (OH wr w1.heap.size u3 (tickL q.l)) := by
        have := HO.out
        rw [List.take_of_length_le (by rw [HN.out]; exact Nat.le_refl _)] at this
        exact this.base HOB.out
      obtain ⟨A9, c9, rfl, z9, f9, b9⟩ := hfin.out wr u3 HB.out HO1.out
      have Z9 := Lib.hid z9
      have F9 := Lib.hid f9
      have B9 := Lib.hid b9
      clear z9 f9 b9 HO HO1
      go_wp2_with (first
        | (refine valTo rfl (.agg (rqV (tickQ q) ⟨p.A, p.cA, p.S, p.cS, A9, c9⟩)) (exec_build5 _ _ (tickQ q) ⟨p.A, p.cA, p.S, p.cS, A9, c9⟩ (.tmp 34) (.tmp 36) (.tmp 38) (.tmp 40) (.tmp 41) rfl rfl rfl rfl rfl rfl _) ?_)
        | (refine wpList_store_row rfl 33 (.tmp 2) (.tmp 42) rfl (w.heap.size + 1) (rqV (tickQ q) ⟨p.A, p.cA, p.S, p.cS, A9, c9⟩) rfl rfl 33 _ Z9.out (rq_size _ _) rfl (rq_one _ _) ?_))
      exact ret_box rfl rfl (setRow_heap _ _ _ _ _ _ Z9.out) rfl Try.underlying33 (rq_size _ _) rfl ⟨⟨p.A, p.cA, p.S, p.cS, A9, c9⟩, rfl, F9, B9⟩
end Go.Proofs.Ytablejhajilpiaa.Rt
