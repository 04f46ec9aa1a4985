/- The law's lengths. -/
import Derived.Test.YtkanebolfmpnfaaRtLink
namespace Go.Proofs.Ytkanebolfmpnfaa.Rt
open Go.RowKit Go.Maps
open Go.Proofs.Ytkanebolfmpnfaa.Sb
set_option linter.unusedVariables false
set_option linter.unusedSimpArgs false

/-- A block of n numbers. -/
def rown (n : Nat) (f : Nat → Int) : Array Value := ((List.range n).map fun i => Value.int .i64 (f i)).toArray
theorem rown_size (n : Nat) (f : Nat → Int) : (rown n f).size = n := by simp [rown]
theorem rown_at {n : Nat} (f : Nat → Int) {j : Nat} (h : j < n) : (rown n f)[j]? = some (.int .i64 (f j)) := by simp [rown, h]
theorem rown_ext {n : Nat} {f : Nat → Int} {cs : Array Value} (hs : cs.size = n) (h : ∀ j, j < n → cs[j]? = some (.int .i64 (f j))) : cs = rown n f := by
  apply Array.ext_getElem?
  intro i
  by_cases hi : i < n
  · rw [h i hi, rown_at f hi]
  · rw [Array.getElem?_eq_none (by omega), Array.getElem?_eq_none (by rw [rown_size]; omega)]
theorem rown_set {n : Nat} (f : Nat → Int) {j : Nat} (h : j < n) (v : Int) : (rown n f).setIfInBounds j (.int .i64 v) = rown n (upd f j v) := by
  refine rown_ext (by simp [rown_size]) fun i hi => ?_
  rw [Array.getElem?_setIfInBounds, rown_size]
  by_cases e : j = i
  · subst e
    simp [h, upd]
  · rw [if_neg e, rown_at f hi]
    simp only [upd, if_neg (fun h : i = j => e h.symm)]
def Ln (w : World) (g n : Nat) (f : Nat → Int) : Prop := w.heap[g]? = some (.cells (rown n f) 3 (0, 0))
theorem Ln.lt {w : World} {g n : Nat} {f : Nat → Int} (h : Ln w g n f) : g < w.heap.size := (Array.getElem?_eq_some_iff.1 h).1
theorem Ln.cell {w : World} {g n : Nat} {f : Nat → Int} (h : Ln w g n f) {j : Nat} (hj : j < n) : w.cell? ⟨g, j, none⟩ = some (.int .i64 (f j)) := by rw [cell_of_row w g j _ _ (0, 0) h, rown_at f hj]
theorem Ln.frozen {w : World} {g n : Nat} {f : Nat → Int} (h : Ln w g n f) (j : Nat) : w.frozen? ⟨g, j, none⟩ = false := frozen_of_row w g j _ _ h
theorem Ln.set {w : World} {g n : Nat} {f : Nat → Int} (h : Ln w g n f) {j : Nat} (hj : j < n) (v : Int) : Ln (w.setCell ⟨g, j, none⟩ (.int .i64 v)) g n (upd f j v) := by
  unfold Ln
  rw [heap_setCell_same w g j _ _ _ h, rown_set f hj]
theorem Ln.below {w w' : World} {g n : Nat} {f : Nat → Int} (h : Ln w g n f) (hb : Below w.heap.size w w') : Ln w' g n f := (hb.block g h.lt).trans h
/-- make of n ints. -/
theorem made_ln {w : World} {B g n : Nat} {xs : List Value} (hn : 1 ≤ n) (h : w.ownsRow B 3 1 (.slice (some ⟨g, 0, none⟩) n n) n xs) : ∃ cs : Array Value, w.heap[g]? = some (.cells cs 3 (0, 0)) ∧ cs.size = n := by
  rcases h.2 with ⟨e, _⟩ | ⟨g', cap, cur, e, _, h3, _, _, h6, _⟩
  · cases e
  · cases e
    exact ⟨cur, h3, by rw [h6]; omega⟩
theorem net_size (N : Int) (L : Nat) : (Try.prog.info? 61).map (·.size) = some (netV N L).size := by
  show _ = some 2
  kernel_rfl
theorem grown_below {w w' : World} (h : w.grownBy w' none) : Below w.heap.size w w' := (But.refl (fun _ => False) w).grown h (by simp) |>.below (Nat.le_refl _) (fun _ h => h.elim)
set_option maxRecDepth 100000 in
set_option maxHeartbeats 8000000 in
theorem lengths_any (N : Int) (L : Nat) (hL : L < 18446744073709551616) (n a : Nat) (hn : 1 ≤ n ∧ n ≤ 8) (ha : a < n) (w : World) :
    Calls Try.prog 28 #[.agg (netV N L), .int .i64 (n : Int), .int .i64 (a : Int)] w fun e w' => ∃ g, e = .returned (.slice (some ⟨g, 0, none⟩) n n) ∧ w.heap.size ≤ g ∧ Hid (Ln w' g n (lenO (lkB L) n a)) ∧ Hid (Below w.heap.size w w') := by
  obtain ⟨i0, hi, hz0, hz1, hz2⟩ := info_parts Mi.infoI
  obtain ⟨hn1, hn8⟩ := hn
  have HBX : Hid ((w.alloc (.cells (netV N L) 61)).heap[w.heap.size]? = some (.cells (netV N L) 61 (0, 0))) := heap_alloc_new w _
  have HB0 : Hid (Below w.heap.size w (w.alloc (.cells (netV N L) 61))) := Mi.below_alloc (Below.refl _ _)
  have HSZ : Hid ((w.alloc (.cells (netV N L) 61)).heap.size = w.heap.size + 1) := World.size_alloc _ _
  obtain ⟨w1, hw1⟩ : ∃ w1, w.alloc (.cells (netV N L) 61) = w1 := ⟨_, rfl⟩
  have HW1 : Hid (w.alloc (.cells (netV N L) 61) = w1) := hw1
  rw [hw1] at HBX HB0 HSZ
  clear hw1
  have HLK := Lib.hid (fun (i k : Nat) (hi : i < n) (hk : k < n) (W : World) => linked_any N L hL i k (by omega) (by omega) W)
  go_enter Try.func28, Try.ntmps28
  go_wp2_with (first
    | (refine Mi.allocTo rfl (.pointer (some ⟨_, 0, none⟩)) (.cells (netV N L) 61 (0, 0)) (exec_boxn _ _ N L (.tmp 0) rfl rfl _) ?_; rw [HW1.out])
    | (at_make; refine wpList_make_full _ rfl (.tmp 12) (.tmp 12) 22 rfl w1.heap.size 3 i0 (.int .i64 0) 1 Try.underlying22 hi hz0 hz1 .i64 .i64 _ _ n rfl rfl rfl rfl (by rw [hz2]; omega) (by unfold maxLen; omega) (Nat.le_refl _) ?_; intro w2 hown2 hg2))
  obtain ⟨cs0, hc0, hs0⟩ := made_ln hn1 hown2
  have hb2 := Lib.hid (grown_below hg2)
  obtain ⟨g, hg⟩ : ∃ g, w1.heap.size = g := ⟨_, rfl⟩
  have HG : Hid (w1.heap.size = g) := hg
  rw [hg] at hc0 ⊢
  clear hg hown2 hg2
  have HBW : Hid (Below g w1 w2) := by rw [← HG.out]; exact hb2
  go_loopw [8] (fun k wr => ∃ (i : Nat) (cs : Array Value), i ≤ n ∧ k = .int .i64 i ∧ Hid (wr.heap[g]? = some (.cells cs 3 (0, 0)) ∧ cs.size = n ∧ ∀ j, j < i → cs[j]? = some (.int .i64 99)) ∧ Hid (Below g w1 wr)) (fun k _ => n - (intOf k).toNat)
  case atStart => exact ⟨0, cs0, Nat.zero_le _, rfl, ⟨hc0, hs0, fun j hj => by omega⟩, HBW⟩
  case round =>
    obtain ⟨i, cs, hin, rfl, hcs, hbr⟩ := hrel
    by_cases hlt : i < n
    · obtain ⟨h1, h2, h3⟩ := hcs.out
      have hil : i < cs.size := by omega
      have HC : Hid (wr.heap[g]? = some (.cells cs 3 (0, 0))) := h1
      have c5 : wr.cell? ⟨g, i, none⟩ = some cs[i] := by rw [cell_of_row wr g i _ _ (0, 0) h1, Array.getElem?_eq_getElem hil]
      have z5 : wr.frozen? ⟨g, i, none⟩ = false := frozen_of_row wr g i _ _ h1
      have H3 := Lib.hid h3
      have H2 := Lib.hid h2
      clear h1 h2 h3
      go_wp2
      have hnx : Hid ((wr.setCell ⟨g, i, none⟩ (.int .i64 99)).heap[g]? = some (.cells (cs.setIfInBounds i (.int .i64 99)) 3 (0, 0)) ∧ (cs.setIfInBounds i (.int .i64 99)).size = n ∧ ∀ j, j < i + 1 → (cs.setIfInBounds i (.int .i64 99))[j]? = some (.int .i64 99)) := by
        refine ⟨heap_setCell_same wr g i _ _ _ HC.out, by simp [H2.out], fun j hj => ?_⟩
        rw [Array.getElem?_setIfInBounds]
        by_cases e : i = j
        · subst e; simp [hil]
        · rw [if_neg e]; exact H3.out j (by omega)
      have hbx : Hid (Below g w1 (wr.setCell ⟨g, i, none⟩ (.int .i64 99))) := hbr.out.setCell (p := ⟨g, i, none⟩) (Nat.le_refl _) _
      go_roundw
      case rel => exact ⟨i + 1, _, by omega, by go_num, hnx, hbx⟩
      case measure => simp [intOf]; omega
    · obtain rfl : i = n := by omega
      have hLn : Ln wr g i fun _ => 99 := by
        obtain ⟨h1, h2, h3⟩ := hcs.out
        unfold Ln
        rw [h1, rown_ext h2 h3]
      have c6 := hLn.cell ha
      have z6 := hLn.frozen a
      have HLn := Lib.hid hLn
      clear hLn
      go_wp2
      have HL0 : Hid (Ln (wr.setCell ⟨g, a, none⟩ (.int .i64 0)) g i (len0 a)) := HLn.out.set ha 0
      have HB1 : Hid (Below g w1 (wr.setCell ⟨g, a, none⟩ (.int .i64 0))) := hbr.out.setCell (p := ⟨g, a, none⟩) (Nat.le_refl _) _
      clear c6 z6 hlt hcs HLn
      go_loopw [9] (fun k W => ∃ (r : Nat), r ≤ i ∧ k = .int .i64 r ∧ Hid (Ln W g i (relR (lkB L) i (len0 a) r)) ∧ Hid (Below g w1 W)) (fun k _ => i - (intOf k).toNat)
      case atStart => exact ⟨0, Nat.zero_le _, rfl, HL0, HB1⟩
      case round =>
        obtain ⟨r, hr, rfl, hLr, hBr⟩ := hrel
        by_cases hrl : r < i
        · have hSn : Snd i (lkB L) a (relR (lkB L) i (len0 a) r) := snd_len0.relR r
          obtain ⟨o, ho⟩ : ∃ o, relR (lkB L) i (len0 a) r = o := ⟨_, rfl⟩
          have hro : Hid (relR (lkB L) i (len0 a) (r + 1) = relI (lkB L) i o i) := by rw [← ho]; exact relR_succ _ _ _ _
          rw [ho] at hLr hSn
          clear ho
          have HSn := Lib.hid hSn
          clear hSn
          go_wp2
          go_loopw [10] (fun k W => ∃ (j : Nat), j ≤ i ∧ k = .int .i64 j ∧ Hid (Ln W g i (relI (lkB L) i o j)) ∧ Hid (Below g w1 W)) (fun k _ => i - (intOf k).toNat)
          case atStart => exact ⟨0, Nat.zero_le _, rfl, hLr, hBr⟩
          case round =>
            obtain ⟨j, hj, rfl, hLj, hBj⟩ := hrel
            by_cases hjl : j < i
            · have hSn : Snd i (lkB L) a (relI (lkB L) i o j) := HSn.out.relI j (by omega)
              obtain ⟨q, hq⟩ : ∃ q, relI (lkB L) i o j = q := ⟨_, rfl⟩
              have hjo : Hid (relI (lkB L) i o (j + 1) = relK (lkB L) j q i) := by rw [← hq]; exact relI_succ _ _ _ _
              rw [hq] at hLj hSn
              clear hq
              have HSj := Lib.hid hSn
              clear hSn
              go_wp2
              go_loopw [11] (fun k W => ∃ (m : Nat), m ≤ i ∧ k = .int .i64 m ∧ Hid (Ln W g i (relK (lkB L) j q m)) ∧ Hid (Below g w1 W)) (fun k _ => i - (intOf k).toNat)
              case atStart => exact ⟨0, Nat.zero_le _, rfl, hLj, hBj⟩
              case round =>
                obtain ⟨m, hm, rfl, hLm, hBm⟩ := hrel
                by_cases hml : m < i
                · have hSn : Snd i (lkB L) a (relK (lkB L) j q m) := HSj.out.relK hjl m
                  obtain ⟨x, hx⟩ : ∃ x, relK (lkB L) j q m = x := ⟨_, rfl⟩
                  have hmo : Hid (relK (lkB L) j q (m + 1) = relax (lkB L) x j m) := by rw [← hx]; exact relK_succ _ _ _ _
                  rw [hx] at hLm hSn
                  clear hx
                  have hb1 := hSn j hjl
                  have hb2 := hSn m hml
                  have HLKJ := Lib.hid (HLK.out j m hjl hml)
                  have hbx : wr.heap[w.heap.size]? = some (.cells (netV N L) 61 (0, 0)) := (hBm.out.block _ (by have := HSZ.out; have := HG.out; omega)).trans HBX.out
                  have HBXm := Lib.hid hbx
                  obtain ⟨b1, b2, _⟩ := hb1
                  obtain ⟨b3, b4, _⟩ := hb2
                  clear hSn hbx
                  have hy1 : Hid (x j ≤ 99 ∧ 0 ≤ x j ∧ x m ≤ 99 ∧ 0 ≤ x m) := ⟨b2, b1, b4, b3⟩
                  clear b1 b2 b3 b4
                  cases hlk : lkB L j m
                  all_goals
                    rw [hlk] at HLKJ
                  case false =>
                    have hrx : relax (lkB L) x j m = x := by unfold relax; rw [hlk]; rfl
                    clear hlk
                    go_wp2_with (first
                      | (refine wpList_load_row rfl 61 (.tmp 3) rfl w.heap.size rfl 61 _ (0, 0) _ HBXm.out Try.underlying61 rfl (net_size _ _) ?_)
                      | (go_at_call 29; (with_reducible refine (HLKJ.out wr).mono ?_); rintro e wl ⟨rfl, hbl⟩))
                    go_roundw
                    case rel => exact ⟨m + 1, by omega, by go_num, by rw [hmo.out, hrx]; exact hLm.out.below hbl.out, hBm.out.trans (hbl.out.mono (by have := hBm.out.size; have := HG.out; omega))⟩
                    case measure => simp [intOf]; omega
                  case true =>
                    have hrx : relax (lkB L) x j m = upd x m (min (x m) (x j + 1)) := by unfold relax; rw [hlk]; rfl
                    clear hlk
                    go_wp2_with (first
                      | (refine wpList_load_row rfl 61 (.tmp 3) rfl w.heap.size rfl 61 _ (0, 0) _ HBXm.out Try.underlying61 rfl (net_size _ _) ?_)
                      | (go_at_call 29; (with_reducible refine (HLKJ.out wr).mono ?_); rintro e wl ⟨rfl, hbl⟩))
                    have hLl : Ln wl g i x := hLm.out.below hbl.out
                    have hBl : Below g w1 wl := hBm.out.trans (hbl.out.mono (by have := hBm.out.size; have := HG.out; omega))
                    refine wp_region_held_drew (S := fun _ => True) (by kernel_rfl) trivial (fun hHeld => ?_)
                    refine wpAnyH_take (i := 0) (v := .slice (some ⟨g, 0, none⟩) i i) rfl (by kernel_rfl) (by kernel_rfl) (by kernel_rfl) (fun _ _ _ h => h) (Or.inl ⟨by rfl, ?_⟩) (by first | assumption | exact trivial) ?_
                    · intro W hSW; go_simp; try (with_reducible rfl)
                    simp only [Act.put, List.getElem_toArray, List.getElem_cons_succ, List.getElem_cons_zero, List.setIfInBounds_toArray, List.set_cons_zero, List.set_cons_succ]
                    refine wpAnyH_take (i := 1) (v := .int .i64 (m : Int)) rfl (by kernel_rfl) (by kernel_rfl) (by kernel_rfl) (fun _ _ _ h => h) (Or.inl ⟨by rfl, ?_⟩) (by first | assumption | exact trivial) ?_
                    · intro W hSW; go_simp; try (with_reducible rfl)
                    simp only [Act.put, List.getElem_toArray, List.getElem_cons_succ, List.getElem_cons_zero, List.setIfInBounds_toArray, List.set_cons_zero, List.set_cons_succ]
                    refine wpAnyH_take (i := 2) (v := .slice (some ⟨g, 0, none⟩) i i) rfl (by kernel_rfl) (by kernel_rfl) (by kernel_rfl) (fun _ _ _ h => h) (Or.inl ⟨by rfl, ?_⟩) (by first | assumption | exact trivial) ?_
                    · intro W hSW; go_simp; try (with_reducible rfl)
                    simp only [Act.put, List.getElem_toArray, List.getElem_cons_succ, List.getElem_cons_zero, List.setIfInBounds_toArray, List.set_cons_zero, List.set_cons_succ]
                    refine wpAnyH_take (i := 3) (v := .int .i64 (m : Int)) rfl (by kernel_rfl) (by kernel_rfl) (by kernel_rfl) (fun _ _ _ h => h) (Or.inl ⟨by rfl, ?_⟩) (by first | assumption | exact trivial) ?_
                    · intro W hSW; go_simp; try (with_reducible rfl)
                    simp only [Act.put, List.getElem_toArray, List.getElem_cons_succ, List.getElem_cons_zero, List.setIfInBounds_toArray, List.set_cons_zero, List.set_cons_succ]
                    refine wpAnyH_take (i := 4) (v := .pointer (some ⟨g, m, none⟩)) rfl (by kernel_rfl) (by kernel_rfl) (by kernel_rfl) (fun _ _ _ h => h) (Or.inl ⟨by rfl, ?_⟩) (by first | assumption | exact trivial) ?_
                    · intro W hSW; have q6 := hml; go_simp; try (with_reducible rfl)
                    simp only [Act.put, List.getElem_toArray, List.getElem_cons_succ, List.getElem_cons_zero, List.setIfInBounds_toArray, List.set_cons_zero, List.set_cons_succ]
                    refine wpAnyH_take (i := 6) (v := .slice (some ⟨g, 0, none⟩) i i) rfl (by kernel_rfl) (by kernel_rfl) (by kernel_rfl) (fun _ _ _ h => h) (Or.inl ⟨by rfl, ?_⟩) (by first | assumption | exact trivial) ?_
                    · intro W hSW; go_simp; try (with_reducible rfl)
                    simp only [Act.put, List.getElem_toArray, List.getElem_cons_succ, List.getElem_cons_zero, List.setIfInBounds_toArray, List.set_cons_zero, List.set_cons_succ]
                    refine wpAnyH_take (i := 7) (v := .int .i64 (j : Int)) rfl (by kernel_rfl) (by kernel_rfl) (by kernel_rfl) (fun _ _ _ h => h) (Or.inl ⟨by rfl, ?_⟩) (by first | assumption | exact trivial) ?_
                    · intro W hSW; go_simp; try (with_reducible rfl)
                    simp only [Act.put, List.getElem_toArray, List.getElem_cons_succ, List.getElem_cons_zero, List.setIfInBounds_toArray, List.set_cons_zero, List.set_cons_succ]
                    refine wpAnyH_take (i := 8) (v := .pointer (some ⟨g, j, none⟩)) rfl (by kernel_rfl) (by kernel_rfl) (by kernel_rfl) (fun _ _ _ h => h) (Or.inl ⟨by rfl, ?_⟩) (by first | assumption | exact trivial) ?_
                    · intro W hSW; have q6 := hjl; go_simp; try (with_reducible rfl)
                    simp only [Act.put, List.getElem_toArray, List.getElem_cons_succ, List.getElem_cons_zero, List.setIfInBounds_toArray, List.set_cons_zero, List.set_cons_succ]
                    have c8 : wl.drew.cell? ⟨g, j, none⟩ = some (.int .i64 (x j)) := hLl.cell hjl
                    have c9 : wl.drew.cell? ⟨g, m, none⟩ = some (.int .i64 (x m)) := hLl.cell hml
                    have z9 : wl.drew.frozen? ⟨g, m, none⟩ = false := hLl.frozen m
                    have c8' : wl.cell? ⟨g, j, none⟩ = some (.int .i64 (x j)) := hLl.cell hjl
                    have c9' : wl.cell? ⟨g, m, none⟩ = some (.int .i64 (x m)) := hLl.cell hml
                    have z9' : wl.frozen? ⟨g, m, none⟩ = false := hLl.frozen m
                    have hwr : IntKind.i64.wrap (x j + 1) = x j + 1 := Mi.fits' (by have := hy1.out; unfold Mi.I64; omega)
                    have HLs : Hid (Ln (wl.setCell ⟨g, m, none⟩ (.int .i64 (min (x m) (x j + 1)))) g i (upd x m (min (x m) (x j + 1)))) := hLl.set hml _
                    have HBs : Hid (Below g w1 (wl.setCell ⟨g, m, none⟩ (.int .i64 (min (x m) (x j + 1))))) := hBl.setCell (p := ⟨g, m, none⟩) (Nat.le_refl _) _
                    refine wpAnyH_ready (rs := [5, 9]) (by kernel_rfl) (by simp) ?_
                    refine AllReadyH.cons rfl (fun K hK => ?pa) (AllReadyH.cons rfl (fun K hK => ?pb) AllReadyH.nil)
                    case' pa =>
                      go_simp
                      refine hK.out _ _ (trivial) (fun hHeld => ?_)
                      clear hK K
                      refine wpAnyH_ready (rs := [9]) (by kernel_rfl) (by simp) ?_
                      refine AllReadyH.cons rfl (fun K hK => ?_) AllReadyH.nil
                      go_simp
                      refine hK.out _ _ (trivial) (fun hHeld => ?_)
                      clear hK K
                      refine wpAnyH_take (i := 10) (v := .int .i64 (x j + 1)) rfl (by kernel_rfl) (by kernel_rfl) (by kernel_rfl) (fun _ _ _ h => h) (Or.inl ⟨by rfl, ?_⟩) (by first | assumption | exact trivial) ?_
                      · intro W hSW; go_simp <;> exact hwr
                      simp only [Act.put, List.getElem_toArray, List.getElem_cons_succ, List.getElem_cons_zero, List.setIfInBounds_toArray, List.set_cons_zero, List.set_cons_succ]
                    case' pb =>
                      go_simp
                      refine hK.out _ _ (trivial) (fun hHeld => ?_)
                      clear hK K
                      refine wpAnyH_take (i := 10) (v := .int .i64 (x j + 1)) rfl (by kernel_rfl) (by kernel_rfl) (by kernel_rfl) (fun _ _ _ h => h) (Or.inl ⟨by rfl, ?_⟩) (by first | assumption | exact trivial) ?_
                      · intro W hSW; go_simp <;> exact hwr
                      simp only [Act.put, List.getElem_toArray, List.getElem_cons_succ, List.getElem_cons_zero, List.setIfInBounds_toArray, List.set_cons_zero, List.set_cons_succ]
                      refine wpAnyH_ready (rs := [5]) (by kernel_rfl) (by simp) ?_
                      refine AllReadyH.cons rfl (fun K hK => ?_) AllReadyH.nil
                      go_simp
                      refine hK.out _ _ (trivial) (fun hHeld => ?_)
                      clear hK K
                    all_goals
                      refine wpAnyH_take (i := 11) (v := .int .i64 (min (x m) (x j + 1))) rfl (by kernel_rfl) (by kernel_rfl) (by kernel_rfl) (fun _ _ _ h => h) (Or.inl ⟨by rfl, ?_⟩) (by first | assumption | exact trivial) ?_
                      · intro W hSW; go_simp; try (with_reducible rfl)
                      simp only [Act.put, List.getElem_toArray, List.getElem_cons_succ, List.getElem_cons_zero, List.setIfInBounds_toArray, List.set_cons_zero, List.set_cons_succ]
                      refine wpAnyH_take (i := 12) (v := .pointer (some ⟨g, m, none⟩)) rfl (by kernel_rfl) (by kernel_rfl) (by kernel_rfl) (fun _ _ _ h => h) (Or.inl ⟨by rfl, ?_⟩) (by first | assumption | exact trivial) ?_
                      · intro W hSW; have q6 := hml; go_simp; try (with_reducible rfl)
                      simp only [Act.put, List.getElem_toArray, List.getElem_cons_succ, List.getElem_cons_zero, List.setIfInBounds_toArray, List.set_cons_zero, List.set_cons_succ]
                      refine wpAnyH_ready (rs := [13]) (by kernel_rfl) (by simp) ?_
                      refine AllReadyH.cons rfl (fun K hK => ?_) AllReadyH.nil
                      go_simp
                      refine hK.out _ _ (trivial) (fun hHeld => ?_)
                      clear hK K
                      refine wpAnyH_done (by kernel_rfl) ?_ _
                    all_goals
                      go_wp2
                    all_goals
                      refine ⟨⟨m + 1, by omega, by go_num, by rw [hmo.out, hrx]; exact HLs.out.below (Below.refl _ _).drew, HBs.out.drew⟩, ?_⟩
                      simp [intOf] <;> omega
                · obtain rfl : m = i := by omega
                  go_wp2
                  go_roundw
                  case rel => exact ⟨j + 1, by omega, by go_num, by rw [hjo.out]; exact hLm, hBm⟩
                  case measure => simp [intOf]; omega
            · obtain rfl : j = i := by omega
              go_wp2
              go_roundw
              case rel => exact ⟨r + 1, by omega, by go_num, by rw [hro.out]; exact hLj, hBj⟩
              case measure => simp [intOf]; omega
        · obtain rfl : r = i := by omega
          go_wp2
          go_ret
          refine ⟨g, rfl, ?_, hLr, ?_⟩
          · have := HSZ.out; have := HG.out; omega
          · exact HB0.out.trans (hBr.out.mono (by have := HSZ.out; have := HG.out; omega))
end Go.Proofs.Ytkanebolfmpnfaa.Rt
