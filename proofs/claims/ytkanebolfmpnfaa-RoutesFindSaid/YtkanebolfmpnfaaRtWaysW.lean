/- ways: its walk. -/
import Derived.Test.YtkanebolfmpnfaaRtWays
import Derived.Deep.RegionHeld
namespace Go.Proofs.Ytkanebolfmpnfaa.Rt
open Go.RowKit Go.Maps
open Go.Proofs.Ytkanebolfmpnfaa.Sb
set_option linter.unusedVariables false
set_option linter.unusedSimpArgs false
/-- A load of a whole array in a region that draws. -/
theorem yieldsIf_load_row0 {ops : Array Oper} {S : World → Prop} {op : Oper} {a : Act} (hw : Region.wanted op (yielded ops a.tmps) = true) (ty : TypeId) (x : Operand) (ho : op.op = .load ty x)
    (g : Nat) (hx : a.eval x = .pointer (some ⟨g, 0, none⟩)) (f : Nat → Int) (hS : ∀ W, S W → Ar W g f) (hu : Try.prog.underlying ty = Try.prog.underlying 74 := by rfl) (hi : (Try.prog.info? ty).map (·.size) = some 64 := by kernel_rfl) : YieldsIf Try.prog ops S op (.agg (row f)) a := by
  have hu2 : Try.prog.underlying ty = _ := hu.trans Try.underlying74
  have := yieldsIf_load_mid (P := Try.prog) (ops := ops) (S := S) (op := op) (a := a) hw ty x ho g 0 hx (row f).toList _ (fun W hW => by
    have h := World.rangeAt_of_block (hS W hW) 0 64
    have e : (row f).extract 0 (0 + 64) = row f := by
      have := row_size f
      rw [← this]
      simp
    rw [e] at h
    exact h) hu2 rfl (by rw [hi, Array.length_toList, row_size])
  simpa using this
set_option maxRecDepth 100000 in
set_option maxHeartbeats 4000000 in
theorem ways_any (w : World) (D mb : Nat) (v : Value) (t : Tb) (h : Hid (Tq w D mb v t)) (ok : Hid t.Ok) :
    Calls Try.prog 40 #[.pointer (some ⟨D, 0, none⟩)] w fun e w' => e = .returned (.tuple #[.agg (row (waysC t)), .agg (row (waysH t))]) ∧ Hid (Below w.heap.size w w') := by
  have HA := Lib.hid all_any
  have HY : Hid (Wy w ((w.alloc (.cells (row fun _ => 0) 74)).alloc (.cells (row fun _ => 0) 74)) (fun _ => 0, fun _ => 0)) := by
    refine ⟨(Below.heap_alloc _ _ _ (by simp)).trans (heap_alloc_new w _), ?_, Mi.below_alloc (Mi.below_alloc (Below.refl _ _))⟩
    have := heap_alloc_new (w.alloc (.cells (row fun _ => 0) 74)) (.cells (row fun _ => 0) 74)
    rwa [World.size_alloc] at this
  have HHd := Lib.hid (fun (W : World) (hW : Below w.heap.size w W) => Heard_any W D mb v t (h.out.below hW))
  have hD := h.out.lt
  go_enter Try.func40, Try.ntmps40
  go_wp2_with (first
    | (refine Mi.allocTo rfl (.pointer (some ⟨_, 0, none⟩)) (.cells (row fun _ => 0) 74 (0, 0)) (alloc_row _ _ rfl _) ?_)
    | (go_at_call 33; (with_reducible refine (HA.out 16 _).mono ?_); rintro e w2 ⟨rfl, hb2⟩; have HY2 : Hid (Wy w w2 (fun _ => 0, fun _ => 0)) := HY.out.go hb2.out; clear hb2)
    | (go_at_call 33; (with_reducible refine (HA.out (-1) _).mono ?_); rintro e w3 ⟨rfl, hb3⟩; have HY3 : Hid (Wy w w3 (fun _ => 0, fun _ => 0)) := HY2.out.go hb3.out; clear hb3)
    | (refine wpList_store_row rfl 74 (.tmp 2) (.tmp 10) rfl w.heap.size (row fun _ => 16) rfl rfl 74 _ HY3.out.a2 (size64 _) (by rw [row_size, row_size]) (row_one _) ?_; have HY4 : Hid (Wy w (w3.setRow w.heap.size (row fun _ => 16)) (fun _ => 16, fun _ => 0)) := ⟨HY3.out.a2.setRow _, HY3.out.a3.rowOther (by omega) _, Sb.below_setRow _ HY3.out.bel (Nat.le_refl _)⟩; obtain ⟨w4, hw4⟩ : ∃ w4, w3.setRow w.heap.size (row fun _ => 16) = w4 := ⟨_, rfl⟩; rw [hw4] at HY4 ⊢; clear hw4)
    | (refine wpList_store_row rfl 74 (.tmp 3) (.tmp 11) rfl (w.heap.size + 1) (row fun _ => -1) rfl rfl 74 _ HY4.out.a3 (size64 _) (by rw [row_size, row_size]) (row_one _) ?_; have HY5 : Hid (Wy w (w4.setRow (w.heap.size + 1) (row fun _ => -1)) (fun _ => 16, fun _ => -1)) := ⟨HY4.out.a2.rowOther (by omega) _, HY4.out.a3.setRow _, Sb.below_setRow _ HY4.out.bel (Nat.le_succ _)⟩; obtain ⟨w5, hw5⟩ : ∃ w5, w4.setRow (w.heap.size + 1) (row fun _ => -1) = w5 := ⟨_, rfl⟩; rw [hw5] at HY5 ⊢; clear hw5)
    | (go_at_call 14; refine (HHd.out _ HY5.out.bel).mono ?_; rintro e w6 ⟨u, rfl, ho, hb6⟩; have HY6 : Hid (Wy w w6 (fun _ => 16, fun _ => -1)) := HY5.out.go hb6.out; have hsz : w.heap.size + 2 ≤ w5.heap.size := by (have := HY5.out.a3.lt; omega)
       obtain ⟨A, c, rfl, hrl⟩ := Rl.of ho.out hsz; have HRL := Lib.hid hrl; clear hrl ho hb6 hsz))
  have hlen : (fromsI t.heard).length = (froms t.heard).length := by simp [fromsI]
  rw [hlen]
  obtain ⟨n, hn⟩ : ∃ n, (froms t.heard).length = n := ⟨_, rfl⟩
  have hn64 : n ≤ 64 := by rw [← hn]; exact froms_len _
  have HN : Hid ((froms t.heard).length = n) := hn
  rw [hn]
  clear hn hlen
  go_loopw [15] (fun k wr => ∃ i : Nat, i ≤ n ∧ k = .int .i64 i ∧ Hid (Wy w wr (ways0 t.heard ((froms t.heard).take i))) ∧ Hid (Rl wr (w.heap.size + 2) A (fromsI t.heard))) (fun k _ => n - (intOf k).toNat)
  case atStart => exact ⟨0, Nat.zero_le _, rfl, HY6, HRL⟩
  case round =>
    obtain ⟨i, hi, rfl, HW, HR⟩ := hrel
    clear HY HY2 HY3 HY4 HY5 HY6 HRL HHd
    by_cases hlt : i < n
    · obtain ⟨b, off, rfl, hb1, hb2, hcell⟩ := HR.out i (by rw [show (fromsI t.heard).length = (froms t.heard).length by simp [fromsI], HN.out]; exact hlt)
      obtain ⟨f, hf⟩ : ∃ f, (froms t.heard)[i]? = some f := ⟨_, List.getElem?_eq_getElem (by rw [HN.out]; exact hlt)⟩
      have hat : Mi.at_ (fromsI t.heard) i = (f : Int) := by simp [Mi.at_, fromsI, hf]
      rw [hat] at hcell
      obtain ⟨hf64, hfs⟩ := mem_froms.1 (List.mem_of_getElem? hf)
      obtain ⟨p, hp⟩ := Option.isSome_iff_exists.1 hfs
      obtain ⟨_, hcok, _⟩ := ok.out.heard f p hf64 hp
      have HC := Lib.hid hcok
      have HS : Hid (ways0 t.heard ((froms t.heard).take (i + 1)) = stF t.heard (ways0 t.heard ((froms t.heard).take i)) f) := by
        show _ = _
        rw [List.take_add_one, hf]
        exact ways0_snoc _ _ _
      have hst : stF t.heard (ways0 t.heard ((froms t.heard).take i)) f = stC p.c f (ways0 t.heard ((froms t.heard).take i)) := by unfold stF costsOf; rw [hp]
      rw [hst] at HS
      obtain ⟨P, hP⟩ : ∃ P, ways0 t.heard ((froms t.heard).take i) = P := ⟨_, rfl⟩
      rw [hP] at HS HW
      have c67 := (h.out.below HW.out.bel).c67
      have hl0 := (h.out.below HW.out.bel).mp.get hf64 hp (W := wr) rfl
      have kf := field_news p wr
      clear hP hst hf hat hfs hb1 hb2 hcok
      go_wp2
      have HW0 : Hid (Wy w wr (stJ p.c f P 0)) := HW.out.eq (by intro d _; simp [stJ]) (by intro d _; simp [stJ])
      obtain ⟨wz, hwz⟩ : ∃ wz, wr = wz := ⟨_, rfl⟩
      clear HW c67 hl0 kf hcell
      subst hwz
      go_loopw [26] (fun k wr => ∃ j : Nat, j ≤ 64 ∧ k = .int .i64 j ∧ Hid (Wy w wr (stJ p.c f P j)) ∧ Hid (Rl wr (w.heap.size + 2) (some ⟨b, off, none⟩) (fromsI t.heard))) (fun k _ => 64 - (intOf k).toNat)
      case atStart => exact ⟨0, Nat.zero_le _, rfl, HW0, HR⟩
      case round =>
        obtain ⟨j, hj, rfl, HJ, HRJ⟩ := hrel
        clear HW0 HR
        by_cases hjl : j < 64
        · have kx := fun W => index_at p.c hjl W
          obtain ⟨x1, x2⟩ := HC.out j hjl
          obtain ⟨x, hx⟩ : ∃ x, p.c j = x := ⟨_, rfl⟩
          have c2 := HJ.out.a2.cell hjl
          have f2 := HJ.out.a2.frozen j
          have c3 := HJ.out.a3.cell hjl
          have f3 := HJ.out.a3.frozen j
          have hy0 : (stJ p.c f P j).1 j = P.1 j := by simp [stJ]
          rw [hy0] at c2
          obtain ⟨y, hy⟩ : ∃ y, P.1 j = y := ⟨_, rfl⟩
          obtain ⟨z, hz⟩ : ∃ z, (stJ p.c f P j).2 j = z := ⟨_, rfl⟩
          rw [hz] at c3
          rw [hy] at c2
          by_cases hxy : x + 1 < y
          · have q := stJ_yes (c := p.c) (f := f) (p := P) (j := j) (by rw [hx, hy]; exact hxy)
            have HJ2 := HJ.out.put hjl (p.c j + 1) (f : Int)
            have HJ3 : Hid (Wy w _ (stJ p.c f P (j + 1))) := HJ2.eq q.1 q.2
            have HR3 : Hid (Rl _ (w.heap.size + 2) (some ⟨b, off, none⟩) (fromsI t.heard)) := (HRJ.out.put (g := w.heap.size) (j := j) (by omega) (.int .i64 (p.c j + 1))).put (g := w.heap.size + 1) (j := j) (by omega) (.int .i64 (f : Int))
            rw [hx] at kx HJ3 HR3 x1 x2
            clear q HJ2 hx hy hz hy0
            go_wp2
            go_roundw
            case rel => exact ⟨j + 1, by omega, by go_num, HJ3, HR3⟩
            case measure => simp [intOf]; omega
          · have q := stJ_no (c := p.c) (f := f) (p := P) (j := j) (by rw [hx, hy]; exact hxy)
            have HJ3 : Hid (Wy w wr (stJ p.c f P (j + 1))) := HJ.out.eq q.1 q.2
            rw [hx] at kx x1 x2
            clear q hx hy hz hy0
            go_wp2
            go_roundw
            case rel => exact ⟨j + 1, by omega, by go_num, HJ3, HRJ⟩
            case measure => simp [intOf]; omega
        · obtain rfl : j = 64 := by omega
          have HJ3 : Hid (Wy w wr (ways0 t.heard ((froms t.heard).take (i + 1)))) := by
            rw [HS.out]
            exact HJ.out.eq (by intro d hd; simp [stJ, stC, hd]) (by intro d hd; simp [stJ, stC, hd])
          clear HJ
          go_wp2
          go_roundw
          case rel => exact ⟨i + 1, by omega, by go_num, HJ3, HRJ⟩
          case measure => simp [intOf]; omega
    · obtain rfl : i = n := by omega
      have HW2 : Hid (Wy w wr (ways0 t.heard (froms t.heard))) := by
        have := HW.out
        rwa [List.take_of_length_le (by rw [HN.out]; exact Nat.le_refl _)] at this
      obtain ⟨P, hP⟩ : ∃ P, ways0 t.heard (froms t.heard) = P := ⟨_, rfl⟩
      have HPP : Hid (ways0 t.heard (froms t.heard) = P) := hP
      rw [hP] at HW2
      clear HW HR hP HA hn64
      have HT := Lib.hid (h.out.below HW2.out.bel)
      have hrg : Hid (wr.rangeAt D 3 (row t.set).toList) := by
        have := World.rangeAt_of_block HT.out.blk 3 64
        rw [tcs_row] at this
        exact this
      go_wp2_with (refine wpList_load_mid rfl 74 (.tmp 47) rfl D 3 rfl (row t.set).toList _ hrg.out Try.underlying74 rfl (by rw [Array.length_toList]; exact size64 _) ?_)
      have HW0 : Hid (Wy w wr (seJ t P 0)) := HW2.out.eq (by intro d _; simp [seJ]) (by intro d _; simp [seJ])
      clear HW2 hrg HT
      obtain ⟨wz, hwz⟩ : ∃ wz, wr = wz := ⟨_, rfl⟩
      subst hwz
      have hback : (Value.agg (row t.set).toList.toArray) = .agg (row t.set) := by simp
      rw [hback]
      clear hback
      go_loopw [49] (fun k wr => ∃ j : Nat, j ≤ 64 ∧ k = .int .i64 j ∧ Hid (Wy w wr (seJ t P j))) (fun k _ => 64 - (intOf k).toNat)
      case atStart => exact ⟨0, Nat.zero_le _, rfl, HW0⟩
      case round =>
        obtain ⟨j, hj, rfl, HJ⟩ := hrel
        clear HW0
        by_cases hjl : j < 64
        · have kx := fun W => index_at t.set hjl W
          rcases ok.out.set j hjl with he | he
          · have q := seJ_no (t := t) (p := P) (j := j) he
            have HJ3 : Hid (Wy w wr (seJ t P (j + 1))) := HJ.out.eq q.1 q.2
            rw [he] at kx
            clear q he
            go_wp2
            go_roundw
            case rel => exact ⟨j + 1, by omega, by go_num, HJ3⟩
            case measure => simp [intOf]; omega
          · obtain ⟨m, hm, hm64, _⟩ := ok.out.nbs _ he
            have hne : t.set j ≠ -1 := by omega
            have q := seJ_yes (t := t) (p := P) (j := j) hne
            have HB := Lib.hid (by_any wr D mb v t (h.out.below HJ.out.bel) m j hm64 hjl (fun p hp => (ok.out.heard m p hm64 hp).2.1))
            have hmm : (t.set j).toNat = m := by omega
            rw [hmm] at q
            rw [hm] at kx q
            obtain ⟨z, hz⟩ : ∃ z, byN t.heard m j = z := ⟨_, rfl⟩
            rw [hz] at HB q
            have g1 : ((m : Int) == -1) = false := beq_eq_false_iff_ne.mpr (by omega)
            have HQ := Lib.hid q
            clear q hz hm hmm hne he
            go_wp2_with (go_at_call 49; refine HB.out.mono ?_; rintro e w7 ⟨rfl, hb7⟩; have HJ7 : Hid (Wy w w7 (seJ t P j)) := HJ.out.go hb7.out; clear hb7; have c2 := HJ7.out.a2.cell hjl; have f2 := HJ7.out.a2.frozen j; have c3 := HJ7.out.a3.cell hjl; have f3 := HJ7.out.a3.frozen j; have HJ8 : Hid (Wy w _ (seJ t P (j + 1))) := (HJ7.out.put hjl z (m : Int)).eq HQ.out.1 HQ.out.2)
            go_roundw
            case rel => exact ⟨j + 1, by omega, by go_num, HJ8⟩
            case measure => simp [intOf]; omega
        · obtain rfl : j = 64 := by omega
          have HWC : Hid (upd (seJ t P 64).1 t.self 0 = waysC t) := by show _ = _; unfold waysC; rw [HPP.out]
          have HWH : Hid (upd (seJ t P 64).2 t.self (-1) = waysH t) := by show _ = _; unfold waysH; rw [HPP.out]
          obtain ⟨p1, hp1⟩ : ∃ p1, seJ t P 64 = p1 := ⟨_, rfl⟩
          rw [hp1] at HJ HWC HWH
          have hself := ok.out.self
          have hS0 : Hid (∀ W, Below w.heap.size w W → W.cell? ⟨D, 0, none⟩ = some (.int .i64 (t.self : Int))) := fun W hW => (h.out.below hW).c0
          obtain ⟨sf, hsf⟩ : ∃ sf, t.self = sf := ⟨_, rfl⟩
          rw [hsf] at hself hS0 HWC HWH
          clear hp1 hsf HPP
          go_wp2
          refine wp_region_held_drew (S := fun W => Below w.heap.size w W) (by kernel_rfl) HJ.out.bel.drew (fun hHeld => ?_)
          refine wpAnyH_take (i := 0) (v := .pointer (some ⟨D, 0, none⟩)) rfl (by kernel_rfl) (by kernel_rfl) (by kernel_rfl) (fun _ _ _ h => h) (Or.inl ⟨by rfl, ?_⟩) (by first | assumption | exact trivial) ?_
          · intro W hSW; go_simp; try (with_reducible rfl)
          simp only [Act.put, List.getElem_toArray, List.getElem_cons_succ, List.getElem_cons_zero, List.setIfInBounds_toArray, List.set_cons_zero, List.set_cons_succ]
          refine wpAnyH_take (i := 1) (v := .pointer (some ⟨D, 0, none⟩)) rfl (by kernel_rfl) (by kernel_rfl) (by kernel_rfl) (fun _ _ _ h => h) (Or.inl ⟨by rfl, ?_⟩) (by first | assumption | exact trivial) ?_
          · intro W hSW; go_simp; try (with_reducible rfl)
          simp only [Act.put, List.getElem_toArray, List.getElem_cons_succ, List.getElem_cons_zero, List.setIfInBounds_toArray, List.set_cons_zero, List.set_cons_succ]
          refine wpAnyH_take (i := 2) (v := .pointer (some ⟨D, 0, none⟩)) rfl (by kernel_rfl) (by kernel_rfl) (by kernel_rfl) (fun _ _ _ h => h) (Or.inl ⟨by rfl, ?_⟩) (by first | assumption | exact trivial) ?_
          · intro W hSW; go_simp; try (with_reducible rfl)
          simp only [Act.put, List.getElem_toArray, List.getElem_cons_succ, List.getElem_cons_zero, List.setIfInBounds_toArray, List.set_cons_zero, List.set_cons_succ]
          refine wpAnyH_take (i := 3) (v := .int .i64 (sf : Int)) rfl (by kernel_rfl) (by kernel_rfl) (by kernel_rfl) (fun _ _ _ h => h) (Or.inl ⟨by rfl, ?_⟩) (by first | assumption | exact trivial) ?_
          · intro W hSW; have q := hS0.out W hSW; go_simp; try (with_reducible rfl)
          simp only [Act.put, List.getElem_toArray, List.getElem_cons_succ, List.getElem_cons_zero, List.setIfInBounds_toArray, List.set_cons_zero, List.set_cons_succ]
          refine wpAnyH_take (i := 4) (v := .pointer (some ⟨D, 0, none⟩)) rfl (by kernel_rfl) (by kernel_rfl) (by kernel_rfl) (fun _ _ _ h => h) (Or.inl ⟨by rfl, ?_⟩) (by first | assumption | exact trivial) ?_
          · intro W hSW; go_simp; try (with_reducible rfl)
          simp only [Act.put, List.getElem_toArray, List.getElem_cons_succ, List.getElem_cons_zero, List.setIfInBounds_toArray, List.set_cons_zero, List.set_cons_succ]
          refine wpAnyH_take (i := 5) (v := .pointer (some ⟨D, 0, none⟩)) rfl (by kernel_rfl) (by kernel_rfl) (by kernel_rfl) (fun _ _ _ h => h) (Or.inl ⟨by rfl, ?_⟩) (by first | assumption | exact trivial) ?_
          · intro W hSW; go_simp; try (with_reducible rfl)
          simp only [Act.put, List.getElem_toArray, List.getElem_cons_succ, List.getElem_cons_zero, List.setIfInBounds_toArray, List.set_cons_zero, List.set_cons_succ]
          refine wpAnyH_take (i := 6) (v := .pointer (some ⟨D, 0, none⟩)) rfl (by kernel_rfl) (by kernel_rfl) (by kernel_rfl) (fun _ _ _ h => h) (Or.inl ⟨by rfl, ?_⟩) (by first | assumption | exact trivial) ?_
          · intro W hSW; go_simp; try (with_reducible rfl)
          simp only [Act.put, List.getElem_toArray, List.getElem_cons_succ, List.getElem_cons_zero, List.setIfInBounds_toArray, List.set_cons_zero, List.set_cons_succ]
          refine wpAnyH_take (i := 7) (v := .int .i64 (sf : Int)) rfl (by kernel_rfl) (by kernel_rfl) (by kernel_rfl) (fun _ _ _ h => h) (Or.inl ⟨by rfl, ?_⟩) (by first | assumption | exact trivial) ?_
          · intro W hSW; have q := hS0.out W hSW; go_simp; try (with_reducible rfl)
          simp only [Act.put, List.getElem_toArray, List.getElem_cons_succ, List.getElem_cons_zero, List.setIfInBounds_toArray, List.set_cons_zero, List.set_cons_succ]
          refine wpAnyH_take (i := 8) (v := .pointer (some ⟨w.heap.size, sf, none⟩)) rfl (by kernel_rfl) (by kernel_rfl) (by kernel_rfl) (fun _ _ _ h => h) (Or.inl ⟨by rfl, ?_⟩) (by first | assumption | exact trivial) ?_
          · intro W hSW; have hsi : ¬ 64 ≤ (sf : Int) := (by omega); go_simp; try (with_reducible rfl)
          simp only [Act.put, List.getElem_toArray, List.getElem_cons_succ, List.getElem_cons_zero, List.setIfInBounds_toArray, List.set_cons_zero, List.set_cons_succ]
          have c2 := HJ.out.a2.cell hself
          have f2 := HJ.out.a2.frozen sf
          have c3 := HJ.out.a3.cell hself
          have f3 := HJ.out.a3.frozen sf
          have HF : Hid (Wy w ((wr.setCell ⟨w.heap.size, sf, none⟩ (.int .i64 0)).setCell ⟨w.heap.size + 1, sf, none⟩ (.int .i64 (-1))).drew (waysC t, waysH t)) := by
            have := HJ.out.put hself 0 (-1)
            rw [HWC.out, HWH.out] at this
            exact this.go (Below.refl _ _).drew
          refine wpAnyH_ready (rs := [9]) (by kernel_rfl) (by simp) ?_
          refine AllReadyH.cons rfl (fun K hK => ?_) AllReadyH.nil
          go_simp
          refine hK.out _ _ ((HJ.out.bel.setCell (p := ⟨w.heap.size, sf, none⟩) (Nat.le_refl _) _).drew) (fun hHeld => ?_)
          clear hK K
          refine wpAnyH_take (i := 10) (v := .pointer (some ⟨w.heap.size + 1, sf, none⟩)) rfl (by kernel_rfl) (by kernel_rfl) (by kernel_rfl) (fun _ _ _ h => h) (Or.inl ⟨by rfl, ?_⟩) (by first | assumption | exact trivial) ?_
          · intro W hSW; have hsi : ¬ 64 ≤ (sf : Int) := (by omega); go_simp; try (with_reducible rfl)
          simp only [Act.put, List.getElem_toArray, List.getElem_cons_succ, List.getElem_cons_zero, List.setIfInBounds_toArray, List.set_cons_zero, List.set_cons_succ]
          refine wpAnyH_ready (rs := [11]) (by kernel_rfl) (by simp) ?_
          refine AllReadyH.cons rfl (fun K hK => ?_) AllReadyH.nil
          go_simp
          refine hK.out _ _ ((((HJ.out.bel.setCell (p := ⟨w.heap.size, sf, none⟩) (Nat.le_refl _) _).setCell (p := ⟨w.heap.size + 1, sf, none⟩) (Nat.le_succ _) _).drew)) (fun hHeld => ?_)
          clear hK K
          refine wpAnyH_done (by kernel_rfl) ?_ _
          clear c2 f2 c3 f3 HJ HWC HWH hS0
          obtain ⟨wf, hwf⟩ : ∃ wf, ((wr.setCell ⟨w.heap.size, sf, none⟩ (.int .i64 0)).setCell ⟨w.heap.size + 1, sf, none⟩ (.int .i64 (-1))).drew = wf := ⟨_, rfl⟩
          rw [hwf] at HF ⊢
          clear hwf hHeld
          go_wp2
          have HF2 : Hid (Wy w wf.drew (waysC t, waysH t)) := HF.out.go (Below.refl _ _).drew
          refine wp_region_held_drew (S := fun W => Wy w W (waysC t, waysH t)) (by kernel_rfl) HF2.out (fun hHeld => ?_)
          refine wpAnyH_take (i := 0) (v := .agg (row (waysC t))) rfl (by kernel_rfl) (by kernel_rfl) (by kernel_rfl) (fun _ _ _ h => h) (yieldsIf_load_row0 (by rfl) 74 (.tmp 2) rfl w.heap.size rfl _ (fun W hW => hW.a2)) (by first | assumption | exact trivial) ?_
          simp only [Act.put, List.getElem_toArray, List.getElem_cons_succ, List.getElem_cons_zero, List.setIfInBounds_toArray, List.set_cons_zero, List.set_cons_succ]
          refine wpAnyH_take (i := 1) (v := .agg (row (waysH t))) rfl (by kernel_rfl) (by kernel_rfl) (by kernel_rfl) (fun _ _ _ h => h) (yieldsIf_load_row0 (by rfl) 74 (.tmp 3) rfl (w.heap.size + 1) rfl _ (fun W hW => hW.a3)) (by first | assumption | exact trivial) ?_
          simp only [Act.put, List.getElem_toArray, List.getElem_cons_succ, List.getElem_cons_zero, List.setIfInBounds_toArray, List.set_cons_zero, List.set_cons_succ]
          refine wpAnyH_ready (rs := [2]) (by kernel_rfl) (by simp) ?_
          refine AllReadyH.cons rfl (fun K hK => ?_) AllReadyH.nil
          refine wp_store_row 74 (.tmp 2) (.tmp 75) rfl w.heap.size (row (waysC t)) rfl rfl 74 _ HF2.out.a2 (size64 _) (by simp only [row_size]) (row_one _) ?_
          have HF3 : Hid (Wy w (wf.drew.setRow w.heap.size (row (waysC t))) (waysC t, waysH t)) := ⟨HF2.out.a2.setRow _, HF2.out.a3.rowOther (by omega) _, Sb.below_setRow _ HF2.out.bel (Nat.le_refl _)⟩
          refine hK.out _ _ (HF3.out) (fun hHeld => ?_)
          clear hK K
          refine wpAnyH_ready (rs := [3]) (by kernel_rfl) (by simp) ?_
          refine AllReadyH.cons rfl (fun K hK => ?_) AllReadyH.nil
          refine wp_store_row 74 (.tmp 3) (.tmp 76) rfl (w.heap.size + 1) (row (waysH t)) rfl rfl 74 _ HF3.out.a3 (size64 _) (by simp only [row_size]) (row_one _) ?_
          have HF4 : Hid (Wy w ((wf.drew.setRow w.heap.size (row (waysC t))).setRow (w.heap.size + 1) (row (waysH t))) (waysC t, waysH t)) := ⟨HF3.out.a2.rowOther (by omega) _, HF3.out.a3.setRow _, Sb.below_setRow _ HF3.out.bel (Nat.le_succ _)⟩
          refine hK.out _ _ (HF4.out) (fun hHeld => ?_)
          clear hK K
          refine wpAnyH_done (by kernel_rfl) ?_ _
          go_wp2
          refine ret_two rfl rfl rfl HF4.out.a2 HF4.out.a3 rfl Try.underlying74 (size64 _) (size64 _) rfl ⟨rfl, HF4.out.bel⟩
end Go.Proofs.Ytkanebolfmpnfaa.Rt
