/- RoutesPoison: nothing is said to a neighbour of a destination that would come back. -/
import Derived.Test.YtablejhajilpiaaRtVecL
namespace Go.Proofs.Ytablejhajilpiaa.Rt
open Go.RowKit Go.Maps
open Go.Proofs.Ytablejhajilpiaa.Sb
set_option linter.unusedVariables false
set_option linter.unusedSimpArgs false
theorem newT_self {s g : Nat} {l : List Int} (acts : List Ac) : (actsT (newT s g l) acts).self = s := (actsT_nbs acts (newT s g l)).2
set_option maxRecDepth 100000 in
set_option maxHeartbeats 4000000 in
theorem routesPoison (ss sg : Int) (sR : Option Addr) (sn sc : Nat) (sl : List Int) (A : Option Addr) (len cap : Nat) (ls : List Ac) (to : Int) (w : World) (hs : Mi.BySlice w sR sn sc sl ∧ sc * 8 ≤ 140737488351232) (hl : len = ls.length ∧ len ≤ cap ∧ cap ≤ 9223372036854775807 ∧ Acts w A ls) (hto : (Lit.int .i64 to).wf = true) :
    Calls Try.prog 6 #[.agg #[.int .i64 ss, .slice sR sn sc, .int .i64 sg], .slice A len cap, .int .i64 to] w fun e w' => e = .returned (.bool true) ∧ Below w.heap.size w w' := by
  clear hto
  show Calls Try.prog _ #[.agg (stV ss sR sn sc sg), .slice A len cap, .int .i64 to] w _
  have HB0 : Hid ((w.alloc (.cells (stV ss sR sn sc sg) 24)).heap[w.heap.size]? = some (.cells (stV ss sR sn sc sg) 24 (0, 0))) := heap_alloc_new w _
  have hb0 : Below w.heap.size w (w.alloc (.cells (stV ss sR sn sc sg) 24)) := Mi.below_alloc (Below.refl _ _)
  have hs0 : Mi.BySlice (w.alloc (.cells (stV ss sR sn sc sg) 24)) sR sn sc sl ∧ sc * 8 ≤ 140737488351232 := by
    obtain ⟨⟨a1, a2, a3, a4, a5⟩, a6⟩ := hs
    exact ⟨⟨a1, a2, a3, (a4.below hb0).more hb0.size, a5⟩, a6⟩
  have hl0 : len = ls.length ∧ len ≤ cap ∧ cap ≤ 9223372036854775807 ∧ Acts (w.alloc (.cells (stV ss sR sn sc sg) 24)) A ls := ⟨hl.1, hl.2.1, hl.2.2.1, hl.2.2.2.below hb0⟩
  clear hs hl
  obtain ⟨w1, hw1⟩ : ∃ w1, w.alloc (.cells (stV ss sR sn sc sg) 24) = w1 := ⟨_, rfl⟩
  have HW1 : Hid (w.alloc (.cells (stV ss sR sn sc sg) 24) = w1) := hw1
  rw [hw1] at HB0 hb0 hs0 hl0
  clear hw1
  have HK := Lib.hid awake_any
  by_cases hE : newE ss sl sg = 0
  · obtain ⟨s, g, rfl, rfl⟩ := newE_nat hE
    have HD := Lib.hid (done_ok s g sR sn sc sl A len cap ls w1 hs0 hE hl0)
    have HBW : Hid (Below w.heap.size w w1) := hb0
    clear hs0 hl0 hE hb0
    obtain ⟨t, hT⟩ : ∃ t, actsT (newT s g sl) (ls.take 40) = t := ⟨_, rfl⟩
    have hTs : t.self = s := by rw [← hT]; exact newT_self _
    rw [hT] at HD
    clear hT
    have HTS : Hid (t.self = s) := hTs
    clear hTs
    cases hcon : t.nbs.contains to with
    | false =>
      go_enter Try.func6, Try.ntmps6
      go_wp2_with (first
        | (refine Mi.allocTo rfl (.pointer (some ⟨_, 0, none⟩)) (.cells (stV (s : Int) sR sn sc (g : Int)) 24 (0, 0)) (exec_boxs _ _ (s : Int) (g : Int) sR sn sc (.tmp 0) rfl rfl _) ?_; rw [HW1.out])
        | (refine wpList_load_row rfl 24 (.tmp 3) rfl w.heap.size rfl 24 _ (0, 0) _ HB0.out Try.underlying24 rfl (st_size _ _ _ _ _) ?_)
        | (go_at_call 20; refine HD.out.mono ?_; rintro e w2 ⟨D, mb, v, q, p, rfl, hb2, ht2, hr2⟩; have HZ2 : Hid (Bq (w2.alloc (.cells (rqV q0 p0) 33)) w2.heap.size q0 p0) := box_rq q0 p0 w2)
        | (refine Mi.allocTo rfl (.pointer (some ⟨_, 0, none⟩)) (.cells (rqV q0 p0) 33 (0, 0)) (alloc_rq _ _ rfl _) ?_)
        | (refine wpList_store_row rfl 33 (.tmp 8) (.tmp 19) rfl w2.heap.size (rqV q p) rfl rfl 33 _ HZ2.out (rq_size _ _) rfl (rq_one _ _) ?_
           have HB3 : Hid (Bq ((w2.alloc (.cells (rqV q0 p0) 33)).setRow w2.heap.size (rqV q p)) w2.heap.size q p) := setRow_heap _ _ _ _ _ _ HZ2.out
           have hb3 : Below w2.heap.size w2 ((w2.alloc (.cells (rqV q0 p0) 33)).setRow w2.heap.size (rqV q p)) := Sb.below_setRow _ (Mi.below_alloc (Below.refl _ _)) (Nat.le_refl _)
           have HT3 := Lib.hid (ht2.out.below hb3)
           have HR3 := Lib.hid (hr2.out.rel)
           have HA3 := Lib.hid (((hr2.out.asked ht2.out.ok ht2.out.nl (by decide))).below hb3)
           have hb13 := go_on hb2.out hb3
           have HB03 := Lib.hid ((hb13.block _ (Array.getElem?_eq_some_iff.1 HB0.out).1).trans HB0.out)
           have HBL3 := Lib.hid hb13.size
           have HBW3 : Hid (Below w.heap.size w ((w2.alloc (.cells (rqV q0 p0) 33)).setRow w2.heap.size (rqV q p))) := go_on (go_on HBW.out hb2.out) hb3
           obtain ⟨w3, hw3⟩ : ∃ w3, (w2.alloc (.cells (rqV q0 p0) 33)).setRow w2.heap.size (rqV q p) = w3 := ⟨_, rfl⟩
           obtain ⟨gb, hgb⟩ : ∃ gb, w2.heap.size = gb := ⟨_, rfl⟩
           rw [hw3] at HB3 HT3 HA3 HBW3 HB03 HBL3 ⊢
           rw [hgb] at HB3 ⊢
           clear hb13
           clear hw3 hgb hb3 ht2 hr2 HZ2 hb2
           have c2 := HB3.out.cells.2.2.1
           have HB3C := Lib.hid c2
           clear c2
           rw [HR3.out.nbs] at HB3C
           have HH := Lib.hid (fun (W : World) (hW : Below w3.heap.size w3 W) => RHas_any p.A p.cA t.nbs to W (by have := (HA3.out.below hW).rf.nbs; rw [HR3.out.nbs] at this; exact this) (by have := HT3.out.nl; omega))
           have HSB : Hid (∀ W, Below w3.heap.size w3 W → W.cell? ⟨w.heap.size, 0, none⟩ = some (.int .i64 (s : Int))) := fun W hW => (st_cells ((hW.block _ (by have h1 := (Array.getElem?_eq_some_iff.1 HB0.out).1; have h2 := HBL3.out; omega)).trans HB03.out)).1
           have HV := Lib.hid (fun (W : World) (hW : Below w3.heap.size w3 W) => Vector_no W D mb v t (HT3.out.below hW).tq to HT3.out.nl hcon)
           rw [hcon] at HH
           have c2 := HB3C.out)
        | (go_at_call 21; with_reducible refine (HV.out w3 (Below.refl _ _)).mono ?_; rintro e w4 ⟨rfl, rfl⟩)
        | (go_at_call 25; with_reducible refine (HH.out w3 (Below.refl _ _)).mono ?_; rintro e w5 ⟨rfl, rfl⟩)
        | (go_at_call 11; with_reducible refine (HK.out w3).mono ?_; rintro e w4 ⟨rfl, hb4⟩))
      go_ret
      exact ⟨rfl, go_on HBW3.out hb4.out⟩
    | true =>
      go_enter Try.func6, Try.ntmps6
      go_wp2_with (first
        | (refine Mi.allocTo rfl (.pointer (some ⟨_, 0, none⟩)) (.cells (stV (s : Int) sR sn sc (g : Int)) 24 (0, 0)) (exec_boxs _ _ (s : Int) (g : Int) sR sn sc (.tmp 0) rfl rfl _) ?_; rw [HW1.out])
        | (refine wpList_load_row rfl 24 (.tmp 3) rfl w.heap.size rfl 24 _ (0, 0) _ HB0.out Try.underlying24 rfl (st_size _ _ _ _ _) ?_)
        | (go_at_call 20; refine HD.out.mono ?_; rintro e w2 ⟨D, mb, v, q, p, rfl, hb2, ht2, hr2⟩; have HZ2 : Hid (Bq (w2.alloc (.cells (rqV q0 p0) 33)) w2.heap.size q0 p0) := box_rq q0 p0 w2)
        | (refine Mi.allocTo rfl (.pointer (some ⟨_, 0, none⟩)) (.cells (rqV q0 p0) 33 (0, 0)) (alloc_rq _ _ rfl _) ?_)
        | (refine wpList_store_row rfl 33 (.tmp 8) (.tmp 19) rfl w2.heap.size (rqV q p) rfl rfl 33 _ HZ2.out (rq_size _ _) rfl (rq_one _ _) ?_
           have HB3 : Hid (Bq ((w2.alloc (.cells (rqV q0 p0) 33)).setRow w2.heap.size (rqV q p)) w2.heap.size q p) := setRow_heap _ _ _ _ _ _ HZ2.out
           have hb3 : Below w2.heap.size w2 ((w2.alloc (.cells (rqV q0 p0) 33)).setRow w2.heap.size (rqV q p)) := Sb.below_setRow _ (Mi.below_alloc (Below.refl _ _)) (Nat.le_refl _)
           have HT3 := Lib.hid (ht2.out.below hb3)
           have HR3 := Lib.hid (hr2.out.rel)
           have HA3 := Lib.hid (((hr2.out.asked ht2.out.ok ht2.out.nl (by decide))).below hb3)
           have hb13 := go_on hb2.out hb3
           have HB03 := Lib.hid ((hb13.block _ (Array.getElem?_eq_some_iff.1 HB0.out).1).trans HB0.out)
           have HBL3 := Lib.hid hb13.size
           have HBW3 : Hid (Below w.heap.size w ((w2.alloc (.cells (rqV q0 p0) 33)).setRow w2.heap.size (rqV q p))) := go_on (go_on HBW.out hb2.out) hb3
           obtain ⟨w3, hw3⟩ : ∃ w3, (w2.alloc (.cells (rqV q0 p0) 33)).setRow w2.heap.size (rqV q p) = w3 := ⟨_, rfl⟩
           obtain ⟨gb, hgb⟩ : ∃ gb, w2.heap.size = gb := ⟨_, rfl⟩
           rw [hw3] at HB3 HT3 HA3 HBW3 HB03 HBL3 ⊢
           rw [hgb] at HB3 ⊢
           clear hb13
           clear hw3 hgb hb3 ht2 hr2 HZ2 hb2
           have c2 := HB3.out.cells.2.2.1
           have HB3C := Lib.hid c2
           clear c2
           rw [HR3.out.nbs] at HB3C
           have HH := Lib.hid (fun (W : World) (hW : Below w3.heap.size w3 W) => RHas_any p.A p.cA t.nbs to W (by have := (HA3.out.below hW).rf.nbs; rw [HR3.out.nbs] at this; exact this) (by have := HT3.out.nl; omega))
           have HSB : Hid (∀ W, Below w3.heap.size w3 W → W.cell? ⟨w.heap.size, 0, none⟩ = some (.int .i64 (s : Int))) := fun W hW => (st_cells ((hW.block _ (by have h1 := (Array.getElem?_eq_some_iff.1 HB0.out).1; have h2 := HBL3.out; omega)).trans HB03.out)).1
           have HV := Lib.hid (fun (W : World) (hW : Below w3.heap.size w3 W) => Vector_any W D mb v t (HT3.out.below hW).tq HT3.out.ok to HT3.out.nl hcon)
           rw [hcon] at HH
           have HNX := Lib.hid (fun (W : World) (hW : Below w3.heap.size w3 W) => Next_any W D mb v t (HT3.out.below hW).tq HT3.out.ok)
           have HCO := Lib.hid (fun (W : World) (hW : Below w3.heap.size w3 W) => Cost_any W D mb v t (HT3.out.below hW).tq HT3.out.ok)
           have HTO : Hid (to ≠ -1) := by
             obtain ⟨m, e, _⟩ := HT3.out.ok.nbs to (by simpa using hcon)
             show to ≠ -1
             omega)
        | (go_at_call 21; with_reducible refine (HV.out w3 (Below.refl _ _)).mono ?_; rintro e w4 ⟨g4, rfl, hg4, ar4, hb4⟩; have c2 := (hb4.out.cell (p := ⟨gb, 2, none⟩) HB3.out.lt).trans HB3C.out; have HHW := Lib.hid (HH.out w4 hb4.out))
        | (go_at_call 25; with_reducible refine HHW.out.mono ?_; rintro e w5 ⟨rfl, rfl⟩))
      clear c2
      go_loopw [11] (fun k wr => ∃ i : Nat, i ≤ 64 ∧ k = .int .i64 i ∧ Hid (Ar wr g4 (vecF t to)) ∧ Hid (Below w3.heap.size w3 wr)) (fun k _ => 64 - (intOf k).toNat)
      case atStart => exact ⟨0, Nat.zero_le _, rfl, ar4, hb4⟩
      case round =>
        obtain ⟨i, hi, rfl, har, hbb⟩ := hrel
        by_cases hlt : i < 64
        · have hi64 : (i : Int) < 64 := by omega
          have hND : isN (i : Int) = true := isN_nat hlt
          have HN := Lib.hid (HNX.out wr hbb.out (i : Int))
          have hcs : costN t (i : Int) = waysC t i := by unfold costN; rw [if_pos hND]; rfl
          by_cases hh : waysH t i = -1
          · have hnx : nextN t (i : Int) = (0, false) := by unfold nextN; rw [if_neg (fun e => e.2 hh)]
            have hvc : vecF t to i = waysC t i := by unfold vecF; rw [if_neg (by rw [hh]; exact fun e => HTO.out e.symm)]
            rw [hnx] at HN
            have HC := Lib.hid (fun (W : World) (hW : Below w3.heap.size w3 W) => hcs ▸ HCO.out W hW (i : Int))
            obtain ⟨cst, hcst⟩ : ∃ cst, waysC t i = cst := ⟨_, rfl⟩
            rw [hcst] at hvc HC
            clear hcst hnx hh hcs hND
            go_wp2_with (go_at_call 16; with_reducible refine HN.out.mono ?_; rintro e w5 ⟨rfl, hb5⟩)
            have har5 : Ar w5 g4 (vecF t to) := har.out.below hb5.out har.out.lt
            have hb45 : Below w3.heap.size w3 w5 := go_on hbb.out hb5.out
            refine wp_region_held_drew (S := fun W => Ar W g4 (vecF t to) ∧ Below w3.heap.size w3 W) (by kernel_rfl) ⟨har5, hb45.drew⟩ (fun hHeld => ?_)
            refine wpAnyH_take (i := 0) (v := .bool false) rfl (by kernel_rfl) (by kernel_rfl) (by kernel_rfl) (fun _ _ _ h => h) (Or.inl ⟨by rfl, ?_⟩) (by first | assumption | exact trivial) ?_
            · intro W hSW; go_simp; try (with_reducible rfl)
            simp only [Act.put, List.getElem_toArray, List.getElem_cons_succ, List.getElem_cons_zero, List.setIfInBounds_toArray, List.set_cons_zero, List.set_cons_succ]
            refine wpAnyH_take (i := 1) (v := .bool false) rfl (by kernel_rfl) (by kernel_rfl) (by kernel_rfl) (fun _ _ _ h => h) (Or.inl ⟨by rfl, ?_⟩) (by first | assumption | exact trivial) ?_
            · intro W hSW; go_simp; try (with_reducible rfl)
            simp only [Act.put, List.getElem_toArray, List.getElem_cons_succ, List.getElem_cons_zero, List.setIfInBounds_toArray, List.set_cons_zero, List.set_cons_succ]
            refine wpAnyH_take (i := 2) (v := undef) rfl (by kernel_rfl) (by kernel_rfl) (by kernel_rfl) (fun _ _ _ h => h) (Or.inr ⟨by rfl, rfl⟩) (by first | assumption | exact trivial) ?restz1
            simp only [Act.put, List.getElem_toArray, List.getElem_cons_succ, List.getElem_cons_zero, List.setIfInBounds_toArray, List.set_cons_zero, List.set_cons_succ]
            refine wpAnyH_take (i := 3) (v := undef) rfl (by kernel_rfl) (by kernel_rfl) (by kernel_rfl) (fun _ _ _ h => h) (Or.inr ⟨by rfl, rfl⟩) (by first | assumption | exact trivial) ?restz2
            simp only [Act.put, List.getElem_toArray, List.getElem_cons_succ, List.getElem_cons_zero, List.setIfInBounds_toArray, List.set_cons_zero, List.set_cons_succ]
            refine wpAnyH_take (i := 4) (v := undef) rfl (by kernel_rfl) (by kernel_rfl) (by kernel_rfl) (fun _ _ _ h => h) (Or.inr ⟨by rfl, rfl⟩) (by first | assumption | exact trivial) ?restz3
            simp only [Act.put, List.getElem_toArray, List.getElem_cons_succ, List.getElem_cons_zero, List.setIfInBounds_toArray, List.set_cons_zero, List.set_cons_succ]
            refine wpAnyH_take (i := 5) (v := .bool false) rfl (by kernel_rfl) (by kernel_rfl) (by kernel_rfl) (fun _ _ _ h => h) (Or.inl ⟨by rfl, ?_⟩) (by first | assumption | exact trivial) ?_
            · intro W hSW; go_simp; try (with_reducible rfl)
            simp only [Act.put, List.getElem_toArray, List.getElem_cons_succ, List.getElem_cons_zero, List.setIfInBounds_toArray, List.set_cons_zero, List.set_cons_succ]
            refine wpAnyH_take (i := 6) (v := .bool false) rfl (by kernel_rfl) (by kernel_rfl) (by kernel_rfl) (fun _ _ _ h => h) (Or.inl ⟨by rfl, ?_⟩) (by first | assumption | exact trivial) ?_
            · intro W hSW; go_simp; try (with_reducible rfl)
            simp only [Act.put, List.getElem_toArray, List.getElem_cons_succ, List.getElem_cons_zero, List.setIfInBounds_toArray, List.set_cons_zero, List.set_cons_succ]
            refine wpAnyH_take (i := 7) (v := undef) rfl (by kernel_rfl) (by kernel_rfl) (by kernel_rfl) (fun _ _ _ h => h) (Or.inr ⟨by rfl, rfl⟩) (by first | assumption | exact trivial) ?restz4
            simp only [Act.put, List.getElem_toArray, List.getElem_cons_succ, List.getElem_cons_zero, List.setIfInBounds_toArray, List.set_cons_zero, List.set_cons_succ]
            refine wpAnyH_take (i := 8) (v := undef) rfl (by kernel_rfl) (by kernel_rfl) (by kernel_rfl) (fun _ _ _ h => h) (Or.inr ⟨by rfl, rfl⟩) (by first | assumption | exact trivial) ?restz5
            simp only [Act.put, List.getElem_toArray, List.getElem_cons_succ, List.getElem_cons_zero, List.setIfInBounds_toArray, List.set_cons_zero, List.set_cons_succ]
            refine wpAnyH_take (i := 9) (v := undef) rfl (by kernel_rfl) (by kernel_rfl) (by kernel_rfl) (fun _ _ _ h => h) (Or.inr ⟨by rfl, rfl⟩) (by first | assumption | exact trivial) ?restz6
            simp only [Act.put, List.getElem_toArray, List.getElem_cons_succ, List.getElem_cons_zero, List.setIfInBounds_toArray, List.set_cons_zero, List.set_cons_succ]
            refine wpAnyH_take (i := 10) (v := undef) rfl (by kernel_rfl) (by kernel_rfl) (by kernel_rfl) (fun _ _ _ h => h) (Or.inr ⟨by rfl, rfl⟩) (by first | assumption | exact trivial) ?restz7
            simp only [Act.put, List.getElem_toArray, List.getElem_cons_succ, List.getElem_cons_zero, List.setIfInBounds_toArray, List.set_cons_zero, List.set_cons_succ]
            refine wpAnyH_take (i := 11) (v := undef) rfl (by kernel_rfl) (by kernel_rfl) (by kernel_rfl) (fun _ _ _ h => h) (Or.inr ⟨by rfl, rfl⟩) (by first | assumption | exact trivial) ?restz8
            simp only [Act.put, List.getElem_toArray, List.getElem_cons_succ, List.getElem_cons_zero, List.setIfInBounds_toArray, List.set_cons_zero, List.set_cons_succ]
            refine wpAnyH_take (i := 12) (v := .bool false) rfl (by kernel_rfl) (by kernel_rfl) (by kernel_rfl) (fun _ _ _ h => h) (Or.inl ⟨by rfl, ?_⟩) (by first | assumption | exact trivial) ?_
            · intro W hSW; go_simp; try (with_reducible rfl)
            simp only [Act.put, List.getElem_toArray, List.getElem_cons_succ, List.getElem_cons_zero, List.setIfInBounds_toArray, List.set_cons_zero, List.set_cons_succ]
            refine wpAnyH_take (i := 13) (v := .bool false) rfl (by kernel_rfl) (by kernel_rfl) (by kernel_rfl) (fun _ _ _ h => h) (Or.inl ⟨by rfl, ?_⟩) (by first | assumption | exact trivial) ?_
            · intro W hSW; go_simp; try (with_reducible rfl)
            simp only [Act.put, List.getElem_toArray, List.getElem_cons_succ, List.getElem_cons_zero, List.setIfInBounds_toArray, List.set_cons_zero, List.set_cons_succ]
            refine wpAnyH_take (i := 14) (v := .bool false) rfl (by kernel_rfl) (by kernel_rfl) (by kernel_rfl) (fun _ _ _ h => h) (Or.inl ⟨by rfl, ?_⟩) (by first | assumption | exact trivial) ?_
            · intro W hSW; go_simp; try (with_reducible rfl)
            simp only [Act.put, List.getElem_toArray, List.getElem_cons_succ, List.getElem_cons_zero, List.setIfInBounds_toArray, List.set_cons_zero, List.set_cons_succ]
            refine wpAnyH_take (i := 15) (v := .bool true) rfl (by kernel_rfl) (by kernel_rfl) (by kernel_rfl) (fun _ _ _ h => h) (Or.inl ⟨by rfl, ?_⟩) (by first | assumption | exact trivial) ?_
            · intro W hSW; go_simp; try (with_reducible rfl)
            simp only [Act.put, List.getElem_toArray, List.getElem_cons_succ, List.getElem_cons_zero, List.setIfInBounds_toArray, List.set_cons_zero, List.set_cons_succ]
            refine wpAnyH_take (i := 16) (v := .bool true) rfl (by kernel_rfl) (by kernel_rfl) (by kernel_rfl) (fun _ _ _ h => h) (Or.inl ⟨by rfl, ?_⟩) (by first | assumption | exact trivial) ?_
            · intro W hSW; go_simp; try (with_reducible rfl)
            simp only [Act.put, List.getElem_toArray, List.getElem_cons_succ, List.getElem_cons_zero, List.setIfInBounds_toArray, List.set_cons_zero, List.set_cons_succ]
            refine wpAnyH_take (i := 17) (v := undef) rfl (by kernel_rfl) (by kernel_rfl) (by kernel_rfl) (fun _ _ _ h => h) (Or.inr ⟨by rfl, rfl⟩) (by first | assumption | exact trivial) ?restz9
            simp only [Act.put, List.getElem_toArray, List.getElem_cons_succ, List.getElem_cons_zero, List.setIfInBounds_toArray, List.set_cons_zero, List.set_cons_succ]
            refine wpAnyH_take (i := 18) (v := undef) rfl (by kernel_rfl) (by kernel_rfl) (by kernel_rfl) (fun _ _ _ h => h) (Or.inr ⟨by rfl, rfl⟩) (by first | assumption | exact trivial) ?restz10
            simp only [Act.put, List.getElem_toArray, List.getElem_cons_succ, List.getElem_cons_zero, List.setIfInBounds_toArray, List.set_cons_zero, List.set_cons_succ]
            refine wpAnyH_take (i := 19) (v := undef) rfl (by kernel_rfl) (by kernel_rfl) (by kernel_rfl) (fun _ _ _ h => h) (Or.inr ⟨by rfl, rfl⟩) (by first | assumption | exact trivial) ?restz11
            simp only [Act.put, List.getElem_toArray, List.getElem_cons_succ, List.getElem_cons_zero, List.setIfInBounds_toArray, List.set_cons_zero, List.set_cons_succ]
            refine wpAnyH_take (i := 20) (v := .bool true) rfl (by kernel_rfl) (by kernel_rfl) (by kernel_rfl) (fun _ _ _ h => h) (Or.inl ⟨by rfl, ?_⟩) (by first | assumption | exact trivial) ?_
            · intro W hSW; go_simp; try (with_reducible rfl)
            simp only [Act.put, List.getElem_toArray, List.getElem_cons_succ, List.getElem_cons_zero, List.setIfInBounds_toArray, List.set_cons_zero, List.set_cons_succ]
            refine wpAnyH_take (i := 21) (v := .bool true) rfl (by kernel_rfl) (by kernel_rfl) (by kernel_rfl) (fun _ _ _ h => h) (Or.inl ⟨by rfl, ?_⟩) (by first | assumption | exact trivial) ?_
            · intro W hSW; go_simp; try (with_reducible rfl)
            simp only [Act.put, List.getElem_toArray, List.getElem_cons_succ, List.getElem_cons_zero, List.setIfInBounds_toArray, List.set_cons_zero, List.set_cons_succ]
            refine wpAnyH_take (i := 22) (v := .slice (some ⟨g4, 0, none⟩) 64 64) rfl (by kernel_rfl) (by kernel_rfl) (by kernel_rfl) (fun _ _ _ h => h) (Or.inl ⟨by rfl, ?_⟩) (by first | assumption | exact trivial) ?_
            · intro W hSW; go_simp; try (with_reducible rfl)
            simp only [Act.put, List.getElem_toArray, List.getElem_cons_succ, List.getElem_cons_zero, List.setIfInBounds_toArray, List.set_cons_zero, List.set_cons_succ]
            refine wpAnyH_take (i := 23) (v := .int .i64 (i : Int)) rfl (by kernel_rfl) (by kernel_rfl) (by kernel_rfl) (fun _ _ _ h => h) (Or.inl ⟨by rfl, ?_⟩) (by first | assumption | exact trivial) ?_
            · intro W hSW; go_simp; try (with_reducible rfl)
            simp only [Act.put, List.getElem_toArray, List.getElem_cons_succ, List.getElem_cons_zero, List.setIfInBounds_toArray, List.set_cons_zero, List.set_cons_succ]
            refine wpAnyH_take (i := 24) (v := .pointer (some ⟨g4, i, none⟩)) rfl (by kernel_rfl) (by kernel_rfl) (by kernel_rfl) (fun _ _ _ h => h) (Or.inl ⟨by rfl, ?_⟩) (by first | assumption | exact trivial) ?_
            · intro W hSW; have q6 := hi64; go_simp; try (with_reducible rfl)
            simp only [Act.put, List.getElem_toArray, List.getElem_cons_succ, List.getElem_cons_zero, List.setIfInBounds_toArray, List.set_cons_zero, List.set_cons_succ]
            refine wpAnyH_take (i := 25) (v := .int .i64 cst) rfl (by kernel_rfl) (by kernel_rfl) (by kernel_rfl) (fun _ _ _ h => h) (Or.inl ⟨by rfl, ?_⟩) (by first | assumption | exact trivial) ?_
            · intro W hSW; have q7 := hSW.1.cell hlt; rw [hvc] at q7; go_simp; try (with_reducible rfl)
            simp only [Act.put, List.getElem_toArray, List.getElem_cons_succ, List.getElem_cons_zero, List.setIfInBounds_toArray, List.set_cons_zero, List.set_cons_succ]
            refine wpAnyH_take (i := 26) (v := .pointer (some ⟨D, 0, none⟩)) rfl (by kernel_rfl) (by kernel_rfl) (by kernel_rfl) (fun _ _ _ h => h) (Or.inl ⟨by rfl, ?_⟩) (by first | assumption | exact trivial) ?_
            · intro W hSW; go_simp; try (with_reducible rfl)
            simp only [Act.put, List.getElem_toArray, List.getElem_cons_succ, List.getElem_cons_zero, List.setIfInBounds_toArray, List.set_cons_zero, List.set_cons_succ]
            refine wpAnyH_take (i := 27) (v := .int .i64 (i : Int)) rfl (by kernel_rfl) (by kernel_rfl) (by kernel_rfl) (fun _ _ _ h => h) (Or.inl ⟨by rfl, ?_⟩) (by first | assumption | exact trivial) ?_
            · intro W hSW; go_simp; try (with_reducible rfl)
            simp only [Act.put, List.getElem_toArray, List.getElem_cons_succ, List.getElem_cons_zero, List.setIfInBounds_toArray, List.set_cons_zero, List.set_cons_succ]
            refine wpAnyH_ready (rs := [28]) (by kernel_rfl) (by simp) ?_
            refine AllReadyH.cons rfl (fun K hK => ?_) AllReadyH.nil
            go_simp
            go_wp2_with (go_at_call 18; with_reducible refine (HC.out _ hb45.drew).mono ?_; rintro e w6 ⟨rfl, hb6⟩)
            have har6 : Ar w6 g4 (vecF t to) := har5.same (hb6.out.block g4 har5.lt)
            refine hK.out _ _ (⟨har6, go_on hb45.drew hb6.out⟩) (fun hHeld => ?_)
            clear hK K
            refine wpAnyH_take (i := 29) (v := .bool false) rfl (by kernel_rfl) (by kernel_rfl) (by kernel_rfl) (fun _ _ _ h => h) (Or.inl ⟨by rfl, ?_⟩) (by first | assumption | exact trivial) ?_
            · intro W hSW; go_simp; try (with_reducible rfl)
            simp only [Act.put, List.getElem_toArray, List.getElem_cons_succ, List.getElem_cons_zero, List.setIfInBounds_toArray, List.set_cons_zero, List.set_cons_succ]
            refine wpAnyH_take (i := 30) (v := .bool false) rfl (by kernel_rfl) (by kernel_rfl) (by kernel_rfl) (fun _ _ _ h => h) (Or.inl ⟨by rfl, ?_⟩) (by first | assumption | exact trivial) ?_
            · intro W hSW; go_simp; try (with_reducible rfl)
            simp only [Act.put, List.getElem_toArray, List.getElem_cons_succ, List.getElem_cons_zero, List.setIfInBounds_toArray, List.set_cons_zero, List.set_cons_succ]
            refine wpAnyH_take (i := 31) (v := .bool false) rfl (by kernel_rfl) (by kernel_rfl) (by kernel_rfl) (fun _ _ _ h => h) (Or.inl ⟨by rfl, ?_⟩) (by first | assumption | exact trivial) ?_
            · intro W hSW; go_simp; try (with_reducible rfl)
            simp only [Act.put, List.getElem_toArray, List.getElem_cons_succ, List.getElem_cons_zero, List.setIfInBounds_toArray, List.set_cons_zero, List.set_cons_succ]
            refine wpAnyH_done (by kernel_rfl) ?_ _
            go_wp2
            go_roundw
            case rel => exact ⟨i + 1, by omega, by go_num, har6, go_on hb45.drew hb6.out⟩
            case measure => simp [intOf]; omega
          · have hnx : nextN t (i : Int) = (waysH t i, true) := by unfold nextN; rw [if_pos ⟨hND, hh⟩]; rfl
            rw [hnx] at HN
            by_cases hto : waysH t i = to
            · have hv16 : vecF t to i = 16 := by unfold vecF; rw [if_pos hto]
              rw [hto] at HN
              clear hnx hh hcs hND hto
              go_wp2_with (go_at_call 16; with_reducible refine HN.out.mono ?_; rintro e w5 ⟨rfl, hb5⟩)
              have har5 : Ar w5 g4 (vecF t to) := har.out.below hb5.out har.out.lt
              have hb45 : Below w3.heap.size w3 w5 := go_on hbb.out hb5.out
              refine wp_region_held_drew (S := fun W => Ar W g4 (vecF t to) ∧ Below w3.heap.size w3 W) (by kernel_rfl) ⟨har5, hb45.drew⟩ (fun hHeld => ?_)
              refine wpAnyH_take (i := 0) (v := .bool true) rfl (by kernel_rfl) (by kernel_rfl) (by kernel_rfl) (fun _ _ _ h => h) (Or.inl ⟨by rfl, ?_⟩) (by first | assumption | exact trivial) ?_
              · intro W hSW; go_simp; try (with_reducible rfl)
              simp only [Act.put, List.getElem_toArray, List.getElem_cons_succ, List.getElem_cons_zero, List.setIfInBounds_toArray, List.set_cons_zero, List.set_cons_succ]
              refine wpAnyH_take (i := 1) (v := .bool true) rfl (by kernel_rfl) (by kernel_rfl) (by kernel_rfl) (fun _ _ _ h => h) (Or.inl ⟨by rfl, ?_⟩) (by first | assumption | exact trivial) ?_
              · intro W hSW; go_simp; try (with_reducible rfl)
              simp only [Act.put, List.getElem_toArray, List.getElem_cons_succ, List.getElem_cons_zero, List.setIfInBounds_toArray, List.set_cons_zero, List.set_cons_succ]
              refine wpAnyH_take (i := 2) (v := .int .i64 to) rfl (by kernel_rfl) (by kernel_rfl) (by kernel_rfl) (fun _ _ _ h => h) (Or.inl ⟨by rfl, ?_⟩) (by first | assumption | exact trivial) ?_
              · intro W hSW; go_simp; try (with_reducible rfl)
              simp only [Act.put, List.getElem_toArray, List.getElem_cons_succ, List.getElem_cons_zero, List.setIfInBounds_toArray, List.set_cons_zero, List.set_cons_succ]
              refine wpAnyH_take (i := 3) (v := .int .i64 to) rfl (by kernel_rfl) (by kernel_rfl) (by kernel_rfl) (fun _ _ _ h => h) (Or.inl ⟨by rfl, ?_⟩) (by first | assumption | exact trivial) ?_
              · intro W hSW; go_simp; try (with_reducible rfl)
              simp only [Act.put, List.getElem_toArray, List.getElem_cons_succ, List.getElem_cons_zero, List.setIfInBounds_toArray, List.set_cons_zero, List.set_cons_succ]
              refine wpAnyH_take (i := 4) (v := .bool true) rfl (by kernel_rfl) (by kernel_rfl) (by kernel_rfl) (fun _ _ _ h => h) (Or.inl ⟨by rfl, ?_⟩) (by first | assumption | exact trivial) ?_
              · intro W hSW; go_simp; try (with_reducible rfl)
              simp only [Act.put, List.getElem_toArray, List.getElem_cons_succ, List.getElem_cons_zero, List.setIfInBounds_toArray, List.set_cons_zero, List.set_cons_succ]
              refine wpAnyH_take (i := 5) (v := .bool true) rfl (by kernel_rfl) (by kernel_rfl) (by kernel_rfl) (fun _ _ _ h => h) (Or.inl ⟨by rfl, ?_⟩) (by first | assumption | exact trivial) ?_
              · intro W hSW; go_simp; try (with_reducible rfl)
              simp only [Act.put, List.getElem_toArray, List.getElem_cons_succ, List.getElem_cons_zero, List.setIfInBounds_toArray, List.set_cons_zero, List.set_cons_succ]
              refine wpAnyH_take (i := 6) (v := .bool true) rfl (by kernel_rfl) (by kernel_rfl) (by kernel_rfl) (fun _ _ _ h => h) (Or.inl ⟨by rfl, ?_⟩) (by first | assumption | exact trivial) ?_
              · intro W hSW; go_simp; try (with_reducible rfl)
              simp only [Act.put, List.getElem_toArray, List.getElem_cons_succ, List.getElem_cons_zero, List.setIfInBounds_toArray, List.set_cons_zero, List.set_cons_succ]
              refine wpAnyH_take (i := 7) (v := .slice (some ⟨g4, 0, none⟩) 64 64) rfl (by kernel_rfl) (by kernel_rfl) (by kernel_rfl) (fun _ _ _ h => h) (Or.inl ⟨by rfl, ?_⟩) (by first | assumption | exact trivial) ?_
              · intro W hSW; go_simp; try (with_reducible rfl)
              simp only [Act.put, List.getElem_toArray, List.getElem_cons_succ, List.getElem_cons_zero, List.setIfInBounds_toArray, List.set_cons_zero, List.set_cons_succ]
              refine wpAnyH_take (i := 8) (v := .int .i64 (i : Int)) rfl (by kernel_rfl) (by kernel_rfl) (by kernel_rfl) (fun _ _ _ h => h) (Or.inl ⟨by rfl, ?_⟩) (by first | assumption | exact trivial) ?_
              · intro W hSW; go_simp; try (with_reducible rfl)
              simp only [Act.put, List.getElem_toArray, List.getElem_cons_succ, List.getElem_cons_zero, List.setIfInBounds_toArray, List.set_cons_zero, List.set_cons_succ]
              refine wpAnyH_take (i := 9) (v := .pointer (some ⟨g4, i, none⟩)) rfl (by kernel_rfl) (by kernel_rfl) (by kernel_rfl) (fun _ _ _ h => h) (Or.inl ⟨by rfl, ?_⟩) (by first | assumption | exact trivial) ?_
              · intro W hSW; have q6 := hi64; go_simp; try (with_reducible rfl)
              simp only [Act.put, List.getElem_toArray, List.getElem_cons_succ, List.getElem_cons_zero, List.setIfInBounds_toArray, List.set_cons_zero, List.set_cons_succ]
              refine wpAnyH_take (i := 10) (v := .int .i64 16) rfl (by kernel_rfl) (by kernel_rfl) (by kernel_rfl) (fun _ _ _ h => h) (Or.inl ⟨by rfl, ?_⟩) (by first | assumption | exact trivial) ?_
              · intro W hSW; have q7 := hSW.1.cell hlt; rw [hv16] at q7; go_simp; try (with_reducible rfl)
              simp only [Act.put, List.getElem_toArray, List.getElem_cons_succ, List.getElem_cons_zero, List.setIfInBounds_toArray, List.set_cons_zero, List.set_cons_succ]
              refine wpAnyH_take (i := 11) (v := .bool false) rfl (by kernel_rfl) (by kernel_rfl) (by kernel_rfl) (fun _ _ _ h => h) (Or.inl ⟨by rfl, ?_⟩) (by first | assumption | exact trivial) ?_
              · intro W hSW; go_simp; try (with_reducible rfl)
              simp only [Act.put, List.getElem_toArray, List.getElem_cons_succ, List.getElem_cons_zero, List.setIfInBounds_toArray, List.set_cons_zero, List.set_cons_succ]
              refine wpAnyH_take (i := 12) (v := .bool false) rfl (by kernel_rfl) (by kernel_rfl) (by kernel_rfl) (fun _ _ _ h => h) (Or.inl ⟨by rfl, ?_⟩) (by first | assumption | exact trivial) ?_
              · intro W hSW; go_simp; try (with_reducible rfl)
              simp only [Act.put, List.getElem_toArray, List.getElem_cons_succ, List.getElem_cons_zero, List.setIfInBounds_toArray, List.set_cons_zero, List.set_cons_succ]
              refine wpAnyH_take (i := 13) (v := .bool false) rfl (by kernel_rfl) (by kernel_rfl) (by kernel_rfl) (fun _ _ _ h => h) (Or.inl ⟨by rfl, ?_⟩) (by first | assumption | exact trivial) ?_
              · intro W hSW; go_simp; try (with_reducible rfl)
              simp only [Act.put, List.getElem_toArray, List.getElem_cons_succ, List.getElem_cons_zero, List.setIfInBounds_toArray, List.set_cons_zero, List.set_cons_succ]
              refine wpAnyH_take (i := 14) (v := .bool true) rfl (by kernel_rfl) (by kernel_rfl) (by kernel_rfl) (fun _ _ _ h => h) (Or.inl ⟨by rfl, ?_⟩) (by first | assumption | exact trivial) ?_
              · intro W hSW; go_simp; try (with_reducible rfl)
              simp only [Act.put, List.getElem_toArray, List.getElem_cons_succ, List.getElem_cons_zero, List.setIfInBounds_toArray, List.set_cons_zero, List.set_cons_succ]
              refine wpAnyH_take (i := 15) (v := .bool false) rfl (by kernel_rfl) (by kernel_rfl) (by kernel_rfl) (fun _ _ _ h => h) (Or.inl ⟨by rfl, ?_⟩) (by first | assumption | exact trivial) ?_
              · intro W hSW; go_simp; try (with_reducible rfl)
              simp only [Act.put, List.getElem_toArray, List.getElem_cons_succ, List.getElem_cons_zero, List.setIfInBounds_toArray, List.set_cons_zero, List.set_cons_succ]
              refine wpAnyH_take (i := 16) (v := .bool false) rfl (by kernel_rfl) (by kernel_rfl) (by kernel_rfl) (fun _ _ _ h => h) (Or.inl ⟨by rfl, ?_⟩) (by first | assumption | exact trivial) ?_
              · intro W hSW; go_simp; try (with_reducible rfl)
              simp only [Act.put, List.getElem_toArray, List.getElem_cons_succ, List.getElem_cons_zero, List.setIfInBounds_toArray, List.set_cons_zero, List.set_cons_succ]
              refine wpAnyH_take (i := 17) (v := .int .i64 to) rfl (by kernel_rfl) (by kernel_rfl) (by kernel_rfl) (fun _ _ _ h => h) (Or.inl ⟨by rfl, ?_⟩) (by first | assumption | exact trivial) ?_
              · intro W hSW; go_simp; try (with_reducible rfl)
              simp only [Act.put, List.getElem_toArray, List.getElem_cons_succ, List.getElem_cons_zero, List.setIfInBounds_toArray, List.set_cons_zero, List.set_cons_succ]
              refine wpAnyH_take (i := 18) (v := .int .i64 to) rfl (by kernel_rfl) (by kernel_rfl) (by kernel_rfl) (fun _ _ _ h => h) (Or.inl ⟨by rfl, ?_⟩) (by first | assumption | exact trivial) ?_
              · intro W hSW; go_simp; try (with_reducible rfl)
              simp only [Act.put, List.getElem_toArray, List.getElem_cons_succ, List.getElem_cons_zero, List.setIfInBounds_toArray, List.set_cons_zero, List.set_cons_succ]
              refine wpAnyH_take (i := 19) (v := .bool false) rfl (by kernel_rfl) (by kernel_rfl) (by kernel_rfl) (fun _ _ _ h => h) (Or.inl ⟨by rfl, ?_⟩) (by first | assumption | exact trivial) ?_
              · intro W hSW; go_simp; try (with_reducible rfl)
              simp only [Act.put, List.getElem_toArray, List.getElem_cons_succ, List.getElem_cons_zero, List.setIfInBounds_toArray, List.set_cons_zero, List.set_cons_succ]
              refine wpAnyH_take (i := 20) (v := .bool false) rfl (by kernel_rfl) (by kernel_rfl) (by kernel_rfl) (fun _ _ _ h => h) (Or.inl ⟨by rfl, ?_⟩) (by first | assumption | exact trivial) ?_
              · intro W hSW; go_simp; try (with_reducible rfl)
              simp only [Act.put, List.getElem_toArray, List.getElem_cons_succ, List.getElem_cons_zero, List.setIfInBounds_toArray, List.set_cons_zero, List.set_cons_succ]
              refine wpAnyH_take (i := 21) (v := .bool false) rfl (by kernel_rfl) (by kernel_rfl) (by kernel_rfl) (fun _ _ _ h => h) (Or.inl ⟨by rfl, ?_⟩) (by first | assumption | exact trivial) ?_
              · intro W hSW; go_simp; try (with_reducible rfl)
              simp only [Act.put, List.getElem_toArray, List.getElem_cons_succ, List.getElem_cons_zero, List.setIfInBounds_toArray, List.set_cons_zero, List.set_cons_succ]
              refine wpAnyH_take (i := 22) (v := undef) rfl (by kernel_rfl) (by kernel_rfl) (by kernel_rfl) (fun _ _ _ h => h) (Or.inr ⟨by rfl, rfl⟩) (by first | assumption | exact trivial) ?restz12
              simp only [Act.put, List.getElem_toArray, List.getElem_cons_succ, List.getElem_cons_zero, List.setIfInBounds_toArray, List.set_cons_zero, List.set_cons_succ]
              refine wpAnyH_take (i := 23) (v := undef) rfl (by kernel_rfl) (by kernel_rfl) (by kernel_rfl) (fun _ _ _ h => h) (Or.inr ⟨by rfl, rfl⟩) (by first | assumption | exact trivial) ?restz13
              simp only [Act.put, List.getElem_toArray, List.getElem_cons_succ, List.getElem_cons_zero, List.setIfInBounds_toArray, List.set_cons_zero, List.set_cons_succ]
              refine wpAnyH_take (i := 24) (v := undef) rfl (by kernel_rfl) (by kernel_rfl) (by kernel_rfl) (fun _ _ _ h => h) (Or.inr ⟨by rfl, rfl⟩) (by first | assumption | exact trivial) ?restz14
              simp only [Act.put, List.getElem_toArray, List.getElem_cons_succ, List.getElem_cons_zero, List.setIfInBounds_toArray, List.set_cons_zero, List.set_cons_succ]
              refine wpAnyH_take (i := 25) (v := undef) rfl (by kernel_rfl) (by kernel_rfl) (by kernel_rfl) (fun _ _ _ h => h) (Or.inr ⟨by rfl, rfl⟩) (by first | assumption | exact trivial) ?restz15
              simp only [Act.put, List.getElem_toArray, List.getElem_cons_succ, List.getElem_cons_zero, List.setIfInBounds_toArray, List.set_cons_zero, List.set_cons_succ]
              refine wpAnyH_take (i := 26) (v := undef) rfl (by kernel_rfl) (by kernel_rfl) (by kernel_rfl) (fun _ _ _ h => h) (Or.inr ⟨by rfl, rfl⟩) (by first | assumption | exact trivial) ?restz16
              simp only [Act.put, List.getElem_toArray, List.getElem_cons_succ, List.getElem_cons_zero, List.setIfInBounds_toArray, List.set_cons_zero, List.set_cons_succ]
              refine wpAnyH_take (i := 27) (v := undef) rfl (by kernel_rfl) (by kernel_rfl) (by kernel_rfl) (fun _ _ _ h => h) (Or.inr ⟨by rfl, rfl⟩) (by first | assumption | exact trivial) ?restz17
              simp only [Act.put, List.getElem_toArray, List.getElem_cons_succ, List.getElem_cons_zero, List.setIfInBounds_toArray, List.set_cons_zero, List.set_cons_succ]
              refine wpAnyH_take (i := 28) (v := undef) rfl (by kernel_rfl) (by kernel_rfl) (by kernel_rfl) (fun _ _ _ h => h) (Or.inr ⟨by rfl, rfl⟩) (by first | assumption | exact trivial) ?restz18
              simp only [Act.put, List.getElem_toArray, List.getElem_cons_succ, List.getElem_cons_zero, List.setIfInBounds_toArray, List.set_cons_zero, List.set_cons_succ]
              refine wpAnyH_take (i := 29) (v := undef) rfl (by kernel_rfl) (by kernel_rfl) (by kernel_rfl) (fun _ _ _ h => h) (Or.inr ⟨by rfl, rfl⟩) (by first | assumption | exact trivial) ?restz19
              simp only [Act.put, List.getElem_toArray, List.getElem_cons_succ, List.getElem_cons_zero, List.setIfInBounds_toArray, List.set_cons_zero, List.set_cons_succ]
              refine wpAnyH_take (i := 30) (v := .bool false) rfl (by kernel_rfl) (by kernel_rfl) (by kernel_rfl) (fun _ _ _ h => h) (Or.inl ⟨by rfl, ?_⟩) (by first | assumption | exact trivial) ?_
              · intro W hSW; go_simp; try (with_reducible rfl)
              simp only [Act.put, List.getElem_toArray, List.getElem_cons_succ, List.getElem_cons_zero, List.setIfInBounds_toArray, List.set_cons_zero, List.set_cons_succ]
              refine wpAnyH_take (i := 31) (v := .bool false) rfl (by kernel_rfl) (by kernel_rfl) (by kernel_rfl) (fun _ _ _ h => h) (Or.inl ⟨by rfl, ?_⟩) (by first | assumption | exact trivial) ?_
              · intro W hSW; go_simp; try (with_reducible rfl)
              simp only [Act.put, List.getElem_toArray, List.getElem_cons_succ, List.getElem_cons_zero, List.setIfInBounds_toArray, List.set_cons_zero, List.set_cons_succ]
              refine wpAnyH_done (by kernel_rfl) ?_ _
              go_wp2
              go_roundw
              case rel => exact ⟨i + 1, by omega, by go_num, hHeld.1, hHeld.2⟩
              case measure => simp [intOf]; omega
            · have hvc : vecF t to i = waysC t i := by unfold vecF; rw [if_neg hto]
              have HC := Lib.hid (fun (W : World) (hW : Below w3.heap.size w3 W) => hcs ▸ HCO.out W hW (i : Int))
              obtain ⟨cst, hcst⟩ : ∃ cst, waysC t i = cst := ⟨_, rfl⟩
              rw [hcst] at hvc HC
              obtain ⟨hop, hhop⟩ : ∃ hop, waysH t i = hop := ⟨_, rfl⟩
              rw [hhop] at HN hto
              have gt1 : (hop == to) = false := beq_eq_false_iff_ne.mpr hto
              have HTN := Lib.hid hto
              clear hcst hnx hh hcs hND hhop hto
              go_wp2_with (go_at_call 16; with_reducible refine HN.out.mono ?_; rintro e w5 ⟨rfl, hb5⟩)
              have har5 : Ar w5 g4 (vecF t to) := har.out.below hb5.out har.out.lt
              have hb45 : Below w3.heap.size w3 w5 := go_on hbb.out hb5.out
              refine wp_region_held_drew (S := fun W => Ar W g4 (vecF t to) ∧ Below w3.heap.size w3 W) (by kernel_rfl) ⟨har5, hb45.drew⟩ (fun hHeld => ?_)
              refine wpAnyH_take (i := 0) (v := .bool true) rfl (by kernel_rfl) (by kernel_rfl) (by kernel_rfl) (fun _ _ _ h => h) (Or.inl ⟨by rfl, ?_⟩) (by first | assumption | exact trivial) ?_
              · intro W hSW; go_simp; try (with_reducible rfl)
              simp only [Act.put, List.getElem_toArray, List.getElem_cons_succ, List.getElem_cons_zero, List.setIfInBounds_toArray, List.set_cons_zero, List.set_cons_succ]
              refine wpAnyH_take (i := 1) (v := .bool true) rfl (by kernel_rfl) (by kernel_rfl) (by kernel_rfl) (fun _ _ _ h => h) (Or.inl ⟨by rfl, ?_⟩) (by first | assumption | exact trivial) ?_
              · intro W hSW; go_simp; try (with_reducible rfl)
              simp only [Act.put, List.getElem_toArray, List.getElem_cons_succ, List.getElem_cons_zero, List.setIfInBounds_toArray, List.set_cons_zero, List.set_cons_succ]
              refine wpAnyH_take (i := 2) (v := .int .i64 hop) rfl (by kernel_rfl) (by kernel_rfl) (by kernel_rfl) (fun _ _ _ h => h) (Or.inl ⟨by rfl, ?_⟩) (by first | assumption | exact trivial) ?_
              · intro W hSW; go_simp; try (with_reducible rfl)
              simp only [Act.put, List.getElem_toArray, List.getElem_cons_succ, List.getElem_cons_zero, List.setIfInBounds_toArray, List.set_cons_zero, List.set_cons_succ]
              refine wpAnyH_take (i := 3) (v := .int .i64 to) rfl (by kernel_rfl) (by kernel_rfl) (by kernel_rfl) (fun _ _ _ h => h) (Or.inl ⟨by rfl, ?_⟩) (by first | assumption | exact trivial) ?_
              · intro W hSW; go_simp; try (with_reducible rfl)
              simp only [Act.put, List.getElem_toArray, List.getElem_cons_succ, List.getElem_cons_zero, List.setIfInBounds_toArray, List.set_cons_zero, List.set_cons_succ]
              refine wpAnyH_take (i := 4) (v := .bool false) rfl (by kernel_rfl) (by kernel_rfl) (by kernel_rfl) (fun _ _ _ h => h) (Or.inl ⟨by rfl, ?_⟩) (by first | assumption | exact trivial) ?_
              · intro W hSW; go_simp; try (with_reducible rfl)
              simp only [Act.put, List.getElem_toArray, List.getElem_cons_succ, List.getElem_cons_zero, List.setIfInBounds_toArray, List.set_cons_zero, List.set_cons_succ]
              refine wpAnyH_take (i := 5) (v := .bool false) rfl (by kernel_rfl) (by kernel_rfl) (by kernel_rfl) (fun _ _ _ h => h) (Or.inl ⟨by rfl, ?_⟩) (by first | assumption | exact trivial) ?_
              · intro W hSW; go_simp; try (with_reducible rfl)
              simp only [Act.put, List.getElem_toArray, List.getElem_cons_succ, List.getElem_cons_zero, List.setIfInBounds_toArray, List.set_cons_zero, List.set_cons_succ]
              refine wpAnyH_take (i := 6) (v := .bool false) rfl (by kernel_rfl) (by kernel_rfl) (by kernel_rfl) (fun _ _ _ h => h) (Or.inl ⟨by rfl, ?_⟩) (by first | assumption | exact trivial) ?_
              · intro W hSW; go_simp; try (with_reducible rfl)
              simp only [Act.put, List.getElem_toArray, List.getElem_cons_succ, List.getElem_cons_zero, List.setIfInBounds_toArray, List.set_cons_zero, List.set_cons_succ]
              refine wpAnyH_take (i := 7) (v := undef) rfl (by kernel_rfl) (by kernel_rfl) (by kernel_rfl) (fun _ _ _ h => h) (Or.inr ⟨by rfl, rfl⟩) (by first | assumption | exact trivial) ?restz20
              simp only [Act.put, List.getElem_toArray, List.getElem_cons_succ, List.getElem_cons_zero, List.setIfInBounds_toArray, List.set_cons_zero, List.set_cons_succ]
              refine wpAnyH_take (i := 8) (v := undef) rfl (by kernel_rfl) (by kernel_rfl) (by kernel_rfl) (fun _ _ _ h => h) (Or.inr ⟨by rfl, rfl⟩) (by first | assumption | exact trivial) ?restz21
              simp only [Act.put, List.getElem_toArray, List.getElem_cons_succ, List.getElem_cons_zero, List.setIfInBounds_toArray, List.set_cons_zero, List.set_cons_succ]
              refine wpAnyH_take (i := 9) (v := undef) rfl (by kernel_rfl) (by kernel_rfl) (by kernel_rfl) (fun _ _ _ h => h) (Or.inr ⟨by rfl, rfl⟩) (by first | assumption | exact trivial) ?restz22
              simp only [Act.put, List.getElem_toArray, List.getElem_cons_succ, List.getElem_cons_zero, List.setIfInBounds_toArray, List.set_cons_zero, List.set_cons_succ]
              refine wpAnyH_take (i := 10) (v := undef) rfl (by kernel_rfl) (by kernel_rfl) (by kernel_rfl) (fun _ _ _ h => h) (Or.inr ⟨by rfl, rfl⟩) (by first | assumption | exact trivial) ?restz23
              simp only [Act.put, List.getElem_toArray, List.getElem_cons_succ, List.getElem_cons_zero, List.setIfInBounds_toArray, List.set_cons_zero, List.set_cons_succ]
              refine wpAnyH_take (i := 11) (v := undef) rfl (by kernel_rfl) (by kernel_rfl) (by kernel_rfl) (fun _ _ _ h => h) (Or.inr ⟨by rfl, rfl⟩) (by first | assumption | exact trivial) ?restz24
              simp only [Act.put, List.getElem_toArray, List.getElem_cons_succ, List.getElem_cons_zero, List.setIfInBounds_toArray, List.set_cons_zero, List.set_cons_succ]
              refine wpAnyH_take (i := 12) (v := .bool false) rfl (by kernel_rfl) (by kernel_rfl) (by kernel_rfl) (fun _ _ _ h => h) (Or.inl ⟨by rfl, ?_⟩) (by first | assumption | exact trivial) ?_
              · intro W hSW; go_simp; try (with_reducible rfl)
              simp only [Act.put, List.getElem_toArray, List.getElem_cons_succ, List.getElem_cons_zero, List.setIfInBounds_toArray, List.set_cons_zero, List.set_cons_succ]
              refine wpAnyH_take (i := 13) (v := .bool false) rfl (by kernel_rfl) (by kernel_rfl) (by kernel_rfl) (fun _ _ _ h => h) (Or.inl ⟨by rfl, ?_⟩) (by first | assumption | exact trivial) ?_
              · intro W hSW; go_simp; try (with_reducible rfl)
              simp only [Act.put, List.getElem_toArray, List.getElem_cons_succ, List.getElem_cons_zero, List.setIfInBounds_toArray, List.set_cons_zero, List.set_cons_succ]
              refine wpAnyH_take (i := 14) (v := .bool true) rfl (by kernel_rfl) (by kernel_rfl) (by kernel_rfl) (fun _ _ _ h => h) (Or.inl ⟨by rfl, ?_⟩) (by first | assumption | exact trivial) ?_
              · intro W hSW; go_simp; try (with_reducible rfl)
              simp only [Act.put, List.getElem_toArray, List.getElem_cons_succ, List.getElem_cons_zero, List.setIfInBounds_toArray, List.set_cons_zero, List.set_cons_succ]
              refine wpAnyH_take (i := 15) (v := .bool false) rfl (by kernel_rfl) (by kernel_rfl) (by kernel_rfl) (fun _ _ _ h => h) (Or.inl ⟨by rfl, ?_⟩) (by first | assumption | exact trivial) ?_
              · intro W hSW; go_simp; try (with_reducible rfl)
              simp only [Act.put, List.getElem_toArray, List.getElem_cons_succ, List.getElem_cons_zero, List.setIfInBounds_toArray, List.set_cons_zero, List.set_cons_succ]
              refine wpAnyH_take (i := 16) (v := .bool false) rfl (by kernel_rfl) (by kernel_rfl) (by kernel_rfl) (fun _ _ _ h => h) (Or.inl ⟨by rfl, ?_⟩) (by first | assumption | exact trivial) ?_
              · intro W hSW; go_simp; try (with_reducible rfl)
              simp only [Act.put, List.getElem_toArray, List.getElem_cons_succ, List.getElem_cons_zero, List.setIfInBounds_toArray, List.set_cons_zero, List.set_cons_succ]
              refine wpAnyH_take (i := 17) (v := .int .i64 hop) rfl (by kernel_rfl) (by kernel_rfl) (by kernel_rfl) (fun _ _ _ h => h) (Or.inl ⟨by rfl, ?_⟩) (by first | assumption | exact trivial) ?_
              · intro W hSW; go_simp; try (with_reducible rfl)
              simp only [Act.put, List.getElem_toArray, List.getElem_cons_succ, List.getElem_cons_zero, List.setIfInBounds_toArray, List.set_cons_zero, List.set_cons_succ]
              refine wpAnyH_take (i := 18) (v := .int .i64 to) rfl (by kernel_rfl) (by kernel_rfl) (by kernel_rfl) (fun _ _ _ h => h) (Or.inl ⟨by rfl, ?_⟩) (by first | assumption | exact trivial) ?_
              · intro W hSW; go_simp; try (with_reducible rfl)
              simp only [Act.put, List.getElem_toArray, List.getElem_cons_succ, List.getElem_cons_zero, List.setIfInBounds_toArray, List.set_cons_zero, List.set_cons_succ]
              refine wpAnyH_take (i := 19) (v := .bool true) rfl (by kernel_rfl) (by kernel_rfl) (by kernel_rfl) (fun _ _ _ h => h) (Or.inl ⟨by rfl, ?_⟩) (by first | assumption | exact trivial) ?_
              · intro W hSW; go_simp; exact HTN.out
              simp only [Act.put, List.getElem_toArray, List.getElem_cons_succ, List.getElem_cons_zero, List.setIfInBounds_toArray, List.set_cons_zero, List.set_cons_succ]
              refine wpAnyH_take (i := 20) (v := .bool true) rfl (by kernel_rfl) (by kernel_rfl) (by kernel_rfl) (fun _ _ _ h => h) (Or.inl ⟨by rfl, ?_⟩) (by first | assumption | exact trivial) ?_
              · intro W hSW; go_simp; try (with_reducible rfl)
              simp only [Act.put, List.getElem_toArray, List.getElem_cons_succ, List.getElem_cons_zero, List.setIfInBounds_toArray, List.set_cons_zero, List.set_cons_succ]
              refine wpAnyH_take (i := 21) (v := .bool true) rfl (by kernel_rfl) (by kernel_rfl) (by kernel_rfl) (fun _ _ _ h => h) (Or.inl ⟨by rfl, ?_⟩) (by first | assumption | exact trivial) ?_
              · intro W hSW; go_simp; try (with_reducible rfl)
              simp only [Act.put, List.getElem_toArray, List.getElem_cons_succ, List.getElem_cons_zero, List.setIfInBounds_toArray, List.set_cons_zero, List.set_cons_succ]
              refine wpAnyH_take (i := 22) (v := .slice (some ⟨g4, 0, none⟩) 64 64) rfl (by kernel_rfl) (by kernel_rfl) (by kernel_rfl) (fun _ _ _ h => h) (Or.inl ⟨by rfl, ?_⟩) (by first | assumption | exact trivial) ?_
              · intro W hSW; go_simp; try (with_reducible rfl)
              simp only [Act.put, List.getElem_toArray, List.getElem_cons_succ, List.getElem_cons_zero, List.setIfInBounds_toArray, List.set_cons_zero, List.set_cons_succ]
              refine wpAnyH_take (i := 23) (v := .int .i64 (i : Int)) rfl (by kernel_rfl) (by kernel_rfl) (by kernel_rfl) (fun _ _ _ h => h) (Or.inl ⟨by rfl, ?_⟩) (by first | assumption | exact trivial) ?_
              · intro W hSW; go_simp; try (with_reducible rfl)
              simp only [Act.put, List.getElem_toArray, List.getElem_cons_succ, List.getElem_cons_zero, List.setIfInBounds_toArray, List.set_cons_zero, List.set_cons_succ]
              refine wpAnyH_take (i := 24) (v := .pointer (some ⟨g4, i, none⟩)) rfl (by kernel_rfl) (by kernel_rfl) (by kernel_rfl) (fun _ _ _ h => h) (Or.inl ⟨by rfl, ?_⟩) (by first | assumption | exact trivial) ?_
              · intro W hSW; have q6 := hi64; go_simp; try (with_reducible rfl)
              simp only [Act.put, List.getElem_toArray, List.getElem_cons_succ, List.getElem_cons_zero, List.setIfInBounds_toArray, List.set_cons_zero, List.set_cons_succ]
              refine wpAnyH_take (i := 25) (v := .int .i64 cst) rfl (by kernel_rfl) (by kernel_rfl) (by kernel_rfl) (fun _ _ _ h => h) (Or.inl ⟨by rfl, ?_⟩) (by first | assumption | exact trivial) ?_
              · intro W hSW; have q7 := hSW.1.cell hlt; rw [hvc] at q7; go_simp; try (with_reducible rfl)
              simp only [Act.put, List.getElem_toArray, List.getElem_cons_succ, List.getElem_cons_zero, List.setIfInBounds_toArray, List.set_cons_zero, List.set_cons_succ]
              refine wpAnyH_take (i := 26) (v := .pointer (some ⟨D, 0, none⟩)) rfl (by kernel_rfl) (by kernel_rfl) (by kernel_rfl) (fun _ _ _ h => h) (Or.inl ⟨by rfl, ?_⟩) (by first | assumption | exact trivial) ?_
              · intro W hSW; go_simp; try (with_reducible rfl)
              simp only [Act.put, List.getElem_toArray, List.getElem_cons_succ, List.getElem_cons_zero, List.setIfInBounds_toArray, List.set_cons_zero, List.set_cons_succ]
              refine wpAnyH_take (i := 27) (v := .int .i64 (i : Int)) rfl (by kernel_rfl) (by kernel_rfl) (by kernel_rfl) (fun _ _ _ h => h) (Or.inl ⟨by rfl, ?_⟩) (by first | assumption | exact trivial) ?_
              · intro W hSW; go_simp; try (with_reducible rfl)
              simp only [Act.put, List.getElem_toArray, List.getElem_cons_succ, List.getElem_cons_zero, List.setIfInBounds_toArray, List.set_cons_zero, List.set_cons_succ]
              refine wpAnyH_ready (rs := [28]) (by kernel_rfl) (by simp) ?_
              refine AllReadyH.cons rfl (fun K hK => ?_) AllReadyH.nil
              go_simp
              go_wp2_with (go_at_call 18; with_reducible refine (HC.out _ hb45.drew).mono ?_; rintro e w6 ⟨rfl, hb6⟩)
              have har6 : Ar w6 g4 (vecF t to) := har5.same (hb6.out.block g4 har5.lt)
              refine hK.out _ _ (⟨har6, go_on hb45.drew hb6.out⟩) (fun hHeld => ?_)
              clear hK K
              refine wpAnyH_take (i := 29) (v := .bool false) rfl (by kernel_rfl) (by kernel_rfl) (by kernel_rfl) (fun _ _ _ h => h) (Or.inl ⟨by rfl, ?_⟩) (by first | assumption | exact trivial) ?_
              · intro W hSW; go_simp; try (with_reducible rfl)
              simp only [Act.put, List.getElem_toArray, List.getElem_cons_succ, List.getElem_cons_zero, List.setIfInBounds_toArray, List.set_cons_zero, List.set_cons_succ]
              refine wpAnyH_take (i := 30) (v := .bool false) rfl (by kernel_rfl) (by kernel_rfl) (by kernel_rfl) (fun _ _ _ h => h) (Or.inl ⟨by rfl, ?_⟩) (by first | assumption | exact trivial) ?_
              · intro W hSW; go_simp; try (with_reducible rfl)
              simp only [Act.put, List.getElem_toArray, List.getElem_cons_succ, List.getElem_cons_zero, List.setIfInBounds_toArray, List.set_cons_zero, List.set_cons_succ]
              refine wpAnyH_take (i := 31) (v := .bool false) rfl (by kernel_rfl) (by kernel_rfl) (by kernel_rfl) (fun _ _ _ h => h) (Or.inl ⟨by rfl, ?_⟩) (by first | assumption | exact trivial) ?_
              · intro W hSW; go_simp; try (with_reducible rfl)
              simp only [Act.put, List.getElem_toArray, List.getElem_cons_succ, List.getElem_cons_zero, List.setIfInBounds_toArray, List.set_cons_zero, List.set_cons_succ]
              refine wpAnyH_done (by kernel_rfl) ?_ _
              go_wp2
              go_roundw
              case rel => exact ⟨i + 1, by omega, by go_num, har6, go_on hb45.drew hb6.out⟩
              case measure => simp [intOf]; omega
        · obtain rfl : i = 64 := by omega
          have hv0 : vecF t to s = 0 := by unfold vecF; rw [← HTS.out, wH_self, if_neg (by have := HTO.out; omega), wC_self]
          have hsc := HSB.out wr hbb.out
          have hs64 : s < 64 := by rw [← HTS.out]; exact HT3.out.ok.self
          have hc0 := har.out.cell hs64
          rw [hv0] at hc0
          clear hv0
          go_wp2_with (go_at_call 11; with_reducible refine (HK.out wr).mono ?_; rintro e w7 ⟨rfl, hb7⟩)
          go_ret
          exact ⟨rfl, go_on (go_on HBW3.out hbb.out) hb7.out⟩
  · have HD := Lib.hid (done_bad ss sg sR sn sc sl A len cap w1 hs0 hE)
    have HBW : Hid (Below w.heap.size w w1) := hb0
    clear hs0 hl0 hE hb0
    go_enter Try.func6, Try.ntmps6
    go_wp2_with (first
      | (refine Mi.allocTo rfl (.pointer (some ⟨_, 0, none⟩)) (.cells (stV ss sR sn sc sg) 24 (0, 0)) (exec_boxs _ _ ss sg sR sn sc (.tmp 0) rfl rfl _) ?_; rw [HW1.out])
      | (refine wpList_load_row rfl 24 (.tmp 3) rfl w.heap.size rfl 24 _ (0, 0) _ HB0.out Try.underlying24 rfl (st_size _ _ _ _ _) ?_)
      | (go_at_call 20; refine HD.out.mono ?_; rintro e w2 ⟨rfl, hb2⟩; have HZ2 : Hid (Bq (w2.alloc (.cells (rqV q0 p0) 33)) w2.heap.size q0 p0) := box_rq q0 p0 w2)
      | (refine Mi.allocTo rfl (.pointer (some ⟨_, 0, none⟩)) (.cells (rqV q0 p0) 33 (0, 0)) (alloc_rq _ _ rfl _) ?_)
      | (refine wpList_store_row rfl 33 (.tmp 8) (.tmp 19) rfl w2.heap.size (rqV q0 p0) rfl rfl 33 _ HZ2.out (rq_size _ _) rfl (rq_one _ _) ?_
         have hb3 : Below w2.heap.size w2 ((w2.alloc (.cells (rqV q0 p0) 33)).setRow w2.heap.size (rqV q0 p0)) := Sb.below_setRow _ (Mi.below_alloc (Below.refl _ _)) (Nat.le_refl _)
         have HBW3 : Hid (Below w.heap.size w ((w2.alloc (.cells (rqV q0 p0) 33)).setRow w2.heap.size (rqV q0 p0))) := go_on (go_on HBW.out hb2.out) hb3
         obtain ⟨w3, hw3⟩ : ∃ w3, (w2.alloc (.cells (rqV q0 p0) 33)).setRow w2.heap.size (rqV q0 p0) = w3 := ⟨_, rfl⟩
         rw [hw3] at HBW3 ⊢
         clear hw3 hb3 hb2 HZ2)
      | (go_at_call 11; with_reducible refine (HK.out w3).mono ?_; rintro e w4 ⟨rfl, hb4⟩))
    go_ret
    exact ⟨rfl, go_on HBW3.out hb4.out⟩
end Go.Proofs.Ytablejhajilpiaa.Rt
