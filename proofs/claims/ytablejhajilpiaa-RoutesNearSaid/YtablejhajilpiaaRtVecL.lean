/- RoutesVectors: what is said to any neighbour, in new memory. -/
import Derived.Test.YtablejhajilpiaaRtDoneOk
import Derived.Test.YtablejhajilpiaaWList
namespace Go.Proofs.Ytablejhajilpiaa.Rt
open Go.RowKit Go.Maps
open Go.Proofs.Ytablejhajilpiaa.Sb
set_option linter.unusedVariables false
set_option linter.unusedSimpArgs false

theorem st_size (s g : Int) (R : Option Addr) (n c : Nat) : (Try.prog.info? 24).map (·.size) = some (stV s R n c g).size := by
  show _ = some 3
  kernel_rfl
theorem newE_nat {self age : Int} {l : List Int} (h : newE self l age = 0) : ∃ s g : Nat, self = (s : Int) ∧ age = (g : Int) := by
  unfold newE at h
  split at h
  · cases h
  · rename_i hc
    have h1 : isN self = true := by
      cases hi : isN self
      · exact absurd (.inl hi) hc
      · rfl
    have h2 : ¬ age < 1 := fun e => hc (.inr (.inl e))
    obtain ⟨n, rfl, _⟩ := isN_of h1
    exact ⟨n, age.toNat, rfl, by omega⟩
/-- What is said to any node: to one that is no neighbour, nothing. -/
def vecL (t : Tb) (to : Int) : List Int := if t.nbs.contains to = true then listOf (vecF t to) else []
theorem vecL_len (t : Tb) (to : Int) : (vecL t to).length = 64 ∨ (vecL t to).length = 0 := by
  unfold vecL
  split
  · exact .inl (list_len _)
  · exact .inr rfl
structure Vo (lo : Nat) (W : World) (A : Option Addr) (n : Nat) : Prop where
  own : ∀ j, j < n → ∃ g f, A = some ⟨g, 0, none⟩ ∧ n = 64 ∧ lo ≤ g ∧ Ar W g f
theorem Vo.below {lo : Nat} {W W' : World} {A : Option Addr} {n : Nat} (h : Vo lo W A n) (hb : Below W.heap.size W W') : Vo lo W' A n := ⟨fun j hj => by
  obtain ⟨g, f, e, h1, h2, h3⟩ := h.own j hj
  exact ⟨g, f, e, h1, h2, h3.below hb h3.lt⟩⟩
theorem Vector_all {s : Nat} {w : World} {D mb : Nat} {v : Value} {t : Tb} (h : Tn s w D mb v t) (to : Int) : Calls Try.prog 21 #[.pointer (some ⟨D, 0, none⟩), .int .i64 to] w fun e w' => ∃ A n c, e = .returned (.slice A n c) ∧ Hid (n = (vecL t to).length) ∧ Hid (Vo w.heap.size w' A n) ∧ Hid (Mi.Rd w' w'.heap.size A (vecL t to)) ∧ Hid (Below w.heap.size w w') := by
  cases hc : t.nbs.contains to with
  | false =>
    refine (Vector_no w D mb v t h.tq to h.nl hc).mono ?_
    rintro e w' ⟨rfl, rfl⟩
    have e1 : vecL t to = [] := by unfold vecL; rw [hc]; rfl
    refine ⟨none, 0, 0, rfl, by rw [e1]; rfl, ⟨fun j hj => by omega⟩, by rw [e1]; exact Mi.Rd.nil _ _ _, Below.refl _ _⟩
  | true =>
    refine (Vector_any w D mb v t h.tq h.ok to h.nl hc).mono ?_
    rintro e w' ⟨g, rfl, hg, ha, hb⟩
    have e1 : vecL t to = listOf (vecF t to) := by unfold vecL; rw [hc]; rfl
    refine ⟨_, 64, 64, rfl, Lib.hid (by rw [e1, list_len]), ⟨fun j _ => ⟨g, _, rfl, rfl, hg, ha.out⟩⟩, by rw [e1]; exact ha.out.rd, hb⟩
theorem RVector_all {M : Nat → Prop} {w : World} {t : Tb} {q : RQ} {p : Pl} (ok : t.Ok) (hr : Rel t q) (h : Asked M w q p) (to : Int) : Calls Try.prog 22 #[.agg (rqV q p), .int .i64 to] w fun e w' => ∃ A n c, e = .returned (.slice A n c) ∧ Hid (n = (vecL t to).length) ∧ Hid (Mi.Rd w' w'.heap.size A (vecL t to)) ∧ Hid (Below w.heap.size w w') := by
  cases hc : t.nbs.contains to with
  | false =>
    refine (RVector_no q p to w h (by rw [hr.nbs]; exact hc)).mono ?_
    rintro e w' ⟨rfl, hb⟩
    have e1 : vecL t to = [] := by unfold vecL; rw [hc]; rfl
    exact ⟨none, 0, 0, rfl, by rw [e1]; rfl, by rw [e1]; exact Mi.Rd.nil _ _ _, hb⟩
  | true =>
    refine (RVector_any q p to w h (by rw [hr.nbs]; exact hc)).mono ?_
    rintro e w' ⟨v, rfl, ho, hb⟩
    have e1 : vecL t to = vecQ q to 64 := by unfold vecL; rw [hc, hr.vec ok to hc]; rfl
    obtain ⟨A, c, rfl, _, _, h3, _, _⟩ := Mi.Own.form ho.out
    exact ⟨A, _, c, rfl, Lib.hid (by rw [e1]), by rw [e1]; exact h3, hb⟩
set_option maxRecDepth 100000 in
set_option maxHeartbeats 4000000 in
theorem routesVectors (ss sg : Int) (sR : Option Addr) (sn sc : Nat) (sl : List Int) (A : Option Addr) (len cap : Nat) (ls : List Ac) (to : Int) (w : World) (hs : Mi.BySlice w sR sn sc sl ∧ sc * 8 ≤ 140737488351232) (hl : len = ls.length ∧ len ≤ cap ∧ cap ≤ 9223372036854775807 ∧ Acts w A ls) (hto : (Lit.int .i64 to).wf = true) :
    Calls Try.prog 4 #[.agg #[.int .i64 ss, .slice sR sn sc, .int .i64 sg], .slice A len cap, .int .i64 to] w fun e w' => e = .returned (.bool true) ∧ Below w.heap.size w w' := by
  clear hto
  show Calls Try.prog _ #[.agg (stV ss sR sn sc sg), .slice A len cap, .int .i64 to] w _
  have HB0 : Hid ((w.alloc (.cells (stV ss sR sn sc sg) 24)).heap[w.heap.size]? = some (.cells (stV ss sR sn sc sg) 24 (0, 0))) := heap_alloc_new w _
  have hb0 : Below w.heap.size w (w.alloc (.cells (stV ss sR sn sc sg) 24)) := Mi.below_alloc (Below.refl _ _)
  have hs0 : Mi.BySlice (w.alloc (.cells (stV ss sR sn sc sg) 24)) sR sn sc sl ∧ sc * 8 ≤ 140737488351232 := by
    obtain ⟨⟨a1, a2, a3, a4, a5⟩, a6⟩ := hs
    exact ⟨⟨a1, a2, a3, (a4.below hb0).more hb0.size, a5⟩, a6⟩
  have hl0 : len = ls.length ∧ len ≤ cap ∧ cap ≤ 9223372036854775807 ∧ Acts (w.alloc (.cells (stV ss sR sn sc sg) 24)) A ls := ⟨hl.1, hl.2.1, hl.2.2.1, hl.2.2.2.below hb0⟩
  clear hs hl
  obtain ⟨w1, hw1⟩ : ∃ w1, w.alloc (.cells (stV ss sR sn sc sg) 24) = w1 := ⟨_, rfl⟩
  have HW1 : Hid (w.alloc (.cells (stV ss sR sn sc sg) 24) = w1) := hw1
  rw [hw1] at HB0 hb0 hs0 hl0
  clear hw1
  have HK := Lib.hid awake_any
  by_cases hE : newE ss sl sg = 0
  · obtain ⟨s, g, rfl, rfl⟩ := newE_nat hE
    have HD := Lib.hid (done_ok s g sR sn sc sl A len cap ls w1 hs0 hE hl0)
    have HBW : Hid (Below w.heap.size w w1) := hb0
    clear hs0 hl0 hE hb0
    go_enter Try.func4, Try.ntmps4
    go_wp2_with (first
      | (refine Mi.allocTo rfl (.pointer (some ⟨_, 0, none⟩)) (.cells (stV (s : Int) sR sn sc (g : Int)) 24 (0, 0)) (exec_boxs _ _ (s : Int) (g : Int) sR sn sc (.tmp 0) rfl rfl _) ?_; rw [HW1.out])
      | (refine wpList_load_row rfl 24 (.tmp 3) rfl w.heap.size rfl 24 _ (0, 0) _ HB0.out Try.underlying24 rfl (st_size _ _ _ _ _) ?_)
      | (go_at_call 20; refine HD.out.mono ?_; rintro e w2 ⟨D, mb, v, q, p, rfl, hb2, ht2, hr2⟩; have HZ2 : Hid (Bq (w2.alloc (.cells (rqV q0 p0) 33)) w2.heap.size q0 p0) := box_rq q0 p0 w2)
      | (refine Mi.allocTo rfl (.pointer (some ⟨_, 0, none⟩)) (.cells (rqV q0 p0) 33 (0, 0)) (alloc_rq _ _ rfl _) ?_)
      | (refine wpList_store_row rfl 33 (.tmp 8) (.tmp 17) rfl w2.heap.size (rqV q p) rfl rfl 33 _ HZ2.out (rq_size _ _) rfl (rq_one _ _) ?_
         have HB3 : Hid (Bq ((w2.alloc (.cells (rqV q0 p0) 33)).setRow w2.heap.size (rqV q p)) w2.heap.size q p) := setRow_heap _ _ _ _ _ _ HZ2.out
         have hb3 : Below w2.heap.size w2 ((w2.alloc (.cells (rqV q0 p0) 33)).setRow w2.heap.size (rqV q p)) := Sb.below_setRow _ (Mi.below_alloc (Below.refl _ _)) (Nat.le_refl _)
         obtain ⟨t, ht⟩ : ∃ t, actsT (newT s g sl) (ls.take 40) = t := ⟨_, rfl⟩
         rw [ht] at ht2 hr2
         have HT3 := Lib.hid (ht2.out.below hb3)
         have HR3 := Lib.hid (hr2.out.rel)
         have HA3 := Lib.hid (((hr2.out.asked ht2.out.ok ht2.out.nl (by decide))).below hb3)
         have HBW3 : Hid (Below w.heap.size w ((w2.alloc (.cells (rqV q0 p0) 33)).setRow w2.heap.size (rqV q p))) := go_on (go_on HBW.out hb2.out) hb3
         obtain ⟨w3, hw3⟩ : ∃ w3, (w2.alloc (.cells (rqV q0 p0) 33)).setRow w2.heap.size (rqV q p) = w3 := ⟨_, rfl⟩
         obtain ⟨gb, hgb⟩ : ∃ gb, w2.heap.size = gb := ⟨_, rfl⟩
         rw [hw3] at HB3 HT3 HA3 HBW3 ⊢
         rw [hgb] at HB3 ⊢
         clear hw3 hgb ht hb3 ht2 hr2 HZ2 hb2
         have HV := Lib.hid (fun (W : World) (hW : Below w3.heap.size w3 W) => Vector_all (HT3.out.below hW) to)
         have HRV := Lib.hid (fun (W : World) (hW : Below w3.heap.size w3 W) => RVector_all HT3.out.ok HR3.out (HA3.out.below hW) to)
         have HLN := Lib.hid (vecL_len t to)
         obtain ⟨L, hL⟩ : ∃ L, vecL t to = L := ⟨_, rfl⟩
         rw [hL] at HV HRV HLN
         clear hL)
      | (go_at_call 21; with_reducible refine (HV.out w3 (Below.refl _ _)).mono ?_; rintro e w4 ⟨A4, n4, c4, rfl, hn4, vo4, rd4, hb4⟩)
      | (refine wpList_load_row rfl 33 (.tmp 8) rfl gb rfl 33 _ (0, 0) _ ((hb4.out.block gb HB3.out.lt).trans HB3.out) Try.underlying33 rfl (rq_size _ _) ?_)
      | (go_at_call 22; refine (HRV.out w4 hb4.out).mono ?_; rintro e w5 ⟨A5, n5, c5, rfl, hn5, rd5, hb5⟩; have HS := Lib.hid (Wn.Same_one A4 A5 n4 n5 c4 c5 L w5 ((rd4.out.below hb5.out).more hb5.out.size) rd5.out hn4.out hn5.out (by rcases HLN.out with e | e <;> omega)))
      | (go_at_call 13; with_reducible refine HS.out.mono ?_; rintro e w6 ⟨rfl, hb6⟩
         have HV6 := Lib.hid ((vo4.out.below hb5.out).below hb6.out)
         have HB6 := Lib.hid (go_on (go_on hb4.out hb5.out) hb6.out)
         have HN4 : Hid (n4 ≤ 64) := (by show n4 ≤ 64; have := hn4.out; rcases HLN.out with e | e <;> omega)
         have hlo : w3.heap.size ≤ w3.heap.size := Nat.le_refl _
         clear HS vo4 rd4 rd5 hb4 hb5 hb6))
    go_loopw [11] (fun k wr => ∃ i : Nat, i ≤ n4 ∧ k = .int .i64 i ∧ Hid (Vo w3.heap.size wr A4 n4) ∧ Hid (Below w3.heap.size w3 wr)) (fun k _ => n4 - (intOf k).toNat)
    case atStart => exact ⟨0, Nat.zero_le _, rfl, HV6, HB6⟩
    case round =>
      obtain ⟨i, hi, rfl, hvo, hbb⟩ := hrel
      have hn64 : n4 ≤ 64 := HN4.out
      by_cases hlt : i < n4
      · obtain ⟨g4, f4, rfl, hn, hg4, ha4⟩ := hvo.out.own i hlt
        obtain rfl := hn
        have c4 := ha4.cell (j := i) hlt
        have z4 := ha4.frozen i
        have HA4 := Lib.hid ha4
        clear ha4
        go_wp2
        have hlv : Hid (Vo w3.heap.size (wr.setCell ⟨g4, i, none⟩ (.int .i64 1)) (some ⟨g4, 0, none⟩) 64) := ⟨fun j _ => ⟨g4, _, rfl, rfl, hg4, HA4.out.set hlt 1⟩⟩
        have hlb : Hid (Below w3.heap.size w3 (wr.setCell ⟨g4, i, none⟩ (.int .i64 1))) := hbb.out.setCell (p := ⟨g4, i, none⟩) hg4 (.int .i64 1)
        go_roundw
        case rel => exact ⟨i + 1, by omega, by go_num, hlv, hlb⟩
        case measure => simp [intOf]; omega
      · obtain rfl : i = n4 := by omega
        have hbq : Bq wr gb q p := (hbb.out.block gb HB3.out.lt).trans HB3.out
        go_wp2
        refine wp_region_held_drew (S := fun W => Bq W gb q p) (by kernel_rfl) hbq (fun hHeld => ?_)
        refine wpAnyH_take (i := 0) (v := .pointer (some ⟨D, 0, none⟩)) rfl (by kernel_rfl) (by kernel_rfl) (by kernel_rfl) (fun _ _ _ h => h) (Or.inl ⟨by rfl, ?_⟩) (by first | assumption | exact trivial) ?_
        · intro W hSW; go_simp; try (with_reducible rfl)
        simp only [Act.put, List.getElem_toArray, List.getElem_cons_succ, List.getElem_cons_zero, List.setIfInBounds_toArray, List.set_cons_zero, List.set_cons_succ]
        refine wpAnyH_take (i := 1) (v := .int .i64 to) rfl (by kernel_rfl) (by kernel_rfl) (by kernel_rfl) (fun _ _ _ h => h) (Or.inl ⟨by rfl, ?_⟩) (by first | assumption | exact trivial) ?_
        · intro W hSW; go_simp; try (with_reducible rfl)
        simp only [Act.put, List.getElem_toArray, List.getElem_cons_succ, List.getElem_cons_zero, List.setIfInBounds_toArray, List.set_cons_zero, List.set_cons_succ]
        refine wpAnyH_take (i := 3) (v := .agg (rqV q p)) rfl (by kernel_rfl) (by kernel_rfl) (by kernel_rfl) (fun _ _ _ h => h) (yieldsIf_load_rq (by rfl) (.tmp 8) rfl gb rfl q p (fun W hW => hW)) (by first | assumption | exact trivial) ?_
        simp only [Act.put, List.getElem_toArray, List.getElem_cons_succ, List.getElem_cons_zero, List.setIfInBounds_toArray, List.set_cons_zero, List.set_cons_succ]
        refine wpAnyH_take (i := 4) (v := .int .i64 to) rfl (by kernel_rfl) (by kernel_rfl) (by kernel_rfl) (fun _ _ _ h => h) (Or.inl ⟨by rfl, ?_⟩) (by first | assumption | exact trivial) ?_
        · intro W hSW; go_simp; try (with_reducible rfl)
        simp only [Act.put, List.getElem_toArray, List.getElem_cons_succ, List.getElem_cons_zero, List.setIfInBounds_toArray, List.set_cons_zero, List.set_cons_succ]
        refine wpAnyH_ready (rs := [2]) (by kernel_rfl) (by simp) ?_
        refine AllReadyH.cons rfl (fun K hK => ?_) AllReadyH.nil
        go_simp
        go_wp2_with (go_at_call 21; with_reducible refine (HV.out wr.drew hbb.out.drew).mono ?_; rintro e w7 ⟨A7, n7, c7, rfl, hn7, vo7, rd7, hb7⟩)
        have hbq7 : Bq w7 gb q p := (hb7.out.block gb hbq.lt).trans hbq
        have hb37 : Below w3.heap.size w3 w7 := go_on hbb.out.drew hb7.out
        refine hK.out _ _ (hbq7) (fun hHeld => ?_)
        clear hK K
        refine wpAnyH_ready (rs := [5]) (by kernel_rfl) (by simp) ?_
        refine AllReadyH.cons rfl (fun K hK => ?_) AllReadyH.nil
        go_simp
        go_wp2_with (go_at_call 22; with_reducible refine (HRV.out w7 hb37).mono ?_; rintro e w8 ⟨A8, n8, c8, rfl, hn8, rd8, hb8⟩)
        have hbq8 : Bq w8 gb q p := (hb8.out.block gb hbq7.lt).trans hbq7
        have HS := Lib.hid (Wn.Same_one A7 A8 n7 n8 c7 c8 L w8 ((rd7.out.below hb8.out).more hb8.out.size) rd8.out hn7.out hn8.out (by rcases HLN.out with e | e <;> omega))
        refine hK.out _ _ (hbq8) (fun hHeld => ?_)
        clear hK K
        refine wpAnyH_ready (rs := [6]) (by kernel_rfl) (by simp) ?_
        refine AllReadyH.cons rfl (fun K hK => ?_) AllReadyH.nil
        go_simp
        go_wp2_with (go_at_call 13; with_reducible refine HS.out.mono ?_; rintro e w9 ⟨rfl, hb9⟩)
        have hbq9 : Bq w9 gb q p := (hb9.out.block gb hbq8.lt).trans hbq8
        refine hK.out _ _ (hbq9) (fun hHeld => ?_)
        clear hK K
        refine wpAnyH_take (i := 7) (v := .bool true) rfl (by kernel_rfl) (by kernel_rfl) (by kernel_rfl) (fun _ _ _ h => h) (Or.inl ⟨by rfl, ?_⟩) (by first | assumption | exact trivial) ?_
        · intro W hSW; go_simp; try (with_reducible rfl)
        simp only [Act.put, List.getElem_toArray, List.getElem_cons_succ, List.getElem_cons_zero, List.setIfInBounds_toArray, List.set_cons_zero, List.set_cons_succ]
        refine wpAnyH_ready (rs := [8]) (by kernel_rfl) (by simp) ?_
        refine AllReadyH.cons rfl (fun K hK => ?_) AllReadyH.nil
        go_simp
        go_wp2_with (go_at_call 11; with_reducible refine (HK.out w9).mono ?_; rintro e w10 ⟨rfl, hb10⟩)
        refine hK.out _ _ ((hb10.out.block gb hbq9.lt).trans hbq9) (fun hHeld => ?_)
        clear hK K
        refine wpAnyH_take (i := 9) (v := .bool true) rfl (by kernel_rfl) (by kernel_rfl) (by kernel_rfl) (fun _ _ _ h => h) (Or.inl ⟨by rfl, ?_⟩) (by first | assumption | exact trivial) ?_
        · intro W hSW; go_simp; try (with_reducible rfl)
        simp only [Act.put, List.getElem_toArray, List.getElem_cons_succ, List.getElem_cons_zero, List.setIfInBounds_toArray, List.set_cons_zero, List.set_cons_succ]
        refine wpAnyH_take (i := 10) (v := .bool true) rfl (by kernel_rfl) (by kernel_rfl) (by kernel_rfl) (fun _ _ _ h => h) (Or.inl ⟨by rfl, ?_⟩) (by first | assumption | exact trivial) ?_
        · intro W hSW; go_simp; try (with_reducible rfl)
        simp only [Act.put, List.getElem_toArray, List.getElem_cons_succ, List.getElem_cons_zero, List.setIfInBounds_toArray, List.set_cons_zero, List.set_cons_succ]
        refine wpAnyH_done (by kernel_rfl) ?_ _
        go_wp2
        go_ret
        exact ⟨rfl, go_on (go_on (go_on HBW3.out hb37) (go_on hb8.out hb9.out)) hb10.out⟩
  · have HD := Lib.hid (done_bad ss sg sR sn sc sl A len cap w1 hs0 hE)
    have HBW : Hid (Below w.heap.size w w1) := hb0
    clear hs0 hl0 hE hb0
    go_enter Try.func4, Try.ntmps4
    go_wp2_with (first
      | (refine Mi.allocTo rfl (.pointer (some ⟨_, 0, none⟩)) (.cells (stV ss sR sn sc sg) 24 (0, 0)) (exec_boxs _ _ ss sg sR sn sc (.tmp 0) rfl rfl _) ?_; rw [HW1.out])
      | (refine wpList_load_row rfl 24 (.tmp 3) rfl w.heap.size rfl 24 _ (0, 0) _ HB0.out Try.underlying24 rfl (st_size _ _ _ _ _) ?_)
      | (go_at_call 20; refine HD.out.mono ?_; rintro e w2 ⟨rfl, hb2⟩; have HZ2 : Hid (Bq (w2.alloc (.cells (rqV q0 p0) 33)) w2.heap.size q0 p0) := box_rq q0 p0 w2)
      | (refine Mi.allocTo rfl (.pointer (some ⟨_, 0, none⟩)) (.cells (rqV q0 p0) 33 (0, 0)) (alloc_rq _ _ rfl _) ?_)
      | (refine wpList_store_row rfl 33 (.tmp 8) (.tmp 17) rfl w2.heap.size (rqV q0 p0) rfl rfl 33 _ HZ2.out (rq_size _ _) rfl (rq_one _ _) ?_
         have hb3 : Below w2.heap.size w2 ((w2.alloc (.cells (rqV q0 p0) 33)).setRow w2.heap.size (rqV q0 p0)) := Sb.below_setRow _ (Mi.below_alloc (Below.refl _ _)) (Nat.le_refl _)
         have HBW3 : Hid (Below w.heap.size w ((w2.alloc (.cells (rqV q0 p0) 33)).setRow w2.heap.size (rqV q0 p0))) := go_on (go_on HBW.out hb2.out) hb3
         obtain ⟨w3, hw3⟩ : ∃ w3, (w2.alloc (.cells (rqV q0 p0) 33)).setRow w2.heap.size (rqV q0 p0) = w3 := ⟨_, rfl⟩
         rw [hw3] at HBW3 ⊢
         clear hw3 hb3 hb2 HZ2)
      | (go_at_call 11; with_reducible refine (HK.out w3).mono ?_; rintro e w4 ⟨rfl, hb4⟩))
    go_ret
    exact ⟨rfl, go_on HBW3.out hb4.out⟩
end Go.Proofs.Ytablejhajilpiaa.Rt
