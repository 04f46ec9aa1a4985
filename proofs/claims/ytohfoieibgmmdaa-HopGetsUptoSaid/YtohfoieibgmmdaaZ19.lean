/- The laws' awake. -/
import Derived.Test.YtohfoieibgmmdaaHpPlanW
import Derived.Test.YtohfoieibgmmdaaZ9
import Derived.Test.YtohfoieibgmmdaaZ14
import Derived.Test.YtohfoieibgmmdaaZ8
import Derived.Lib.SlBytesConst
namespace Go.Proofs.Ytohfoieibgmmdaa.Hp
open Go.RowKit Go.Maps
open Go.Proofs.Ytohfoieibgmmdaa.Me Go.Proofs.Ytohfoieibgmmdaa.Sb
set_option linter.unusedVariables false
set_option linter.unusedSimpArgs false

def wkI : Mg.Id4 := ⟨1, 3, 1, 1⟩
theorem wk_fit : Fit wkI := ⟨WalkArith.wf_i64 (by decide), WalkArith.wf_i64 (by decide), WalkArith.wf_i64 (by decide), WalkArith.wf_i64 (by decide)⟩
def wkD : Dk := ⟨2, 0, 0, fun _ => none⟩
theorem wk_go : goB wkD (List.replicate 64 2) [2] ⟨wkI, [97]⟩ = true := by decide +kernel
theorem wk_plan : planF wkD (List.replicate 64 2) [2] [⟨wkI, [97]⟩] = (offK wkD wkI 2, [⟨2, 0, wkI, [97]⟩]) := by
  unfold planF
  simp only [List.foldl_cons, List.foldl_nil]
  unfold planStep
  rw [wk_go]
  rfl
theorem wk_off1 : offB (offK wkD wkI 2).kept 1 0 wkI = false := by decide +kernel
theorem wk_off2 : offB (offK wkD wkI 2).kept 2 0 wkI = true := by decide +kernel
theorem wk_put : hopN 2 0 wkI 0 [] = 0 := by decide +kernel
theorem wk_bytes : putH 2 0 wkI [] [] = [2, 0, 0, 1, 3, 0, 1, 0, 1] := by decide +kernel
theorem one_of {P : List Fo} {x : Ofr} (h : P.map Fo.o = [x]) : ∃ q, P = [q] ∧ q.t = x.t := by
  cases P with
  | nil => simp at h
  | cons q r =>
    cases r with
    | nil =>
      simp only [List.map_cons, List.map_nil, List.cons.injEq, and_true] at h
      exact ⟨q, rfl, congrArg Ofr.t h⟩
    | cons y r => simp at h
theorem own_mb {w w' : World} {B mb : Nat} {v : Value} {l : List Nat} (h : Me.Own w B v l) (hb : But (fun k => k = mb) w w') (hm : mb < B) : Me.Own w' B v l :=
  own_same h fun k e hk => hb.same k hk (fun e' => by have := (World.ownsRow.lt h k e).1; omega)
theorem conv9 {W : World} {B c : Nat} {A : Option Addr} (h : Me.Own W B (.slice A 9 c) [2, 0, 0, 1, 3, 0, 1, 0, 1]) : (convert 24 9 (.slice A 9 c)).run Try.prog W = .ok (.string ⟨#[2, 0, 0, 1, 3, 0, 1, 0, 1]⟩) W :=
  Mg.conv_own (L := [2, 0, 0, 1, 3, 0, 1, 0, 1]) h (by decide) (Below.refl _ _)
theorem held_one {W : World} {g gd : Nat} (h : W.heap[g]? = some (.cells #[.int .i64 1, .int .i64 3, .int .i64 1, .int .i64 1, .slice (some ⟨gd, 0, none⟩) 1 1] 26 (0, 0))) (hc : W.heap[gd]? = some (.cells #[.int .u8 97] 5 (1, 2))) : Hl W (some ⟨g, 0, none⟩) [⟨wkI, [97]⟩] := fun j hj => by
  obtain rfl : j = 0 := by simp at hj; omega
  obtain ⟨z0, z1, z2, z3, z4⟩ := Mg.bx_row h
  refine ⟨g, 0, some ⟨gd, 0, none⟩, 1, rfl, (Array.getElem?_eq_some_iff.1 h).1, z0, z1, z2, z3, z4, ⟨⟨rfl, Nat.le_refl _, by decide, ⟨by decide, fun _ => ⟨gd, 0, rfl, (Array.getElem?_eq_some_iff.1 hc).1, fun i hi => ?_⟩⟩, fun e => by cases e⟩, by decide⟩, wk_fit⟩
  obtain rfl : i = 0 := by simp [msAt] at hi; omega
  simp [World.cell?, hc]
  rfl
set_option maxRecDepth 100000 in
set_option maxHeartbeats 4000000 in
theorem awake_any (w : World) : Calls Try.prog 14 #[] w fun e w' => e = .returned (.bool true) ∧ Hid (Below w.heap.size w w') := by
  have HN := Lib.hid (New_ok 2 (by omega) w)
  have kc := fun (w : World) (C : Array Value) (n c : Nat) => Lib.run_convert_bytes_const (P := Try.prog) w 24 5 C n c Try.underlying24 Try.underlying5
  rw [show (((2 : Nat) : Int)) = 2 from rfl] at HN
  go_enter Try.func14, Try.ntmps14
  go_wp2_with (go_at_call 18; refine HN.out.mono ?_; rintro e w1 ⟨D, mb, rfl, hD, hmb, HQ1, b1⟩)
  have hgd : ((w1.alloc (.cells #[.int .u8 97] 5 (1, 2))).alloc (.cells #[.int .i64 1, .int .i64 3, .int .i64 1, .int .i64 1, .slice (some ⟨w1.heap.size, 0, none⟩) 1 1] 26)).heap[w1.heap.size]? = some (.cells #[.int .u8 97] 5 (1, 2)) := (Below.heap_alloc _ _ _ (by simp)).trans (heap_alloc_new w1 _)
  have hgm : ((w1.alloc (.cells #[.int .u8 97] 5 (1, 2))).alloc (.cells #[.int .i64 1, .int .i64 3, .int .i64 1, .int .i64 1, .slice (some ⟨w1.heap.size, 0, none⟩) 1 1] 26)).heap[w1.heap.size + 1]? = some (.cells #[.int .i64 1, .int .i64 3, .int .i64 1, .int .i64 1, .slice (some ⟨w1.heap.size, 0, none⟩) 1 1] 26 (0, 0)) := by
    have := heap_alloc_new (w1.alloc (.cells #[.int .u8 97] 5 (1, 2))) (.cells #[.int .i64 1, .int .i64 3, .int .i64 1, .int .i64 1, .slice (some ⟨w1.heap.size, 0, none⟩) 1 1] 26)
    rw [World.size_alloc] at this
    exact this
  have hb2 : Below w1.heap.size w1 ((w1.alloc (.cells #[.int .u8 97] 5 (1, 2))).alloc (.cells #[.int .i64 1, .int .i64 3, .int .i64 1, .int .i64 1, .slice (some ⟨w1.heap.size, 0, none⟩) 1 1] 26)) := Mi.below_alloc (Mi.below_alloc (Below.refl _ _))
  obtain ⟨W2, hW2⟩ : ∃ W, (w1.alloc (.cells #[.int .u8 97] 5 (1, 2))).alloc (.cells #[.int .i64 1, .int .i64 3, .int .i64 1, .int .i64 1, .slice (some ⟨w1.heap.size, 0, none⟩) 1 1] 26) = W := ⟨_, rfl⟩
  rw [hW2] at hgd hgm hb2 ⊢
  have HQ2 : Hid (Dq W2 D mb 0 wkD) := HQ1.out.below hb2
  have HBw : Hid (Below w.heap.size w W2) := b1.out.trans (hb2.mono b1.out.size)
  have HLt : Hid (D < w1.heap.size ∧ mb < w1.heap.size) := ⟨HQ1.out.ltD, HQ1.out.ltm⟩
  obtain ⟨gm, egm⟩ : ∃ g, w1.heap.size + 1 = g := ⟨_, rfl⟩
  rw [egm] at hgm ⊢
  obtain ⟨gd, egd⟩ : ∃ g, w1.heap.size = g := ⟨_, rfl⟩
  have HGm : Hid (gm = gd + 1) := by show _ = _; omega
  rw [egd] at HLt hgd
  simp only [egd] at hgm ⊢
  have HGD := Lib.hid hgd
  have HGM := Lib.hid hgm
  have HV := Lib.hid (fun W => via_any 2 W)
  clear hW2 egm egd hb2 b1 HQ1 hgd HN
  have S0 : W2.drew.heap[gm]? = some (.cells #[.int .i64 1, .int .i64 3, .int .i64 1, .int .i64 1, .slice (some ⟨gd, 0, none⟩) 1 1] 26 (0, 0)) := HGM.out
  refine wp_region_held_drew (S := fun W => W.heap[gm]? = some (.cells #[.int .i64 1, .int .i64 3, .int .i64 1, .int .i64 1, .slice (some ⟨gd, 0, none⟩) 1 1] 26 (0, 0))) (by kernel_rfl) S0 (fun hHeld => ?_)
  refine wpAnyH_take (i := 0) (v := .pointer (some ⟨D, 0, none⟩)) rfl (by kernel_rfl) (by kernel_rfl) (by kernel_rfl) (fun _ _ _ h => h) (Or.inl ⟨by rfl, ?_⟩) (by first | assumption | exact trivial) ?_
  · intro W hSW; go_simp; try (with_reducible rfl)
  simp only [Act.put, List.getElem_toArray, List.getElem_cons_succ, List.getElem_cons_zero, List.setIfInBounds_toArray, List.set_cons_zero, List.set_cons_succ]
  refine wpAnyH_take (i := 1) (v := .agg #[.int .i64 1, .int .i64 3, .int .i64 1, .int .i64 1, .slice (some ⟨gd, 0, none⟩) 1 1]) rfl (by kernel_rfl) (by kernel_rfl) (by kernel_rfl) (fun _ _ _ h => h) (Or.inl ⟨by rfl, ?_⟩) (by first | assumption | exact trivial) ?_
  · intro W hSW; obtain ⟨z0, z1, z2, z3, z4⟩ := Mg.bx_row hSW; go_simp; try (with_reducible rfl)
  simp only [Act.put, List.getElem_toArray, List.getElem_cons_succ, List.getElem_cons_zero, List.setIfInBounds_toArray, List.set_cons_zero, List.set_cons_succ]
  refine wpAnyH_ready (rs := [2, 3, 4]) (by kernel_rfl) (by simp) ?_
  refine AllReadyH.cons rfl (fun K hK => ?p2) (AllReadyH.cons rfl (fun K hK => ?p3) (AllReadyH.cons rfl (fun K hK => ?p4) AllReadyH.nil))
  case' p2 =>
    go_simp
    obtain ⟨V1, hV⟩ : ∃ V, (W2.alloc (.cells #[.int .i64 1, .int .i64 3, .int .i64 1, .int .i64 1, .slice (some ⟨gd, 0, none⟩) 1 1] 26)).drew = V := ⟨_, rfl⟩
    have hbV : Below W2.heap.size W2 V1 := by rw [← hV]; exact (Mi.below_alloc (Below.refl _ _)).drew
    have hg2 : V1.heap[W2.heap.size]? = some (.cells #[.int .i64 1, .int .i64 3, .int .i64 1, .int .i64 1, .slice (some ⟨gd, 0, none⟩) 1 1] 26 (0, 0)) := by rw [← hV]; exact heap_alloc_new W2 _
    rw [hV]
    obtain ⟨g2, eg2⟩ : ∃ g, W2.heap.size = g := ⟨_, rfl⟩
    have Lg2 : W2.heap.size ≤ g2 := by rw [← eg2]; exact Nat.le_refl _
    rw [eg2] at hg2
    simp only [eg2]
    clear hV eg2
    have B1 : Below W2.heap.size W2 V1 := hbV
    have S1 : V1.heap[gm]? = some (.cells #[.int .i64 1, .int .i64 3, .int .i64 1, .int .i64 1, .slice (some ⟨gd, 0, none⟩) 1 1] 26 (0, 0)) := (B1.block gm (Array.getElem?_eq_some_iff.1 HGM.out).1).trans HGM.out
    refine hK.out _ _ (S1) (fun hHeld => ?_)
    clear hK K
    refine wpAnyH_ready (rs := [3, 4]) (by kernel_rfl) (by simp) ?_
    refine AllReadyH.cons rfl (fun K hK => ?p23) (AllReadyH.cons rfl (fun K hK => ?p24) AllReadyH.nil)
  case' p23 =>
    go_simp
    go_wp2_with (go_at_call 34; refine (HV.out V1).mono ?_; rintro e V2 ⟨g3, rfl, h3, hg3, hbv⟩)
    have hbV : Below V1.heap.size V1 V2 := hbv.out
    have Lg3 : W2.heap.size ≤ g3 := Nat.le_trans (B1).size h3
    have B2 : Below W2.heap.size W2 V2 := (B1).trans (hbV.mono (B1).size)
    have hg2 := (hbV.block g2 (Array.getElem?_eq_some_iff.1 hg2).1).trans hg2
    have S2 : V2.heap[gm]? = some (.cells #[.int .i64 1, .int .i64 3, .int .i64 1, .int .i64 1, .slice (some ⟨gd, 0, none⟩) 1 1] 26 (0, 0)) := (B2.block gm (Array.getElem?_eq_some_iff.1 HGM.out).1).trans HGM.out
    refine hK.out _ _ (S2) (fun hHeld => ?_)
    clear hK K
    refine wpAnyH_ready (rs := [4]) (by kernel_rfl) (by simp) ?_
    refine AllReadyH.cons rfl (fun K hK => ?_) AllReadyH.nil
    go_simp
    obtain ⟨V3, hV⟩ : ∃ V, (V2.alloc (.cells #[.int .i64 2] 3)) = V := ⟨_, rfl⟩
    have hbV : Below V2.heap.size V2 V3 := by rw [← hV]; exact (Mi.below_alloc (Below.refl _ _))
    have hg4 : V3.heap[V2.heap.size]? = some (.cells #[.int .i64 2] 3 (0, 0)) := by rw [← hV]; exact heap_alloc_new V2 _
    rw [hV]
    obtain ⟨g4, eg4⟩ : ∃ g, V2.heap.size = g := ⟨_, rfl⟩
    have Lg4 : W2.heap.size ≤ g4 := by rw [← eg4]; exact (B2).size
    rw [eg4] at hg4
    simp only [eg4]
    clear hV eg4
    have B3 : Below W2.heap.size W2 V3 := (B2).trans (hbV.mono (B2).size)
    have hg2 := (hbV.block g2 (Array.getElem?_eq_some_iff.1 hg2).1).trans hg2
    have hg3 := Lib.hid ((hg3.out.below hbV).more hbV.size)
    have S3 : V3.heap[gm]? = some (.cells #[.int .i64 1, .int .i64 3, .int .i64 1, .int .i64 1, .slice (some ⟨gd, 0, none⟩) 1 1] 26 (0, 0)) := (B3.block gm (Array.getElem?_eq_some_iff.1 HGM.out).1).trans HGM.out
    refine hK.out _ _ (S3) (fun hHeld => ?_)
    clear hK K
  case' p24 =>
    go_simp
    obtain ⟨V2, hV⟩ : ∃ V, (V1.alloc (.cells #[.int .i64 2] 3)) = V := ⟨_, rfl⟩
    have hbV : Below V1.heap.size V1 V2 := by rw [← hV]; exact (Mi.below_alloc (Below.refl _ _))
    have hg4 : V2.heap[V1.heap.size]? = some (.cells #[.int .i64 2] 3 (0, 0)) := by rw [← hV]; exact heap_alloc_new V1 _
    rw [hV]
    obtain ⟨g4, eg4⟩ : ∃ g, V1.heap.size = g := ⟨_, rfl⟩
    have Lg4 : W2.heap.size ≤ g4 := by rw [← eg4]; exact (B1).size
    rw [eg4] at hg4
    simp only [eg4]
    clear hV eg4
    have B2 : Below W2.heap.size W2 V2 := (B1).trans (hbV.mono (B1).size)
    have hg2 := (hbV.block g2 (Array.getElem?_eq_some_iff.1 hg2).1).trans hg2
    have S2 : V2.heap[gm]? = some (.cells #[.int .i64 1, .int .i64 3, .int .i64 1, .int .i64 1, .slice (some ⟨gd, 0, none⟩) 1 1] 26 (0, 0)) := (B2.block gm (Array.getElem?_eq_some_iff.1 HGM.out).1).trans HGM.out
    refine hK.out _ _ (S2) (fun hHeld => ?_)
    clear hK K
    refine wpAnyH_ready (rs := [3]) (by kernel_rfl) (by simp) ?_
    refine AllReadyH.cons rfl (fun K hK => ?_) AllReadyH.nil
    go_simp
    go_wp2_with (go_at_call 34; refine (HV.out V2).mono ?_; rintro e V3 ⟨g3, rfl, h3, hg3, hbv⟩)
    have hbV : Below V2.heap.size V2 V3 := hbv.out
    have Lg3 : W2.heap.size ≤ g3 := Nat.le_trans (B2).size h3
    have B3 : Below W2.heap.size W2 V3 := (B2).trans (hbV.mono (B2).size)
    have hg2 := (hbV.block g2 (Array.getElem?_eq_some_iff.1 hg2).1).trans hg2
    have hg4 := (hbV.block g4 (Array.getElem?_eq_some_iff.1 hg4).1).trans hg4
    have S3 : V3.heap[gm]? = some (.cells #[.int .i64 1, .int .i64 3, .int .i64 1, .int .i64 1, .slice (some ⟨gd, 0, none⟩) 1 1] 26 (0, 0)) := (B3.block gm (Array.getElem?_eq_some_iff.1 HGM.out).1).trans HGM.out
    refine hK.out _ _ (S3) (fun hHeld => ?_)
    clear hK K
  case' p3 =>
    go_simp
    go_wp2_with (go_at_call 34; refine (HV.out W2.drew).mono ?_; rintro e V1 ⟨g3, rfl, h3, hg3, hbv⟩)
    have hbV : Below W2.heap.size W2 V1 := (Below.refl _ W2).drew.trans hbv.out
    have Lg3 : W2.heap.size ≤ g3 := h3
    have B1 : Below W2.heap.size W2 V1 := hbV
    have S1 : V1.heap[gm]? = some (.cells #[.int .i64 1, .int .i64 3, .int .i64 1, .int .i64 1, .slice (some ⟨gd, 0, none⟩) 1 1] 26 (0, 0)) := (B1.block gm (Array.getElem?_eq_some_iff.1 HGM.out).1).trans HGM.out
    refine hK.out _ _ (S1) (fun hHeld => ?_)
    clear hK K
    refine wpAnyH_ready (rs := [2, 4]) (by kernel_rfl) (by simp) ?_
    refine AllReadyH.cons rfl (fun K hK => ?p32) (AllReadyH.cons rfl (fun K hK => ?p34) AllReadyH.nil)
  case' p32 =>
    go_simp
    obtain ⟨V2, hV⟩ : ∃ V, (V1.alloc (.cells #[.int .i64 1, .int .i64 3, .int .i64 1, .int .i64 1, .slice (some ⟨gd, 0, none⟩) 1 1] 26)) = V := ⟨_, rfl⟩
    have hbV : Below V1.heap.size V1 V2 := by rw [← hV]; exact (Mi.below_alloc (Below.refl _ _))
    have hg2 : V2.heap[V1.heap.size]? = some (.cells #[.int .i64 1, .int .i64 3, .int .i64 1, .int .i64 1, .slice (some ⟨gd, 0, none⟩) 1 1] 26 (0, 0)) := by rw [← hV]; exact heap_alloc_new V1 _
    rw [hV]
    obtain ⟨g2, eg2⟩ : ∃ g, V1.heap.size = g := ⟨_, rfl⟩
    have Lg2 : W2.heap.size ≤ g2 := by rw [← eg2]; exact (B1).size
    rw [eg2] at hg2
    simp only [eg2]
    clear hV eg2
    have B2 : Below W2.heap.size W2 V2 := (B1).trans (hbV.mono (B1).size)
    have hg3 := Lib.hid ((hg3.out.below hbV).more hbV.size)
    have S2 : V2.heap[gm]? = some (.cells #[.int .i64 1, .int .i64 3, .int .i64 1, .int .i64 1, .slice (some ⟨gd, 0, none⟩) 1 1] 26 (0, 0)) := (B2.block gm (Array.getElem?_eq_some_iff.1 HGM.out).1).trans HGM.out
    refine hK.out _ _ (S2) (fun hHeld => ?_)
    clear hK K
    refine wpAnyH_ready (rs := [4]) (by kernel_rfl) (by simp) ?_
    refine AllReadyH.cons rfl (fun K hK => ?_) AllReadyH.nil
    go_simp
    obtain ⟨V3, hV⟩ : ∃ V, (V2.alloc (.cells #[.int .i64 2] 3)) = V := ⟨_, rfl⟩
    have hbV : Below V2.heap.size V2 V3 := by rw [← hV]; exact (Mi.below_alloc (Below.refl _ _))
    have hg4 : V3.heap[V2.heap.size]? = some (.cells #[.int .i64 2] 3 (0, 0)) := by rw [← hV]; exact heap_alloc_new V2 _
    rw [hV]
    obtain ⟨g4, eg4⟩ : ∃ g, V2.heap.size = g := ⟨_, rfl⟩
    have Lg4 : W2.heap.size ≤ g4 := by rw [← eg4]; exact (B2).size
    rw [eg4] at hg4
    simp only [eg4]
    clear hV eg4
    have B3 : Below W2.heap.size W2 V3 := (B2).trans (hbV.mono (B2).size)
    have hg3 := Lib.hid ((hg3.out.below hbV).more hbV.size)
    have hg2 := (hbV.block g2 (Array.getElem?_eq_some_iff.1 hg2).1).trans hg2
    have S3 : V3.heap[gm]? = some (.cells #[.int .i64 1, .int .i64 3, .int .i64 1, .int .i64 1, .slice (some ⟨gd, 0, none⟩) 1 1] 26 (0, 0)) := (B3.block gm (Array.getElem?_eq_some_iff.1 HGM.out).1).trans HGM.out
    refine hK.out _ _ (S3) (fun hHeld => ?_)
    clear hK K
  case' p34 =>
    go_simp
    obtain ⟨V2, hV⟩ : ∃ V, (V1.alloc (.cells #[.int .i64 2] 3)) = V := ⟨_, rfl⟩
    have hbV : Below V1.heap.size V1 V2 := by rw [← hV]; exact (Mi.below_alloc (Below.refl _ _))
    have hg4 : V2.heap[V1.heap.size]? = some (.cells #[.int .i64 2] 3 (0, 0)) := by rw [← hV]; exact heap_alloc_new V1 _
    rw [hV]
    obtain ⟨g4, eg4⟩ : ∃ g, V1.heap.size = g := ⟨_, rfl⟩
    have Lg4 : W2.heap.size ≤ g4 := by rw [← eg4]; exact (B1).size
    rw [eg4] at hg4
    simp only [eg4]
    clear hV eg4
    have B2 : Below W2.heap.size W2 V2 := (B1).trans (hbV.mono (B1).size)
    have hg3 := Lib.hid ((hg3.out.below hbV).more hbV.size)
    have S2 : V2.heap[gm]? = some (.cells #[.int .i64 1, .int .i64 3, .int .i64 1, .int .i64 1, .slice (some ⟨gd, 0, none⟩) 1 1] 26 (0, 0)) := (B2.block gm (Array.getElem?_eq_some_iff.1 HGM.out).1).trans HGM.out
    refine hK.out _ _ (S2) (fun hHeld => ?_)
    clear hK K
    refine wpAnyH_ready (rs := [2]) (by kernel_rfl) (by simp) ?_
    refine AllReadyH.cons rfl (fun K hK => ?_) AllReadyH.nil
    go_simp
    obtain ⟨V3, hV⟩ : ∃ V, (V2.alloc (.cells #[.int .i64 1, .int .i64 3, .int .i64 1, .int .i64 1, .slice (some ⟨gd, 0, none⟩) 1 1] 26)) = V := ⟨_, rfl⟩
    have hbV : Below V2.heap.size V2 V3 := by rw [← hV]; exact (Mi.below_alloc (Below.refl _ _))
    have hg2 : V3.heap[V2.heap.size]? = some (.cells #[.int .i64 1, .int .i64 3, .int .i64 1, .int .i64 1, .slice (some ⟨gd, 0, none⟩) 1 1] 26 (0, 0)) := by rw [← hV]; exact heap_alloc_new V2 _
    rw [hV]
    obtain ⟨g2, eg2⟩ : ∃ g, V2.heap.size = g := ⟨_, rfl⟩
    have Lg2 : W2.heap.size ≤ g2 := by rw [← eg2]; exact (B2).size
    rw [eg2] at hg2
    simp only [eg2]
    clear hV eg2
    have B3 : Below W2.heap.size W2 V3 := (B2).trans (hbV.mono (B2).size)
    have hg3 := Lib.hid ((hg3.out.below hbV).more hbV.size)
    have hg4 := (hbV.block g4 (Array.getElem?_eq_some_iff.1 hg4).1).trans hg4
    have S3 : V3.heap[gm]? = some (.cells #[.int .i64 1, .int .i64 3, .int .i64 1, .int .i64 1, .slice (some ⟨gd, 0, none⟩) 1 1] 26 (0, 0)) := (B3.block gm (Array.getElem?_eq_some_iff.1 HGM.out).1).trans HGM.out
    refine hK.out _ _ (S3) (fun hHeld => ?_)
    clear hK K
  case' p4 =>
    go_simp
    obtain ⟨V1, hV⟩ : ∃ V, (W2.alloc (.cells #[.int .i64 2] 3)).drew = V := ⟨_, rfl⟩
    have hbV : Below W2.heap.size W2 V1 := by rw [← hV]; exact (Mi.below_alloc (Below.refl _ _)).drew
    have hg4 : V1.heap[W2.heap.size]? = some (.cells #[.int .i64 2] 3 (0, 0)) := by rw [← hV]; exact heap_alloc_new W2 _
    rw [hV]
    obtain ⟨g4, eg4⟩ : ∃ g, W2.heap.size = g := ⟨_, rfl⟩
    have Lg4 : W2.heap.size ≤ g4 := by rw [← eg4]; exact Nat.le_refl _
    rw [eg4] at hg4
    simp only [eg4]
    clear hV eg4
    have B1 : Below W2.heap.size W2 V1 := hbV
    have S1 : V1.heap[gm]? = some (.cells #[.int .i64 1, .int .i64 3, .int .i64 1, .int .i64 1, .slice (some ⟨gd, 0, none⟩) 1 1] 26 (0, 0)) := (B1.block gm (Array.getElem?_eq_some_iff.1 HGM.out).1).trans HGM.out
    refine hK.out _ _ (S1) (fun hHeld => ?_)
    clear hK K
    refine wpAnyH_ready (rs := [2, 3]) (by kernel_rfl) (by simp) ?_
    refine AllReadyH.cons rfl (fun K hK => ?p42) (AllReadyH.cons rfl (fun K hK => ?p43) AllReadyH.nil)
  case' p42 =>
    go_simp
    obtain ⟨V2, hV⟩ : ∃ V, (V1.alloc (.cells #[.int .i64 1, .int .i64 3, .int .i64 1, .int .i64 1, .slice (some ⟨gd, 0, none⟩) 1 1] 26)) = V := ⟨_, rfl⟩
    have hbV : Below V1.heap.size V1 V2 := by rw [← hV]; exact (Mi.below_alloc (Below.refl _ _))
    have hg2 : V2.heap[V1.heap.size]? = some (.cells #[.int .i64 1, .int .i64 3, .int .i64 1, .int .i64 1, .slice (some ⟨gd, 0, none⟩) 1 1] 26 (0, 0)) := by rw [← hV]; exact heap_alloc_new V1 _
    rw [hV]
    obtain ⟨g2, eg2⟩ : ∃ g, V1.heap.size = g := ⟨_, rfl⟩
    have Lg2 : W2.heap.size ≤ g2 := by rw [← eg2]; exact (B1).size
    rw [eg2] at hg2
    simp only [eg2]
    clear hV eg2
    have B2 : Below W2.heap.size W2 V2 := (B1).trans (hbV.mono (B1).size)
    have hg4 := (hbV.block g4 (Array.getElem?_eq_some_iff.1 hg4).1).trans hg4
    have S2 : V2.heap[gm]? = some (.cells #[.int .i64 1, .int .i64 3, .int .i64 1, .int .i64 1, .slice (some ⟨gd, 0, none⟩) 1 1] 26 (0, 0)) := (B2.block gm (Array.getElem?_eq_some_iff.1 HGM.out).1).trans HGM.out
    refine hK.out _ _ (S2) (fun hHeld => ?_)
    clear hK K
    refine wpAnyH_ready (rs := [3]) (by kernel_rfl) (by simp) ?_
    refine AllReadyH.cons rfl (fun K hK => ?_) AllReadyH.nil
    go_simp
    go_wp2_with (go_at_call 34; refine (HV.out V2).mono ?_; rintro e V3 ⟨g3, rfl, h3, hg3, hbv⟩)
    have hbV : Below V2.heap.size V2 V3 := hbv.out
    have Lg3 : W2.heap.size ≤ g3 := Nat.le_trans (B2).size h3
    have B3 : Below W2.heap.size W2 V3 := (B2).trans (hbV.mono (B2).size)
    have hg4 := (hbV.block g4 (Array.getElem?_eq_some_iff.1 hg4).1).trans hg4
    have hg2 := (hbV.block g2 (Array.getElem?_eq_some_iff.1 hg2).1).trans hg2
    have S3 : V3.heap[gm]? = some (.cells #[.int .i64 1, .int .i64 3, .int .i64 1, .int .i64 1, .slice (some ⟨gd, 0, none⟩) 1 1] 26 (0, 0)) := (B3.block gm (Array.getElem?_eq_some_iff.1 HGM.out).1).trans HGM.out
    refine hK.out _ _ (S3) (fun hHeld => ?_)
    clear hK K
  case' p43 =>
    go_simp
    go_wp2_with (go_at_call 34; refine (HV.out V1).mono ?_; rintro e V2 ⟨g3, rfl, h3, hg3, hbv⟩)
    have hbV : Below V1.heap.size V1 V2 := hbv.out
    have Lg3 : W2.heap.size ≤ g3 := Nat.le_trans (B1).size h3
    have B2 : Below W2.heap.size W2 V2 := (B1).trans (hbV.mono (B1).size)
    have hg4 := (hbV.block g4 (Array.getElem?_eq_some_iff.1 hg4).1).trans hg4
    have S2 : V2.heap[gm]? = some (.cells #[.int .i64 1, .int .i64 3, .int .i64 1, .int .i64 1, .slice (some ⟨gd, 0, none⟩) 1 1] 26 (0, 0)) := (B2.block gm (Array.getElem?_eq_some_iff.1 HGM.out).1).trans HGM.out
    refine hK.out _ _ (S2) (fun hHeld => ?_)
    clear hK K
    refine wpAnyH_ready (rs := [2]) (by kernel_rfl) (by simp) ?_
    refine AllReadyH.cons rfl (fun K hK => ?_) AllReadyH.nil
    go_simp
    obtain ⟨V3, hV⟩ : ∃ V, (V2.alloc (.cells #[.int .i64 1, .int .i64 3, .int .i64 1, .int .i64 1, .slice (some ⟨gd, 0, none⟩) 1 1] 26)) = V := ⟨_, rfl⟩
    have hbV : Below V2.heap.size V2 V3 := by rw [← hV]; exact (Mi.below_alloc (Below.refl _ _))
    have hg2 : V3.heap[V2.heap.size]? = some (.cells #[.int .i64 1, .int .i64 3, .int .i64 1, .int .i64 1, .slice (some ⟨gd, 0, none⟩) 1 1] 26 (0, 0)) := by rw [← hV]; exact heap_alloc_new V2 _
    rw [hV]
    obtain ⟨g2, eg2⟩ : ∃ g, V2.heap.size = g := ⟨_, rfl⟩
    have Lg2 : W2.heap.size ≤ g2 := by rw [← eg2]; exact (B2).size
    rw [eg2] at hg2
    simp only [eg2]
    clear hV eg2
    have B3 : Below W2.heap.size W2 V3 := (B2).trans (hbV.mono (B2).size)
    have hg4 := (hbV.block g4 (Array.getElem?_eq_some_iff.1 hg4).1).trans hg4
    have hg3 := Lib.hid ((hg3.out.below hbV).more hbV.size)
    have S3 : V3.heap[gm]? = some (.cells #[.int .i64 1, .int .i64 3, .int .i64 1, .int .i64 1, .slice (some ⟨gd, 0, none⟩) 1 1] 26 (0, 0)) := (B3.block gm (Array.getElem?_eq_some_iff.1 HGM.out).1).trans HGM.out
    refine hK.out _ _ (S3) (fun hHeld => ?_)
    clear hK K
  all_goals
    refine wpAnyH_ready (rs := [5]) (by kernel_rfl) (by simp) ?_
    refine AllReadyH.cons rfl (fun K hK => ?_) AllReadyH.nil
    go_simp
    have HQ3 : Hid (Dq V3 D mb 0 wkD) := HQ2.out.below B3
    have hc3 : V3.heap[gd]? = some (.cells #[.int .u8 97] 5 (1, 2)) := (B3.block gd (Array.getElem?_eq_some_iff.1 HGD.out).1).trans HGD.out
    have HH : Hid (Hl V3 (some ⟨g2, 0, none⟩) [⟨wkI, [97]⟩]) := held_one hg2 hc3
    have HNd : Hid (Nd mb D (some ⟨g3, 0, none⟩)) := fun b off e => by
      cases e
      have h1 := HQ2.out.ltD
      have h2 := HQ2.out.ltm
      exact ⟨by omega, by omega⟩
    have HU : Hid (Mi.Rd V3 V3.heap.size (some ⟨g4, 0, none⟩) [2]) := fun _ => ⟨g4, 0, rfl, (Array.getElem?_eq_some_iff.1 hg4).1, fun i hi => by
      obtain rfl : i = 0 := by simp at hi; omega
      rw [cell_of_row V3 g4 _ _ _ (0, 0) hg4]
      rfl⟩
    have HPl := Lib.hid (Plan_any D mb 0 wkD (some ⟨g2, 0, none⟩) 1 [⟨wkI, [97]⟩] (some ⟨g3, 0, none⟩) 64 (List.replicate 64 2) (some ⟨g4, 0, none⟩) 1 [2] V3 HQ3 HH hg3 HNd (by simp) HU (by simp) (by omega) (by simp) (by decide) (by decide))
    go_wp2_with (go_at_call 28; refine HPl.out.mono ?_; rintro e V9 ⟨v, P, m9, rfl, hO, hP, hm9, hQ9, hB9⟩)
    rw [wk_plan] at hP hQ9
    obtain ⟨q9, rfl, hq9⟩ := one_of hP
    simp only at hq9
    obtain ⟨A9, c9, rfl, _, _⟩ := hO.form
    obtain ⟨g9, rfl, hg9, hl9, hcl9⟩ := hO.at_ (j := 0) (p := q9) rfl
    rw [hq9] at hcl9
    have HC9 : Hid (∀ W : World, W.heap[g9]? = V9.heap[g9]? → W.cell? ⟨g9, 0, none⟩ = some (.int .i64 2)) := fun W hW => by
      have := (hcl9 W hW).1
      rw [Nat.zero_mul] at this
      exact this
    have HGne : Hid (gm ≠ mb ∧ gm ≠ D ∧ g9 ≠ mb ∧ g9 ≠ D) := by
      have h1 := HLt.out
      have h2 := HGm.out
      have h3 := B3.size
      have h4 := HQ2.out.ltD
      have h5 := HQ2.out.ltm
      exact ⟨by omega, by omega, by omega, by omega⟩
    have S9 : V9.heap[gm]? = some (.cells #[.int .i64 1, .int .i64 3, .int .i64 1, .int .i64 1, .slice (some ⟨gd, 0, none⟩) 1 1] 26 (0, 0)) := (hB9.same gm (Array.getElem?_eq_some_iff.1 S3).1 (fun e => e.elim HGne.out.1 HGne.out.2.1)).trans S3
    refine hK.out _ _ (S9) (fun hHeld => ?_)
    clear hK K
    simp only [List.length_cons, List.length_nil, Nat.zero_add]
    refine wpAnyH_take (i := 6) (v := .slice (some ⟨g9, 0, none⟩) 1 c9) rfl (by kernel_rfl) (by kernel_rfl) (by kernel_rfl) (fun _ _ _ h => h) (Or.inl ⟨by rfl, ?_⟩) (by first | assumption | exact trivial) ?_
    · intro W hSW; go_simp; try (with_reducible rfl)
    simp only [Act.put, List.getElem_toArray, List.getElem_cons_succ, List.getElem_cons_zero, List.setIfInBounds_toArray, List.set_cons_zero, List.set_cons_succ]
    refine wpAnyH_done (by kernel_rfl) ?_ _
    have HQ9 := Lib.hid hQ9
    have HL9 := Lib.hid hl9
    have HS9 := Lib.hid S9
    have HB9 : Hid (But (fun k => k = mb ∨ k = D) W2 V9) := (But.of_below (S := fun k => k = mb ∨ k = D) B3).trans hB9 fun _ _ e => e
    clear HPl HU HNd HH hc3 HQ3 hO hP hm9 hQ9 hB9 hcl9 hq9 hg9 hl9 S9 S3 S2 S1 S0 B1 B2 B3 hg2 hg3 hg4 hHeld
    have HPu : Hid (∀ W, Calls Try.prog 11 #[.agg #[.int .i64 2, .int .i64 0, .int .i64 1, .int .i64 3, .int .i64 1, .int .i64 1, .slice none 0 0, .slice none 0 0]] W (Mg.OwP [2, 0, 0, 1, 3, 0, 1, 0, 1] 0 W)) := fun W => by
      have := Put_any 2 0 wkI none 0 0 [] none [] 0 W (Me.bySlice_none _) (Mi.Rd.nil _ _ _) (by simp)
      rw [wk_put, wk_bytes] at this
      exact this
    have HA1 : Hid (∀ W m, Hid (Dq W D mb m (offK wkD wkI 2)) → Calls Try.prog 31 #[.pointer (some ⟨D, 0, none⟩), .int .i64 1, .int .i64 0, .agg #[.int .i64 1, .int .i64 3, .int .i64 1, .int .i64 1]] W fun e w' => e = .returned (.bool false) ∧ Hid (Dn W D mb m (offK wkD wkI 2) w')) := fun W m hW => by
      have := Ack_any D mb m (offK wkD wkI 2) 1 0 wkI W hW wk_fit
      unfold ackK at this
      rw [wk_off1, if_neg (by decide)] at this
      exact this
    have HA2 : Hid (∀ W m, Hid (Dq W D mb m (offK wkD wkI 2)) → Calls Try.prog 31 #[.pointer (some ⟨D, 0, none⟩), .int .i64 2, .int .i64 0, .agg #[.int .i64 1, .int .i64 3, .int .i64 1, .int .i64 1]] W fun e w' => e = .returned (.bool true) ∧ Hid (But (fun k => k = mb) W w')) := fun W m hW => by
      have := Ack_any D mb m (offK wkD wkI 2) 2 0 wkI W hW wk_fit
      rw [wk_off2] at this
      exact this.mono fun e w' h => ⟨h.1, h.2.out.2⟩
    obtain ⟨x0, x1, x2, x3, _⟩ := Mg.bx_row HS9.out
    go_wp2_with (first
      | (go_at_call 11; refine (HPu.out _).mono ?_; rintro e w10 ⟨A10, c10, rfl, ho10, hb10⟩; have HQ10 : Hid (Dq w10 D mb m9 (offK wkD wkI 2)) := HQ9.out.below hb10.out; have hs10 : w10.heap[gm]? = _ := (hb10.out.block gm (Array.getElem?_eq_some_iff.1 HS9.out).1).trans HS9.out; obtain ⟨y0, y1, y2, y3, _⟩ := Mg.bx_row hs10; have HS10 := Lib.hid hs10; clear hs10; have hz10 := HC9.out w10 (hb10.out.block g9 HL9.out))
      | (go_at_call 31; (with_reducible refine (HA1.out _ _ HQ10).mono ?_); rintro e w11 ⟨rfl, hd11⟩; obtain ⟨m11, hm11, hq11⟩ := hd11.out.1; have HQ11 := Lib.hid hq11; have HB11 := Lib.hid hd11.out.2; clear hq11 hm11 hd11; have hs11 : w11.heap[gm]? = _ := (HB11.out.same gm (Array.getElem?_eq_some_iff.1 HS10.out).1 HGne.out.1).trans HS10.out; obtain ⟨u0, u1, u2, u3, _⟩ := Mg.bx_row hs11; clear hs11)
      | (go_at_call 31; (with_reducible refine (HA2.out _ _ HQ11).mono ?_); rintro e w12 ⟨rfl, hb12⟩; have kv := conv9 (own_mb (own_mb ho10.out HB11.out HQ9.out.ltm) hb12.out HQ9.out.ltm)))
    go_ret
    have hz : But (fun k => k = mb ∨ k = D) w w12 := ((((But.of_below (S := fun k => k = mb ∨ k = D) HBw.out).trans HB9.out fun _ _ e => e).trans (But.of_below (S := fun k => k = mb ∨ k = D) hb10.out) fun _ _ e => e).trans HB11.out fun _ _ e => .inl e).trans hb12.out fun _ _ e => .inl e
    exact ⟨rfl, hz.below (Nat.le_refl _) fun k e => e.elim (fun e => by rw [e]; exact hmb) (fun e => by rw [e]; exact hD)⟩
end Go.Proofs.Ytohfoieibgmmdaa.Hp
/- The law HopPuts. -/
namespace Go.Proofs.Ytohfoieibgmmdaa.Hp
open Go.RowKit Go.Shelf
open Go.Proofs.Ytohfoieibgmmdaa.Me Go.Proofs.Ytohfoieibgmmdaa.Sb Go.Proofs.Ytohfoieibgmmdaa.Mg
set_option linter.unusedVariables false
set_option linter.unusedSimpArgs false

theorem own_bs {W : World} {B0 : Nat} {A : Option Addr} {n c : Nat} {l : List Nat} (h : Me.Own W B0 (.slice A n c) l) (hl : ∀ z ∈ l, z < 256) (hn : l.length = n) : (l.length ≤ c ∧ c ≤ 9223372036854775807) ∧ Hid (BySlice W A n c l) := by
  obtain ⟨A', c', e', p1, p2, _⟩ := h.held hl
  simp only [Value.slice.injEq] at e'
  obtain ⟨rfl, rfl, rfl⟩ := e'
  obtain ⟨r1, r2, _, _⟩ := Hd.own_rd h hl
  exact ⟨⟨p1, p2⟩, rfl, p1, p2, r1, r2⟩
theorem own_ri {W : World} {B0 : Nat} {A : Option Addr} {n c : Nat} {l : List Int} (h : Mi.Own W B0 (.slice A n c) l) : Hid (Mi.Rd W W.heap.size A l) := by
  obtain ⟨A', c', e', _, _, r, _⟩ := h.form
  simp only [Value.slice.injEq] at e'
  obtain ⟨rfl, rfl, rfl⟩ := e'
  exact r
theorem own_neT {V : World} {B D T : Nat} {v : Value} {l : List Nat} {old : Array Value} {f : Nat × Nat} (h : Me.Own V B v l) (hD : V.heap[D]? = some (.cells old T f)) (hT : 5 ≠ T) : v.ownBlock ≠ some D := fun e => own_ne_tyH h hD hT e.symm
set_option maxRecDepth 100000 in
set_option maxHeartbeats 4000000 in
theorem putsL (k n : Int) (i : Id4) (A : Option Addr) (l : List Nat) (dc : Nat) (B : Option Addr) (cs : List Int) (cc : Nat) (w : World) (hi : MsIn w A l.length dc l ∧ CoIn w B cs cc) :
    Calls Try.prog 3 #[.agg (hopC k n i A l.length dc B cs.length cc)] w fun e w' => e = .returned (.bool true) ∧ Below w.heap.size w w' := by
  have HI := Lib.hid hi
  have HX := Lib.hid (box8 k n i A l.length dc B cs.length cc w)
  have hbw : Below w.heap.size w (w.alloc (.cells (hopC k n i A l.length dc B cs.length cc) 29 (0, 0))) := Me.below_alloc (Below.refl _ _)
  have HLb : Hid (∀ z ∈ l, z < 256) := hi.1.1.2.2.2.1.1
  have HLp : Hid (∀ z ∈ putH k n i l cs, z < 256) := putH_lt HLb.out
  have hcl : cs.length ≤ 9223372036854775806 := by have h1 := hi.2.1.2.1; have h2 := hi.2.2; omega
  have HC := Lib.hid (fun W (hW : Below w.heap.size w W) => copied_any k n i A l.length dc l B cs cc W (hi.1.below hW) ⟨⟨rfl, hi.2.1.2.1, hi.2.1.2.2.1, (hi.2.1.2.2.2.1.below hW).more hW.size, hi.2.1.2.2.2.2.1, hi.2.1.2.2.2.2.2⟩, hi.2.2⟩)
  have HK := Lib.hid (fun (A2 : Option Addr) (c2 : Nat) (B2 : Option Addr) (d2 : Nat) W (h : Hid (Mi.Rd W W.heap.size B2 cs)) => Check_any k n i A2 l.length c2 B2 cs d2 W h hcl)
  have HP := Lib.hid (fun (A2 : Option Addr) (c2 : Nat) (B2 : Option Addr) (d2 : Nat) W (h1 : Hid (BySlice W A2 l.length c2 l)) (h : Hid (Mi.Rd W W.heap.size B2 cs)) => Put_any k n i A2 l.length c2 l B2 cs d2 W h1 h hcl)
  have HRP := Lib.hid (fun W (hW : Below w.heap.size w W) => RPut_any k n i A l.length dc l B cs cc W (by_below hi.1.1 hW) ((hi.2.1.2.2.2.1.below hW).more hW.size) hcl)
  have HRK := Lib.hid (fun W (hW : Below w.heap.size w W) => RCheck_any k n i A l.length dc l B cs cc W (by_below hi.1.1 hW) ((hi.2.1.2.2.2.1.below hW).more hW.size) hcl)
  have hLN : l.length ≤ 140737488351232 := by have h1 := hi.1.1.2.1; have h2 := hi.1.2; omega
  obtain ⟨lp, hlp⟩ : ∃ x, putH k n i l cs = x := ⟨_, rfl⟩
  obtain ⟨zp, hzp⟩ : ∃ x, hopN k n i l.length cs = x := ⟨_, rfl⟩
  simp only [hlp, hzp] at HP HRP HLp HK HRK
  obtain ⟨L, hL⟩ : ∃ L, l.length = L := ⟨_, rfl⟩
  obtain ⟨N, hN⟩ : ∃ N, cs.length = N := ⟨_, rfl⟩
  have HL := Lib.hid hL
  rw [hL, hN] at HX hbw HC ⊢
  simp only [hL, hN] at HK HP HRP HRK
  rw [hL] at hLN
  have HNn := Lib.hid hN
  clear hi hlp hzp hcl hL hN
  obtain ⟨o, d, ee, c⟩ := i
  simp only [hopC] at HX HC HK HP HRP HRK hbw ⊢
  obtain ⟨W0, hW0⟩ : ∃ W, w.alloc (.cells #[.int .i64 k, .int .i64 n, .int .i64 o, .int .i64 d, .int .i64 ee, .int .i64 c, .slice A L dc, .slice B N cc] 29 (0, 0)) = W := ⟨_, rfl⟩
  have HW0 := Lib.hid hW0
  rw [hW0] at HX hbw
  have HBW := Lib.hid hbw
  clear hW0 hbw
  obtain ⟨⟨x0, x1, x2, x3, x4, x5, x6, x7⟩, _⟩ := HX.out W0 (Below.refl _ _)
  go_enter Try.func3, Try.ntmps3
  go_wp2_with (first
    | (rw [HW0.out])
    | (go_at_call 9; refine (HC.out _ HBW.out).mono ?_; rintro e w1 ⟨A2, c2, B2, d2, rfl, ho1, hi1, b1⟩; simp only [hopC]; obtain ⟨W2, hW2⟩ : ∃ W, w1.alloc (.cells #[.int .i64 k, .int .i64 n, .int .i64 o, .int .i64 d, .int .i64 ee, .int .i64 c, .slice A2 L c2, .slice B2 N d2] 29 (0, 0)) = W := ⟨_, rfl⟩; have HW2 := Lib.hid hW2; have hG2 : W2.heap[w1.heap.size]? = some (.cells #[.int .i64 k, .int .i64 n, .int .i64 o, .int .i64 d, .int .i64 ee, .int .i64 c, .slice A2 L c2, .slice B2 N d2] 29 (0, 0)) := (by rw [← hW2]; exact heap_alloc_new w1 _); have hb12 : Below w1.heap.size w1 W2 := (by rw [← hW2]; exact Me.below_alloc (Below.refl _ _)); clear hW2; have HO2 : Hid (Me.Own W2 W0.heap.size (.slice A2 L c2) l) := own_belowV ho1.out hb12; have HI2 : Hid (Mi.Own W2 W0.heap.size (.slice B2 N d2) cs) := hi1.out.below hb12; have HB2 : Hid (Below W0.heap.size W0 W2) := b1.out.trans (hb12.mono b1.out.size); obtain ⟨y0, y1, y2, y3, y4, y5, y6, y7⟩ := hx_row (i := ⟨o, d, ee, c⟩) hG2; have HG2 := Lib.hid hG2; clear hG2 hb12; obtain ⟨hf2, HBs⟩ := own_bs HO2.out HLb.out HL.out; have HRi : Hid (Mi.Rd W2 W2.heap.size B2 cs) := own_ri HI2.out)
    | (rw [HW2.out])
    | (go_at_call 10; refine (HK.out A2 c2 B2 d2 _ HRi).mono ?_; rintro e w3 ⟨rfl, b3⟩; have HBs3 : Hid (BySlice w3 A2 L c2 l) := by_below HBs.out b3.out; have HRi3 : Hid (Mi.Rd w3 w3.heap.size B2 cs) := (HRi.out.below b3.out).more b3.out.size; have HG3 : Hid (w3.heap[w1.heap.size]? = some (.cells #[.int .i64 k, .int .i64 n, .int .i64 o, .int .i64 d, .int .i64 ee, .int .i64 c, .slice A2 L c2, .slice B2 N d2] 29 (0, 0))) := (b3.out.block _ (Array.getElem?_eq_some_iff.1 HG2.out).1).trans HG2.out; obtain ⟨u0, u1, u2, u3, u4, u5, u6, u7⟩ := hx_row (i := ⟨o, d, ee, c⟩) HG3.out; have HO3 : Hid (Me.Own w3 W0.heap.size (.slice A2 L c2) l) := own_belowV HO2.out b3.out; have HB3 : Hid (Below W0.heap.size W0 w3) := HB2.out.trans (b3.out.mono HB2.out.size))
    | (go_at_call 11; refine (HP.out A2 c2 B2 d2 _ HBs3 HRi3).mono ?_; rintro e w4 ⟨A4, c4, rfl, HO4, b4⟩))
  have HG4 : Hid (w4.heap[w1.heap.size]? = some (.cells #[.int .i64 k, .int .i64 n, .int .i64 o, .int .i64 d, .int .i64 ee, .int .i64 c, .slice A2 L c2, .slice B2 N d2] 29 (0, 0))) := (b4.out.block _ (Array.getElem?_eq_some_iff.1 HG3.out).1).trans HG3.out
  have hO1 : Me.Own w4 W0.heap.size (.slice A2 L c2) l := own_belowV HO3.out b4.out
  have hB4 : Below W0.heap.size W0 w4 := HB3.out.trans (b4.out.mono HB3.out.size)
  have hlt1 : ∀ x, (Value.slice A2 L c2).ownBlock = some x → W0.heap.size ≤ x ∧ x < w3.heap.size := fun x e => World.ownsRow.lt HO3.out x e
  have hneD : (Value.slice A2 L c2).ownBlock ≠ some w1.heap.size := own_neT hO1 HG4.out (by decide)
  have HGi : Hid (Giv w4 (.slice A2 L c2) L) := ⟨l, HL.out, HLb.out, own_base (B' := 0) hO1 fun _ _ => Nat.zero_le _⟩
  have HDC : Hid (∀ W, But (fun x => (Value.slice A2 L c2).ownBlock = some x) w4 W → W.cell? ⟨w1.heap.size, 6, none⟩ = some (.slice A2 L c2)) := fun W hW => (hx_row (i := ⟨o, d, ee, c⟩) (hW.at_ HG4.out hneD)).2.2.2.2.2.2.1
  have HBB : Hid (∀ W, But (fun x => (Value.slice A2 L c2).ownBlock = some x) w4 W → Below W0.heap.size W0 W) := fun W hW => hB4.trans (hW.below hB4.size fun x e => (hlt1 x e).1)
  have C2 : Hid (∀ W, But (fun x => (Value.slice A2 L c2).ownBlock = some x) w4 W → (convert 24 9 (.slice A4 lp.length c4)).run Try.prog W = .ok (.string (strOf lp)) W) := fun W hW => by
    have o2 := own_same HO4.out fun x e hk => hW.same x hk fun e' => by have := (hlt1 x e').2; have := (World.ownsRow.lt HO4.out x e).1; omega
    obtain ⟨r1, r2, _, _⟩ := Hd.own_rd o2 HLp.out
    exact conv_rd W _ A4 lp c4 r1 r2
  have HND := Lib.hid hneD
  clear hO1 hneD hlt1 hB4 HO4 b4 b3 HO3 HB3 HBs3 HRi3 HG3 HBs HRi HO2 HI2 HB2 HG2 HG4 x0 x1 x2 x3 x4 x5 x6 x7 y0 y1 y2 y3 y4 y5 y6 y7 u0 u1 u2 u3 u4 u5 u6 u7 HC HK HP HW2 hf2 b1 ho1 hi1
  obtain ⟨D, hD⟩ : ∃ D, w1.heap.size = D := ⟨_, rfl⟩
  rw [hD] at HND HDC
  simp only [hD]
  clear hD
  go_loopw [7] (fun v wr => ∃ j : Nat, j ≤ L ∧ v = .int .i64 j ∧ Hid (Giv wr (.slice A2 L c2) L) ∧ Hid (But (fun x => (Value.slice A2 L c2).ownBlock = some x) w4 wr)) (fun v _ => L - (intOf v).toNat)
  case atStart => exact ⟨0, Nat.zero_le _, rfl, HGi.out, But.refl _ _⟩
  case round =>
    obtain ⟨j, hj, rfl, HGV, HBT⟩ := hrel
    have z4 := HDC.out wr HBT.out
    by_cases hlt : j < L
    · obtain ⟨g, y, rfl, hy, hc1, hf1, hob⟩ := HGV.out.cell hlt
      have HOB := Lib.hid hob
      have ht := turn8 hy
      have HT := Lib.hid ht
      have HY : Hid (255 - y < 256) := by show _ < _; omega
      have hDg : ¬ D = g := fun e => HND.out (by rw [hob, e])
      have HDg := Lib.hid hDg
      have ht2 : (255 - (y : Int)) % 256 = ((255 - y : Nat) : Int) := by omega
      have hkL : (j : Int) < (L : Int) := by omega
      clear hob hDg
      go_wp2
      have S0 : wr.drew.cell? ⟨D, 6, none⟩ = some (.slice (some ⟨g, 0, none⟩) L c2) := z4
      have hc2 : wr.drew.cell? ⟨g, j, none⟩ = some (.int .u8 (y : Int)) := hc1
      have hf2 : wr.drew.frozen? ⟨g, j, none⟩ = false := hf1
      refine wp_region_held_drew (S := fun W => W.cell? ⟨D, 6, none⟩ = some (.slice (some ⟨g, 0, none⟩) L c2)) (by kernel_rfl) S0 (fun hHeld => ?_)
      refine wpAnyH_take (i := 0) (v := .pointer (some ⟨D, 2, none⟩)) rfl (by kernel_rfl) (by kernel_rfl) (by kernel_rfl) (fun _ _ _ h => h) (Or.inl ⟨by rfl, ?_⟩) (by first | assumption | exact trivial) ?_
      · intro W hSW; go_simp; try (with_reducible rfl)
      simp only [Act.put, List.getElem_toArray, List.getElem_cons_succ, List.getElem_cons_zero, List.setIfInBounds_toArray, List.set_cons_zero, List.set_cons_succ]
      refine wpAnyH_take (i := 1) (v := .pointer (some ⟨D, 6, none⟩)) rfl (by kernel_rfl) (by kernel_rfl) (by kernel_rfl) (fun _ _ _ h => h) (Or.inl ⟨by rfl, ?_⟩) (by first | assumption | exact trivial) ?_
      · intro W hSW; go_simp; try (with_reducible rfl)
      simp only [Act.put, List.getElem_toArray, List.getElem_cons_succ, List.getElem_cons_zero, List.setIfInBounds_toArray, List.set_cons_zero, List.set_cons_succ]
      refine wpAnyH_take (i := 2) (v := .slice (some ⟨g, 0, none⟩) L c2) rfl (by kernel_rfl) (by kernel_rfl) (by kernel_rfl) (fun _ _ _ h => h) (Or.inl ⟨by rfl, ?_⟩) (by first | assumption | exact trivial) ?_
      · intro W hSW; have q := hSW; go_simp; try (with_reducible rfl)
      simp only [Act.put, List.getElem_toArray, List.getElem_cons_succ, List.getElem_cons_zero, List.setIfInBounds_toArray, List.set_cons_zero, List.set_cons_succ]
      refine wpAnyH_take (i := 3) (v := .int .i64 (j : Int)) rfl (by kernel_rfl) (by kernel_rfl) (by kernel_rfl) (fun _ _ _ h => h) (Or.inl ⟨by rfl, ?_⟩) (by first | assumption | exact trivial) ?_
      · intro W hSW; go_simp; try (with_reducible rfl)
      simp only [Act.put, List.getElem_toArray, List.getElem_cons_succ, List.getElem_cons_zero, List.setIfInBounds_toArray, List.set_cons_zero, List.set_cons_succ]
      refine wpAnyH_take (i := 4) (v := .pointer (some ⟨D, 2, none⟩)) rfl (by kernel_rfl) (by kernel_rfl) (by kernel_rfl) (fun _ _ _ h => h) (Or.inl ⟨by rfl, ?_⟩) (by first | assumption | exact trivial) ?_
      · intro W hSW; go_simp; try (with_reducible rfl)
      simp only [Act.put, List.getElem_toArray, List.getElem_cons_succ, List.getElem_cons_zero, List.setIfInBounds_toArray, List.set_cons_zero, List.set_cons_succ]
      refine wpAnyH_take (i := 5) (v := .pointer (some ⟨D, 6, none⟩)) rfl (by kernel_rfl) (by kernel_rfl) (by kernel_rfl) (fun _ _ _ h => h) (Or.inl ⟨by rfl, ?_⟩) (by first | assumption | exact trivial) ?_
      · intro W hSW; go_simp; try (with_reducible rfl)
      simp only [Act.put, List.getElem_toArray, List.getElem_cons_succ, List.getElem_cons_zero, List.setIfInBounds_toArray, List.set_cons_zero, List.set_cons_succ]
      refine wpAnyH_take (i := 6) (v := .slice (some ⟨g, 0, none⟩) L c2) rfl (by kernel_rfl) (by kernel_rfl) (by kernel_rfl) (fun _ _ _ h => h) (Or.inl ⟨by rfl, ?_⟩) (by first | assumption | exact trivial) ?_
      · intro W hSW; have q := hSW; go_simp; try (with_reducible rfl)
      simp only [Act.put, List.getElem_toArray, List.getElem_cons_succ, List.getElem_cons_zero, List.setIfInBounds_toArray, List.set_cons_zero, List.set_cons_succ]
      refine wpAnyH_take (i := 7) (v := .int .i64 (j : Int)) rfl (by kernel_rfl) (by kernel_rfl) (by kernel_rfl) (fun _ _ _ h => h) (Or.inl ⟨by rfl, ?_⟩) (by first | assumption | exact trivial) ?_
      · intro W hSW; go_simp; try (with_reducible rfl)
      simp only [Act.put, List.getElem_toArray, List.getElem_cons_succ, List.getElem_cons_zero, List.setIfInBounds_toArray, List.set_cons_zero, List.set_cons_succ]
      refine wpAnyH_take (i := 8) (v := .pointer (some ⟨g, j, none⟩)) rfl (by kernel_rfl) (by kernel_rfl) (by kernel_rfl) (fun _ _ _ h => h) (Or.inl ⟨by rfl, ?_⟩) (by first | assumption | exact trivial) ?_
      · intro W hSW; go_simp; try (with_reducible rfl)
      simp only [Act.put, List.getElem_toArray, List.getElem_cons_succ, List.getElem_cons_zero, List.setIfInBounds_toArray, List.set_cons_zero, List.set_cons_succ]
      refine wpAnyH_ready (rs := [9]) (by kernel_rfl) (by simp) ?_
      refine AllReadyH.cons rfl (fun K hK => ?_) AllReadyH.nil
      go_simp
      refine hK.out _ _ (S0) (fun hHeld => ?_)
      clear hK K
      refine wpAnyH_take (i := 10) (v := .int .u8 ((255 - y : Nat) : Int)) rfl (by kernel_rfl) (by kernel_rfl) (by kernel_rfl) (fun _ _ _ h => h) (Or.inl ⟨by rfl, ?_⟩) (by first | assumption | exact trivial) ?_
      · intro W hSW; go_simp; try (with_reducible rfl)
      simp only [Act.put, List.getElem_toArray, List.getElem_cons_succ, List.getElem_cons_zero, List.setIfInBounds_toArray, List.set_cons_zero, List.set_cons_succ]
      refine wpAnyH_take (i := 11) (v := .pointer (some ⟨g, j, none⟩)) rfl (by kernel_rfl) (by kernel_rfl) (by kernel_rfl) (fun _ _ _ h => h) (Or.inl ⟨by rfl, ?_⟩) (by first | assumption | exact trivial) ?_
      · intro W hSW; go_simp; try (with_reducible rfl)
      simp only [Act.put, List.getElem_toArray, List.getElem_cons_succ, List.getElem_cons_zero, List.setIfInBounds_toArray, List.set_cons_zero, List.set_cons_succ]
      refine wpAnyH_ready (rs := [12]) (by kernel_rfl) (by simp) ?_
      refine AllReadyH.cons rfl (fun K hK => ?_) AllReadyH.nil
      go_simp
      refine hK.out _ _ (((World.cell?_of_block (w := wr.drew) (Below.heap_setCell wr.drew ⟨g, j, none⟩ _ D HDg.out)).trans S0)) (fun hHeld => ?_)
      clear hK K
      refine wpAnyH_done (by kernel_rfl) ?_ _
      have HN : Hid (Giv (wr.setCell ⟨g, j, none⟩ (.int .u8 ((255 - y : Nat) : Int))).drew (.slice (some ⟨g, 0, none⟩) L c2) L) := Giv.put (w := wr.drew) HGV.out HY.out
      have HT2 : Hid (But (fun x => (Value.slice (some ⟨g, 0, none⟩) L c2).ownBlock = some x) w4 (wr.setCell ⟨g, j, none⟩ (.int .u8 ((255 - y : Nat) : Int))).drew) := But.set (X := wr.drew) ⟨HBT.out.os, HBT.out.tape, HBT.out.output, HBT.out.size, HBT.out.same⟩ (.inl HOB.out) _
      obtain ⟨W9, hW9⟩ : ∃ W, (wr.setCell ⟨g, j, none⟩ (.int .u8 ((255 - y : Nat) : Int))).drew = W := ⟨_, rfl⟩
      rw [hW9] at HN HT2
      try rw [hW9]
      clear hW9 S0 hc2 hf2 hc1 hf1 z4
      go_wp2
      go_roundw
      case rel => exact ⟨j + 1, by omega, by go_num, HN.out, HT2.out⟩
      case measure => simp [intOf]; omega
    · obtain rfl : j = L := by omega
      have hbw0 := HBB.out wr HBT.out
      have HB0 := Lib.hid hbw0
      obtain ⟨⟨x0, x1, x2, x3, x4, x5, x6, x7⟩, bw⟩ := HX.out wr hbw0
      have HBw := Lib.hid bw
      clear hbw0 bw hlt hj
      go_wp2_with (first
        | (go_at_call 12; refine (HRP.out _ HBw.out).mono ?_; rintro e w5 ⟨A5, c5, rfl, HO5, HB5⟩; have hb5 := Lib.hid (HB0.out.trans (HB5.out.mono HB0.out.size)); obtain ⟨⟨x0, x1, x2, x3, x4, x5, x6, x7⟩, bw⟩ := HX.out w5 hb5.out; have HBw5 := Lib.hid bw; clear bw)
        | (go_at_call 13; refine (HRK.out _ HBw5.out).mono ?_; rintro e w6 ⟨rfl, HB6⟩; have hb6 := Lib.hid (hb5.out.trans (HB6.out.mono hb5.out.size)); have h56 := HB5.out.trans (HB6.out.mono HB5.out.size); have k2 := C2.out w6 (HBT.out.trans (But.of_below (S := fun _ => False) h56) fun _ _ e => e.elim); have k5 := conv_own HO5.out HLp.out HB6.out)
        | (go_at_call 14; refine (awake_any _).mono ?_; rintro e w7 ⟨rfl, HB7⟩))
      go_ret
      exact ⟨rfl, HBW.out.trans ((hb6.out.trans (HB7.out.mono hb6.out.size)).mono HBW.out.size)⟩
end Go.Proofs.Ytohfoieibgmmdaa.Hp
