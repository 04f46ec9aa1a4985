/- Plan's walk. -/
import Derived.Test.YtohfoieibgmmdaaZ18
namespace Go.Proofs.Ytohfoieibgmmdaa.Hp
open Go.RowKit Go.Maps
open Go.Proofs.Ytohfoieibgmmdaa.Me Go.Proofs.Ytohfoieibgmmdaa.Sb
set_option linter.unusedVariables false
set_option linter.unusedSimpArgs false

theorem msg_one' (o d e c : Int) (A : Option Addr) (n k : Nat) : (#[.int .i64 o, .int .i64 d, .int .i64 e, .int .i64 c, .slice A n k] : Array Value).all (·.oneCell') = true := by simp [Value.oneCell']
/-- What a round reads: the message's block, the next hop. -/
def Ss (gm : Nat) (x : Array Value) (vb vo : Nat) (t : Int) (W : World) : Prop := W.heap[gm]? = some (.cells x 26 (0, 0)) ∧ W.cell? ⟨vb, vo, none⟩ = some (.int .i64 t)
theorem own_ne_tyH {w : World} {B T T' s n x : Nat} {v : Value} {xs : List Value} {cs : Array Value} {fr : Nat × Nat} (h : w.ownsRow B T s v n xs) (hx : w.heap[x]? = some (.cells cs T' fr)) (hT : T ≠ T') : some x ≠ v.ownBlock := by
  rcases h.2 with ⟨rfl, _⟩ | ⟨g, cap, cur, rfl, _, h3, _⟩
  · simp [Value.ownBlock]
  · intro e
    obtain rfl : x = g := by simpa [Value.ownBlock] using e
    rw [h3] at hx
    simp at hx
    exact hT hx.2.1
def Nd (mb D : Nat) (A : Option Addr) : Prop := ∀ b off, A = some ⟨b, off, none⟩ → b ≠ mb ∧ b ≠ D
/-- What Plan does. -/
def Pln (w : World) (D mb m : Nat) (dk : Dk) (ls : List Ms) (via up : List Int) (e : Ending) (w' : World) : Prop :=
  ∃ v P m', e = .returned v ∧ Ow w' w.heap.size v P ∧ P.map Fo.o = (planF dk via up ls).2 ∧ m' ≤ m + ls.length ∧ Dq w' D mb m' (planF dk via up ls).1 ∧ But (fun k => k = mb ∨ k = D) w w'
theorem Plan_nil (x y z : Value) (w : World) : Calls Try.prog 28 #[.pointer none, x, y, z] w fun e w' => e = .returned (.slice none 0 0) ∧ w = w' := by
  go_enter Try.func28, Try.ntmps28
  go_wp2
  go_ret
  exact ⟨rfl, rfl⟩
theorem Plan_no (D : Nat) (x z : Value) (A : Option Addr) (n c : Nat) (hn : n ≠ 64) (w : World) : Calls Try.prog 28 #[.pointer (some ⟨D, 0, none⟩), x, .slice A n c, z] w fun e w' => e = .returned (.slice none 0 0) ∧ w = w' := by
  have g : ((n : Int) != 64) = true := bne_iff_ne.mpr (by omega)
  clear hn
  go_enter Try.func28, Try.ntmps28
  go_wp2
  go_ret
  exact ⟨rfl, rfl⟩
set_option maxRecDepth 100000 in
set_option maxHeartbeats 1000000 in
theorem Plan_any (D mb m : Nat) (dk : Dk) (HA : Option Addr) (hc : Nat) (ls : List Ms) (A : Option Addr) (ca : Nat) (via : List Int) (U : Option Addr) (cu : Nat) (up : List Int) (w : World) (h : Hid (Dq w D mb m dk)) (hl : Hid (Hl w HA ls))
    (hv : Hid (Mi.Rd w w.heap.size A via)) (hnv : Hid (Nd mb D A)) (hvl : via.length = 64) (hu : Hid (Mi.Rd w w.heap.size U up)) (hul : up.length ≤ 9223372036854775807) (hm : m ≤ 100000000000000000) (hlen : ls.length ≤ 1000000000000) (hp : dk.passed ≤ 1000000) (hx : dk.next < 65536) :
    Calls Try.prog 28 #[.pointer (some ⟨D, 0, none⟩), .slice HA ls.length hc, .slice A 64 ca, .slice U up.length cu] w (Pln w D mb m dk ls via up) := by
  have HAm := Lib.hid (among_any A ca via U cu up w hv hvl hu hul)
  have HVL := Lib.hid hvl
  have HInv := Lib.hid (planF_inv dk via up hx ls)
  have HMm := Lib.hid hm
  have HLen := Lib.hid hlen
  have HPp := Lib.hid hp
  obtain ⟨n, hn⟩ : ∃ n, up.length = n := ⟨_, rfl⟩
  rw [hn] at HAm ⊢
  obtain ⟨N, hN⟩ : ∃ n, ls.length = n := ⟨_, rfl⟩
  have HN := Lib.hid hN
  rw [hN] at HLen ⊢
  have hNb := HLen.out
  clear hn hvl hul hm hlen hp hx hN
  go_enter Try.func28, Try.ntmps28
  go_wp2_with (first
    | (go_at_call 59; refine HAm.out.mono ?_; rintro e w1 ⟨rfl, b1⟩; have HBX : Hid (Br (w1.alloc (.cells (rowB fun _ => false) 102 (0, 0))) w1.heap.size fun _ => false) := heap_alloc_new w1 _)
    | (refine Mi.allocTo rfl (.pointer (some ⟨_, 0, none⟩)) (.cells (rowB fun _ => false) 102 (0, 0)) (alloc_rowB _ _ rfl _) ?_)
    | (refine wpList_store_row rfl 102 (.tmp 9) (.tmp 25) rfl w1.heap.size (rowB (amB via up)) rfl rfl 102 _ HBX.out (sizeB64 _) rfl (rowB_one _) ?_))
  obtain ⟨W0, hW0⟩ : ∃ W, (w1.alloc (.cells (rowB fun _ => false) 102 (0, 0))).setRow w1.heap.size (rowB (amB via up)) = W := ⟨_, rfl⟩
  have HBe0 : Hid (Below w.heap.size w W0) := by
    show Below _ _ _
    rw [← hW0]
    exact Sb.below_setRow _ (Mi.below_alloc b1.out) b1.out.size
  have HB0 : Hid (But (fun k => k = mb ∨ k = D) w W0) := But.of_below HBe0.out
  have HG0 : Hid (Br W0 w1.heap.size (amB via up)) := by
    show Br _ _ _
    rw [← hW0]
    exact setRow_heap _ _ _ _ _ _ HBX.out
  rw [hW0]
  obtain ⟨g, hg⟩ : ∃ g, w1.heap.size = g := ⟨_, rfl⟩
  have HG : Hid (w.heap.size ≤ g) := by rw [← hg]; exact b1.out.size
  rw [hg] at HG0 ⊢
  clear hW0 hg HBX b1 HAm
  have HDq0 : Hid (Dq W0 D mb m dk) := h.out.below HBe0.out
  go_loopw [10, 28] (fun v10 v28 wr => ∃ (j mj : Nat) (P : List Fo), j ≤ N ∧ v28 = .int .i64 j ∧ Hid (Ow wr w.heap.size v10 P) ∧ Hid (P.map Fo.o = (planF dk via up (ls.take j)).2) ∧ Hid (mj ≤ m + j) ∧ Hid (Dq wr D mb mj (planF dk via up (ls.take j)).1) ∧ Hid (But (fun k => k = mb ∨ k = D) w wr) ∧ Hid (Br wr g (amB via up))) (fun _ v _ => N - (intOf v).toNat)
  case atStart => exact ⟨0, m, [], Nat.zero_le _, rfl, Ow.nil _ _, rfl, (by show _ ≤ _; omega), HDq0, HB0, HG0⟩
  case round =>
    obtain ⟨j, mj, P, hj, rfl, HO, HP, HMJ, HQ, HB, HGb⟩ := hrel
    clear HDq0 HB0 HG0
    by_cases hlt : j < N
    · have hjl : j < ls.length := by rw [HN.out]; exact hlt
      obtain ⟨b, off, R, cr, rfl, h1, c0, c1, c2, c3, c4, hms, hf⟩ := (hl.out.desk h.out HB.out) j hjl
      have hsn : ls.take (j + 1) = ls.take j ++ [msAt ls j] := by
        rw [List.take_add_one, List.getElem?_eq_getElem hjl, msAt_get hjl]
        rfl
      have HS : Hid (planF dk via up (ls.take (j + 1)) = planStep via up (planF dk via up (ls.take j)) (msAt ls j)) := by
        show _ = _
        rw [hsn, planF_snoc]
      obtain ⟨i1, i2, i3, i4⟩ := HInv.out j (by omega)
      obtain ⟨x, hx⟩ : ∃ x, msAt ls j = x := ⟨_, rfl⟩
      rw [hx] at HS c0 c1 c2 c3 c4 hms hf
      obtain ⟨⟨d1, o1⟩, hd1⟩ : ∃ y, planF dk via up (ls.take j) = y := ⟨_, rfl⟩
      rw [hd1] at HS HP HQ i1 i2 i3 i4
      simp only at HP HQ i1 i2 i3 i4
      obtain ⟨⟨o, d, ee, cc⟩, p⟩ := x
      simp only at c0 c1 c2 c3 c4 hms
      have HF := Lib.hid hf
      have HMs := Lib.hid hms
      have HI := Lib.hid (And.intro i2 (And.intro i3 i4))
      have HZ : Hid ((wr.alloc (.cells #[.int .i64 0, .int .i64 0, .int .i64 0, .int .i64 0, .slice none 0 0] 26 (0, 0))).heap[wr.heap.size]? = some (.cells #[.int .i64 0, .int .i64 0, .int .i64 0, .int .i64 0, .slice none 0 0] 26 (0, 0))) := heap_alloc_new wr _
      have HBA : Hid (Below wr.heap.size wr (wr.alloc (.cells #[.int .i64 0, .int .i64 0, .int .i64 0, .int .i64 0, .slice none 0 0] 26 (0, 0)))) := Mi.below_alloc (Below.refl _ _)
      obtain ⟨pn, hpn⟩ : ∃ n, p.length = n := ⟨_, rfl⟩
      rw [hpn] at c4 HMs
      have HPn := Lib.hid hpn
      clear hsn hx hd1 hf hms i1 i2 i3 i4 hpn
      have HM : Hid (((wr.alloc (.cells #[.int .i64 0, .int .i64 0, .int .i64 0, .int .i64 0, .slice none 0 0] 26 (0, 0))).setRow wr.heap.size #[.int .i64 o, .int .i64 d, .int .i64 ee, .int .i64 cc, .slice R pn cr]).heap[wr.heap.size]? = some (.cells #[.int .i64 o, .int .i64 d, .int .i64 ee, .int .i64 cc, .slice R pn cr] 26 (0, 0))) := setRow_heap _ _ _ _ _ _ HZ.out
      have HBB : Hid (Below wr.heap.size wr ((wr.alloc (.cells #[.int .i64 0, .int .i64 0, .int .i64 0, .int .i64 0, .slice none 0 0] 26 (0, 0))).setRow wr.heap.size #[.int .i64 o, .int .i64 d, .int .i64 ee, .int .i64 cc, .slice R pn cr])) := Sb.below_setRow _ HBA.out (Nat.le_refl _)
      obtain ⟨y0, y1, y2, y3, y4⟩ := Mg.bx_row HM.out
      have HIN := Lib.hid (fun W => isNode_any d W)
      have hgo : goB d1 via up ⟨⟨o, d, ee, cc⟩, p⟩ = (isN d && (amB via up d.toNat && !(d1.kept ⟨o, d, ee, cc⟩).isSome)) := rfl
      have HGO := Lib.hid hgo
      clear hgo
      -- nothing is offered: all as it was
      have HNo : Hid (∀ w9, goB d1 via up ⟨⟨o, d, ee, cc⟩, p⟩ = false → Below wr.heap.size wr w9 → ∀ v10, Ow wr w.heap.size v10 P → Hid (Ow w9 w.heap.size v10 P) ∧ Hid (P.map Fo.o = (planF dk via up (ls.take (j + 1))).2) ∧ Hid (mj ≤ m + (j + 1)) ∧ Hid (Dq w9 D mb mj (planF dk via up (ls.take (j + 1))).1) ∧ Hid (But (fun k => k = mb ∨ k = D) w w9) ∧ Hid (Br w9 g (amB via up))) := fun w9 hg9 hb9 v10 ho => by
        have e : planF dk via up (ls.take (j + 1)) = (d1, o1) := by
          rw [HS.out]
          unfold planStep
          simp only [hg9]
          rfl
        rw [e]
        exact ⟨ho.below hb9, HP, (by have := HMJ.out; show _ ≤ _; omega), HQ.out.below hb9, HB.out.trans (But.of_below (S := fun k => k = mb ∨ k = D) hb9) fun _ _ e => e, HGb.out.below hb9⟩
      cases hq1 : isN d with
      | false =>
        rw [hq1] at HIN
        have hno := HNo.out _ (by rw [HGO.out, hq1]; rfl) HBB.out _ HO.out
        obtain ⟨HO2, HP2, HMJ2, HQ2, HB2, HG2⟩ := hno
        clear hq1
        go_wp2_with (first
            | (refine wpList_store_row rfl 26 (.tmp 12) (.tmp 31) rfl wr.heap.size #[.int .i64 o, .int .i64 d, .int .i64 ee, .int .i64 cc, .slice R pn cr] rfl rfl 26 _ HZ.out (by kernel_rfl) rfl (msg_one' _ _ _ _ _ _ _) ?_)
            | (go_at_call 60; refine (HIN.out _).mono ?_; rintro e w5 ⟨rfl, rfl⟩))
        go_roundw
        case rel => exact ⟨j + 1, mj, P, by omega, by go_num, HO2, HP2, HMJ2, HQ2, HB2, HG2⟩
        case measure => simp [intOf]; omega
      | true =>
        rw [hq1] at HIN
        obtain ⟨dn, rfl, hdn⟩ := isN_of hq1
        have HDN := Lib.hid hdn
        have hgc := (HGb.out.below HBB.out).cell hdn
        have HGO2 : Hid (goB d1 via up ⟨⟨o, dn, ee, cc⟩, p⟩ = (amB via up dn && !(d1.kept ⟨o, dn, ee, cc⟩).isSome)) := by
          show _ = _
          rw [HGO.out, hq1, Int.toNat_natCast]
          rfl
        clear hq1
        obtain ⟨qa, hqa⟩ : ∃ q, amB via up dn = q := ⟨_, rfl⟩
        rw [hqa] at hgc HGO2
        have HQA := Lib.hid hqa
        clear hqa
        cases qa with
        | false =>
          have hno := HNo.out _ (by rw [HGO2.out]; rfl) HBB.out _ HO.out
          obtain ⟨HO2, HP2, HMJ2, HQ2, HB2, HG2⟩ := hno
          go_wp2_with (first
            | (refine wpList_store_row rfl 26 (.tmp 12) (.tmp 31) rfl wr.heap.size #[.int .i64 o, .int .i64 (dn : Int), .int .i64 ee, .int .i64 cc, .slice R pn cr] rfl rfl 26 _ HZ.out (by kernel_rfl) rfl (msg_one' _ _ _ _ _ _ _) ?_)
            | (go_at_call 60; refine (HIN.out _).mono ?_; rintro e w5 ⟨rfl, rfl⟩))
          go_roundw
          case rel => exact ⟨j + 1, mj, P, by omega, by go_num, HO2, HP2, HMJ2, HQ2, HB2, HG2⟩
          case measure => simp [intOf]; omega
        | true =>
          go_wp2_with (first
            | (refine wpList_store_row rfl 26 (.tmp 12) (.tmp 31) rfl wr.heap.size #[.int .i64 o, .int .i64 (dn : Int), .int .i64 ee, .int .i64 cc, .slice R pn cr] rfl rfl 26 _ HZ.out (by kernel_rfl) rfl (msg_one' _ _ _ _ _ _ _) ?_)
            | (go_at_call 60; refine (HIN.out _).mono ?_; rintro e w5 ⟨rfl, rfl⟩))
          obtain ⟨WB, hWB⟩ : ∃ W, (wr.alloc (.cells #[.int .i64 0, .int .i64 0, .int .i64 0, .int .i64 0, .slice none 0 0] 26 (0, 0))).setRow wr.heap.size #[.int .i64 o, .int .i64 (dn : Int), .int .i64 ee, .int .i64 cc, .slice R pn cr] = W := ⟨_, rfl⟩
          rw [hWB] at HM HBB ⊢
          clear hWB hgc y0 y1 y2 y3 y4 HZ HBA c0 c1 c2 c3 c4
          obtain ⟨gm, hgm⟩ : ∃ g, wr.heap.size = g := ⟨_, rfl⟩
          have HGm := Lib.hid hgm
          rw [hgm] at HM
          simp only [hgm]
          clear hgm
          have hqB := HQ.out.below HBB.out
          have HQB := Lib.hid hqB
          have hlk := hqB.map.look HF.out
          have HLk : Hid (∀ W : World, W.heap[mb]? = WB.heap[mb]? → (Instr.lookup 83 (.map (some mb)) (.agg #[.int .i64 o, .int .i64 (dn : Int), .int .i64 ee, .int .i64 cc]) true).run Try.prog W = .ok (.tuple #[.agg (sdC (at_ d1.kept ⟨o, dn, ee, cc⟩)), .bool (d1.kept ⟨o, dn, ee, cc⟩).isSome]) W) := fun W hW => (hlk W hW).1
          obtain ⟨sd, hsd⟩ : ∃ s, at_ d1.kept ⟨o, (dn : Int), ee, cc⟩ = s := ⟨_, rfl⟩
          obtain ⟨qk, hqk⟩ : ∃ q, (d1.kept ⟨o, (dn : Int), ee, cc⟩).isSome = q := ⟨_, rfl⟩
          rw [hsd, hqk] at HLk
          have HQK := Lib.hid hqk
          rw [hqk] at HGO2
          obtain ⟨so, st, sn, su⟩ := sd
          simp only [sdC] at HLk
          have HCB : Hid (∀ W, Below WB.heap.size WB W → (Sw gm D #[.int .i64 o, .int .i64 (dn : Int), .int .i64 ee, .int .i64 cc, .slice R pn cr] (dkC d1 mb) W) ∧ W.heap[mb]? = WB.heap[mb]?) := fun W hW => ⟨⟨(hW.block _ (Array.getElem?_eq_some_iff.1 HM.out).1).trans HM.out, (hW.block _ hqB.ltD).trans hqB.box⟩, hW.block _ hqB.ltm⟩
          simp only [dkC] at HCB
          clear hqB hlk hsd hqk
          cases qk with
          | true =>
            have S0 := (Below.refl WB.heap.size WB).drew
            refine wp_region_held_drew (S := fun W => Below WB.heap.size WB W) (by kernel_rfl) S0 (fun hHeld => ?_)
            refine wpAnyH_take (i := 0) (v := .pointer (some ⟨D, 0, none⟩)) rfl (by kernel_rfl) (by kernel_rfl) (by kernel_rfl) (fun _ _ _ h => h) (Or.inl ⟨by rfl, ?_⟩) (by first | assumption | exact trivial) ?_
            · intro W hSW; go_simp; try (with_reducible rfl)
            simp only [Act.put, List.getElem_toArray, List.getElem_cons_succ, List.getElem_cons_zero, List.setIfInBounds_toArray, List.set_cons_zero, List.set_cons_succ]
            refine wpAnyH_take (i := 1) (v := .pointer (some ⟨D, 0, none⟩)) rfl (by kernel_rfl) (by kernel_rfl) (by kernel_rfl) (fun _ _ _ h => h) (Or.inl ⟨by rfl, ?_⟩) (by first | assumption | exact trivial) ?_
            · intro W hSW; go_simp; try (with_reducible rfl)
            simp only [Act.put, List.getElem_toArray, List.getElem_cons_succ, List.getElem_cons_zero, List.setIfInBounds_toArray, List.set_cons_zero, List.set_cons_succ]
            refine wpAnyH_take (i := 2) (v := .pointer (some ⟨D, 3, none⟩)) rfl (by kernel_rfl) (by kernel_rfl) (by kernel_rfl) (fun _ _ _ h => h) (Or.inl ⟨by rfl, ?_⟩) (by first | assumption | exact trivial) ?_
            · intro W hSW; go_simp; try (with_reducible rfl)
            simp only [Act.put, List.getElem_toArray, List.getElem_cons_succ, List.getElem_cons_zero, List.setIfInBounds_toArray, List.set_cons_zero, List.set_cons_succ]
            refine wpAnyH_take (i := 3) (v := .map (some mb)) rfl (by kernel_rfl) (by kernel_rfl) (by kernel_rfl) (fun _ _ _ h => h) (Or.inl ⟨by rfl, ?_⟩) (by first | assumption | exact trivial) ?_
            · intro W hSW; obtain ⟨_, _, _, z⟩ := (HCB.out W hSW).1.c2; go_simp; try (with_reducible rfl)
            simp only [Act.put, List.getElem_toArray, List.getElem_cons_succ, List.getElem_cons_zero, List.setIfInBounds_toArray, List.set_cons_zero, List.set_cons_succ]
            refine wpAnyH_take (i := 4) (v := .pointer (some ⟨gm, 0, none⟩)) rfl (by kernel_rfl) (by kernel_rfl) (by kernel_rfl) (fun _ _ _ h => h) (Or.inl ⟨by rfl, ?_⟩) (by first | assumption | exact trivial) ?_
            · intro W hSW; go_simp; try (with_reducible rfl)
            simp only [Act.put, List.getElem_toArray, List.getElem_cons_succ, List.getElem_cons_zero, List.setIfInBounds_toArray, List.set_cons_zero, List.set_cons_succ]
            refine wpAnyH_take (i := 5) (v := .agg #[.int .i64 o, .int .i64 (dn : Int), .int .i64 ee, .int .i64 cc]) rfl (by kernel_rfl) (by kernel_rfl) (by kernel_rfl) (fun _ _ _ h => h) (Or.inl ⟨by rfl, ?_⟩) (by first | assumption | exact trivial) ?_
            · intro W hSW; obtain ⟨z0, z1, z2, z3, _⟩ := (HCB.out W hSW).1.c1; go_simp; try (with_reducible rfl)
            simp only [Act.put, List.getElem_toArray, List.getElem_cons_succ, List.getElem_cons_zero, List.setIfInBounds_toArray, List.set_cons_zero, List.set_cons_succ]
            refine wpAnyH_take (i := 6) (v := .tuple #[.agg #[.bool so, .int .i64 st, .int .i64 sn, .int .i64 su], .bool true]) rfl (by kernel_rfl) (by kernel_rfl) (by kernel_rfl) (fun _ _ _ h => h) (Or.inl ⟨by rfl, ?_⟩) (by first | assumption | exact trivial) ?_
            · intro W hSW; have z := HLk.out W (HCB.out W hSW).2; go_simp; try (with_reducible rfl)
            simp only [Act.put, List.getElem_toArray, List.getElem_cons_succ, List.getElem_cons_zero, List.setIfInBounds_toArray, List.set_cons_zero, List.set_cons_succ]
            refine wpAnyH_take (i := 7) (v := .tuple #[.agg #[.bool so, .int .i64 st, .int .i64 sn, .int .i64 su], .bool true]) rfl (by kernel_rfl) (by kernel_rfl) (by kernel_rfl) (fun _ _ _ h => h) (Or.inl ⟨by rfl, ?_⟩) (by first | assumption | exact trivial) ?_
            · intro W hSW; go_simp; try (with_reducible rfl)
            simp only [Act.put, List.getElem_toArray, List.getElem_cons_succ, List.getElem_cons_zero, List.setIfInBounds_toArray, List.set_cons_zero, List.set_cons_succ]
            refine wpAnyH_take (i := 8) (v := .agg #[.bool so, .int .i64 st, .int .i64 sn, .int .i64 su]) rfl (by kernel_rfl) (by kernel_rfl) (by kernel_rfl) (fun _ _ _ h => h) (Or.inl ⟨by rfl, ?_⟩) (by first | assumption | exact trivial) ?_
            · intro W hSW; go_simp; try (with_reducible rfl)
            simp only [Act.put, List.getElem_toArray, List.getElem_cons_succ, List.getElem_cons_zero, List.setIfInBounds_toArray, List.set_cons_zero, List.set_cons_succ]
            refine wpAnyH_take (i := 9) (v := .bool true) rfl (by kernel_rfl) (by kernel_rfl) (by kernel_rfl) (fun _ _ _ h => h) (Or.inl ⟨by rfl, ?_⟩) (by first | assumption | exact trivial) ?_
            · intro W hSW; go_simp; try (with_reducible rfl)
            simp only [Act.put, List.getElem_toArray, List.getElem_cons_succ, List.getElem_cons_zero, List.setIfInBounds_toArray, List.set_cons_zero, List.set_cons_succ]
            refine wpAnyH_ready (rs := [10]) (by kernel_rfl) (by simp) ?_
            refine AllReadyH.cons rfl (fun K hK => ?_) AllReadyH.nil
            go_simp
            obtain ⟨V6, hV6⟩ : ∃ V, (WB.alloc (.cells #[.bool false, .int .i64 0, .int .i64 0, .int .i64 0] 95)).drew = V := ⟨_, rfl⟩
            have hb6 : Below WB.heap.size WB V6 := by rw [← hV6]; exact (Mi.below_alloc (Below.refl _ _)).drew
            have hg6 : V6.heap[WB.heap.size]? = some (.cells #[.bool false, .int .i64 0, .int .i64 0, .int .i64 0] 95 (0, 0)) := by rw [← hV6]; exact heap_alloc_new WB _
            rw [hV6]
            obtain ⟨gs, hgs⟩ : ∃ g, WB.heap.size = g := ⟨_, rfl⟩
            rw [hgs] at hg6
            have HGs := Lib.hid hgs
            simp only [hgs]
            clear hV6 hgs
            refine hK.out _ _ (hb6) (fun hHeld => ?_)
            clear hK K
            refine wpAnyH_ready (rs := [11]) (by kernel_rfl) (by simp) ?_
            refine AllReadyH.cons rfl (fun K hK => ?_) AllReadyH.nil
            rw [if_pos (by kernel_rfl)]
            refine wp_store_row 95 (.tmp 14) (.tmp 52) rfl gs #[.bool so, .int .i64 st, .int .i64 sn, .int .i64 su] rfl (by rfl) 95 _ hg6 (by kernel_rfl) rfl (sd_one _ _ _ _) ?_
            simp only [Act.put, List.getElem_toArray, List.getElem_cons_succ, List.getElem_cons_zero, List.setIfInBounds_toArray, List.set_cons_zero, List.set_cons_succ]
            obtain ⟨V7, hV7⟩ : ∃ V, V6.setRow gs #[.bool so, .int .i64 st, .int .i64 sn, .int .i64 su] = V := ⟨_, rfl⟩
            have hb7 : Below WB.heap.size WB V7 := by rw [← hV7]; exact Sb.below_setRow _ hb6 (by rw [HGs.out]; exact Nat.le_refl _)
            rw [hV7]
            clear hV7
            refine hK.out _ _ (hb7) (fun hHeld => ?_)
            clear hK K
            refine wpAnyH_take (i := 12) (v := .bool true) rfl (by kernel_rfl) (by kernel_rfl) (by kernel_rfl) (fun _ _ _ h => h) (Or.inl ⟨by rfl, ?_⟩) (by first | assumption | exact trivial) ?_
            · intro W hSW; go_simp; try (with_reducible rfl)
            simp only [Act.put, List.getElem_toArray, List.getElem_cons_succ, List.getElem_cons_zero, List.setIfInBounds_toArray, List.set_cons_zero, List.set_cons_succ]
            refine wpAnyH_done (by kernel_rfl) ?_ _
            have HB7 := Lib.hid hb7
            clear hHeld S0 hb6 hg6 hb7
            go_wp2
            have hno := HNo.out V7 (by rw [HGO2.out]; rfl) (HBB.out.trans (HB7.out.mono HBB.out.size)) _ HO.out
            obtain ⟨HO2, HP2, HMJ2, HQ2, HB2, HG2⟩ := hno
            go_roundw
            case rel => exact ⟨j + 1, mj, P, by omega, by go_num, HO2, HP2, HMJ2, HQ2, HB2, HG2⟩
            case measure => simp [intOf]; omega
          | false =>
            have S0 := (Below.refl WB.heap.size WB).drew
            refine wp_region_held_drew (S := fun W => Below WB.heap.size WB W) (by kernel_rfl) S0 (fun hHeld => ?_)
            refine wpAnyH_take (i := 0) (v := .pointer (some ⟨D, 0, none⟩)) rfl (by kernel_rfl) (by kernel_rfl) (by kernel_rfl) (fun _ _ _ h => h) (Or.inl ⟨by rfl, ?_⟩) (by first | assumption | exact trivial) ?_
            · intro W hSW; go_simp; try (with_reducible rfl)
            simp only [Act.put, List.getElem_toArray, List.getElem_cons_succ, List.getElem_cons_zero, List.setIfInBounds_toArray, List.set_cons_zero, List.set_cons_succ]
            refine wpAnyH_take (i := 1) (v := .pointer (some ⟨D, 0, none⟩)) rfl (by kernel_rfl) (by kernel_rfl) (by kernel_rfl) (fun _ _ _ h => h) (Or.inl ⟨by rfl, ?_⟩) (by first | assumption | exact trivial) ?_
            · intro W hSW; go_simp; try (with_reducible rfl)
            simp only [Act.put, List.getElem_toArray, List.getElem_cons_succ, List.getElem_cons_zero, List.setIfInBounds_toArray, List.set_cons_zero, List.set_cons_succ]
            refine wpAnyH_take (i := 2) (v := .pointer (some ⟨D, 3, none⟩)) rfl (by kernel_rfl) (by kernel_rfl) (by kernel_rfl) (fun _ _ _ h => h) (Or.inl ⟨by rfl, ?_⟩) (by first | assumption | exact trivial) ?_
            · intro W hSW; go_simp; try (with_reducible rfl)
            simp only [Act.put, List.getElem_toArray, List.getElem_cons_succ, List.getElem_cons_zero, List.setIfInBounds_toArray, List.set_cons_zero, List.set_cons_succ]
            refine wpAnyH_take (i := 3) (v := .map (some mb)) rfl (by kernel_rfl) (by kernel_rfl) (by kernel_rfl) (fun _ _ _ h => h) (Or.inl ⟨by rfl, ?_⟩) (by first | assumption | exact trivial) ?_
            · intro W hSW; obtain ⟨_, _, _, z⟩ := (HCB.out W hSW).1.c2; go_simp; try (with_reducible rfl)
            simp only [Act.put, List.getElem_toArray, List.getElem_cons_succ, List.getElem_cons_zero, List.setIfInBounds_toArray, List.set_cons_zero, List.set_cons_succ]
            refine wpAnyH_take (i := 4) (v := .pointer (some ⟨gm, 0, none⟩)) rfl (by kernel_rfl) (by kernel_rfl) (by kernel_rfl) (fun _ _ _ h => h) (Or.inl ⟨by rfl, ?_⟩) (by first | assumption | exact trivial) ?_
            · intro W hSW; go_simp; try (with_reducible rfl)
            simp only [Act.put, List.getElem_toArray, List.getElem_cons_succ, List.getElem_cons_zero, List.setIfInBounds_toArray, List.set_cons_zero, List.set_cons_succ]
            refine wpAnyH_take (i := 5) (v := .agg #[.int .i64 o, .int .i64 (dn : Int), .int .i64 ee, .int .i64 cc]) rfl (by kernel_rfl) (by kernel_rfl) (by kernel_rfl) (fun _ _ _ h => h) (Or.inl ⟨by rfl, ?_⟩) (by first | assumption | exact trivial) ?_
            · intro W hSW; obtain ⟨z0, z1, z2, z3, _⟩ := (HCB.out W hSW).1.c1; go_simp; try (with_reducible rfl)
            simp only [Act.put, List.getElem_toArray, List.getElem_cons_succ, List.getElem_cons_zero, List.setIfInBounds_toArray, List.set_cons_zero, List.set_cons_succ]
            refine wpAnyH_take (i := 6) (v := .tuple #[.agg #[.bool so, .int .i64 st, .int .i64 sn, .int .i64 su], .bool false]) rfl (by kernel_rfl) (by kernel_rfl) (by kernel_rfl) (fun _ _ _ h => h) (Or.inl ⟨by rfl, ?_⟩) (by first | assumption | exact trivial) ?_
            · intro W hSW; have z := HLk.out W (HCB.out W hSW).2; go_simp; try (with_reducible rfl)
            simp only [Act.put, List.getElem_toArray, List.getElem_cons_succ, List.getElem_cons_zero, List.setIfInBounds_toArray, List.set_cons_zero, List.set_cons_succ]
            refine wpAnyH_take (i := 7) (v := .tuple #[.agg #[.bool so, .int .i64 st, .int .i64 sn, .int .i64 su], .bool false]) rfl (by kernel_rfl) (by kernel_rfl) (by kernel_rfl) (fun _ _ _ h => h) (Or.inl ⟨by rfl, ?_⟩) (by first | assumption | exact trivial) ?_
            · intro W hSW; go_simp; try (with_reducible rfl)
            simp only [Act.put, List.getElem_toArray, List.getElem_cons_succ, List.getElem_cons_zero, List.setIfInBounds_toArray, List.set_cons_zero, List.set_cons_succ]
            refine wpAnyH_take (i := 8) (v := .agg #[.bool so, .int .i64 st, .int .i64 sn, .int .i64 su]) rfl (by kernel_rfl) (by kernel_rfl) (by kernel_rfl) (fun _ _ _ h => h) (Or.inl ⟨by rfl, ?_⟩) (by first | assumption | exact trivial) ?_
            · intro W hSW; go_simp; try (with_reducible rfl)
            simp only [Act.put, List.getElem_toArray, List.getElem_cons_succ, List.getElem_cons_zero, List.setIfInBounds_toArray, List.set_cons_zero, List.set_cons_succ]
            refine wpAnyH_take (i := 9) (v := .bool false) rfl (by kernel_rfl) (by kernel_rfl) (by kernel_rfl) (fun _ _ _ h => h) (Or.inl ⟨by rfl, ?_⟩) (by first | assumption | exact trivial) ?_
            · intro W hSW; go_simp; try (with_reducible rfl)
            simp only [Act.put, List.getElem_toArray, List.getElem_cons_succ, List.getElem_cons_zero, List.setIfInBounds_toArray, List.set_cons_zero, List.set_cons_succ]
            refine wpAnyH_ready (rs := [10]) (by kernel_rfl) (by simp) ?_
            refine AllReadyH.cons rfl (fun K hK => ?_) AllReadyH.nil
            go_simp
            obtain ⟨V6, hV6⟩ : ∃ V, (WB.alloc (.cells #[.bool false, .int .i64 0, .int .i64 0, .int .i64 0] 95)).drew = V := ⟨_, rfl⟩
            have hb6 : Below WB.heap.size WB V6 := by rw [← hV6]; exact (Mi.below_alloc (Below.refl _ _)).drew
            have hg6 : V6.heap[WB.heap.size]? = some (.cells #[.bool false, .int .i64 0, .int .i64 0, .int .i64 0] 95 (0, 0)) := by rw [← hV6]; exact heap_alloc_new WB _
            rw [hV6]
            obtain ⟨gs, hgs⟩ : ∃ g, WB.heap.size = g := ⟨_, rfl⟩
            rw [hgs] at hg6
            have HGs := Lib.hid hgs
            simp only [hgs]
            clear hV6 hgs
            refine hK.out _ _ (hb6) (fun hHeld => ?_)
            clear hK K
            refine wpAnyH_ready (rs := [11]) (by kernel_rfl) (by simp) ?_
            refine AllReadyH.cons rfl (fun K hK => ?_) AllReadyH.nil
            rw [if_pos (by kernel_rfl)]
            refine wp_store_row 95 (.tmp 14) (.tmp 52) rfl gs #[.bool so, .int .i64 st, .int .i64 sn, .int .i64 su] rfl (by rfl) 95 _ hg6 (by kernel_rfl) rfl (sd_one _ _ _ _) ?_
            simp only [Act.put, List.getElem_toArray, List.getElem_cons_succ, List.getElem_cons_zero, List.setIfInBounds_toArray, List.set_cons_zero, List.set_cons_succ]
            obtain ⟨V7, hV7⟩ : ∃ V, V6.setRow gs #[.bool so, .int .i64 st, .int .i64 sn, .int .i64 su] = V := ⟨_, rfl⟩
            have hb7 : Below WB.heap.size WB V7 := by rw [← hV7]; exact Sb.below_setRow _ hb6 (by rw [HGs.out]; exact Nat.le_refl _)
            rw [hV7]
            clear hV7
            refine hK.out _ _ (hb7) (fun hHeld => ?_)
            clear hK K
            refine wpAnyH_take (i := 12) (v := .bool false) rfl (by kernel_rfl) (by kernel_rfl) (by kernel_rfl) (fun _ _ _ h => h) (Or.inl ⟨by rfl, ?_⟩) (by first | assumption | exact trivial) ?_
            · intro W hSW; go_simp; try (with_reducible rfl)
            simp only [Act.put, List.getElem_toArray, List.getElem_cons_succ, List.getElem_cons_zero, List.setIfInBounds_toArray, List.set_cons_zero, List.set_cons_succ]
            refine wpAnyH_done (by kernel_rfl) ?_ _
            have HB7 := Lib.hid hb7
            clear hHeld S0 hb6 hg6 hb7
            obtain ⟨vb, voff, rfl, hvb, hvc⟩ := hv.out (by rw [HVL.out]; decide)
            have hvt := hvc dn (by rw [HVL.out]; exact HDN.out)
            obtain ⟨tt, htt⟩ : ∃ t, Mi.at_ via dn = t := ⟨_, rfl⟩
            rw [htt] at hvt
            have HTT := Lib.hid htt
            have hnd := hnv.out vb voff rfl
            have HW7 : Hid (But (fun k => k = mb ∨ k = D) w V7) := HB.out.trans (But.of_below (S := fun k => k = mb ∨ k = D) (HBB.out.trans (HB7.out.mono HBB.out.size))) fun _ _ e => e
            have HVC : Hid (∀ W, But (fun k => k = mb ∨ k = D) w W → W.cell? ⟨vb, voff + dn, none⟩ = some (.int .i64 tt)) := fun W hW => (World.cell?_of_block (w := w) (w' := W) (a := ⟨vb, voff + dn, none⟩) (hW.same vb hvb (fun e => e.elim hnd.1 hnd.2))).trans hvt
            have HM7 : Hid (V7.heap[gm]? = some (.cells #[.int .i64 o, .int .i64 (dn : Int), .int .i64 ee, .int .i64 cc, .slice R pn cr] 26 (0, 0))) := (HCB.out _ HB7.out).1.1
            have HQ7 : Hid (Dq V7 D mb mj d1) := HQB.out.below HB7.out
            have HO7 : Hid (Ow V7 w.heap.size u10 P) := (HO.out.below HBB.out).below HB7.out
            have HMs7 : Hid (Mg.MsIn V7 R pn cr p) := (HMs.out.below HBB.out).below HB7.out
            have HG7 : Hid (Br V7 g (amB via up)) := (HGb.out.below HBB.out).below HB7.out
            have HGML : Hid (gm ≠ mb ∧ gm ≠ D) := by have h1 := HB.out.size; have h2 := h.out.ltD; have h3 := h.out.ltm; have h4 := HGm.out; exact ⟨by omega, by omega⟩
            clear htt hnd hvt hvb hvc
            obtain ⟨hp2, hx2, hl2⟩ := HI.out
            have HPL : Hid (P.length ≤ 1000000000000) := by
              have e : (P.map Fo.o).length = o1.length := by rw [HP.out]
              rw [List.length_map] at e
              have := HLen.out
              show _ ≤ _
              omega
            have HOf := Lib.hid (fun W (hq : Hid (Dq W D mb mj d1)) (hi : Hid (Mg.MsIn W R pn cr p)) => offer_any D mb mj d1 ⟨o, (dn : Int), ee, cc⟩ tt R pn cr p W hq HF.out (by have := HMJ.out; have := HMm.out; omega) (by rw [hp2]; exact HPp.out) hx2 hi)
            simp only [Mg.msgC, Off, ofC] at HOf
            clear hp2 hx2 hl2 HNo HLk HCB HQB
            go_wp2
            have S0 : Ss gm #[.int .i64 o, .int .i64 (dn : Int), .int .i64 ee, .int .i64 cc, .slice R pn cr] vb (voff + dn) tt V7.drew := ⟨HM7.out, HVC.out V7 HW7.out⟩
            refine wp_region_held_drew (S := Ss gm #[.int .i64 o, .int .i64 (dn : Int), .int .i64 ee, .int .i64 cc, .slice R pn cr] vb (voff + dn) tt) (by kernel_rfl) S0 (fun hHeld => ?_)
            refine wpAnyH_take (i := 0) (v := u10) rfl (by kernel_rfl) (by kernel_rfl) (by kernel_rfl) (fun _ _ _ h => h) (Or.inl ⟨by rfl, ?_⟩) (by first | assumption | exact trivial) ?_
            · intro W hSW; go_simp; try (with_reducible rfl)
            simp only [Act.put, List.getElem_toArray, List.getElem_cons_succ, List.getElem_cons_zero, List.setIfInBounds_toArray, List.set_cons_zero, List.set_cons_succ]
            refine wpAnyH_take (i := 1) (v := .pointer (some ⟨D, 0, none⟩)) rfl (by kernel_rfl) (by kernel_rfl) (by kernel_rfl) (fun _ _ _ h => h) (Or.inl ⟨by rfl, ?_⟩) (by first | assumption | exact trivial) ?_
            · intro W hSW; go_simp; try (with_reducible rfl)
            simp only [Act.put, List.getElem_toArray, List.getElem_cons_succ, List.getElem_cons_zero, List.setIfInBounds_toArray, List.set_cons_zero, List.set_cons_succ]
            refine wpAnyH_take (i := 2) (v := .agg #[.int .i64 o, .int .i64 (dn : Int), .int .i64 ee, .int .i64 cc, .slice R pn cr]) rfl (by kernel_rfl) (by kernel_rfl) (by kernel_rfl) (fun _ _ _ h => h) (Or.inl ⟨by rfl, ?_⟩) (by first | assumption | exact trivial) ?_
            · intro W hSW; obtain ⟨z0, z1, z2, z3, z4⟩ := Mg.bx_row hSW.1; go_simp; try (with_reducible rfl)
            simp only [Act.put, List.getElem_toArray, List.getElem_cons_succ, List.getElem_cons_zero, List.setIfInBounds_toArray, List.set_cons_zero, List.set_cons_succ]
            refine wpAnyH_take (i := 3) (v := .slice (some ⟨vb, voff, none⟩) 64 ca) rfl (by kernel_rfl) (by kernel_rfl) (by kernel_rfl) (fun _ _ _ h => h) (Or.inl ⟨by rfl, ?_⟩) (by first | assumption | exact trivial) ?_
            · intro W hSW; go_simp; try (with_reducible rfl)
            simp only [Act.put, List.getElem_toArray, List.getElem_cons_succ, List.getElem_cons_zero, List.setIfInBounds_toArray, List.set_cons_zero, List.set_cons_succ]
            refine wpAnyH_take (i := 4) (v := .int .i64 (dn : Int)) rfl (by kernel_rfl) (by kernel_rfl) (by kernel_rfl) (fun _ _ _ h => h) (Or.inl ⟨by rfl, ?_⟩) (by first | assumption | exact trivial) ?_
            · intro W hSW; go_simp; try (with_reducible rfl)
            simp only [Act.put, List.getElem_toArray, List.getElem_cons_succ, List.getElem_cons_zero, List.setIfInBounds_toArray, List.set_cons_zero, List.set_cons_succ]
            refine wpAnyH_take (i := 5) (v := .pointer (some ⟨vb, voff + dn, none⟩)) rfl (by kernel_rfl) (by kernel_rfl) (by kernel_rfl) (fun _ _ _ h => h) (Or.inl ⟨by rfl, ?_⟩) (by first | assumption | exact trivial) ?_
            · intro W hSW; have z : ¬ (64 : Int) ≤ (dn : Int) := (by have := HDN.out; omega); go_simp; try (with_reducible rfl)
            simp only [Act.put, List.getElem_toArray, List.getElem_cons_succ, List.getElem_cons_zero, List.setIfInBounds_toArray, List.set_cons_zero, List.set_cons_succ]
            refine wpAnyH_take (i := 6) (v := .int .i64 tt) rfl (by kernel_rfl) (by kernel_rfl) (by kernel_rfl) (fun _ _ _ h => h) (Or.inl ⟨by rfl, ?_⟩) (by first | assumption | exact trivial) ?_
            · intro W hSW; have z := hSW.2; go_simp; try (with_reducible rfl)
            simp only [Act.put, List.getElem_toArray, List.getElem_cons_succ, List.getElem_cons_zero, List.setIfInBounds_toArray, List.set_cons_zero, List.set_cons_succ]
            refine wpAnyH_ready (rs := [7]) (by kernel_rfl) (by simp) ?_
            refine AllReadyH.cons rfl (fun K hK => ?_) AllReadyH.nil
            go_simp
            have HQd : Hid (Dq V7.drew D mb mj d1) := HQ7.out.below (Below.refl _ V7).drew
            have HMd : Hid (Mg.MsIn V7.drew R pn cr p) := HMs7.out.below (Below.refl _ V7).drew
            go_wp2_with (go_at_call 61; refine (HOf.out _ HQd HMd).mono ?_; rintro e w8 ⟨A8, c8, rfl, ho8, hq8, hb8⟩; simp only [ofC])
            have hW8 : But (fun k => k = mb ∨ k = D) w w8 := (HW7.out.trans (But.of_below (S := fun k => k = mb ∨ k = D) (Below.refl _ V7).drew) fun _ _ e => e).trans hb8 fun _ _ e => e
            have S8 : Ss gm #[.int .i64 o, .int .i64 (dn : Int), .int .i64 ee, .int .i64 cc, .slice R pn cr] vb (voff + dn) tt w8 := ⟨(hb8.same gm (by show gm < V7.heap.size; exact (Array.getElem?_eq_some_iff.1 HM7.out).1) (fun e => e.elim HGML.out.1 HGML.out.2)).trans HM7.out, HVC.out w8 hW8⟩
            have hO8 : Ow w8 w.heap.size u10 P := (HO7.out.below (Below.refl _ V7).drew).butP hb8 (fun k e => by have h2 := h.out.ltD; have h3 := h.out.ltm; rcases e with e | e <;> omega)
            have ho8' : Me.Own w8 w.heap.size (.slice A8 p.length c8) p := own_base ho8 fun k e => Nat.le_trans HW7.out.size (World.ownsRow.lt ho8 k e).1
            have hG8 : Br w8 g (amB via up) := (hb8.same g (by show g < V7.heap.size; exact HG7.out.lt) (fun e => by have h2 := h.out.ltD; have h3 := h.out.ltm; have h4 := HG.out; rcases e with e | e <;> omega)).trans HG7.out
            refine hK.out _ _ (S8) (fun hHeld => ?_)
            clear hK K
            refine wpAnyH_ready (rs := [8]) (by kernel_rfl) (by simp) ?_
            refine AllReadyH.cons rfl (fun K hK => ?_) AllReadyH.nil
            go_simp
            obtain ⟨W9, hW9⟩ : ∃ V, w8.alloc (.cells #[.int .i64 tt, .int .i64 (d1.next : Int), .int .i64 o, .int .i64 (dn : Int), .int .i64 ee, .int .i64 cc, .slice A8 p.length c8] 68) = V := ⟨_, rfl⟩
            have hb9 : Below w8.heap.size w8 W9 := by rw [← hW9]; exact Mi.below_alloc (Below.refl _ _)
            have hz9 : W9.heap[w8.heap.size]? = some (.cells #[.int .i64 tt, .int .i64 (d1.next : Int), .int .i64 o, .int .i64 (dn : Int), .int .i64 ee, .int .i64 cc, .slice A8 p.length c8] 68 (0, 0)) := by rw [← hW9]; exact heap_alloc_new w8 _
            rw [hW9]
            clear hW9
            have hO9 := hO8.below hb9
            have ho9 : Me.Own W9 w.heap.size (.slice A8 p.length c8) p := own_same ho8' fun k _ hk => hb9.block k hk
            have hW9b : But (fun k => k = mb ∨ k = D) w W9 := hW8.trans (But.of_below (S := fun k => k = mb ∨ k = D) hb9) fun _ _ e => e
            have S9 : Ss gm #[.int .i64 o, .int .i64 (dn : Int), .int .i64 ee, .int .i64 cc, .slice R pn cr] vb (voff + dn) tt W9 := ⟨(hb9.block _ (Array.getElem?_eq_some_iff.1 S8.1).1).trans S8.1, HVC.out W9 hW9b⟩
            have hq9 := hq8.below hb9
            have hG9 := hG8.below hb9
            refine hK.out _ _ (S9) (fun hHeld => ?_)
            clear hK K
            refine wpAnyH_ready (rs := [9]) (by kernel_rfl) (by simp) ?_
            refine AllReadyH.cons rfl (fun K hK => ?_) AllReadyH.nil
            rw [if_pos (by kernel_rfl)]
            refine appOf (.tmp 56) (.tmp 64) rfl w.heap.size u10 P ⟨tt, d1.next, ⟨o, (dn : Int), ee, cc⟩, p, A8, c8⟩ w8.heap.size rfl hO9 ho9 rfl (fun j' u' hj' => ?_) HPL.out hW9b.size ?_
            · rw [cell_of_row W9 w8.heap.size j' _ _ (0, 0) hz9]
              simpa [qV, Fo.v] using hj'
            intro v10 W10 hO10 hg10 hk10
            simp only [Act.put, List.getElem_toArray, List.getElem_cons_succ, List.getElem_cons_zero, List.setIfInBounds_toArray, List.set_cons_zero, List.set_cons_succ]
            have hne10 : ∀ k cs (T : TypeId) fr, W9.heap[k]? = some (Obj.cells cs T fr) → 68 ≠ T → W10.heap[k]? = W9.heap[k]? := fun k cs T fr hk hT => hg10.block k (Array.getElem?_eq_some_iff.1 hk).1 (own_ne_tyH hO9.own hk hT)
            have hmb10 : W10.heap[mb]? = W9.heap[mb]? := hg10.block mb hq9.ltm (by
              intro e
              have := hk10 mb e.symm
              have := h.out.ltm
              omega)
            have hW10b : But (fun k => k = mb ∨ k = D) w W10 := hW9b.grown hg10 fun r e => .inr (hk10 r e)
            have S10 : Ss gm #[.int .i64 o, .int .i64 (dn : Int), .int .i64 ee, .int .i64 cc, .slice R pn cr] vb (voff + dn) tt W10 := ⟨(hne10 _ _ _ _ S9.1 (by decide)).trans S9.1, HVC.out W10 hW10b⟩
            have hq10 : Dq W10 D mb (if (d1.kept ⟨o, (dn : Int), ee, cc⟩).isSome = true then mj else mj + 1) (offK d1 ⟨o, (dn : Int), ee, cc⟩ tt) := hq9.keep (hne10 _ _ _ _ hq9.box (by decide)) hmb10
            have hG10 : Br W10 g (amB via up) := (hne10 _ _ _ _ hG9 (by decide)).trans hG9
            refine hK.out _ _ (S10) (fun hHeld => ?_)
            clear hK K
            refine wpAnyH_take (i := 10) (v := v10) rfl (by kernel_rfl) (by kernel_rfl) (by kernel_rfl) (fun _ _ _ h => h) (Or.inl ⟨by rfl, ?_⟩) (by first | assumption | exact trivial) ?_
            · intro W hSW; go_simp; try (with_reducible rfl)
            simp only [Act.put, List.getElem_toArray, List.getElem_cons_succ, List.getElem_cons_zero, List.setIfInBounds_toArray, List.set_cons_zero, List.set_cons_succ]
            refine wpAnyH_done (by kernel_rfl) ?_ _
            have HO2 := Lib.hid hO10
            have HB2 := Lib.hid hW10b
            have HG2 := Lib.hid hG10
            have HST : Hid (planF dk via up (ls.take (j + 1)) = (offK d1 ⟨o, (dn : Int), ee, cc⟩ tt, o1 ++ [⟨tt, d1.next, ⟨o, (dn : Int), ee, cc⟩, p⟩])) := by
              show _ = _
              rw [HS.out]
              unfold planStep
              simp only [HGO2.out, Bool.not_false, Bool.and_self, if_true, Int.toNat_natCast, HTT.out]
            have HP2 : Hid ((P ++ [(⟨tt, d1.next, ⟨o, (dn : Int), ee, cc⟩, p, A8, c8⟩ : Fo)]).map Fo.o = (planF dk via up (ls.take (j + 1))).2) := by
              show _ = _
              rw [HST.out, List.map_append, HP.out]
              rfl
            have HQ2 : Hid (Dq W10 D mb (mj + 1) (planF dk via up (ls.take (j + 1))).1) := by
              show Dq _ _ _ _ _
              rw [HST.out]
              rw [HQK.out] at hq10
              exact hq10
            have HMJ2 : Hid (mj + 1 ≤ m + (j + 1)) := by have := HMJ.out; show _ ≤ _; omega
            clear hHeld S0 S8 S9 S10 hO8 hO9 hO10 ho8 ho8' ho9 hG8 hG9 hG10 hq8 hq9 hq10 hW8 hW9b hW10b hz9 hb8 hb9 hg10 hk10 hne10 hmb10
            go_wp2
            go_roundw
            case rel => exact ⟨j + 1, mj + 1, _, by omega, by go_num, HO2, HP2, HMJ2, HQ2, HB2, HG2⟩
            case measure => simp [intOf]; omega
    · have HK : Hid (j = N) := by show _ = _; omega
      go_wp2
      go_ret
      have e : ls.take j = ls := List.take_of_length_le (by rw [HN.out, HK.out]; exact Nat.le_refl _)
      rw [e] at HP HQ
      exact ⟨_, P, mj, rfl, HO.out, HP.out, (by have := HMJ.out; have := HK.out; have := HN.out; omega), HQ.out, HB.out⟩
end Go.Proofs.Ytohfoieibgmmdaa.Hp
