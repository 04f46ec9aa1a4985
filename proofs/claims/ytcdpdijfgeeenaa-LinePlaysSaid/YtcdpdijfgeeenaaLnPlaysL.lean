/- The walk of the law LinePlays. -/
import Derived.Test.YtcdpdijfgeeenaaLnPlays
import Derived.Test.YtcdpdijfgeeenaaLnWoke
namespace Go.Proofs.Ytcdpdijfgeeenaa.Li
open Go.RowKit
open Go.Proofs.Ytcdpdijfgeeenaa.Sb
set_option linter.unusedVariables false
set_option linter.unusedSimpArgs false

set_option maxRecDepth 100000 in
theorem linePlays_bad (d : Int) (v : Value) (w : World) (h : d < 0 ∨ 64 < d) : Calls Try.prog 3 #[.int .i64 d, v] w fun e w' => e = .returned (.bool true) ∧ Below w.heap.size w w' := by
  have HN := Lib.hid (New_bad d h w)
  have HR := Lib.hid (RNew_bad d h w)
  have HA := Lib.hid awake_any
  clear h
  go_enter Try.func3, Try.ntmps3
  go_wp2_with (first
    | (go_at_call 7; refine HN.out.mono ?_; rintro e w1 ⟨rfl, rfl⟩)
    | (go_at_call 8; refine HR.out.mono ?_; rintro e w2 ⟨rfl, HB2⟩; have HZ2 : Hid (Bl (w2.alloc (.cells (lnV 0 none 0 0) 29)) w2.heap.size 0 none 0 0) := heap_alloc_new w2 _)
    | (refine Mi.allocTo rfl (.pointer (some ⟨_, 0, none⟩)) (.cells (lnV 0 none 0 0) 29 (0, 0)) (alloc_ln _ _ rfl _) ?_)
    | (refine wpList_store_row rfl 29 (.tmp 7) (.tmp 20) rfl w2.heap.size (lnV 0 none 0 0) rfl rfl 29 _ HZ2.out (ln_size _ _ _ _) rfl (ln_one _ _ _ _) ?_
       have hb3 : Below w2.heap.size w2 ((w2.alloc (.cells (lnV 0 none 0 0) 29)).setRow w2.heap.size (lnV 0 none 0 0)) := Sb.below_setRow _ (Me.below_alloc (Below.refl _ _)) (Nat.le_refl _)
       have HB3 := Lib.hid hb3
       clear hb3)
    | (go_at_call 9; refine (HA.out _).mono ?_; rintro e w4 ⟨rfl, HB4⟩))
  go_ret
  exact ⟨rfl, go_on (go_on HB2.out HB3.out) HB4.out⟩
set_option maxRecDepth 100000 in
set_option maxHeartbeats 8000000 in
theorem linePlays (dl : Int) (A0 : Option Addr) (len cap : Nat) (ls : List Ac) (w : World) (hw0 : (Lit.int .i64 dl).wf = true) (hP : len = ls.length ∧ len ≤ cap ∧ cap ≤ 9223372036854775807 ∧ Acts w A0 ls) :
    Calls Try.prog 3 #[.int .i64 dl, .slice A0 len cap] w fun e w' => e = .returned (.bool true) ∧ Below w.heap.size w w' := by
  by_cases hbad : dl < 0 ∨ 64 < dl
  · exact linePlays_bad dl _ w hbad
  obtain ⟨d, rfl⟩ : ∃ d : Nat, dl = (d : Int) := ⟨dl.toNat, by omega⟩
  have hd : d ≤ 64 := by omega
  clear hbad hw0
  obtain ⟨hlen, hlc, hcm, hacts⟩ := hP
  have HAC := Lib.hid hacts
  have HN := Lib.hid (New_s w.heap.size (fun _ => False) d hd w (Nat.le_refl _) (fun _ h => h.elim))
  have HR := Lib.hid (fun W => RNew_ok d hd W)
  have HA := Lib.hid awake_any
  obtain ⟨n0, hn0⟩ : ∃ n, ls.length = n := ⟨_, rfl⟩
  have HNL : Hid (ls.length = n0) := hn0
  rw [hn0] at hlen
  subst hlen
  have hn9 : (len : Int) ≤ 9223372036854775807 := by omega
  clear hacts hn0
  go_enter Try.func3, Try.ntmps3
  go_wp2_with (first
    | (go_at_call 7; refine HN.out.mono ?_; rintro e w1 ⟨rfl, HL1, HB1⟩)
    | (go_at_call 8; refine (HR.out w1).mono ?_; rintro e w2 ⟨rfl, HB2⟩; have HZ2 : Hid (Bl (w2.alloc (.cells (lnV 0 none 0 0) 29)) w2.heap.size 0 none 0 0) := heap_alloc_new w2 _)
    | (refine Mi.allocTo rfl (.pointer (some ⟨_, 0, none⟩)) (.cells (lnV 0 none 0 0) 29 (0, 0)) (alloc_ln _ _ rfl _) ?_)
    | (refine wpList_store_row rfl 29 (.tmp 7) (.tmp 20) rfl w2.heap.size (lnV d none 0 0) rfl rfl 29 _ HZ2.out (ln_size _ _ _ _) rfl (ln_one _ _ _ _) ?_
       have hb3 : Below w2.heap.size w2 ((w2.alloc (.cells (lnV 0 none 0 0) 29)).setRow w2.heap.size (lnV d none 0 0)) := Sb.below_setRow _ (Me.below_alloc (Below.refl _ _)) (Nat.le_refl _)
       have hz3 : Bl ((w2.alloc (.cells (lnV 0 none 0 0) 29)).setRow w2.heap.size (lnV d none 0 0)) w2.heap.size d none 0 0 := setRow_heap _ _ _ _ _ _ HZ2.out
       have HB3 := Lib.hid hb3
       have HZ3 := Lib.hid hz3
       clear hb3 hz3))
  obtain ⟨w3, hw3⟩ : ∃ W, (w2.alloc (.cells (lnV 0 none 0 0) 29)).setRow w2.heap.size (lnV d none 0 0) = W := ⟨_, rfl⟩
  obtain ⟨g, hg⟩ : ∃ x, w2.heap.size = x := ⟨_, rfl⟩
  have HBo0 : Hid (Bo w w3 w.heap.size g (newL d) none 0 0) := by
    rw [← hw3, ← hg]
    have hb13 := go_on HB2.out HB3.out
    exact ⟨HL1.out.below hb13, RW.nil0 _, HZ3.out, HB1.out.trans (hb13.mono HB1.out.size), Nat.le_trans HB1.out.size HB2.out.size⟩
  rw [hw3, hg]
  clear hw3 hg HZ2 HZ3 HB3
  go_loopw [9] (fun u9 wr => ∃ (i : Nat) (s : Ln) (A : Option Addr) (n c : Nat), i ≤ len ∧ i ≤ 100 ∧ u9 = .int .i64 (i : Int) ∧ Hid (Bo w wr w.heap.size g s A n c) ∧ Hid (s.delay = d ∧ s.passed ≤ i)) (fun u9 _ => 100 - (intOf u9).toNat)
  case atStart => exact ⟨0, newL d, none, 0, 0, Nat.zero_le _, Nat.zero_le _, rfl, HBo0, rfl, Nat.le_refl _⟩
  case round =>
    obtain ⟨i, s, A, n, c, hi, hi1, rfl, HBo, HSd⟩ := hrel
    clear HBo0
    by_cases hil : i < len
    · by_cases hi0 : i < 100
      · have q1 : (i : Int) < (len : Int) := by omega
        have q1' : decide ((i : Int) < (len : Int)) = true := decide_eq_true q1
        have q2 : (i : Int) < 100 := by omega
        have q4 : i < len := hil
        obtain ⟨b, off, R, cr, hAe, hbl, x0, x1, x2, x3, hain⟩ := HAC.out i (by rw [HNL.out]; exact hil)
        subst hAe
        obtain ⟨a, hae⟩ : ∃ a, acAt ls i = a := ⟨_, rfl⟩
        rw [hae] at x0 x1 x2 x3 hain
        have HRG : Hid (∀ W, Below w.heap.size w W → W.rangeAt b (off + i * 4) (acV a.k a.d a.v R a.p.length cr).toList) := fun W hW j v hv => by
          have e : ∀ q, W.cell? ⟨b, q, none⟩ = w.cell? ⟨b, q, none⟩ := fun q => hW.cell (p := ⟨b, q, none⟩) hbl
          rw [e]
          match j, hv with
          | 0, hv => simp [acV] at hv; subst hv; exact x0
          | 1, hv => simp [acV] at hv; subst hv; exact x1
          | 2, hv => simp [acV] at hv; subst hv; exact x2
          | 3, hv => simp [acV] at hv; subst hv; exact x3
          | j + 4, hv => simp [acV] at hv
        have HIN := Lib.hid hain
        have y3 : wr.cell? ⟨b, off + i * 4 + 3, none⟩ = some (.slice R a.p.length cr) := (HBo.out.bel.cell (p := ⟨b, off + i * 4 + 3, none⟩) hbl).trans x3
        have hpsz := Nat.le_trans hain.le hain.sz
        clear x0 x1 x2 x3 hain hae
        by_cases hlong : 3000 < a.p.length
        · obtain ⟨pl, hpl⟩ : ∃ x, a.p.length = x := ⟨_, rfl⟩
          rw [hpl] at y3 hlong
          have q5 : (3000 : Int) < (pl : Int) := by omega
          go_wp2
          go_roundw
          case rel => exact ⟨i + 1, s, A, n, c, by omega, by omega, by go_num, HBo, HSd.out.1, Nat.le_succ_of_le HSd.out.2⟩
          case measure => simp [intOf]; omega
        · have HPL : Hid (∀ W, Lr w.heap.size (fun _ => False) W w.heap.size s → RW W A n c (ways s) → Below w.heap.size w W → Calls Try.prog 10 #[.pointer (some ⟨w.heap.size, 0, none⟩), .agg (lnV d A n c), .agg (acV a.k a.d a.v R a.p.length cr)] W fun e w' => ∃ A' n' c', e = .returned (.tuple #[.agg (lnV d A' n' c'), .bool true]) ∧ Hid (Pst w.heap.size W w.heap.size (actS s a) A' n' c' w')) := fun W h1 h2 h3 => by
            have := play_any w.heap.size W w.heap.size s A n c a R cr h1 h2 (HIN.out.below h3) (by have := HSd.out.2; omega) (by omega)
            rw [HSd.out.1] at this
            exact this
          obtain ⟨pl, hpl⟩ : ∃ x, a.p.length = x := ⟨_, rfl⟩
          rw [hpl] at y3 hlong HRG HPL
          have q5 : ¬ (3000 : Int) < (pl : Int) := by omega
          have HD2 : Hid ((actS s a).delay = d) := (actS_delay s a).trans HSd.out.1
          have HP2 : Hid ((actS s a).passed ≤ i + 1) := Nat.le_trans (actS_passed s a) (Nat.succ_le_succ HSd.out.2)
          obtain ⟨s', hs'⟩ : ∃ x, actS s a = x := ⟨_, rfl⟩
          rw [hs'] at HPL HD2 HP2
          have HBx : Hid (Bl wr g d A n c) := by
            have := HBo.out.bx
            rw [HSd.out.1] at this
            exact this
          have HGm := Lib.hid HBo.out.gm
          clear hpl hs' hpsz
          go_wp2
          refine wp_region_held_drew (S := fun W => Bl W g d A n c ∧ Below w.heap.size w W) (by kernel_rfl) ⟨HBx.out, HBo.out.bel.drew⟩ (fun hHeld => ?_)
          refine wpAnyH_take (i := 0) (v := .pointer (some ⟨w.heap.size, 0, none⟩)) rfl (by kernel_rfl) (by kernel_rfl) (by kernel_rfl) (fun _ _ _ h => h) (Or.inl ⟨by rfl, ?_⟩) (by first | assumption | exact trivial) ?_
          · intro W hSW; go_simp; try (with_reducible rfl)
          simp only [Act.put, List.getElem_toArray, List.getElem_cons_succ, List.getElem_cons_zero, List.setIfInBounds_toArray, List.set_cons_zero, List.set_cons_succ]
          refine wpAnyH_take (i := 1) (v := .agg (lnV d A n c)) rfl (by kernel_rfl) (by kernel_rfl) (by kernel_rfl) (fun _ _ _ h => h) (yieldsIf_load_ln (by rfl) (.tmp 7) rfl g rfl d A n c (fun W hW => hW.1)) (by first | assumption | exact trivial) ?_
          simp only [Act.put, List.getElem_toArray, List.getElem_cons_succ, List.getElem_cons_zero, List.setIfInBounds_toArray, List.set_cons_zero, List.set_cons_succ]
          refine wpAnyH_take (i := 2) (v := .slice (some ⟨b, off, none⟩) len cap) rfl (by kernel_rfl) (by kernel_rfl) (by kernel_rfl) (fun _ _ _ h => h) (Or.inl ⟨by rfl, ?_⟩) (by first | assumption | exact trivial) ?_
          · intro W hSW; go_simp; try (with_reducible rfl)
          simp only [Act.put, List.getElem_toArray, List.getElem_cons_succ, List.getElem_cons_zero, List.setIfInBounds_toArray, List.set_cons_zero, List.set_cons_succ]
          refine wpAnyH_take (i := 3) (v := .int .i64 (i : Int)) rfl (by kernel_rfl) (by kernel_rfl) (by kernel_rfl) (fun _ _ _ h => h) (Or.inl ⟨by rfl, ?_⟩) (by first | assumption | exact trivial) ?_
          · intro W hSW; go_simp; try (with_reducible rfl)
          simp only [Act.put, List.getElem_toArray, List.getElem_cons_succ, List.getElem_cons_zero, List.setIfInBounds_toArray, List.set_cons_zero, List.set_cons_succ]
          refine wpAnyH_take (i := 4) (v := .pointer (some ⟨b, off + i * 4, none⟩)) rfl (by kernel_rfl) (by kernel_rfl) (by kernel_rfl) (fun _ _ _ h => h) (Or.inl ⟨by rfl, ?_⟩) (by first | assumption | exact trivial) ?_
          · intro W hSW; go_simp; try (with_reducible rfl)
          simp only [Act.put, List.getElem_toArray, List.getElem_cons_succ, List.getElem_cons_zero, List.setIfInBounds_toArray, List.set_cons_zero, List.set_cons_succ]
          refine wpAnyH_take (i := 5) (v := .agg (acV a.k a.d a.v R pl cr)) rfl (by kernel_rfl) (by kernel_rfl) (by kernel_rfl) (fun _ _ _ h => h) (yieldsIf_load_mid (by rfl) 35 (.tmp 57) rfl b (off + i * 4) rfl (acV a.k a.d a.v R pl cr).toList _ (fun W hW => HRG.out W hW.2) Try.underlying35 rfl (ac_size _ _ _ _ _ _)) (by first | assumption | exact trivial) ?_
          simp only [Act.put, List.getElem_toArray, List.getElem_cons_succ, List.getElem_cons_zero, List.setIfInBounds_toArray, List.set_cons_zero, List.set_cons_succ]
          refine wpAnyH_ready (rs := [6, 10]) (by kernel_rfl) (by simp) ?_
          refine AllReadyH.cons rfl (fun K hK => ?pa) (AllReadyH.cons rfl (fun K hK => ?pb) AllReadyH.nil)
          case' pa =>
            go_simp
            go_wp2_with (go_at_call 10; refine (HPL.out wr.drew (HBo.out.lr.below (Below.refl _ wr).drew) (HBo.out.rw.below (Below.refl _ wr).drew) HBo.out.bel.drew).mono ?_; rintro e w4 ⟨A', n', c', rfl, hp4⟩)
            have hbx4 : Bl w4 g d A n c := ok2_bl (M := w.heap.size) hp4.out.2.2 (w := wr.drew) HBx.out
            have hbl4 : Below w.heap.size w w4 := HBo.out.bel.drew.trans (hp4.out.2.2.below (by exact HBo.out.bel.size) fun k hk => hk.1)
            have hsz4 : wr.heap.size ≤ w4.heap.size := hp4.out.2.2.size
            refine hK.out _ _ (⟨hbx4, hbl4⟩) (fun hHeld => ?_)
            clear hK K
            refine wpAnyH_take (i := 7) (v := .tuple #[.agg (lnV d A' n' c'), .bool true]) rfl (by kernel_rfl) (by kernel_rfl) (by kernel_rfl) (fun _ _ _ h => h) (Or.inl ⟨by rfl, ?_⟩) (by first | assumption | exact trivial) ?_
            · intro W hSW; go_simp; try (with_reducible rfl)
            simp only [Act.put, List.getElem_toArray, List.getElem_cons_succ, List.getElem_cons_zero, List.setIfInBounds_toArray, List.set_cons_zero, List.set_cons_succ]
            refine wpAnyH_take (i := 8) (v := .agg (lnV d A' n' c')) rfl (by kernel_rfl) (by kernel_rfl) (by kernel_rfl) (fun _ _ _ h => h) (Or.inl ⟨by rfl, ?_⟩) (by first | assumption | exact trivial) ?_
            · intro W hSW; go_simp; try (with_reducible rfl)
            simp only [Act.put, List.getElem_toArray, List.getElem_cons_succ, List.getElem_cons_zero, List.setIfInBounds_toArray, List.set_cons_zero, List.set_cons_succ]
            refine wpAnyH_take (i := 9) (v := .bool true) rfl (by kernel_rfl) (by kernel_rfl) (by kernel_rfl) (fun _ _ _ h => h) (Or.inl ⟨by rfl, ?_⟩) (by first | assumption | exact trivial) ?_
            · intro W hSW; go_simp; try (with_reducible rfl)
            simp only [Act.put, List.getElem_toArray, List.getElem_cons_succ, List.getElem_cons_zero, List.setIfInBounds_toArray, List.set_cons_zero, List.set_cons_succ]
            refine wpAnyH_ready (rs := [10]) (by kernel_rfl) (by simp) ?_
            refine AllReadyH.cons rfl (fun K hK => ?_) AllReadyH.nil
            rw [if_pos (by kernel_rfl)]
            refine wp_alloc_ln2 rfl w4.heap.size rfl ?_
            simp only [Act.put, List.getElem_toArray, List.getElem_cons_succ, List.getElem_cons_zero, List.setIfInBounds_toArray, List.set_cons_zero, List.set_cons_succ]
            have hal : Below w4.heap.size w4 (w4.alloc (.cells (lnV 0 none 0 0) 29)) := Me.below_alloc (Below.refl _ _)
            have hx6 : Bl (w4.alloc (.cells (lnV 0 none 0 0) 29)) w4.heap.size 0 none 0 0 := heap_alloc_new w4 _
            have hl6 := hp4.out.2.1.below hal
            have hr6 := hp4.out.1.below hal
            have hbx6 := hbx4.below hal
            have hb6 := hbl4.trans (hal.mono hbl4.size)
            obtain ⟨V6, hV6⟩ : ∃ X, w4.alloc (.cells (lnV 0 none 0 0) 29) = X := ⟨_, rfl⟩
            obtain ⟨g10, hg10⟩ : ∃ X, w4.heap.size = X := ⟨_, rfl⟩
            have hG10 : wr.heap.size ≤ g10 := by rw [← hg10]; exact hsz4
            rw [hV6] at hx6 hl6 hr6 hbx6 hb6 ⊢
            rw [hg10] at hx6 ⊢
            clear hV6 hg10 hal
            refine hK.out _ _ (⟨hbx6, hb6⟩) (fun hHeld => ?_)
            clear hK K
          case' pb =>
            rw [if_pos (by kernel_rfl)]
            refine wp_alloc_ln2 rfl wr.heap.size rfl ?_
            simp only [Act.put, List.getElem_toArray, List.getElem_cons_succ, List.getElem_cons_zero, List.setIfInBounds_toArray, List.set_cons_zero, List.set_cons_succ]
            have hb5 : Below wr.heap.size wr (wr.drew.alloc (.cells (lnV 0 none 0 0) 29)) := (Me.below_alloc (Below.refl _ wr)).drew
            have hx5 : Bl (wr.drew.alloc (.cells (lnV 0 none 0 0) 29)) wr.heap.size 0 none 0 0 := heap_alloc_new wr.drew _
            obtain ⟨V5, hV5⟩ : ∃ X, wr.drew.alloc (.cells (lnV 0 none 0 0) 29) = X := ⟨_, rfl⟩
            obtain ⟨g10, hg10⟩ : ∃ X, wr.heap.size = X := ⟨_, rfl⟩
            have hG10 : wr.heap.size ≤ g10 := Nat.le_of_eq hg10
            rw [hV5] at hx5 hb5 ⊢
            rw [hg10] at hx5 ⊢
            clear hV5 hg10
            have hbel5 : Below w.heap.size w V5 := HBo.out.bel.trans (hb5.mono HBo.out.bel.size)
            have hbx5 : Bl V5 g d A n c := HBx.out.below hb5
            refine hK.out _ _ (⟨hbx5, hbel5⟩) (fun hHeld => ?_)
            clear hK K
            refine wpAnyH_ready (rs := [6]) (by kernel_rfl) (by simp) ?_
            refine AllReadyH.cons rfl (fun K hK => ?_) AllReadyH.nil
            go_simp
            go_wp2_with (go_at_call 10; refine (HPL.out V5 (HBo.out.lr.below hb5) (HBo.out.rw.below hb5) hbel5).mono ?_; rintro e w4 ⟨A', n', c', rfl, hp4⟩)
            have hbx6 : Bl w4 g d A n c := ok2_bl hp4.out.2.2 hbx5
            have hx6 : Bl w4 g10 0 none 0 0 := ok2_bl hp4.out.2.2 hx5
            have hb6 : Below w.heap.size w w4 := hbel5.trans (hp4.out.2.2.below hbel5.size fun k hk => hk.1)
            have hl6 := hp4.out.2.1
            have hr6 := hp4.out.1
            refine hK.out _ _ (⟨hbx6, hb6⟩) (fun hHeld => ?_)
            clear hK K
            refine wpAnyH_take (i := 7) (v := .tuple #[.agg (lnV d A' n' c'), .bool true]) rfl (by kernel_rfl) (by kernel_rfl) (by kernel_rfl) (fun _ _ _ h => h) (Or.inl ⟨by rfl, ?_⟩) (by first | assumption | exact trivial) ?_
            · intro W hSW; go_simp; try (with_reducible rfl)
            simp only [Act.put, List.getElem_toArray, List.getElem_cons_succ, List.getElem_cons_zero, List.setIfInBounds_toArray, List.set_cons_zero, List.set_cons_succ]
            refine wpAnyH_take (i := 8) (v := .agg (lnV d A' n' c')) rfl (by kernel_rfl) (by kernel_rfl) (by kernel_rfl) (fun _ _ _ h => h) (Or.inl ⟨by rfl, ?_⟩) (by first | assumption | exact trivial) ?_
            · intro W hSW; go_simp; try (with_reducible rfl)
            simp only [Act.put, List.getElem_toArray, List.getElem_cons_succ, List.getElem_cons_zero, List.setIfInBounds_toArray, List.set_cons_zero, List.set_cons_succ]
            refine wpAnyH_take (i := 9) (v := .bool true) rfl (by kernel_rfl) (by kernel_rfl) (by kernel_rfl) (fun _ _ _ h => h) (Or.inl ⟨by rfl, ?_⟩) (by first | assumption | exact trivial) ?_
            · intro W hSW; go_simp; try (with_reducible rfl)
            simp only [Act.put, List.getElem_toArray, List.getElem_cons_succ, List.getElem_cons_zero, List.setIfInBounds_toArray, List.set_cons_zero, List.set_cons_succ]
            obtain ⟨V6, hV6⟩ : ∃ X, w4 = X := ⟨_, rfl⟩
            rw [hV6] at hx6 hl6 hr6 hbx6 hb6 ⊢
          all_goals
            have hgl := HBx.out.lt
            have hst := Bo.store (w0 := w) (A := A) (n := n) (c := c) hl6 hr6 hx6 hbx6 hb6 HGm.out (Nat.le_trans HBo.out.bel.size hG10) (by omega) HD2.out
            have hX7 := Lib.hid hst.1
            have hG7 := Lib.hid hst.2.1
            have HBo8 := Lib.hid hst.2.2
            have hb7 : Below w.heap.size w (V6.setRow g10 (lnV d A' n' c')) := Sb.below_setRow _ hb6 (Nat.le_trans HBo.out.bel.size hG10)
            clear hst
            refine wpAnyH_ready (rs := [11]) (by kernel_rfl) (by simp) ?_
            refine AllReadyH.cons rfl (fun K hK => ?_) AllReadyH.nil
            rw [if_pos (by kernel_rfl)]
            refine wp_store_row 29 (.tmp 10) (.tmp 60) rfl g10 (lnV d A' n' c') rfl rfl 29 _ hx6 (ln_size _ _ _ _) rfl (ln_one _ _ _ _) ?_
            obtain ⟨V7, hV7⟩ : ∃ X, V6.setRow g10 (lnV d A' n' c') = X := ⟨_, rfl⟩
            rw [hV7] at hX7 hG7 HBo8 hb7 ⊢
            clear hV7 hx6 hl6 hr6 hbx6 hb6 hgl
            refine hK.out _ _ (⟨hG7.out, hb7⟩) (fun hHeld => ?_)
            clear hK K
            refine wpAnyH_take (i := 12) (v := .bool true) rfl (by kernel_rfl) (by kernel_rfl) (by kernel_rfl) (fun _ _ _ h => h) (Or.inl ⟨by rfl, ?_⟩) (by first | assumption | exact trivial) ?_
            · intro W hSW; go_simp; try (with_reducible rfl)
            simp only [Act.put, List.getElem_toArray, List.getElem_cons_succ, List.getElem_cons_zero, List.setIfInBounds_toArray, List.set_cons_zero, List.set_cons_succ]
            refine wpAnyH_done (by kernel_rfl) ?_ _
            clear y3 HBo HBx HPL HRG
            go_wp2_with (first
              | (refine wpList_load_row rfl 29 (.tmp 10) rfl g10 rfl 29 _ (0, 0) _ hX7.out Try.underlying29 rfl (ln_size _ _ _ _) ?_)
              | (refine wpList_store_row rfl 29 (.tmp 7) (.tmp 62) rfl g (lnV d A' n' c') rfl rfl 29 _ hG7.out (ln_size _ _ _ _) rfl (ln_one _ _ _ _) ?_))
            obtain ⟨V8, hV8⟩ : ∃ X, V7.setRow g (lnV d A' n' c') = X := ⟨_, rfl⟩
            rw [hV8] at HBo8 ⊢
            clear hV8 hX7 hG7 hb7
            have hnl : n' = s'.bs.length := HBo8.out.rw.len.trans (ways_len HBo8.out.lr.ok)
            have HBy : Hid (∀ W, Lr w.heap.size (fun _ => False) W w.heap.size s' → Calls Try.prog 11 #[.pointer (some ⟨w.heap.size, 0, none⟩)] W fun e w' => ∃ B nb cb, e = .returned (.slice B nb cb) ∧ (∀ W', Below w'.heap.size w' W' → (convert 33 9 (.slice B nb cb)).run Try.prog W' = .ok (.string (Me.strOf s'.bs)) W') ∧ Hid (Below W.heap.size W w')) := fun W hW => by
              refine (Bytes_s (Lib.hid hW)).mono ?_
              rintro e w' ⟨rfl, g1, g2⟩
              exact ⟨_, _, _, rfl, fun W' hW' => own_conv (own_same (Sb.own_base g1.out (B' := 0) fun _ _ => Nat.zero_le _) fun k _ hk => hW'.block k hk) hW.ok.byte rfl 0, g2⟩
            have HRy : Hid (∀ W, RW W A' n' c' (ways s') → Calls Try.prog 12 #[.agg (lnV d A' n' c')] W fun e w' => ∃ B nb cb, e = .returned (.slice B nb cb) ∧ (∀ W', Below w'.heap.size w' W' → (convert 33 9 (.slice B nb cb)).run Try.prog W' = .ok (.string (Me.strOf s'.bs)) W') ∧ Hid (Below W.heap.size W w')) := fun W hW => by
              have h1 := RBytes_s HBo8.out.lr.ok A' n' c' W (Lib.hid hW)
              rw [HD2.out] at h1
              refine h1.mono ?_
              rintro e w' ⟨v, rfl, g1, _, g2⟩
              obtain ⟨B, cb, rfl, _⟩ := own_read g1.out HBo8.out.lr.ok.byte
              exact ⟨B, _, cb, rfl, fun W' hW' => own_conv (own_same g1.out fun k _ hk => hW'.block k hk) HBo8.out.lr.ok.byte rfl 0, g2⟩
            have HLn : Hid (∀ W, Lr w.heap.size (fun _ => False) W w.heap.size s' → Calls Try.prog 13 #[.pointer (some ⟨w.heap.size, 0, none⟩)] W fun e w' => e = .returned (.int .i64 (n' : Int)) ∧ W = w') := fun W hW => by
              rw [hnl]
              exact Len_s (Lib.hid hW)
            obtain ⟨SB, hSB⟩ : ∃ x, Me.strOf s'.bs = x := ⟨_, rfl⟩
            rw [hSB] at HBy HRy
            have HBx8 : Hid (Bl V8 g d A' n' c') := by
              have := HBo8.out.bx
              rw [HD2.out] at this
              exact this
            clear hnl hSB
            refine wp_region_held_drew (S := fun W => Bl W g d A' n' c') (by kernel_rfl) HBx8.out (fun hHeld => ?_)
            refine wpAnyH_take (i := 0) (v := .bool true) rfl (by kernel_rfl) (by kernel_rfl) (by kernel_rfl) (fun _ _ _ h => h) (Or.inl ⟨by rfl, ?_⟩) (by first | assumption | exact trivial) ?_
            · intro W hSW; go_simp; try (with_reducible rfl)
            simp only [Act.put, List.getElem_toArray, List.getElem_cons_succ, List.getElem_cons_zero, List.setIfInBounds_toArray, List.set_cons_zero, List.set_cons_succ]
            refine wpAnyH_take (i := 1) (v := .bool false) rfl (by kernel_rfl) (by kernel_rfl) (by kernel_rfl) (fun _ _ _ h => h) (Or.inl ⟨by rfl, ?_⟩) (by first | assumption | exact trivial) ?_
            · intro W hSW; go_simp; try (with_reducible rfl)
            simp only [Act.put, List.getElem_toArray, List.getElem_cons_succ, List.getElem_cons_zero, List.setIfInBounds_toArray, List.set_cons_zero, List.set_cons_succ]
            refine wpAnyH_take (i := 2) (v := .bool false) rfl (by kernel_rfl) (by kernel_rfl) (by kernel_rfl) (fun _ _ _ h => h) (Or.inl ⟨by rfl, ?_⟩) (by first | assumption | exact trivial) ?_
            · intro W hSW; go_simp; try (with_reducible rfl)
            simp only [Act.put, List.getElem_toArray, List.getElem_cons_succ, List.getElem_cons_zero, List.setIfInBounds_toArray, List.set_cons_zero, List.set_cons_succ]
            refine wpAnyH_take (i := 3) (v := .pointer (some ⟨w.heap.size, 0, none⟩)) rfl (by kernel_rfl) (by kernel_rfl) (by kernel_rfl) (fun _ _ _ h => h) (Or.inl ⟨by rfl, ?_⟩) (by first | assumption | exact trivial) ?_
            · intro W hSW; go_simp; try (with_reducible rfl)
            simp only [Act.put, List.getElem_toArray, List.getElem_cons_succ, List.getElem_cons_zero, List.setIfInBounds_toArray, List.set_cons_zero, List.set_cons_succ]
            refine wpAnyH_take (i := 6) (v := .agg (lnV d A' n' c')) rfl (by kernel_rfl) (by kernel_rfl) (by kernel_rfl) (fun _ _ _ h => h) (yieldsIf_load_ln (by rfl) (.tmp 7) rfl g rfl d A' n' c' (fun W hW => hW)) (by first | assumption | exact trivial) ?_
            simp only [Act.put, List.getElem_toArray, List.getElem_cons_succ, List.getElem_cons_zero, List.setIfInBounds_toArray, List.set_cons_zero, List.set_cons_succ]
            refine wpAnyH_ready (rs := [4]) (by kernel_rfl) (by simp) ?_
            refine AllReadyH.cons rfl (fun K hK => ?_) AllReadyH.nil
            go_simp
            go_wp2_with (go_at_call 11; refine (HBy.out V8.drew (HBo8.out.lr.below (Below.refl _ V8).drew)).mono ?_; rintro e w9 ⟨B9, n9, c9, rfl, hc9, hb9⟩)
            have hb89 : Below V8.heap.size V8 w9 := (Below.refl _ V8).drew.trans hb9.out
            have hx9 : Bl w9 g d A' n' c' := HBx8.out.below hb89
            have HC9 := Lib.hid hc9
            clear hc9
            refine hK.out _ _ (hx9) (fun hHeld => ?_)
            clear hK K
            refine wpAnyH_up (S' := fun W => Bl W g d A' n' c' ∧ (convert 33 9 (.slice B9 n9 c9)).run Try.prog W = .ok (.string SB) W) (fun _ h => h.1) ?_
            have hHeld2 : Bl w9 g d A' n' c' ∧ (convert 33 9 (.slice B9 n9 c9)).run Try.prog w9 = .ok (.string SB) w9 := ⟨hx9, HC9.out w9 (Below.refl _ _)⟩
            refine wpAnyH_take (i := 5) (v := .string SB) rfl (by kernel_rfl) (by kernel_rfl) (by kernel_rfl) (fun _ _ _ h => h) (Or.inl ⟨by rfl, ?_⟩) (by first | assumption | exact trivial) ?_
            · intro W hSW; have y := hSW.2; go_simp; try (with_reducible rfl)
            simp only [Act.put, List.getElem_toArray, List.getElem_cons_succ, List.getElem_cons_zero, List.setIfInBounds_toArray, List.set_cons_zero, List.set_cons_succ]
            refine wpAnyH_ready (rs := [7]) (by kernel_rfl) (by simp) ?_
            refine AllReadyH.cons rfl (fun K hK => ?_) AllReadyH.nil
            go_simp
            go_wp2_with (go_at_call 12; refine (HRy.out w9 (HBo8.out.rw.below hb89)).mono ?_; rintro e w10 ⟨B10, n10, c10, rfl, hc10, hb10⟩)
            have hx10 : Bl w10 g d A' n' c' := hx9.below hb10.out
            have HC10 := Lib.hid hc10
            clear hc10
            refine hK.out _ _ (⟨hx10, HC9.out w10 hb10.out⟩) (fun hHeld => ?_)
            clear hK K
            refine wpAnyH_up (S' := fun W => (Bl W g d A' n' c' ∧ (convert 33 9 (.slice B9 n9 c9)).run Try.prog W = .ok (.string SB) W) ∧ (convert 33 9 (.slice B10 n10 c10)).run Try.prog W = .ok (.string SB) W) (fun _ h => h.1) ?_
            have hHeld3 : (Bl w10 g d A' n' c' ∧ (convert 33 9 (.slice B9 n9 c9)).run Try.prog w10 = .ok (.string SB) w10) ∧ (convert 33 9 (.slice B10 n10 c10)).run Try.prog w10 = .ok (.string SB) w10 := ⟨⟨hx10, HC9.out w10 hb10.out⟩, HC10.out w10 (Below.refl _ _)⟩
            refine wpAnyH_take (i := 8) (v := .string SB) rfl (by kernel_rfl) (by kernel_rfl) (by kernel_rfl) (fun _ _ _ h => h) (Or.inl ⟨by rfl, ?_⟩) (by first | assumption | exact trivial) ?_
            · intro W hSW; have y := hSW.2; go_simp; try (with_reducible rfl)
            simp only [Act.put, List.getElem_toArray, List.getElem_cons_succ, List.getElem_cons_zero, List.setIfInBounds_toArray, List.set_cons_zero, List.set_cons_succ]
            refine wpAnyH_take (i := 9) (v := .bool false) rfl (by kernel_rfl) (by kernel_rfl) (by kernel_rfl) (fun _ _ _ h => h) (Or.inl ⟨by rfl, ?_⟩) (by first | assumption | exact trivial) ?_
            · intro W hSW; go_simp; try (with_reducible rfl)
            simp only [Act.put, List.getElem_toArray, List.getElem_cons_succ, List.getElem_cons_zero, List.setIfInBounds_toArray, List.set_cons_zero, List.set_cons_succ]
            refine wpAnyH_take (i := 10) (v := .bool false) rfl (by kernel_rfl) (by kernel_rfl) (by kernel_rfl) (fun _ _ _ h => h) (Or.inl ⟨by rfl, ?_⟩) (by first | assumption | exact trivial) ?_
            · intro W hSW; go_simp; try (with_reducible rfl)
            simp only [Act.put, List.getElem_toArray, List.getElem_cons_succ, List.getElem_cons_zero, List.setIfInBounds_toArray, List.set_cons_zero, List.set_cons_succ]
            refine wpAnyH_take (i := 11) (v := .bool false) rfl (by kernel_rfl) (by kernel_rfl) (by kernel_rfl) (fun _ _ _ h => h) (Or.inl ⟨by rfl, ?_⟩) (by first | assumption | exact trivial) ?_
            · intro W hSW; go_simp; try (with_reducible rfl)
            simp only [Act.put, List.getElem_toArray, List.getElem_cons_succ, List.getElem_cons_zero, List.setIfInBounds_toArray, List.set_cons_zero, List.set_cons_succ]
            refine wpAnyH_take (i := 12) (v := .pointer (some ⟨w.heap.size, 0, none⟩)) rfl (by kernel_rfl) (by kernel_rfl) (by kernel_rfl) (fun _ _ _ h => h) (Or.inl ⟨by rfl, ?_⟩) (by first | assumption | exact trivial) ?_
            · intro W hSW; go_simp; try (with_reducible rfl)
            simp only [Act.put, List.getElem_toArray, List.getElem_cons_succ, List.getElem_cons_zero, List.setIfInBounds_toArray, List.set_cons_zero, List.set_cons_succ]
            refine wpAnyH_take (i := 14) (v := .pointer (some ⟨g, 1, none⟩)) rfl (by kernel_rfl) (by kernel_rfl) (by kernel_rfl) (fun _ _ _ h => h) (Or.inl ⟨by rfl, ?_⟩) (by first | assumption | exact trivial) ?_
            · intro W hSW; go_simp; try (with_reducible rfl)
            simp only [Act.put, List.getElem_toArray, List.getElem_cons_succ, List.getElem_cons_zero, List.setIfInBounds_toArray, List.set_cons_zero, List.set_cons_succ]
            refine wpAnyH_take (i := 15) (v := .slice A' n' c') rfl (by kernel_rfl) (by kernel_rfl) (by kernel_rfl) (fun _ _ _ h => h) (Or.inl ⟨by rfl, ?_⟩) (by first | assumption | exact trivial) ?_
            · intro W hSW; have y := hSW.1.1.cells.2; go_simp; try (with_reducible rfl)
            simp only [Act.put, List.getElem_toArray, List.getElem_cons_succ, List.getElem_cons_zero, List.setIfInBounds_toArray, List.set_cons_zero, List.set_cons_succ]
            refine wpAnyH_take (i := 16) (v := .int .i64 (n' : Int)) rfl (by kernel_rfl) (by kernel_rfl) (by kernel_rfl) (fun _ _ _ h => h) (Or.inl ⟨by rfl, ?_⟩) (by first | assumption | exact trivial) ?_
            · intro W hSW; go_simp; try (with_reducible rfl)
            simp only [Act.put, List.getElem_toArray, List.getElem_cons_succ, List.getElem_cons_zero, List.setIfInBounds_toArray, List.set_cons_zero, List.set_cons_succ]
            refine wpAnyH_ready (rs := [13]) (by kernel_rfl) (by simp) ?_
            refine AllReadyH.cons rfl (fun K hK => ?_) AllReadyH.nil
            go_simp
            go_wp2_with (go_at_call 13; refine (HLn.out w10 (HBo8.out.lr.below (hb89.trans (hb10.out.mono hb89.size)))).mono ?_; rintro e w11 ⟨rfl, rfl⟩)
            refine hK.out _ _ (hHeld3) (fun hHeld => ?_)
            clear hK K
            refine wpAnyH_take (i := 17) (v := .bool false) rfl (by kernel_rfl) (by kernel_rfl) (by kernel_rfl) (fun _ _ _ h => h) (Or.inl ⟨by rfl, ?_⟩) (by first | assumption | exact trivial) ?_
            · intro W hSW; go_simp; try (with_reducible rfl)
            simp only [Act.put, List.getElem_toArray, List.getElem_cons_succ, List.getElem_cons_zero, List.setIfInBounds_toArray, List.set_cons_zero, List.set_cons_succ]
            refine wpAnyH_take (i := 18) (v := .bool false) rfl (by kernel_rfl) (by kernel_rfl) (by kernel_rfl) (fun _ _ _ h => h) (Or.inl ⟨by rfl, ?_⟩) (by first | assumption | exact trivial) ?_
            · intro W hSW; go_simp; try (with_reducible rfl)
            simp only [Act.put, List.getElem_toArray, List.getElem_cons_succ, List.getElem_cons_zero, List.setIfInBounds_toArray, List.set_cons_zero, List.set_cons_succ]
            refine wpAnyH_done (by kernel_rfl) ?_ _
            have hb810 : Below V8.heap.size V8 w10 := hb89.trans (hb10.out.mono hb89.size)
            go_wp2
            go_roundw
            case rel => exact ⟨i + 1, s', A', n', c', by omega, by omega, by go_num, HBo8.out.below hb810, HD2.out, HP2.out⟩
            case measure => simp [intOf]; omega
      · obtain rfl : i = 100 := by omega
        have q1 : (100 : Int) < (len : Int) := by omega
        have hbel := HBo.out.bel
        go_wp2_with (go_at_call 9; refine (HA.out _).mono ?_; rintro e w4 ⟨rfl, HB4⟩)
        go_ret
        exact ⟨rfl, hbel.trans (HB4.out.mono hbel.size)⟩
    · have q1 : ¬ (i : Int) < (len : Int) := by omega
      have hbel := HBo.out.bel
      go_wp2_with (go_at_call 9; refine (HA.out _).mono ?_; rintro e w4 ⟨rfl, HB4⟩)
      go_ret
      exact ⟨rfl, hbel.trans (HB4.out.mono hbel.size)⟩
end Go.Proofs.Ytcdpdijfgeeenaa.Li
