/- Has. -/
import Derived.Test.YtfnlhfelpdkieaaGreatZ13
import Derived.Test.YtfnlhfelpdkieaaGreatZ15
import Derived.Test.YtfnlhfelpdkieaaGreatZ17
import Derived.Test.YtfnlhfelpdkieaaGreatZ18
import Derived.Lib.SlBytesConst
namespace Go.Proofs.YtfnlhfelpdkieaaGreat.Se
open Go.RowKit
open Go.Proofs.YtfnlhfelpdkieaaGreat.Me Go.Proofs.YtfnlhfelpdkieaaGreat.Sb
set_option linter.unusedVariables false
set_option linter.unusedSimpArgs false

end Go.Proofs.YtfnlhfelpdkieaaGreat.Se
/- What a store is asked: Fresh, Find, Seen. -/
namespace Go.Proofs.YtfnlhfelpdkieaaGreat.So
open Go.RowKit
open Go.Proofs.YtfnlhfelpdkieaaGreat.Me Go.Proofs.YtfnlhfelpdkieaaGreat.Sb
set_option linter.unusedVariables false
set_option linter.unusedSimpArgs false

theorem frN_cases (s : Sto) (d : Int) : (s.epoch = 0 ∧ frN s d = 7) ∨ (¬ s.epoch = 0 ∧ ¬ (0 ≤ d ∧ d < 64) ∧ frN s d = 1) ∨ (¬ s.epoch = 0 ∧ (0 ≤ d ∧ d < 64) ∧ d = s.self ∧ frN s d = 2) ∨ (¬ s.epoch = 0 ∧ (0 ≤ d ∧ d < 64) ∧ ¬ d = s.self ∧ s.last d.toNat = 65535 ∧ frN s d = 10) ∨ (¬ s.epoch = 0 ∧ (0 ≤ d ∧ d < 64) ∧ ¬ d = s.self ∧ ¬ s.last d.toNat = 65535 ∧ frN s d = 0) := by
  unfold frN
  by_cases h1 : s.epoch = 0
  · exact .inl ⟨h1, if_pos h1⟩
  · rw [if_neg h1]
    by_cases h2 : 0 ≤ d ∧ d < 64
    · rw [if_neg (fun h => h h2)]
      by_cases h3 : d = s.self
      · rw [if_pos h3]; exact .inr (.inr (.inl ⟨h1, h2, h3, rfl⟩))
      · rw [if_neg h3]
        by_cases h4 : s.last d.toNat = 65535
        · rw [if_pos h4]; exact .inr (.inr (.inr (.inl ⟨h1, h2, h3, h4, rfl⟩)))
        · rw [if_neg h4]; exact .inr (.inr (.inr (.inr ⟨h1, h2, h3, h4, rfl⟩)))
    · rw [if_pos h2]; exact .inr (.inl ⟨h1, h2, rfl⟩)
theorem box_zero (w : World) : Below w.heap.size w (w.alloc (.cells #[.int .i64 0, .int .i64 0, .int .i64 0, .int .i64 0] 43)) := Me.below_alloc (Below.refl _ _)
set_option maxRecDepth 100000 in
set_option maxHeartbeats 4000000 in
theorem Fresh_nil (d : Int) (w : World) : Calls Tryz.prog 27 #[.pointer none, .int .i64 d] w fun e w' => e = .returned (.tuple #[.agg (Mg.idC zeroI), .int .i64 7]) ∧ Hid (Below w.heap.size w w') := by
  obtain ⟨V, hV⟩ : ∃ V, (w.alloc (.cells #[.int .i64 0, .int .i64 0, .int .i64 0, .int .i64 0] 43)).setRow w.heap.size #[.int .i64 0, .int .i64 0, .int .i64 0, .int .i64 0] = V := ⟨_, rfl⟩
  have hbV : Below w.heap.size w V := by rw [← hV]; exact Sb.below_setRow _ (Me.below_alloc (Below.refl _ _)) (Nat.le_refl _)
  have hxV : V.heap[w.heap.size]? = some (.cells #[.int .i64 0, .int .i64 0, .int .i64 0, .int .i64 0] 43 (0, 0)) := by rw [← hV]; exact setRow_heap _ _ _ _ _ _ (heap_alloc_new w _)
  have HV := Lib.hid hV
  have HXV := Lib.hid hxV
  have HBV := Lib.hid hbV
  clear hV hbV hxV
  simp only [Mg.idC, zeroI]
  go_enter Tryz.func27, Tryz.ntmps27
  go_wp2_with (refine wpList_store_row rfl 43 (.tmp 4) (.tmp 16) rfl w.heap.size #[.int .i64 0, .int .i64 0, .int .i64 0, .int .i64 0] rfl rfl 43 _ (heap_alloc_new w _) (by kernel_rfl) rfl (by kernel_rfl) ?_; rw [HV.out])
  exact Sb.ret_box2 (g := w.heap.size) rfl (by rfl) HXV.out rfl Tryz.underlying43 (by kernel_rfl) rfl ⟨rfl, HBV.out⟩
section
variable (E : Nat → Prop) (D hb sd sb m : Nat) (v : Value) (s : Sto) (w : World)
set_option maxRecDepth 100000 in
set_option maxHeartbeats 8000000 in
theorem Fresh_any (d : Int) (hS : Hid (Sq E w D hb sd sb m v s)) : Calls Tryz.prog 27 #[.pointer (some ⟨D, 0, none⟩), .int .i64 d] w fun e w' => e = .returned (.tuple #[.agg (Mg.idC (frI s d)), .int .i64 (frN s d : Int)]) ∧ Hid (Below w.heap.size w w') := by
  have HN := Lib.hid (fun W => isNode_any d W)
  have hb1 : Below w.heap.size w (w.alloc (.cells #[.int .i64 0, .int .i64 0, .int .i64 0, .int .i64 0] 43)) := box_zero w
  have hx1 := heap_alloc_new w (.cells #[.int .i64 0, .int .i64 0, .int .i64 0, .int .i64 0] 43)
  have hS1 := hS.out.below hb1
  have ce0 := hS.out.box.epoch
  have cs0 := hS.out.box.self
  have ce := hS1.box.epoch
  have cs := hS1.box.self
  obtain ⟨V, hV⟩ : ∃ V, (w.alloc (.cells #[.int .i64 0, .int .i64 0, .int .i64 0, .int .i64 0] 43)).setRow w.heap.size #[.int .i64 0, .int .i64 0, .int .i64 0, .int .i64 0] = V := ⟨_, rfl⟩
  have hbV : Below w.heap.size w V := by rw [← hV]; exact Sb.below_setRow _ hb1 (Nat.le_refl _)
  have hxV : V.heap[w.heap.size]? = some (.cells #[.int .i64 0, .int .i64 0, .int .i64 0, .int .i64 0] 43 (0, 0)) := by rw [← hV]; exact setRow_heap _ _ _ _ _ _ hx1
  have HX1 := Lib.hid hx1
  have HV := Lib.hid hV
  have HXV := Lib.hid hxV
  have HBV := Lib.hid hbV
  have HB1 := Lib.hid hb1
  have HS1 := Lib.hid hS1
  have hdn : ¬ D = w.heap.size := by have := hS.out.box.lt; omega
  have hII : frN s d ≠ 0 → frI s d = zeroI := fun h => by unfold frI; rw [if_neg h]
  have hI0 : frN s d = 0 → frI s d = ⟨s.self, d, s.epoch, s.last d.toNat + 1⟩ := fun h => by unfold frI; rw [if_pos h]
  have hl0 := hS.out.ok.l0
  rcases frN_cases s d with ⟨h1, h⟩ | ⟨h1, h2, h⟩ | ⟨h1, h2, h3, h⟩ | ⟨h1, h2, h3, h4, h⟩ | ⟨h1, h2, h3, h4, h⟩
  · rw [hII (by omega), h]
    rw [h1] at ce ce0
    simp only [Mg.idC, zeroI]
    clear hII hI0 hl0 h1 h hx1 hV hxV hbV hb1 hS1 hS HN HB1 HS1
    go_enter Tryz.func27, Tryz.ntmps27
    go_wp2_with (refine wpList_store_row rfl 43 (.tmp 4) (.tmp 16) rfl w.heap.size #[.int .i64 0, .int .i64 0, .int .i64 0, .int .i64 0] rfl rfl 43 _ HX1.out (by kernel_rfl) rfl (by kernel_rfl) ?_; rw [HV.out])
    exact Sb.ret_box2 (g := w.heap.size) rfl (by rfl) HXV.out rfl Tryz.underlying43 (by kernel_rfl) rfl ⟨rfl, HBV.out⟩
  · rw [hII (by omega), h]
    have hnb : Mg.nodeB d = false := by unfold Mg.nodeB; exact decide_eq_false h2
    rw [hnb] at HN
    obtain ⟨ep, hep⟩ : ∃ x, s.epoch = x := ⟨_, rfl⟩
    rw [hep] at ce ce0 h1
    have g1 : (ep == 0) = false := by simpa using h1
    simp only [Mg.idC, zeroI]
    clear hII hI0 hl0 h1 h h2 hx1 hV hxV hbV hb1 hS1 hS HB1 HS1 hep hnb
    go_enter Tryz.func27, Tryz.ntmps27
    go_wp2_with (first
      | (go_at_call 23; refine (HN.out _).mono ?_; rintro e w2 ⟨rfl, rfl⟩)
      | (refine wpList_store_row rfl 43 (.tmp 4) (.tmp 21) rfl w.heap.size #[.int .i64 0, .int .i64 0, .int .i64 0, .int .i64 0] rfl rfl 43 _ HX1.out (by kernel_rfl) rfl (by kernel_rfl) ?_; rw [HV.out]))
    exact Sb.ret_box2 (g := w.heap.size) rfl (by rfl) HXV.out rfl Tryz.underlying43 (by kernel_rfl) rfl ⟨rfl, HBV.out⟩
  · rw [hII (by omega), h]
    rw [Mg.nodeB_iff.2 h2] at HN
    obtain ⟨ep, hep⟩ : ∃ x, s.epoch = x := ⟨_, rfl⟩
    rw [hep] at ce ce0 h1
    rw [← h3] at cs cs0
    have g1 : (ep == 0) = false := by simpa using h1
    have g3 : (d == d) = true := by simp
    simp only [Mg.idC, zeroI]
    clear hII hI0 hl0 h1 h h2 hx1 hV hxV hbV hb1 hS1 hS HB1 HS1 hep h3
    go_enter Tryz.func27, Tryz.ntmps27
    go_wp2_with (first
      | (go_at_call 23; refine (HN.out _).mono ?_; rintro e w2 ⟨rfl, rfl⟩)
      | (refine wpList_store_row rfl 43 (.tmp 4) (.tmp 29) rfl w.heap.size #[.int .i64 0, .int .i64 0, .int .i64 0, .int .i64 0] rfl rfl 43 _ HX1.out (by kernel_rfl) rfl (by kernel_rfl) ?_; rw [HV.out]))
    exact Sb.ret_box2 (g := w.heap.size) rfl (by rfl) HXV.out rfl Tryz.underlying43 (by kernel_rfl) rfl ⟨rfl, HBV.out⟩
  all_goals
    obtain ⟨j, rfl⟩ : ∃ j : Nat, d = (j : Int) := ⟨d.toNat, by omega⟩
    rw [Int.toNat_natCast] at h4 hI0
    have hj : j < 64 := by omega
    rw [Mg.nodeB_iff.2 h2] at HN
    have cl := hS1.box.last hj
    have cl0 := hS.out.box.last hj
    obtain ⟨ep, hep⟩ : ∃ x, s.epoch = x := ⟨_, rfl⟩
    rw [hep] at ce ce0 h1 hI0
    obtain ⟨me, hme⟩ : ∃ x, s.self = x := ⟨_, rfl⟩
    rw [hme] at cs cs0 h3 hI0
    have g1 : (ep == 0) = false := by simpa using h1
    have g3 : ((j : Int) == me) = false := by simpa using h3
    have t1 : (j : Int) < 64 := by omega
    have t2 : ¬ (64 : Int) ≤ (j : Int) := by omega
  · rw [hII (by omega), h]
    rw [h4] at cl cl0
    simp only [Mg.idC, zeroI]
    clear hII hI0 hl0 h1 h h2 hx1 hV hxV hbV hb1 hS1 hS HB1 HS1 hep h3 h4
    go_enter Tryz.func27, Tryz.ntmps27
    go_wp2_with (first
      | (go_at_call 23; refine (HN.out _).mono ?_; rintro e w2 ⟨rfl, rfl⟩)
      | (refine wpList_store_row rfl 43 (.tmp 4) (.tmp 38) rfl w.heap.size #[.int .i64 0, .int .i64 0, .int .i64 0, .int .i64 0] rfl rfl 43 _ HX1.out (by kernel_rfl) rfl (by kernel_rfl) ?_; rw [HV.out]))
    exact Sb.ret_box2 (g := w.heap.size) rfl (by rfl) HXV.out rfl Tryz.underlying43 (by kernel_rfl) rfl ⟨rfl, HBV.out⟩
  · rw [hI0 h, h]
    have hlj := hl0 j hj
    obtain ⟨la, hla⟩ : ∃ x, s.last j = x := ⟨_, rfl⟩
    rw [hla] at cl cl0 h4 hlj ⊢
    have HWr : Hid (IntKind.i64.wrap (la + 1) = la + 1) := Mi.fits' ⟨by omega, by omega⟩
    have g4 : (la == 65535) = false := by simpa using h4
    have HLa := Lib.hid hla
    have HJ := Lib.hid hj
    have HME := Lib.hid hme
    have HEP := Lib.hid hep
    simp only [Mg.idC]
    clear hII hI0 hl0 h1 h h2 hx1 hV hxV hbV hb1 hS1 hS hep h3 h4 hlj hla hj hme
    go_enter Tryz.func27, Tryz.ntmps27
    go_wp2_with (go_at_call 23; refine (HN.out _).mono ?_; rintro e w2 ⟨rfl, rfl⟩)
    obtain ⟨V1, hV1⟩ : ∃ V, w.alloc (.cells #[.int .i64 0, .int .i64 0, .int .i64 0, .int .i64 0] 43) = V := ⟨_, rfl⟩
    rw [hV1] at HX1 HB1 HS1 ⊢
    clear hV1 HV HXV HBV ce ce0 cs cs0 cl cl0
    have HC : Hid (∀ W, But (fun k => k = w.heap.size) V1 W → W.cell? ⟨D, 0, none⟩ = some (.int .i64 me) ∧ W.cell? ⟨D, 4, none⟩ = some (.int .i64 ep) ∧ W.cell? ⟨D, 5 + j, none⟩ = some (.int .i64 la)) := fun W hW => by
      have h1 := HS1.out.box.at_ (hW.same D HS1.out.box.lt hdn)
      have e1 := h1.self
      have e2 := h1.epoch
      have e3 := h1.last HJ.out
      rw [HME.out] at e1
      rw [HEP.out] at e2
      rw [HLa.out] at e3
      exact ⟨e1, e2, e3⟩
    have S0 : But (fun k => k = w.heap.size) V1 V1.drew := But.of_below (Below.refl _ _).drew
    refine wp_region_held_drew (S := fun W => But (fun k => k = w.heap.size) V1 W) (by kernel_rfl) S0 (fun hHeld => ?_)
    refine wpAnyH_take (i := 0) (v := .pointer (some ⟨D, 0, none⟩)) rfl (by kernel_rfl) (by kernel_rfl) (by kernel_rfl) (fun _ _ _ h => h) (Or.inl ⟨by rfl, ?_⟩) (by first | assumption | exact trivial) ?_
    · intro W hSW; go_simp; try (with_reducible rfl)
    simp only [Act.put, List.getElem_toArray, List.getElem_cons_succ, List.getElem_cons_zero, List.setIfInBounds_toArray, List.set_cons_zero, List.set_cons_succ]
    refine wpAnyH_take (i := 1) (v := .pointer (some ⟨D, 0, none⟩)) rfl (by kernel_rfl) (by kernel_rfl) (by kernel_rfl) (fun _ _ _ h => h) (Or.inl ⟨by rfl, ?_⟩) (by first | assumption | exact trivial) ?_
    · intro W hSW; go_simp; try (with_reducible rfl)
    simp only [Act.put, List.getElem_toArray, List.getElem_cons_succ, List.getElem_cons_zero, List.setIfInBounds_toArray, List.set_cons_zero, List.set_cons_succ]
    refine wpAnyH_take (i := 2) (v := .pointer (some ⟨D, 0, none⟩)) rfl (by kernel_rfl) (by kernel_rfl) (by kernel_rfl) (fun _ _ _ h => h) (Or.inl ⟨by rfl, ?_⟩) (by first | assumption | exact trivial) ?_
    · intro W hSW; go_simp; try (with_reducible rfl)
    simp only [Act.put, List.getElem_toArray, List.getElem_cons_succ, List.getElem_cons_zero, List.setIfInBounds_toArray, List.set_cons_zero, List.set_cons_succ]
    refine wpAnyH_take (i := 3) (v := .int .i64 me) rfl (by kernel_rfl) (by kernel_rfl) (by kernel_rfl) (fun _ _ _ h => h) (Or.inl ⟨by rfl, ?_⟩) (by first | assumption | exact trivial) ?_
    · intro W hSW; obtain ⟨y0, y1, y2⟩ := HC.out W hSW; go_simp; try (with_reducible rfl)
    simp only [Act.put, List.getElem_toArray, List.getElem_cons_succ, List.getElem_cons_zero, List.setIfInBounds_toArray, List.set_cons_zero, List.set_cons_succ]
    refine wpAnyH_take (i := 4) (v := .int .i64 (j : Int)) rfl (by kernel_rfl) (by kernel_rfl) (by kernel_rfl) (fun _ _ _ h => h) (Or.inl ⟨by rfl, ?_⟩) (by first | assumption | exact trivial) ?_
    · intro W hSW; go_simp; try (with_reducible rfl)
    simp only [Act.put, List.getElem_toArray, List.getElem_cons_succ, List.getElem_cons_zero, List.setIfInBounds_toArray, List.set_cons_zero, List.set_cons_succ]
    refine wpAnyH_take (i := 5) (v := .pointer (some ⟨D, 0, none⟩)) rfl (by kernel_rfl) (by kernel_rfl) (by kernel_rfl) (fun _ _ _ h => h) (Or.inl ⟨by rfl, ?_⟩) (by first | assumption | exact trivial) ?_
    · intro W hSW; go_simp; try (with_reducible rfl)
    simp only [Act.put, List.getElem_toArray, List.getElem_cons_succ, List.getElem_cons_zero, List.setIfInBounds_toArray, List.set_cons_zero, List.set_cons_succ]
    refine wpAnyH_take (i := 6) (v := .pointer (some ⟨D, 0, none⟩)) rfl (by kernel_rfl) (by kernel_rfl) (by kernel_rfl) (fun _ _ _ h => h) (Or.inl ⟨by rfl, ?_⟩) (by first | assumption | exact trivial) ?_
    · intro W hSW; go_simp; try (with_reducible rfl)
    simp only [Act.put, List.getElem_toArray, List.getElem_cons_succ, List.getElem_cons_zero, List.setIfInBounds_toArray, List.set_cons_zero, List.set_cons_succ]
    refine wpAnyH_take (i := 7) (v := .pointer (some ⟨D, 4, none⟩)) rfl (by kernel_rfl) (by kernel_rfl) (by kernel_rfl) (fun _ _ _ h => h) (Or.inl ⟨by rfl, ?_⟩) (by first | assumption | exact trivial) ?_
    · intro W hSW; go_simp; try (with_reducible rfl)
    simp only [Act.put, List.getElem_toArray, List.getElem_cons_succ, List.getElem_cons_zero, List.setIfInBounds_toArray, List.set_cons_zero, List.set_cons_succ]
    refine wpAnyH_take (i := 8) (v := .int .i64 ep) rfl (by kernel_rfl) (by kernel_rfl) (by kernel_rfl) (fun _ _ _ h => h) (Or.inl ⟨by rfl, ?_⟩) (by first | assumption | exact trivial) ?_
    · intro W hSW; obtain ⟨y0, y1, y2⟩ := HC.out W hSW; go_simp; try (with_reducible rfl)
    simp only [Act.put, List.getElem_toArray, List.getElem_cons_succ, List.getElem_cons_zero, List.setIfInBounds_toArray, List.set_cons_zero, List.set_cons_succ]
    refine wpAnyH_take (i := 9) (v := .pointer (some ⟨D, 0, none⟩)) rfl (by kernel_rfl) (by kernel_rfl) (by kernel_rfl) (fun _ _ _ h => h) (Or.inl ⟨by rfl, ?_⟩) (by first | assumption | exact trivial) ?_
    · intro W hSW; go_simp; try (with_reducible rfl)
    simp only [Act.put, List.getElem_toArray, List.getElem_cons_succ, List.getElem_cons_zero, List.setIfInBounds_toArray, List.set_cons_zero, List.set_cons_succ]
    refine wpAnyH_take (i := 10) (v := .int .i64 (j : Int)) rfl (by kernel_rfl) (by kernel_rfl) (by kernel_rfl) (fun _ _ _ h => h) (Or.inl ⟨by rfl, ?_⟩) (by first | assumption | exact trivial) ?_
    · intro W hSW; go_simp; try (with_reducible rfl)
    simp only [Act.put, List.getElem_toArray, List.getElem_cons_succ, List.getElem_cons_zero, List.setIfInBounds_toArray, List.set_cons_zero, List.set_cons_succ]
    refine wpAnyH_take (i := 11) (v := .pointer (some ⟨D, 0, none⟩)) rfl (by kernel_rfl) (by kernel_rfl) (by kernel_rfl) (fun _ _ _ h => h) (Or.inl ⟨by rfl, ?_⟩) (by first | assumption | exact trivial) ?_
    · intro W hSW; go_simp; try (with_reducible rfl)
    simp only [Act.put, List.getElem_toArray, List.getElem_cons_succ, List.getElem_cons_zero, List.setIfInBounds_toArray, List.set_cons_zero, List.set_cons_succ]
    refine wpAnyH_take (i := 12) (v := .pointer (some ⟨D, 5, none⟩)) rfl (by kernel_rfl) (by kernel_rfl) (by kernel_rfl) (fun _ _ _ h => h) (Or.inl ⟨by rfl, ?_⟩) (by first | assumption | exact trivial) ?_
    · intro W hSW; go_simp; try (with_reducible rfl)
    simp only [Act.put, List.getElem_toArray, List.getElem_cons_succ, List.getElem_cons_zero, List.setIfInBounds_toArray, List.set_cons_zero, List.set_cons_succ]
    refine wpAnyH_take (i := 13) (v := .pointer (some ⟨D, 5 + j, none⟩)) rfl (by kernel_rfl) (by kernel_rfl) (by kernel_rfl) (fun _ _ _ h => h) (Or.inl ⟨by rfl, ?_⟩) (by first | assumption | exact trivial) ?_
    · intro W hSW; go_simp; try (with_reducible rfl)
    simp only [Act.put, List.getElem_toArray, List.getElem_cons_succ, List.getElem_cons_zero, List.setIfInBounds_toArray, List.set_cons_zero, List.set_cons_succ]
    refine wpAnyH_take (i := 14) (v := .int .i64 la) rfl (by kernel_rfl) (by kernel_rfl) (by kernel_rfl) (fun _ _ _ h => h) (Or.inl ⟨by rfl, ?_⟩) (by first | assumption | exact trivial) ?_
    · intro W hSW; obtain ⟨y0, y1, y2⟩ := HC.out W hSW; go_simp; try (with_reducible rfl)
    simp only [Act.put, List.getElem_toArray, List.getElem_cons_succ, List.getElem_cons_zero, List.setIfInBounds_toArray, List.set_cons_zero, List.set_cons_succ]
    refine wpAnyH_take (i := 15) (v := .int .i64 (la + 1)) rfl (by kernel_rfl) (by kernel_rfl) (by kernel_rfl) (fun _ _ _ h => h) (Or.inl ⟨by rfl, ?_⟩) (by first | assumption | exact trivial) ?_
    · intro W hSW; have q := HWr.out; go_simp; try (with_reducible rfl)
    simp only [Act.put, List.getElem_toArray, List.getElem_cons_succ, List.getElem_cons_zero, List.setIfInBounds_toArray, List.set_cons_zero, List.set_cons_succ]
    refine wpAnyH_take (i := 16) (v := .agg #[.int .i64 me, .int .i64 (j : Int), .int .i64 ep, .int .i64 (la + 1)]) rfl (by kernel_rfl) (by kernel_rfl) (by kernel_rfl) (fun _ _ _ h => h) (Or.inl ⟨by rfl, ?_⟩) (by first | assumption | exact trivial) ?_
    · intro W hSW; go_simp; try (with_reducible rfl)
    simp only [Act.put, List.getElem_toArray, List.getElem_cons_succ, List.getElem_cons_zero, List.setIfInBounds_toArray, List.set_cons_zero, List.set_cons_succ]
    refine wpAnyH_ready (rs := [17]) (by kernel_rfl) (by simp) ?_
    refine AllReadyH.cons rfl (fun K hK => ?_) AllReadyH.nil
    rw [if_pos (by kernel_rfl)]
    refine wp_store_row 43 (.tmp 4) (.tmp 55) rfl w.heap.size #[.int .i64 me, .int .i64 (j : Int), .int .i64 ep, .int .i64 (la + 1)] rfl (by rfl) 43 _ HX1.out (by kernel_rfl) rfl (by simp [Value.oneCell']) ?_
    simp only [Act.put, List.getElem_toArray, List.getElem_cons_succ, List.getElem_cons_zero, List.setIfInBounds_toArray, List.set_cons_zero, List.set_cons_succ]
    obtain ⟨V9, hV9⟩ : ∃ V, V1.drew.setRow w.heap.size #[.int .i64 me, .int .i64 (j : Int), .int .i64 ep, .int .i64 (la + 1)] = V := ⟨_, rfl⟩
    have b9 : But (fun k => k = w.heap.size) V1 V9 := by rw [← hV9]; exact S0.setRow (.inl rfl) _
    have hD9 : V9.heap[w.heap.size]? = some (.cells #[.int .i64 me, .int .i64 (j : Int), .int .i64 ep, .int .i64 (la + 1)] 43 (0, 0)) := by rw [← hV9]; exact setRow_heap _ _ _ _ _ _ HX1.out
    rw [hV9]
    clear hV9
    refine hK.out _ _ (b9) (fun hHeld => ?_)
    clear hK K
    refine wpAnyH_take (i := 18) (v := .int .i64 0) rfl (by kernel_rfl) (by kernel_rfl) (by kernel_rfl) (fun _ _ _ h => h) (Or.inl ⟨by rfl, ?_⟩) (by first | assumption | exact trivial) ?_
    · intro W hSW; go_simp; try (with_reducible rfl)
    simp only [Act.put, List.getElem_toArray, List.getElem_cons_succ, List.getElem_cons_zero, List.setIfInBounds_toArray, List.set_cons_zero, List.set_cons_succ]
    refine wpAnyH_done (by kernel_rfl) ?_ _
    have hfin : Below w.heap.size w V9 := HB1.out.trans (b9.below HB1.out.size fun k hk => by omega)
    go_wp2
    exact Sb.ret_box2 (g := w.heap.size) rfl (by rfl) hD9 rfl Tryz.underlying43 (by kernel_rfl) rfl ⟨rfl, hfin⟩
/-- What Find and Held answer: bytes of one's own. -/
def FndP (E : Nat → Prop) (s : Sto) (i : Mg.Id4) (w : World) (e : Ending) (w' : World) : Prop :=
  Hid (Below w.heap.size w w') ∧ ((findH s.held i = none ∧ e = .returned (.tuple #[.agg (Mg.msgC zeroI none 0 0), .bool false])) ∨ ∃ p, findH s.held i = some p ∧ ∃ A c, e = .returned (.tuple #[.agg (Mg.msgC i A p.length c), .bool true]) ∧ Hid (Me.Own w' w.heap.size (.slice A p.length c) p))
set_option maxRecDepth 100000 in
set_option maxHeartbeats 8000000 in
theorem Find_any (i : Mg.Id4) (hf : Fit i) (hS : Hid (Sq E w D hb sd sb m v s)) : Calls Tryz.prog 28 #[.pointer (some ⟨D, 0, none⟩), .agg (Mg.idC i)] w (FndP E s i w) := by
  have HH : Hid (∀ W, Below w.heap.size w W → Calls Tryz.prog 61 #[.pointer (some ⟨D, 0, none⟩), .agg (Mg.idC i)] W fun e w' => e = .returned (.bool (hasH s.held i)) ∧ Hid (Below W.heap.size W w')) := fun W hW => holds_any E D hb sd sb m v s W i hf (hS.out.below hW)
  obtain ⟨V, hV⟩ : ∃ V, (w.alloc (.cells (Mg.idC i) 43)).alloc (.cells #[.int .i64 0, .int .i64 0, .int .i64 0, .int .i64 0, .slice none 0 0] 46) = V := ⟨_, rfl⟩
  have hb0 : Below w.heap.size w (w.alloc (.cells (Mg.idC i) 43)) := Me.below_alloc (Below.refl _ _)
  have hB : Below w.heap.size w V := by rw [← hV]; exact Me.below_alloc hb0
  have hR : V.heap[w.heap.size]? = some (.cells (Mg.idC i) 43 (0, 0)) := by
    rw [← hV]
    exact ((Me.below_alloc (Below.refl (w.alloc (.cells (Mg.idC i) 43)).heap.size _)).block _ (by simp)).trans (heap_alloc_new w _)
  have hM : V.heap[w.heap.size + 1]? = some (.cells #[.int .i64 0, .int .i64 0, .int .i64 0, .int .i64 0, .slice none 0 0] 46 (0, 0)) := by
    rw [← hV]
    have := heap_alloc_new (w.alloc (.cells (Mg.idC i) 43)) (.cells #[.int .i64 0, .int .i64 0, .int .i64 0, .int .i64 0, .slice none 0 0] 46)
    rwa [World.size_alloc] at this
  unfold FndP
  obtain ⟨o, d, ee, cc⟩ := i
  simp only [Mg.idC] at HH hV hR ⊢
  have HV := Lib.hid hV
  have HB := Lib.hid hB
  have HR := Lib.hid hR
  have HM := Lib.hid hM
  cases hk : findH s.held ⟨o, d, ee, cc⟩ with
  | none =>
    have hh : hasH s.held ⟨o, d, ee, cc⟩ = false := by unfold hasH; rw [hk]; rfl
    rw [hh] at HH
    obtain ⟨f, hf0⟩ : ∃ f : Option (List Nat) → World → Ending → Prop, f = fun q w' e => (q = none ∧ e = .returned (.tuple #[.agg (Mg.msgC zeroI none 0 0), .bool false])) ∨ ∃ p, q = some p ∧ ∃ A c, e = .returned (.tuple #[.agg #[.int .i64 o, .int .i64 d, .int .i64 ee, .int .i64 cc, .slice A p.length c], .bool true]) ∧ Hid (Me.Own w' w.heap.size (.slice A p.length c) p) := ⟨_, rfl⟩
    clear hV hB hb0 hR hM hS hf hf0 f hh hk
    go_enter Tryz.func28, Tryz.ntmps28
    go_wp2_with (first
      | (go_at_call 61; rw [HV.out]; refine (HH.out _ HB.out).mono ?_; rintro e w2 ⟨rfl, b2⟩; have HM2 := Lib.hid ((b2.out.block _ (Array.getElem?_eq_some_iff.1 HM.out).1).trans HM.out))
      | (refine wpList_store_row rfl 46 (.tmp 4) (.tmp 10) rfl (w.heap.size + 1) #[.int .i64 0, .int .i64 0, .int .i64 0, .int .i64 0, .slice none 0 0] rfl rfl 46 _ HM2.out (by kernel_rfl) rfl (by kernel_rfl) ?_))
    refine Sb.ret_box2 (g := w.heap.size + 1) rfl (by rfl) (setRow_heap _ _ _ _ _ _ HM2.out) rfl Tryz.underlying46 (by kernel_rfl) rfl ⟨Sb.below_setRow _ (go_on HB.out b2.out) (by omega), .inl ⟨by trivial, rfl⟩⟩
  | some p =>
    have hh : hasH s.held ⟨o, d, ee, cc⟩ = true := by unfold hasH; rw [hk]; rfl
    rw [hh] at HH
    obtain ⟨x, hel, _, hl2⟩ := hS.out.map.yes hf hk
    obtain ⟨Ax, cx, rfl, hox, _⟩ := hel
    obtain ⟨hg, _, hpb⟩ := find_len hS.out.ok hk
    have hp48 := (msgN_zero hg).2.2
    obtain ⟨r1, r2, _, _⟩ := (show Rd w w.heap.size Ax p ∧ (Ax = none → p.length = 0 ∧ cx = 0) ∧ p.length ≤ cx ∧ cx ≤ 9223372036854775807 from by
      obtain ⟨A', c', e, h1, h2, h3⟩ := hox.held hpb
      simp only [Value.slice.injEq] at e
      obtain ⟨rfl, _, rfl⟩ := e
      exact ⟨h3.rd, h3.2.2, h1, h2⟩)
    have HCl : Hid (∀ W, Below w.heap.size w W → Calls Tryz.prog 43 #[.slice Ax p.length cx] W fun e w' => ∃ y, e = .returned y ∧ Hid (Me.Own w' W.heap.size y p) ∧ Hid (Below W.heap.size W w')) := fun W hW => Hd.BClone_any Ax cx w.heap.size p W (r1.below hW) r2 hW.size (by omega)
    have HLk : Hid (∀ W, Below w.heap.size w W → (Instr.lookup 74 (.map (some hb)) (.agg #[.int .i64 o, .int .i64 d, .int .i64 ee, .int .i64 cc]) false).run Tryz.prog W = .ok (.slice Ax p.length cx) W ∧ W.cell? ⟨D, 69, none⟩ = some (.map (some hb))) := fun W hW => ⟨hl2 W (hW.block hb hS.out.map.lt), (hS.out.box.below hW).map⟩
    obtain ⟨pn, hpn⟩ : ∃ n, p.length = n := ⟨_, rfl⟩
    have HPn := Lib.hid hpn
    rw [hpn] at HCl HLk
    clear hV hB hb0 hR hM hS hf hh hk hox hg hpb hp48 r1 r2 hl2 hpn
    go_enter Tryz.func28, Tryz.ntmps28
    go_wp2_with (go_at_call 61; rw [HV.out]; refine (HH.out _ HB.out).mono ?_; rintro e w2 ⟨rfl, b2⟩)
    have HM2 := Lib.hid ((b2.out.block _ (Array.getElem?_eq_some_iff.1 HM.out).1).trans HM.out)
    have HR2 := Lib.hid ((b2.out.block _ (Array.getElem?_eq_some_iff.1 HR.out).1).trans HR.out)
    have HB2 := Lib.hid (go_on HB.out b2.out)
    have HW2 : Hid (∀ W, Below w2.heap.size w2 W → Below w.heap.size w W) := fun W hW => go_on HB2.out hW
    have hsz : w.heap.size + 2 ≤ w2.heap.size := by
      have h1 := b2.out.size
      have h2 := (Array.getElem?_eq_some_iff.1 HM.out).1
      omega
    have HSz := Lib.hid hsz
    clear hsz b2 HH HV HM HR HB
    have HI : Hid (∀ W, But (fun k => k = w.heap.size + 1) w2 W → W.heap[w.heap.size]? = some (.cells #[.int .i64 o, .int .i64 d, .int .i64 ee, .int .i64 cc] 43 (0, 0)) ∧ Below w.heap.size w W) := fun W hW => ⟨hW.at_ HR2.out (by omega), HB2.out.trans (hW.below HB2.out.size fun k hk => by omega)⟩
    have S0 : But (fun k => k = w.heap.size + 1) w2 w2.drew := But.of_below (Below.refl _ _).drew
    refine wp_region_held_drew (S := fun W => But (fun k => k = w.heap.size + 1) w2 W) (by kernel_rfl) S0 (fun hHeld => ?_)
    refine wpAnyH_take (i := 0) (v := .agg #[.int .i64 o, .int .i64 d, .int .i64 ee, .int .i64 cc]) rfl (by kernel_rfl) (by kernel_rfl) (by kernel_rfl) (fun _ _ _ h => h) (Or.inl ⟨by rfl, ?_⟩) (by first | assumption | exact trivial) ?_
    · intro W hSW; obtain ⟨y0, y1, y2, y3⟩ := id_cells (HI.out W hSW).1; go_simp; try (with_reducible rfl)
    simp only [Act.put, List.getElem_toArray, List.getElem_cons_succ, List.getElem_cons_zero, List.setIfInBounds_toArray, List.set_cons_zero, List.set_cons_succ]
    refine wpAnyH_take (i := 1) (v := .pointer (some ⟨D, 0, none⟩)) rfl (by kernel_rfl) (by kernel_rfl) (by kernel_rfl) (fun _ _ _ h => h) (Or.inl ⟨by rfl, ?_⟩) (by first | assumption | exact trivial) ?_
    · intro W hSW; go_simp; try (with_reducible rfl)
    simp only [Act.put, List.getElem_toArray, List.getElem_cons_succ, List.getElem_cons_zero, List.setIfInBounds_toArray, List.set_cons_zero, List.set_cons_succ]
    refine wpAnyH_take (i := 2) (v := .pointer (some ⟨D, 0, none⟩)) rfl (by kernel_rfl) (by kernel_rfl) (by kernel_rfl) (fun _ _ _ h => h) (Or.inl ⟨by rfl, ?_⟩) (by first | assumption | exact trivial) ?_
    · intro W hSW; go_simp; try (with_reducible rfl)
    simp only [Act.put, List.getElem_toArray, List.getElem_cons_succ, List.getElem_cons_zero, List.setIfInBounds_toArray, List.set_cons_zero, List.set_cons_succ]
    refine wpAnyH_take (i := 3) (v := .pointer (some ⟨D, 69, none⟩)) rfl (by kernel_rfl) (by kernel_rfl) (by kernel_rfl) (fun _ _ _ h => h) (Or.inl ⟨by rfl, ?_⟩) (by first | assumption | exact trivial) ?_
    · intro W hSW; go_simp; try (with_reducible rfl)
    simp only [Act.put, List.getElem_toArray, List.getElem_cons_succ, List.getElem_cons_zero, List.setIfInBounds_toArray, List.set_cons_zero, List.set_cons_succ]
    refine wpAnyH_take (i := 4) (v := .map (some hb)) rfl (by kernel_rfl) (by kernel_rfl) (by kernel_rfl) (fun _ _ _ h => h) (Or.inl ⟨by rfl, ?_⟩) (by first | assumption | exact trivial) ?_
    · intro W hSW; have q := (HLk.out W (HI.out W hSW).2).2; go_simp; try (with_reducible rfl)
    simp only [Act.put, List.getElem_toArray, List.getElem_cons_succ, List.getElem_cons_zero, List.setIfInBounds_toArray, List.set_cons_zero, List.set_cons_succ]
    refine wpAnyH_take (i := 5) (v := .agg #[.int .i64 o, .int .i64 d, .int .i64 ee, .int .i64 cc]) rfl (by kernel_rfl) (by kernel_rfl) (by kernel_rfl) (fun _ _ _ h => h) (Or.inl ⟨by rfl, ?_⟩) (by first | assumption | exact trivial) ?_
    · intro W hSW; obtain ⟨y0, y1, y2, y3⟩ := id_cells (HI.out W hSW).1; go_simp; try (with_reducible rfl)
    simp only [Act.put, List.getElem_toArray, List.getElem_cons_succ, List.getElem_cons_zero, List.setIfInBounds_toArray, List.set_cons_zero, List.set_cons_succ]
    refine wpAnyH_take (i := 6) (v := .slice Ax pn cx) rfl (by kernel_rfl) (by kernel_rfl) (by kernel_rfl) (fun _ _ _ h => h) (Or.inl ⟨by rfl, ?_⟩) (by first | assumption | exact trivial) ?_
    · intro W hSW; have q := (HLk.out W (HI.out W hSW).2).1; go_simp; try (with_reducible rfl)
    simp only [Act.put, List.getElem_toArray, List.getElem_cons_succ, List.getElem_cons_zero, List.setIfInBounds_toArray, List.set_cons_zero, List.set_cons_succ]
    refine wpAnyH_ready (rs := [7]) (by kernel_rfl) (by simp) ?_
    refine AllReadyH.cons rfl (fun K hK => ?_) AllReadyH.nil
    go_simp
    go_wp2_with (go_at_call 43; refine (HCl.out _ (HI.out _ S0).2).mono ?_; rintro e w3 ⟨y, rfl, ho3, hb3⟩)
    have S3 : But (fun k => k = w.heap.size + 1) w2 w3 := S0.trans (But.of_below (S := fun k => k = w.heap.size + 1) hb3.out) fun _ _ h => h
    have hform : ∃ A c, y = .slice A p.length c := by
      rcases ho3.out.2 with ⟨h1, h2⟩ | ⟨g, cap, cur, h1, _⟩
      · have : p = [] := by simpa using h2
        subst this
        exact ⟨none, 0, h1⟩
      · exact ⟨_, cap, h1⟩
    obtain ⟨Ay, cy, rfl⟩ := hform
    have HO3 := Lib.hid (own_base ho3.out (B' := w.heap.size) fun k e => by
      have h1 := (World.ownsRow.lt ho3.out k e).1
      have h2 := (HI.out _ S0).2.size
      have h3 : w2.drew.heap.size ≤ k := h1
      omega)
    rw [HPn.out]
    refine hK.out _ _ (S3) (fun hHeld => ?_)
    clear hK K
    refine wpAnyH_take (i := 8) (v := .agg #[.int .i64 o, .int .i64 d, .int .i64 ee, .int .i64 cc, .slice Ay pn cy]) rfl (by kernel_rfl) (by kernel_rfl) (by kernel_rfl) (fun _ _ _ h => h) (Or.inl ⟨by rfl, ?_⟩) (by first | assumption | exact trivial) ?_
    · intro W hSW; go_simp; try (with_reducible rfl)
    simp only [Act.put, List.getElem_toArray, List.getElem_cons_succ, List.getElem_cons_zero, List.setIfInBounds_toArray, List.set_cons_zero, List.set_cons_succ]
    refine wpAnyH_ready (rs := [9]) (by kernel_rfl) (by simp) ?_
    refine AllReadyH.cons rfl (fun K hK => ?_) AllReadyH.nil
    rw [if_pos (by kernel_rfl)]
    refine wp_store_row 46 (.tmp 4) (.tmp 19) rfl (w.heap.size + 1) #[.int .i64 o, .int .i64 d, .int .i64 ee, .int .i64 cc, .slice Ay pn cy] rfl (by rfl) 46 _ ((hb3.out.block _ (by have := HSz.out; show w.heap.size + 1 < w2.heap.size; omega)).trans HM2.out) (by kernel_rfl) rfl (by simp [Value.oneCell']) ?_
    simp only [Act.put, List.getElem_toArray, List.getElem_cons_succ, List.getElem_cons_zero, List.setIfInBounds_toArray, List.set_cons_zero, List.set_cons_succ]
    obtain ⟨V9, hV9⟩ : ∃ V, w3.setRow (w.heap.size + 1) #[.int .i64 o, .int .i64 d, .int .i64 ee, .int .i64 cc, .slice Ay pn cy] = V := ⟨_, rfl⟩
    have b39 : But (fun k => k = w.heap.size + 1) w3 V9 := by rw [← hV9]; exact (But.refl (fun k => k = w.heap.size + 1) w3).setRow (.inl rfl) _
    have b9 := S3.trans b39 fun _ _ h => h
    have hD9 : V9.heap[w.heap.size + 1]? = some (.cells #[.int .i64 o, .int .i64 d, .int .i64 ee, .int .i64 cc, .slice Ay pn cy] 46 (0, 0)) := by rw [← hV9]; exact setRow_heap _ _ _ _ _ _ ((hb3.out.block _ (by have := HSz.out; show w.heap.size + 1 < w2.heap.size; omega)).trans HM2.out)
    rw [hV9]
    clear hV9
    refine hK.out _ _ (b9) (fun hHeld => ?_)
    clear hK K
    refine wpAnyH_take (i := 10) (v := .bool true) rfl (by kernel_rfl) (by kernel_rfl) (by kernel_rfl) (fun _ _ _ h => h) (Or.inl ⟨by rfl, ?_⟩) (by first | assumption | exact trivial) ?_
    · intro W hSW; go_simp; try (with_reducible rfl)
    simp only [Act.put, List.getElem_toArray, List.getElem_cons_succ, List.getElem_cons_zero, List.setIfInBounds_toArray, List.set_cons_zero, List.set_cons_succ]
    refine wpAnyH_done (by kernel_rfl) ?_ _
    have ho9 : Me.Own V9 w.heap.size (.slice Ay p.length cy) p := own_same HO3.out fun k e hk => b39.same k hk fun h => by
      subst h
      obtain ⟨cur, hc⟩ := own_type ho3.out _ e
      have := (hb3.out.block _ (by have := HSz.out; show w.heap.size + 1 < w2.heap.size; omega)).trans HM2.out
      rw [this] at hc
      simp at hc
    go_wp2
    refine Sb.ret_box2 (g := w.heap.size + 1) rfl (by rfl) hD9 rfl Tryz.underlying46 (by kernel_rfl) rfl ⟨(HI.out V9 b9).2, .inr ⟨p, rfl, Ay, cy, ?_, ho9⟩⟩
    rw [HPn.out]
    rfl
end
end Go.Proofs.YtfnlhfelpdkieaaGreat.So
/- A store among a law's own things: its blocks lie from M on, none of O. -/
namespace Go.Proofs.YtfnlhfelpdkieaaGreat.So
open Go.RowKit
open Go.Proofs.YtfnlhfelpdkieaaGreat.Me Go.Proofs.YtfnlhfelpdkieaaGreat.Sb
set_option linter.unusedVariables false
set_option linter.unusedSimpArgs false

/-- What is the store's: from M on, none of O. -/
def Out (M : Nat) (O : Nat → Prop) (k : Nat) : Prop := M ≤ k ∧ ¬ O k
def Lv (M : Nat) (O : Nat → Prop) (w : World) (m D : Nat) (s : Sto) : Prop := ∃ hb sd sb m' v, m' ≤ m ∧ Sq (Out M O) w D hb sd sb m' v s ∧ ∀ k, Chg D hb sd sb v k → Out M O k
section
variable {M : Nat} {O O' S : Nat → Prop} {w w' : World} {m D : Nat} {s : Sto}
theorem Lv.lt (h : Lv M O w m D s) : D < w.heap.size ∧ M ≤ D ∧ ¬ O D := by
  obtain ⟨hb, sd, sb, m', v, _, h1, h2⟩ := h
  exact ⟨h1.box.lt, h2 D (.inl rfl)⟩
theorem Lv.ok (h : Lv M O w m D s) : Ok s := by
  obtain ⟨hb, sd, sb, m', v, _, h1, h2⟩ := h
  exact h1.ok
/-- It lies on, whatever is turned of O, of what is older than M, of new blocks, if none of these is one of ints. -/
theorem Lv.but (h : Lv M O w m D s) (hb' : But S w w') (hS : ∀ k, S k → O k ∨ k < M ∨ w.heap.size ≤ k) (hI : ∀ (k : Nat) (cs : Array Value), S k → w.heap[k]? ≠ some (.cells cs 3 (0, 0))) : Lv M O w' m D s := by
  obtain ⟨hb, sd, sb, m', v, hm, h1, h2⟩ := h
  refine ⟨hb, sd, sb, m', v, hm, h1.but hb' (fun k hk hs => ?_) hI (fun k cs hs he hk => ?_), h2⟩
  · have h3 := h2 k hk
    have h4 := h1.lt k hk
    rcases hS k hs with h5 | h5 | h5
    · exact h3.2 h5
    · have := h3.1; omega
    · omega
  · have h4 := (Array.getElem?_eq_some_iff.1 hk).1
    rcases hS k hs with h5 | h5 | h5
    · exact he.2 h5
    · have := he.1; omega
    · omega
theorem Lv.below (h : Lv M O w m D s) (hb' : Below w.heap.size w w') : Lv M O w' m D s := h.but (S := fun _ => False) (But.of_below hb') (fun _ h => h.elim) fun _ _ h => h.elim
theorem Lv.other (h : Lv M O w m D s) (hO : ∀ k, k < w.heap.size → O' k → O k) : Lv M O' w m D s := by
  obtain ⟨hb, sd, sb, m', v, hm, h1, h2⟩ := h
  exact ⟨hb, sd, sb, m', v, hm, h1.keep (fun _ _ => rfl) (fun _ _ _ _ => rfl) (fun _ _ _ _ => rfl) fun k hk he => ⟨he.1, fun h => he.2 (hO k hk h)⟩, fun k hk => ⟨(h2 k hk).1, fun h => (h2 k hk).2 (hO k (h1.lt k hk) h)⟩⟩
theorem Lv.mono (h : Lv M O w m D s) {n : Nat} (hn : m ≤ n) : Lv M O w n D s := by
  obtain ⟨hb, sd, sb, m', v, hm, h1, h2⟩ := h
  exact ⟨hb, sd, sb, m', v, by omega, h1, h2⟩
theorem but_out (h : But (Out M O) w w') (hM : M ≤ w.heap.size) : Below M w w' := h.below hM fun k hk => hk.1
end
section
variable (M : Nat) (O : Nat → Prop) (w : World) (m D : Nat) (s : Sto)
theorem New_l (me qh qb qg : Int) (h : NewOk me qh qb qg) (w : World) (hM : M ≤ w.heap.size) (hO : ∀ k, O k → k < w.heap.size) : Calls Tryz.prog 7 #[.int .i64 me, .agg #[.int .i64 qh, .int .i64 qb, .int .i64 qg]] w fun e w' =>
    ∃ D, e = .returned (.tuple #[.pointer (some ⟨D, 0, none⟩), .int .i64 0]) ∧ Hid (Lv M O w' 0 D (new0 me qh qb qg)) ∧ Hid (Below w.heap.size w w') :=
  (New_ok (Out M O) me qh qb qg h w).mono fun e w' h => by
    obtain ⟨D, hb, sd, sb, rfl, h1, h2, h3⟩ := h
    have hh := h2.out
    have hn : ∀ k, w.heap.size ≤ k → Out M O k := fun k hk => ⟨by omega, fun h => by have := hO k h; omega⟩
    refine ⟨D, rfl, ⟨hb, sd, sb, 0, _, Nat.le_refl _, h1.out, ?_⟩, h3⟩
    rintro k (rfl | rfl | rfl | rfl | e)
    · exact hn _ hh.1
    · exact hn _ hh.2.1
    · exact hn _ hh.2.2.1
    · exact hn _ hh.2.2.2
    · cases e
theorem Apply_l (k : Int) (i : Mg.Id4) (A : Option Addr) (c : Nat) (p : List Nat) (hm : m ≤ 5000000) (hp : Rd w w.heap.size A p) (hA : A = none → p.length = 0 ∧ c = 0) (hM : M ≤ w.heap.size) (hO : ∀ k, O k → k < w.heap.size) (h : Hid (Lv M O w m D s)) :
    Calls Tryz.prog 13 #[.pointer (some ⟨D, 0, none⟩), .agg (evC k i A p.length c)] w fun e w' => e = .returned (.int .i64 (mayE s k i p.length : Int)) ∧ Hid (Lv M O w' (m + 1) D (appE s k i p)) ∧ Hid (But (Out M O) w w') := by
  obtain ⟨hb, sd, sb, m', v, hm', h1, h2⟩ := h.out
  have hn : ∀ k, w.heap.size ≤ k → Out M O k := fun k hk => ⟨by omega, fun h => by have := hO k h; omega⟩
  refine (Apply_any (Out M O) D hb sd sb m' v s w k i A c p (by omega) hp hA hn h1).mono fun e w' hq => ?_
  unfold AppP at hq
  obtain ⟨he, v2, m2, hm2, hs2, hb2, hv2⟩ := hq
  refine ⟨he, ⟨hb, sd, sb, m2, v2, by omega, hs2.out, ?_⟩, hb2.out.mono fun k _ hk => hk.elim (h2 k) fun h => h.1⟩
  rintro k (e | e | e | e | e)
  · exact h2 k (.inl e)
  · exact h2 k (.inr (.inl e))
  · exact h2 k (.inr (.inr (.inl e)))
  · exact h2 k (.inr (.inr (.inr (.inl e))))
  · rcases hv2.out k e with e | e
    · exact h2 k (.inr (.inr (.inr (.inr e))))
    · exact hn k e
theorem May_l (k : Int) (i : Mg.Id4) (A : Option Addr) (n c : Nat) (h : Hid (Lv M O w m D s)) : Calls Tryz.prog 18 #[.pointer (some ⟨D, 0, none⟩), .agg (evC k i A n c)] w fun e w' => e = .returned (.int .i64 (mayE s k i n : Int)) ∧ Hid (Below w.heap.size w w') := by
  obtain ⟨hb, sd, sb, m', v, hm', h1, h2⟩ := h.out
  exact May_any (Out M O) D hb sd sb m' v s w k i A n c h1
theorem Fresh_l (d : Int) (h : Hid (Lv M O w m D s)) : Calls Tryz.prog 27 #[.pointer (some ⟨D, 0, none⟩), .int .i64 d] w fun e w' => e = .returned (.tuple #[.agg (Mg.idC (frI s d)), .int .i64 (frN s d : Int)]) ∧ Hid (Below w.heap.size w w') := by
  obtain ⟨hb, sd, sb, m', v, hm', h1, h2⟩ := h.out
  exact Fresh_any (Out M O) D hb sd sb m' v s w d h1
theorem Find_l (i : Mg.Id4) (hf : Fit i) (h : Hid (Lv M O w m D s)) : Calls Tryz.prog 28 #[.pointer (some ⟨D, 0, none⟩), .agg (Mg.idC i)] w (FndP (Out M O) s i w) := by
  obtain ⟨hb, sd, sb, m', v, hm', h1, h2⟩ := h.out
  exact Find_any (Out M O) D hb sd sb m' v s w i hf h1
end
end Go.Proofs.YtfnlhfelpdkieaaGreat.So
/- The law's own question 'is what was held there?' is answered true. -/
namespace Go.Proofs.YtfnlhfelpdkieaaGreat.So
open Go.RowKit
open Go.Proofs.YtfnlhfelpdkieaaGreat.Me Go.Proofs.YtfnlhfelpdkieaaGreat.Sb
set_option linter.unusedVariables false
set_option linter.unusedSimpArgs false

theorem quota_any (w : World) : Calls Tryz.prog 26 #[] w fun e w' => e = .returned (.agg #[.int .i64 256, .int .i64 1048576, .int .i64 256]) ∧ Hid (Below w.heap.size w w') := by
  have HR := Lib.hid (heap_alloc_new w (.cells #[.int .i64 256, .int .i64 1048576, .int .i64 256] 23))
  have HB : Hid (Below w.heap.size w (w.alloc (.cells #[.int .i64 256, .int .i64 1048576, .int .i64 256] 23))) := Me.below_alloc (Below.refl _ _)
  go_enter Tryz.func26, Tryz.ntmps26
  go_wp2
  exact Sb.ret_box (g := w.heap.size) rfl (by rfl) HR.out rfl Tryz.underlying23 (by kernel_rfl) rfl ⟨rfl, HB.out⟩
def wk0 : Sto := new0 1 256 1048576 256
def wkI : Mg.Id4 := ⟨1, 2, 1, 1⟩
def wk1 : Sto := appE wk0 1 zeroI []
def wk2 : Sto := appE wk1 2 wkI [97]
theorem wk_a : mayE wk0 1 zeroI 0 = 0 := by decide
theorem wk_b : frN wk1 2 = 0 := by decide
theorem wk_c : frI wk1 2 = wkI := by decide
theorem wk_d : mayE wk1 2 wkI 1 = 0 := by decide
theorem wk_e : findH wk2.held wkI = some [97] := by decide
theorem wk_ok : NewOk 1 256 1048576 256 := ⟨by decide, by decide, by decide, by decide, by decide, by decide, by decide, by decide⟩
theorem conv_held {W : World} {B g c : Nat} (o : Obj) (h : Me.Own W B (.slice (some ⟨g, 0, none⟩) 1 c) [97]) : (convert 44 9 (.slice (some ⟨g, 0, none⟩) 1 c)).run Tryz.prog (W.alloc o) = .ok (.string ⟨#[97]⟩) (W.alloc o) := by
  obtain ⟨A', c', e, h1, h2, h3⟩ := h.held (by decide)
  simp only [Value.slice.injEq] at e
  obtain ⟨rfl, _, rfl⟩ := e
  have hr := h3.rd.below (Me.below_alloc (o := o) (Below.refl W.heap.size W))
  exact conv_rd (W.alloc o) W.heap.size (some ⟨g, 0, none⟩) [97] c hr fun e => by cases e
set_option maxRecDepth 100000 in
set_option maxHeartbeats 16000000 in
theorem awake_any (w : World) : Calls Tryz.prog 9 #[] w fun e w' => e = .returned (.bool true) ∧ Hid (Below w.heap.size w w') := by
  have HQ := Lib.hid (fun W => quota_any W)
  have HN : Hid (∀ W, w.heap.size ≤ W.heap.size → Calls Tryz.prog 7 #[.int .i64 1, .agg #[.int .i64 256, .int .i64 1048576, .int .i64 256]] W fun e w' => ∃ D, e = .returned (.tuple #[.pointer (some ⟨D, 0, none⟩), .int .i64 0]) ∧ Hid (Lv w.heap.size (fun _ => False) w' 0 D wk0) ∧ Hid (Below W.heap.size W w')) := fun W hW => New_l w.heap.size (fun _ => False) 1 256 1048576 256 wk_ok W hW fun _ h => h.elim
  have HA : Hid (∀ D W, Lv w.heap.size (fun _ => False) W 0 D wk0 → w.heap.size ≤ W.heap.size → Calls Tryz.prog 13 #[.pointer (some ⟨D, 0, none⟩), .agg #[.int .i64 1, .int .i64 0, .int .i64 0, .int .i64 0, .int .i64 0, .slice none 0 0]] W fun e w' => e = .returned (.int .i64 0) ∧ Hid (Lv w.heap.size (fun _ => False) w' 1 D wk1) ∧ Hid (But (Out w.heap.size (fun _ => False)) W w')) := fun D W h hW => by
    have := Apply_l w.heap.size (fun _ => False) W 0 D wk0 1 zeroI none 0 [] (by omega) ⟨by simp, by simp⟩ (fun _ => ⟨rfl, rfl⟩) hW (fun _ h => h.elim) h
    rw [show mayE wk0 1 zeroI ([] : List Nat).length = 0 from wk_a] at this
    exact this
  have HF : Hid (∀ D W, Lv w.heap.size (fun _ => False) W 1 D wk1 → Calls Tryz.prog 27 #[.pointer (some ⟨D, 0, none⟩), .int .i64 2] W fun e w' => e = .returned (.tuple #[.agg #[.int .i64 1, .int .i64 2, .int .i64 1, .int .i64 1], .int .i64 0]) ∧ Hid (Below W.heap.size W w')) := fun D W h => by
    have := Fresh_l w.heap.size (fun _ => False) W 1 D wk1 2 h
    rw [wk_b, wk_c] at this
    exact this
  have HH : Hid (∀ D W (X : Nat) (g : Nat) (c : Nat), Lv w.heap.size (fun k => k = X) W 1 D wk1 → w.heap.size ≤ W.heap.size → X < W.heap.size → Rd W W.heap.size (some ⟨g, 0, none⟩) [97] → Calls Tryz.prog 13 #[.pointer (some ⟨D, 0, none⟩), .agg #[.int .i64 2, .int .i64 1, .int .i64 2, .int .i64 1, .int .i64 1, .slice (some ⟨g, 0, none⟩) 1 c]] W fun e w' => e = .returned (.int .i64 0) ∧ Hid (Lv w.heap.size (fun k => k = X) w' 2 D wk2) ∧ Hid (But (Out w.heap.size (fun k => k = X)) W w')) := fun D W X g c h hW hX hr => by
    have := Apply_l w.heap.size (fun k => k = X) W 1 D wk1 2 wkI (some ⟨g, 0, none⟩) c [97] (by omega) hr (fun e => by cases e) hW (fun k e => by omega) h
    rw [show mayE wk1 2 wkI ([97] : List Nat).length = 0 from wk_d] at this
    exact this
  have HFi : Hid (∀ D W (X : Nat), Lv w.heap.size (fun k => k = X) W 2 D wk2 → Calls Tryz.prog 28 #[.pointer (some ⟨D, 0, none⟩), .agg #[.int .i64 1, .int .i64 2, .int .i64 1, .int .i64 1]] W fun e w' => Hid (Below W.heap.size W w') ∧ ∃ g c, e = .returned (.tuple #[.agg #[.int .i64 1, .int .i64 2, .int .i64 1, .int .i64 1, .slice (some ⟨g, 0, none⟩) 1 c], .bool true]) ∧ Hid (Me.Own w' W.heap.size (.slice (some ⟨g, 0, none⟩) 1 c) [97])) := fun D W X h => (Find_l w.heap.size (fun k => k = X) W 2 D wk2 wkI (fit_right (Mg.right_iff.1 (by decide))) h).mono fun e w' hf => by
    unfold FndP at hf
    obtain ⟨hb, hf | ⟨p, hp, A, c, he, ho⟩⟩ := hf
    · rw [wk_e] at hf; exact absurd hf.1 (by simp)
    · rw [wk_e] at hp
      cases hp
      rcases ho.out.2 with ⟨h1, _⟩ | ⟨g, cap, cur, h1, _⟩
      · cases h1
      · injection h1 with h2 _ _
        subst h2
        exact ⟨hb, g, c, he, ho⟩
  have kc := fun (w : World) (C : Array Value) (n c : Nat) => Lib.run_convert_bytes_const (P := Tryz.prog) w 44 5 C n c Tryz.underlying44 Tryz.underlying5
  go_enter Tryz.func9, Tryz.ntmps9
  go_wp2_with (first
    | (go_at_call 26; refine (HQ.out _).mono ?_; rintro e w1 ⟨rfl, b1⟩)
    | (go_at_call 7; refine (HN.out w1 b1.out.size).mono ?_; rintro e w2 ⟨D, rfl, l2, b2⟩; have k2 := Lib.hid (go_on b1.out b2.out))
    | (go_at_call 13; (with_reducible refine (HA.out D w2 l2.out k2.out.size).mono ?_); rintro e w3 ⟨rfl, l3, b3⟩; have k3 := Lib.hid (k2.out.trans (but_out b3.out k2.out.size)))
    | (go_at_call 27; refine (HF.out D w3 l3.out).mono ?_; rintro e w4 ⟨rfl, b4⟩; have kc1 := kc (w4.alloc (.cells #[.int .i64 1, .int .i64 2, .int .i64 1, .int .i64 1] 43)) #[.int .u8 97] 1 1; rw [World.size_alloc] at kc1))
  have k4 := Lib.hid (go_on k3.out b4.out)
  have l4 := Lib.hid (l3.out.below b4.out)
  obtain ⟨V, hV⟩ : ∃ V, (w4.alloc (.cells #[.int .i64 1, .int .i64 2, .int .i64 1, .int .i64 1] 43)).alloc (.cells #[.int .u8 97] 5 (1, 2)) = V := ⟨_, rfl⟩
  have hb1 : Below w4.heap.size w4 (w4.alloc (.cells #[.int .i64 1, .int .i64 2, .int .i64 1, .int .i64 1] 43)) := Me.below_alloc (Below.refl _ _)
  have hbV : Below w4.heap.size w4 V := by rw [← hV]; exact Me.below_alloc hb1
  have hxV : V.heap[w4.heap.size]? = some (.cells #[.int .i64 1, .int .i64 2, .int .i64 1, .int .i64 1] 43 (0, 0)) := by
    rw [← hV]
    exact ((Me.below_alloc (Below.refl (w4.alloc (.cells #[.int .i64 1, .int .i64 2, .int .i64 1, .int .i64 1] 43)).heap.size _)).block _ (by simp)).trans (heap_alloc_new w4 _)
  have hrV : Rd V V.heap.size (some ⟨w4.heap.size + 1, 0, none⟩) [97] := by
    rw [← hV]
    have := Me.rd_lit (w := w4.alloc (.cells #[.int .i64 1, .int .i64 2, .int .i64 1, .int .i64 1] 43)) (r := [97]) (by decide) 5 (1, 2)
    rw [show w4.heap.size + 1 = (w4.alloc (.cells #[.int .i64 1, .int .i64 2, .int .i64 1, .int .i64 1] 43)).heap.size from (World.size_alloc ..).symm]
    exact Rd.more this (by simp)
  have lV : Lv w.heap.size (fun k => k = w4.heap.size) V 1 D wk1 := (l4.out.other fun k hk e => by omega).below hbV
  rw [hV]
  have kV := go_on k4.out hbV
  have hXl := (Array.getElem?_eq_some_iff.1 hxV).1
  go_at_call 13
  refine (HH.out D V w4.heap.size (w4.heap.size + 1) 1 lV kV.size hXl hrV).mono ?_
  rintro e w5 ⟨rfl, l5, b5⟩
  have hx5 := Lib.hid (b5.out.at_ hxV (fun h => h.2 rfl))
  have k5 := Lib.hid (kV.trans (but_out b5.out kV.size))
  obtain ⟨X, hX⟩ : ∃ X, w4.heap.size = X := ⟨_, rfl⟩
  rw [hX] at hx5 l5 ⊢
  obtain ⟨y0, y1, y2, y3⟩ := id_cells hx5.out
  clear hV hb1 hbV hxV hrV lV kV hXl hX kc1 b5 l4 k4 b4 l3 k3 b3 HQ HN HA HF HH
  go_wp2_with (go_at_call 28; refine (HFi.out D w5 X l5.out).mono ?_; rintro e w6 ⟨b6, g, c, rfl, ho6⟩; have hx6 := Lib.hid ((b6.out.block X (Array.getElem?_eq_some_iff.1 hx5.out).1).trans hx5.out); have hcv := conv_held (.cells #[.int .i64 1, .int .i64 2, .int .i64 1, .int .i64 1, .slice (some ⟨g, 0, none⟩) 1 c] 46) ho6.out; obtain ⟨y0, y1, y2, y3⟩ := id_cells hx6.out; have hne6 : ¬ X = w6.heap.size := (fun e => by have := (Array.getElem?_eq_some_iff.1 hx6.out).1; omega); obtain ⟨v0, v1, v2, v3⟩ := id_cells (((Me.below_alloc (o := .cells #[.int .i64 1, .int .i64 2, .int .i64 1, .int .i64 1, .slice (some ⟨g, 0, none⟩) 1 c] 46) (Below.refl w6.heap.size w6)).block X (Array.getElem?_eq_some_iff.1 hx6.out).1).trans hx6.out))
  go_ret
  exact ⟨rfl, go_on (go_on k5.out b6.out) (Me.below_alloc (Below.refl _ _))⟩
end Go.Proofs.YtfnlhfelpdkieaaGreat.So
